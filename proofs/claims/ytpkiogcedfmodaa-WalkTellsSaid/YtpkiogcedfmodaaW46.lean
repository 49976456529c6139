/- Rows of ints of one's own, with stores; the reference's walk (fretworkref04.Walk). -/
import Derived.Test.YtpkiogcedfmodaaW45
import Derived.Test.YtpkiogcedfmodaaW14
namespace Go.Proofs.Ytpkiogcedfmodaa
open Go.RowKit

/-- A row of ints of one's own, that may have room. -/
abbrev OwnI (w : World) (base : Nat) (B : Option Addr) (cap : Nat) (l : List Int) (n : Nat) : Prop := w.ownsRow base 3 1 (.slice B n cap) n (zs l)
theorem OwnI.len {w : World} {base cap n : Nat} {B : Option Addr} {l : List Int} (h : OwnI w base B cap l n) : l.length = n := by
  have := h.1
  simpa [zs] using this
theorem OwnI.set_ {w : World} {base g cap n i : Nat} {x : Int} {l : List Int} (h : OwnI w base (some ⟨g, 0, none⟩) cap l n) : OwnI (w.setCell ⟨g, i, none⟩ (.int .i64 x)) base (some ⟨g, 0, none⟩) cap (l.set i x) n := by
  obtain ⟨hl, h0 | ⟨g', c, cur, ev, h1, h2, h3, h4, h5, h6⟩⟩ := h
  · cases h0.1
  · simp only [Value.slice.injEq, Option.some.injEq, Addr.mk.injEq, and_true, true_and] at ev
    obtain ⟨rfl, rfl⟩ := ev
    refine ⟨by simpa [zs] using hl, .inr ⟨g, cap, cur.setIfInBounds i (.int .i64 x), rfl, h1, Go.Joins.block_setCell h2 _, h3, h4, by simpa using h5, ?_⟩⟩
    rw [Array.toList_setIfInBounds, List.take_set, h6]
    simp [zs, zv, List.map_set]
theorem OwnI.at_ {w : World} {base g cap n j : Nat} {x : Int} {l : List Int} (h : OwnI w base (some ⟨g, 0, none⟩) cap l n) (hj : l[j]? = some x) : w.cell? ⟨g, j, none⟩ = some (.int .i64 x) := by
  have := h.cells rfl j (.int .i64 x) (by simp [zs, zv, hj])
  rwa [add_off] at this
theorem OwnI.push {w : World} {base g cap n : Nat} {x : Int} {l : List Int} (h : w.ownsRow base 3 1 (.slice (some ⟨g, 0, none⟩) (n + 1) cap) (n + 1) (zs l ++ [.int .i64 x])) : OwnI w base (some ⟨g, 0, none⟩) cap (l ++ [x]) (n + 1) := by
  show World.ownsRow _ _ _ _ _ _ _
  rw [show zs (l ++ [x]) = zs l ++ [.int .i64 x] by simp [zs, zv]]
  exact h
theorem OwnI.rd {w : World} {base cap n : Nat} {B : Option Addr} {l : List Int} (h : OwnI w base B cap l n) : RdZ w B l := owns_rd h
theorem RefW.small {T : List (List Int)} {N fr k : Nat} {order : List Nat} {up : List Int} (hT : Tab T N) (sym : ∀ a b, adj T a b → adj T b a) (hf : fr < N) (h : RefW T N fr order up k) : order.length ≤ N + 1 := by
  obtain ⟨⟨m, rfl, rfl⟩, _⟩ := h
  have := (dfs_run hT sym hf m).good.cnt
  omega
set_option maxRecDepth 100000 in
set_option maxHeartbeats 8000000 in
theorem refWalk_yes (A : Option Addr) (c n N fr : Nat) (E : List (Int × Int)) (w : World) (hr : RdP w A E) (hn : n = E.length) (hg : rightG (N : Nat) E = true) (hf : fr < N) :
    Calls Try.prog 13 #[.agg #[.int .i64 (N : Nat), .slice A n c], .int .i64 (fr : Nat)] w fun e w' => ∃ (go co gu cu : Nat) (order : List Nat) (up : List Int), e = .returned (.tuple #[.slice (some ⟨go, 0, none⟩) order.length co, .slice (some ⟨gu, 0, none⟩) N cu, .int .i64 0]) ∧
      OwnL w' w.heap.size go co order ∧ OwnI w' w.heap.size (some ⟨gu, 0, none⟩) cu up N ∧ RefW (tabG N E) N fr order up 0 ∧ Below w.heap.size w w' := by
  obtain ⟨i0, hi0, hz0, hz1, hz2⟩ := info_partsI i64info
  obtain ⟨W, hW⟩ : ∃ W, W = w.alloc (.cells #[.int .i64 (N : Nat), .slice A n c] 24) := ⟨_, rfl⟩
  have hb : Below w.heap.size w W := by rw [hW]; exact (Below.refl _ _).alloc (Nat.le_refl _) _
  have hWS : w.heap.size < W.heap.size := by rw [hW]; simp
  obtain ⟨j0, j1, _, _⟩ := cells_two (w := W) (by rw [hW]; exact heap_alloc_new w _)
  have HJ : Hid (∀ w', Below W.heap.size W w' → w'.cell? ⟨w.heap.size, 0, none⟩ = some (.int .i64 (N : Nat)) ∧ w'.cell? ⟨w.heap.size, 1, none⟩ = some (.slice A n c)) := fun w' hb =>
    ⟨by rw [hb.cell (by show w.heap.size < _; omega)]; exact j0, by rw [hb.cell (by show w.heap.size < _; omega)]; exact j1⟩
  have hn6 : n ≤ 594 := by have := rightG_bounds hg; omega
  have hN200 : N ≤ 200 := by have := rightG_bounds hg; omega
  have hF0 : (0 : Int) ≤ (fr : Int) := by omega
  obtain ⟨T, hT⟩ : ∃ T, T = tabG N E := ⟨_, rfl⟩
  have HTB : Hid (Tab T N) := by show Tab T N; rw [hT]; exact tab_is hg
  have HTS : Hid (∀ a b, adj T a b → adj T b a) := by show ∀ a b, adj T a b → adj T b a; rw [hT]; exact fun _ _ => tabG_sym hg
  have HTH : Hid (∀ u x : Nat, u < N → x < N → (hasG E u x = true ↔ adj T u x)) := by show ∀ u x : Nat, u < N → x < N → (hasG E u x = true ↔ adj T u x); rw [hT]; exact fun u x hu hx => hasG_adj hg hu hx
  rw [← hT]
  have HASK := Lib.hid (asked_any A c n (N : Nat) (fr : Nat) E W (hr.below hb) hn (by omega))
  have hask := askE_ok hg (v := (fr : Int)) ⟨by omega, by omega⟩
  rw [hask] at HASK
  have HR := Lib.hid (hr.below hb)
  have HN := Lib.hid hn
  have HG := Lib.hid hg
  have HB := Lib.hid hb
  have HW := Lib.hid hW
  clear hr hn hg hb hW hT hask j0 j1
  go_enter Try.func13, Try.ntmps13
  go_wp2_with fail
  rw [← HW.out]
  refine HASK.out.mono ?_
  rintro e w1 ⟨rfl, hb1⟩
  have HB1 := Lib.hid hb1
  clear hb1
  have HBW0 := Lib.hid (Below.refl w1.heap.size w1)
  go_wp2_with fail
  go_loopw [8, 9] (fun s8 s9 wr => ∃ (k : Nat) (Bp : Option Addr) (cp : Nat), k ≤ N ∧ s8 = .slice Bp k cp ∧ s9 = .int .i64 k ∧ Hid (OwnI wr w1.heap.size Bp cp (List.replicate k (-1)) k) ∧ Hid (Below w1.heap.size w1 wr)) (fun _ s9 _ => N - (intOf s9).toNat)
  case atStart => exact ⟨0, none, 0, Nat.zero_le _, rfl, rfl, ⟨rfl, .inl ⟨rfl, rfl⟩⟩, HBW0⟩
  case round =>
    obtain ⟨k, Bp, cp, hk, rfl, rfl, hp, hb⟩ := hrel
    have HBW := Lib.hid (next_below HB1.out hb.out)
    obtain ⟨j0, j1⟩ := HJ.out wr HBW.out
    have hs1 := hb.out.size
    by_cases h1 : k < N
    · have t1 : decide ((k : Int) < (N : Int)) = true := by simp; omega
      have HP := Lib.hid (hp.out.alloc (.cells #[.int .i64 (-1)] 3))
      have HC : Hid ((wr.alloc (.cells #[.int .i64 (-1)] 3)).cell? ⟨wr.heap.size, 0, none⟩ = some (.int .i64 (-1))) := by show _ = _; exact World.cell?_alloc_at _ _ _ _ rfl
      go_wp2_with (at_builtin; refine wpList_append_lies _ rfl (.tmp 25) (.tmp 26) 27 rfl w1.heap.size 3 i0 (.int .i64 0) 1 8 Try.underlying27 hi0 hz0 hz1 hz2 rfl (by decide) (.slice Bp k cp) k (zs (List.replicate k (-1))) rfl HP.out ⟨wr.heap.size, 0, none⟩ 1 1 [.int .i64 (-1)] (by simp [Act.eval]) rfl (by intro j u hj; have hj0 : j = 0 := (by have := (List.getElem?_eq_some_iff.1 hj).1; simp at this; omega); subst hj0; rw [← hj, add_off]; exact HC.out) (by simp [Value.oneCell']) (by omega) (by simp [maxLen]; omega) (by omega) (by simp; omega) (wr.heap.size + 1) (by simp) ?_; intro g' cap' w7 hrow7 hgr7 hor7 hlt7)
      go_roundw
      case rel =>
        have hb7 : Below w1.heap.size w1 w7 := (hb.out.alloc hb.out.size _).grown hgr7 (by simp; omega) (fun m e => (hp.out.lt m e).1)
        refine ⟨k + 1, some ⟨g', 0, none⟩, cap', by omega, rfl, by go_num, ?_, Lib.hid hb7⟩
        show OwnI _ _ _ _ _ _
        rw [List.replicate_succ']
        exact OwnI.push hrow7
      case measure => simp [intOf]; omega
    · obtain rfl : k = N := by omega
      have t1 : decide ((k : Int) < (k : Int)) = false := by simp
      obtain ⟨gu, cu, ev⟩ := Joins.ownsRow_form hp.out (by omega)
      have hBp : Bp = some ⟨gu, 0, none⟩ ∧ cp = cu := by injection ev with a b d; exact ⟨a, d⟩
      obtain ⟨rfl, rfl⟩ := hBp
      clear ev
      obtain ⟨wo, rfl⟩ : ∃ wo, wo = wr := ⟨_, rfl⟩
      have hgu := hp.out.lt gu rfl
      obtain ⟨W5, hW5⟩ : ∃ W5, W5 = wo.alloc (.cells #[.int .i64 (fr : Int)] 3) := ⟨_, rfl⟩
      have hord : OwnL W5 w1.heap.size wo.heap.size 1 [fr] := by
        rw [hW5]
        exact World.ownsRow_lit (base := w1.heap.size) (e := 3) (size := 1) wo #[.int .i64 (fr : Int)] 1 hs1 (by decide) rfl
      have hup : OwnI W5 w1.heap.size (some ⟨gu, 0, none⟩) cp (List.replicate k (-1)) k := by rw [hW5]; exact hp.out.alloc _
      have hb5 : Below w1.heap.size w1 W5 := by rw [hW5]; exact hb.out.alloc hb.out.size _
      have HORD := Lib.hid hord
      have HUP := Lib.hid hup
      have HB5 := Lib.hid hb5
      have HW5 := Lib.hid hW5
      have HREF := Lib.hid (RefW.start T k fr)
      clear hord hup hb5 hW5 hp
      go_wp2_with fail
      rw [← HW5.out]
      go_wp2_with fail
      go_loopw [10, 11] (fun s10 s11 wr => ∃ (q : Nat) (z : Int) (go co : Nat) (order : List Nat) (up : List Int), s10 = .slice (some ⟨go, 0, none⟩) order.length co ∧ s11 = .int .i64 z ∧ z + 1 = (q : Int) ∧ q ≤ order.length ∧ order.length ≤ k + 1 ∧ go ≠ gu ∧ Hid (OwnL wr w1.heap.size go co order) ∧ Hid (OwnI wr w1.heap.size (some ⟨gu, 0, none⟩) cp up k) ∧ Hid (RefW T k fr order up q) ∧ Hid (Below w1.heap.size w1 wr))
        (fun s10 s11 _ => (k + 1 - lenV s10) * (k + 3) + (intOf s11 + 1).toNat)
      case atStart => exact ⟨1, 0, wo.heap.size, 1, [fr], List.replicate k (-1), rfl, rfl, rfl, Nat.le_refl _, by simp, by omega, HORD, HUP, HREF, HB5⟩
      case round =>
        obtain ⟨q, z, go, co, order, up, rfl, rfl, hz, hq, hol, hne, ho, hu, hR, hb6⟩ := hrel
        by_cases hzn : z < 0
        · have t2 : decide (0 ≤ z) = false := by simp; omega
          obtain rfl : q = 0 := by omega
          go_wp2_with fail
          go_ret3
          exact ⟨go, co, gu, cp, order, up, rfl, Go.Joins.ownsRow_le ho.out (HB.out.trans (HB1.out.mono HB.out.size)).size, Go.Joins.ownsRow_le hu.out (HB.out.trans (HB1.out.mono HB.out.size)).size, hR.out, (next_below (next_below HB.out HB1.out) hb6.out)⟩
        · obtain ⟨i, rfl⟩ := Int.eq_ofNat_of_zero_le (show 0 ≤ z by omega)
          obtain rfl : q = i + 1 := by omega
          have t2 : decide ((0 : Int) ≤ (i : Int)) = true := by simp
          obtain ⟨u, hu0⟩ : ∃ u, order[i]? = some u := ⟨_, List.getElem?_eq_getElem (by omega)⟩
          obtain ⟨hupl, _, hlt⟩ := RefW.dfs HTB.out HTS.out hf hR.out
          have huN : u < k := hlt u (List.mem_of_getElem? hu0)
          have g0 := ho.out.at_ hu0
          obtain ⟨j2, j3⟩ := HJ.out wr (next_below HB1.out hb6.out)
          have hwz : w.heap.size < wr.heap.size := Nat.lt_of_lt_of_le hWS (next_below HB1.out hb6.out).size
          have hS0 : ∀ w', Below wr.heap.size wr w' → w'.cell? ⟨w.heap.size, 0, none⟩ = some (.int .i64 (k : Nat)) ∧ w'.cell? ⟨w.heap.size, 1, none⟩ = some (.slice A n c) ∧ w'.cell? ⟨go, i, none⟩ = some (.int .i64 (u : Nat)) ∧ Below wr.heap.size wr w' := fun w' hb =>
            ⟨by rw [hb.cell (by exact hwz)]; exact j2, by rw [hb.cell (by exact hwz)]; exact j3, by rw [hb.cell (by exact ho.out.lt_.2)]; exact g0, hb⟩
          have HNX : Hid (∀ w', Below wr.heap.size wr w' → Calls Try.prog 30 #[.agg #[.int .i64 (k : Nat), .slice A n c], .int .i64 (u : Nat), .slice (some ⟨go, 0, none⟩) order.length co] w' fun e w'' => e = .returned (.int .i64 (nextM k E u (order.map fun (x : Nat) => (x : Int)))) ∧ Below w'.heap.size w' w'') := fun w' hb =>
            next_any A c n k E u (some ⟨go, 0, none⟩) co order.length _ w' (HR.out.below (next_below (next_below HB1.out hb6.out) hb)) HN.out HG.out (ho.out.rd.below hb) (by simp) (by omega)
          have hI0 : (0 : Int) ≤ (i : Int) := by omega
          have hI1 : (i : Int) < (order.length : Nat) := by omega
          have hw1 : IntKind.i64.wrap ((i : Int) - 1) = (i : Int) - 1 := IntWalk.i64_in _ (by omega)
          have hD' := hS0 wr.drew (below_drewN (Below.refl _ _) 1)
          have hS := hS0 wr (Below.refl _ _)
          have HS0 := Lib.hid hS0
          clear hS0 j2 j3 g0 hlt
          rcases nextM_cases k u E (order.map fun (x : Nat) => (x : Int)) with ⟨hr, hno⟩ | ⟨x, hr, hxk, hxg, hxm, hxs⟩
          · have HX : ∀ x, adj T u x → x ∈ order := fun x hx => by
              have hxk := HTB.out.lt hx
              obtain ⟨y, hy, e⟩ := List.mem_map.1 (hno x hxk ((HTH.out u x huN hxk).2 hx))
              have e2 : y = x := by omega
              rw [← e2]
              exact hy
            have HLESS := Lib.hid (RefW.less hR.out hu0 HX)
            rw [hr] at HNX
            clear HX hno hr hu0
            go_upto_region 13 with fail
            go_region_held3 (fun w' => w'.cell? ⟨w.heap.size, 0, none⟩ = some (.int .i64 (k : Nat)) ∧ w'.cell? ⟨w.heap.size, 1, none⟩ = some (.slice A n c) ∧ w'.cell? ⟨go, i, none⟩ = some (.int .i64 (u : Nat)) ∧ Below wr.heap.size wr w')
              (first | exact hS | exact hD')
              (first | (go_at_call 30; refine (HNX.out _ (‹_ ∧ _ ∧ _ ∧ Below wr.heap.size wr _›).2.2.2).mono ?_; rintro e wn ⟨rfl, hb⟩; have hS := HS0.out wn (next_below (‹_ ∧ _ ∧ _ ∧ Below wr.heap.size wr _›).2.2.2 hb)))
            obtain ⟨s0, s1, s2, s3⟩ := hS
            have HB3 := Lib.hid s3
            clear s0 s1 s2 s3 hD'
            go_wp2_with fail
            go_roundw
            case rel => exact ⟨i, (i : Int) - 1, go, co, order, up, rfl, by first | rfl | go_num, by omega, by omega, hol, hne, Lib.hid (row_below ho.out HB3.out), Lib.hid (row_below hu.out HB3.out), HLESS, Lib.hid (next_below hb6.out HB3.out)⟩
            case measure => simp [lenV, intOf]
          · have hxo : x ∉ order := fun hh => hxm (List.mem_map.2 ⟨x, hh, rfl⟩)
            have hxl : ∀ y, y < x → adj T u y → y ∈ order := fun y hy ha => by
              obtain ⟨v, hv, e⟩ := List.mem_map.1 (hxs y hy ((HTH.out u y huN (by omega)).2 ha))
              have e2 : v = y := by omega
              rw [← e2]
              exact hv
            have hmore := RefW.more HTB.out HTS.out hf hR.out hu0 ((HTH.out u x huN hxk).1 hxg) hxo hxl
            have hsm := hmore.small HTB.out HTS.out hf
            have HMORE := Lib.hid hmore
            rw [List.length_append, List.length_singleton] at hsm
            rw [hr] at HNX
            clear hxo hxl hmore hxs hxm hxg hr hu0
            go_upto_region 13 with fail
            go_region_held3 (fun w' => w'.cell? ⟨w.heap.size, 0, none⟩ = some (.int .i64 (k : Nat)) ∧ w'.cell? ⟨w.heap.size, 1, none⟩ = some (.slice A n c) ∧ w'.cell? ⟨go, i, none⟩ = some (.int .i64 (u : Nat)) ∧ Below wr.heap.size wr w')
              (first | exact hS | exact hD')
              (first | (go_at_call 30; refine (HNX.out _ (‹_ ∧ _ ∧ _ ∧ Below wr.heap.size wr _›).2.2.2).mono ?_; rintro e wn ⟨rfl, hb⟩; have hS := HS0.out wn (next_below (‹_ ∧ _ ∧ _ ∧ Below wr.heap.size wr _›).2.2.2 hb)))
            obtain ⟨s0, s1, s2, s3⟩ := hS
            have ho2 : OwnL wn w1.heap.size go co order := row_below ho.out s3
            have hu2 : OwnI wn w1.heap.size (some ⟨gu, 0, none⟩) cp up k := row_below hu.out s3
            have hb2 := next_below hb6.out s3
            have e0 : wn.cell? ⟨gu, x, none⟩ = some (.int .i64 (gd up x)) := hu2.at_ (by simp [gd, List.getD, List.getElem?_eq_getElem (show x < up.length by omega)])
            have e2 : wn.frozen? ⟨gu, x, none⟩ = false := (row_at hu2).2.2.2.2 x
            have hX0 : (0 : Int) ≤ (x : Int) := by omega
            have hX1 : (x : Int) < (k : Nat) := by omega
            obtain ⟨go1, go2⟩ := ho2.lt_
            have hgu2 := hu2.lt gu rfl
            have hw1s : w1.heap.size ≤ wn.heap.size := hb2.size
            obtain ⟨Y, hY⟩ : ∃ Y, Y = wn.setCell ⟨gu, x, none⟩ (.int .i64 (u : Int)) := ⟨_, rfl⟩
            have hYz : Y.heap.size = wn.heap.size := by rw [hY]; simp [World.setCell]
            have hYu : OwnI Y w1.heap.size (some ⟨gu, 0, none⟩) cp (up.set x (u : Int)) k := by rw [hY]; exact hu2.set_
            have hYb : Below w1.heap.size w1 Y := by rw [hY]; exact hb2.setCell (by show w1.heap.size ≤ gu; omega) _
            have hYo : OwnL Y w1.heap.size go co order := by rw [hY]; exact row_far ho2 (p := ⟨gu, x, none⟩) hne _
            obtain ⟨Z1, hZ1⟩ : ∃ Z1, Z1 = Y.alloc (.cells #[.int .i64 (x : Int)] 3) := ⟨_, rfl⟩
            have hZz : Z1.heap.size = wn.heap.size + 1 := by rw [hZ1]; simp [hYz]
            have hZo : OwnL Z1 w1.heap.size go co order := by rw [hZ1]; exact hYo.alloc _
            have hZu : OwnI Z1 w1.heap.size (some ⟨gu, 0, none⟩) cp (up.set x (u : Int)) k := by rw [hZ1]; exact hYu.alloc _
            have hZb : Below w1.heap.size w1 Z1 := by rw [hZ1]; exact hYb.alloc hYb.size _
            have hZn : Z1.cell? ⟨wn.heap.size, 0, none⟩ = some (.int .i64 (x : Int)) := by rw [hZ1]; exact World.cell?_alloc_at _ _ _ _ hYz.symm
            have HZO := Lib.hid hZo
            have HZN := Lib.hid hZn
            have HZE : Hid (Z1 = (wn.setCell ⟨gu, x, none⟩ (.int .i64 (u : Int))).alloc (.cells #[.int .i64 (x : Int)] 3)) := by show _ = _; rw [hZ1, hY]
            have HX7 : Hid (∀ w7 : World, Z1.grownBy w7 (some go) → OwnI w7 w1.heap.size (some ⟨gu, 0, none⟩) cp (up.set x (u : Int)) k ∧ Below w1.heap.size w1 w7) := by
              intro w7 hg7
              refine ⟨hZu.kept hg7 (.inr ?_), hZb.grown hg7 (by omega) (fun m e => by injection e with e; omega)⟩
              show some gu ≠ some go
              intro e
              injection e with e
              omega
            have hw2 : IntKind.i64.wrap ((order.length : Int) + 1 - 1) = (order.length : Int) := by rw [show (order.length : Int) + 1 - 1 = order.length by omega]; exact IntWalk.i64_in _ (by omega)
            have hw3 : IntKind.i64.wrap (((order.length + 1 : Nat) : Int) - 1) = (order.length : Int) := by rw [show ((order.length + 1 : Nat) : Int) - 1 = order.length by omega]; exact IntWalk.i64_in _ (by omega)
            generalize gd up x = gx at *
            clear hZ1 hY hYu hYb hYo hZo hZu hZb hZn hD' s0 s1 s3 hw1
            go_wp2_with (at_builtin; refine wpList_append_lies _ rfl (.tmp 53) (.tmp 55) 27 rfl w1.heap.size 3 i0 (.int .i64 0) 1 8 Try.underlying27 hi0 hz0 hz1 hz2 rfl (by decide) (.slice (some ⟨go, 0, none⟩) order.length co) order.length (zn order) rfl (by rw [← HZE.out]; exact HZO.out) ⟨wn.heap.size, 0, none⟩ 1 1 [.int .i64 (x : Int)] (by simp [Act.eval]) rfl (by intro j u hj; have hj0 : j = 0 := (by have := (List.getElem?_eq_some_iff.1 hj).1; simp at this; omega); subst hj0; rw [← hj, add_off, ← HZE.out]; exact HZN.out) (by simp [Value.oneCell']) (by omega) (by simp [maxLen]; omega) (by omega) (by rw [← HZE.out, hZz]; omega) (wn.heap.size + 1) (by rw [← HZE.out, hZz]) ?_; intro g' cap' w7 hrow7 hgr7 hor7 hlt7; rw [← HZE.out] at hgr7)
            go_roundw
            case rel =>
              obtain ⟨f1, f2⟩ := HX7.out w7 hgr7
              have o7 : g' = go ∨ g' = wn.heap.size + 1 := by
                rcases hor7 with h | h
                · injection h with h; exact .inl h.symm
                · exact .inr h
              refine ⟨order.length + 1, (order.length : Int), g', cap', order ++ [x], up.set x (u : Int), by simp, by first | rfl | go_num, by omega, by simp, by simp; omega, by omega, Lib.hid ?_, Lib.hid f1, HMORE, Lib.hid f2⟩
              unfold OwnL
              rw [List.length_append, List.length_singleton, show zn (order ++ [x]) = zn order ++ [.int .i64 (x : Int)] by simp [zn]]
              exact hrow7
            case measure =>
              simp only [lenV, intOf]
              have h5 : (k + 1 - (order.length + 1)) * (k + 3) + (k + 3) = (k + 1 - order.length) * (k + 3) := by
                rw [← Nat.succ_mul]
                congr 1
                omega
              omega
end Go.Proofs.Ytpkiogcedfmodaa
