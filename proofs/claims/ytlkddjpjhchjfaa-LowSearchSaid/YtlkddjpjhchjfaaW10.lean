/- A walk. -/
import Derived.Test.YtlkddjpjhchjfaaW8
import Derived.Test.YtlkddjpjhchjfaaW9
import Derived.Laws.OwnMore
import Derived.WalkMore
import Derived.Scope
namespace Go.Proofs.Ytlkddjpjhchjfaa
set_option maxRecDepth 100000
open Go.RowKit

def zn (l : List Nat) : List Value := l.map fun x : Nat => .int .i64 (x : Int)
theorem zn_length (l : List Nat) : (zn l).length = l.length := by simp [zn]
/-- A row of numbers of one's own, that may have room. -/
abbrev OwnL (w : World) (base g cap : Nat) (l : List Nat) : Prop := w.ownsRow base 3 1 (.slice (some ⟨g, 0, none⟩) l.length cap) l.length (zn l)
theorem OwnL.trunc {w : World} {base g cap : Nat} {l : List Nat} (h : OwnL w base g cap l) : OwnL w base g cap l.dropLast := by
  obtain ⟨hl, h0 | ⟨g', c, cur, ev, h1, h2, h3, h4, h5, h6⟩⟩ := h
  · cases h0.1
  · simp only [Value.slice.injEq, Option.some.injEq, Addr.mk.injEq, and_true, true_and] at ev
    obtain ⟨rfl, rfl⟩ := ev
    refine ⟨by simp [zn], .inr ⟨g, cap, cur, rfl, h1, h2, by simp only [List.length_dropLast]; omega, h4, h5, ?_⟩⟩
    have := congrArg (List.take (l.length - 1)) h6
    rw [List.take_take, Nat.min_eq_left (by omega)] at this
    simp only [List.length_dropLast, Nat.mul_one] at this ⊢
    rw [this]
    simp [zn, List.dropLast_eq_take, List.map_take]
theorem OwnL.at_ {w : World} {base g cap j x : Nat} {l : List Nat} (h : OwnL w base g cap l) (hj : l[j]? = some x) : w.cell? ⟨g, j, none⟩ = some (.int .i64 (x : Int)) := by
  have := h.cells rfl j (.int .i64 (x : Int)) (by simp [zn, hj])
  rwa [add_off] at this
theorem OwnL.lt_ {w : World} {base g cap : Nat} {l : List Nat} (h : OwnL w base g cap l) : base ≤ g ∧ g < w.heap.size := h.lt g rfl

theorem wstep_pop {T : List (List Int)} {fr v : Nat} {s : St} (hv : s.list.getLast? = some v) (hp : pick T fr s.up v = none) : wstep T fr s = ⟨s.up, s.order, s.list.dropLast⟩ := by
  unfold wstep
  rw [hv]
  simp only
  rw [hp]
theorem wstep_push {T : List (List Int)} {fr v w : Nat} {s : St} (hv : s.list.getLast? = some v) (hp : pick T fr s.up v = some w) : wstep T fr s = ⟨s.up.set w (v : Int), s.order ++ [w], s.list ++ [w]⟩ := by
  unfold wstep
  rw [hv]
  simp only
  rw [hp]

set_option maxRecDepth 100000 in
set_option maxHeartbeats 8000000 in
theorem walk_any (A : Option Addr) (c n N fr : Nat) (E : List (Int × Int)) (w : World) (hr : RdP w A E) (hn : n = E.length) (hg : rightG (N : Nat) E = true) (hf : fr < N) :
    Calls Try.prog 69 #[.agg #[.int .i64 (N : Nat), .slice A n c], .int .i64 (fr : Nat)] w fun e w' => ∃ (k go co Bu : Nat) (s : St), e = .returned (.tuple #[.slice (some ⟨go, 0, none⟩) s.order.length co, .slice (some ⟨Bu, 0, none⟩) N N, .int .i64 0]) ∧
      OwnL w' w.heap.size go co s.order ∧ OwnZ w' Bu s.up ∧ go ≠ Bu ∧ w.heap.size ≤ Bu ∧ s = wrun (tabG N E) N fr k ∧ s.list = [] ∧ Good (tabG N E) N fr s ∧ Below w.heap.size w w' := by
  obtain ⟨i0, hi0, hz0, hz1, hz2⟩ := info_partsI i64info
  obtain ⟨W, hW⟩ : ∃ W, W = w.alloc (.cells #[.int .i64 (N : Nat), .slice A n c] 24) := ⟨_, rfl⟩
  have hb : Below w.heap.size w W := by rw [hW]; exact (Below.refl _ _).alloc (Nat.le_refl _) _
  have hWS : w.heap.size < W.heap.size := by rw [hW]; simp
  obtain ⟨j0, j1, _, _⟩ := cells_two (w := W) (by rw [hW]; exact heap_alloc_new w _)
  have HR := Lib.hid (hr.below hb)
  have HN := Lib.hid hn
  have HG := Lib.hid hg
  have HB := Lib.hid hb
  have HW := Lib.hid hW
  have hN200 : N ≤ 200 := by have := rightG_bounds hg; omega
  have hF0 : (0 : Int) ≤ (fr : Int) := by omega
  obtain ⟨T, hT⟩ : ∃ T, T = tabG N E := ⟨_, rfl⟩
  have HTM : Hid (∀ (u : Nat) (x : Int), x ∈ T.getD u [] → ∃ v : Nat, x = (v : Int) ∧ v < N) := fun u x hx => by rw [hT] at hx; exact tabG_mem hg hx
  have HTR : Hid (∀ u, (T.getD u []).length ≤ 1000) := fun u => by rw [hT]; exact tabG_row hg u
  have HTL : Hid (T.length = N) := by show _ = _; rw [hT, tabG_length]
  rw [← hT]
  have HTT := Lib.hid hT
  clear hr hn hg hb hW hT
  go_enter Try.func69, Try.ntmps69
  go_wp2_with fail
  go_step3
  go_wp2_with fail
  rw [← HW.out]
  refine (refused_ok A c n N fr E W HR.out HN.out HG.out hf).mono ?_
  rintro e w1 ⟨rfl, hb1⟩
  have c0 : w1.cell? ⟨w.heap.size, 0, none⟩ = some (.int .i64 (N : Nat)) := by rw [hb1.cell (by exact hWS)]; exact j0
  have c1 : w1.cell? ⟨w.heap.size, 1, none⟩ = some (.slice A n c) := by rw [hb1.cell (by exact hWS)]; exact j1
  have hs1 : w.heap.size < w1.heap.size := Nat.lt_of_lt_of_le hWS hb1.size
  have HB1 := Lib.hid (HB.out.trans (hb1.mono (Nat.le_of_lt hWS)))
  have HR1 := Lib.hid (HR.out.below hb1)
  clear j0 j1 hb1 HR
  go_wp2_with fail
  refine (beside_any A c n N E w1 HR1.out HN.out HG.out).mono ?_
  rintro e w2 ⟨B0, us, rfl, hrows, hB0, hb2⟩
  have c2 : w2.cell? ⟨w.heap.size, 0, none⟩ = some (.int .i64 (N : Nat)) := by rw [hb2.cell (by exact hs1)]; exact c0
  have HB2 := Lib.hid (HB1.out.trans (hb2.mono (Nat.le_of_lt hs1)))
  have hs2 : w.heap.size < w2.heap.size := Nat.lt_of_lt_of_le hs1 hb2.size
  rw [← HTT.out] at hrows
  have HRR := Lib.hid hrows.rd
  clear hrows hb2 c0 c1 HR1
  have HC : Hid (((w2.alloc (.cells #[.int .i64 (fr : Int)] 3)).alloc (.cells #[.int .i64 (-1)] 3)).cell? ⟨w2.heap.size + 1, 0, none⟩ = some (.int .i64 (-1))) := by
    show _ = _
    exact World.cell?_alloc_at _ _ _ _ (by simp)
  go_wp2_with fail
  refine (repeat_any (w2.heap.size + 1) N (-1) _ HC.out (by omega)).mono ?_
  rintro e w3 ⟨Bu, rfl, hBu, hBul, hb3⟩
  have hBw : w2.heap.size + 2 ≤ Bu := by simpa using hBul
  have hBs : Bu < w3.heap.size := lt_of_block hBu
  have hord : OwnL w3 w2.heap.size w2.heap.size 1 [fr] := by
    have h1 := World.ownsRow_lit (base := w2.heap.size) (e := 3) (size := 1) w2 #[.int .i64 (fr : Int)] 1 (Nat.le_refl _) (by decide) rfl
    exact row_below (h1.alloc _) hb3
  have hb23 : Below w2.heap.size w2 w3 := (((Below.refl _ _).alloc (Nat.le_refl _) _).alloc (by simp) _).trans (hb3.mono (by simp; omega))
  have hlst : OwnL (w3.alloc (.cells #[.int .i64 (fr : Int)] 3)) w2.heap.size w3.heap.size 1 [fr] :=
    World.ownsRow_lit (base := w2.heap.size) (e := 3) (size := 1) w3 #[.int .i64 (fr : Int)] 1 hb23.size (by decide) rfl
  have HORD := Lib.hid (hord.alloc (.cells #[.int .i64 (fr : Int)] 3))
  have HLST := Lib.hid hlst
  have HUP : Hid (OwnZ (w3.alloc (.cells #[.int .i64 (fr : Int)] 3)) Bu (List.replicate N (-1))) := by
    have h1 := blk_below hBu ((Below.refl _ _).alloc (Nat.le_refl _) (.cells #[.int .i64 (fr : Int)] 3))
    show _ = _
    rw [h1]
    simp [zs, zv]
  have HBW := Lib.hid (hb23.alloc hb23.size (.cells #[.int .i64 (fr : Int)] 3))
  clear hord hlst hb23 hBu hb3 hBul HC c2
  clear HN HG
  go_wp2_with fail
  go_step3
  go_wp2_with fail
  go_loopw [9, 11] (fun s9 s11 wr => ∃ (k : Nat) (s : St) (go co gl cl : Nat), s9 = .slice (some ⟨go, 0, none⟩) s.order.length co ∧ s11 = .slice (some ⟨gl, 0, none⟩) s.list.length cl ∧ Hid (OwnL wr w2.heap.size go co s.order) ∧ Hid (OwnL wr w2.heap.size gl cl s.list) ∧
    go ≠ gl ∧ go ≠ Bu ∧ gl ≠ Bu ∧ Hid (OwnZ wr Bu s.up) ∧ Hid (s = wrun T N fr k) ∧ Hid (Good T N fr s) ∧ Hid (Below w2.heap.size w2 wr)) (fun _ s11 wr => 2 * negW wr Bu + lenV s11)
  case atStart => exact ⟨0, wrun T N fr 0, w2.heap.size, 1, w3.heap.size, 1, rfl, rfl, HORD, HLST, by omega, by omega, by omega, HUP, rfl, good_start T hf, HBW⟩
  case round =>
    obtain ⟨k, s, go, co, gl, cl, rfl, rfl, ho, hl, d1, d2, d3, hu, hs, hG, hb⟩ := hrel
    have hul : s.up.length = N := hG.out.len
    by_cases he : s.list = []
    · have hl0 : s.list.length = 0 := by rw [he]; rfl
      rw [hl0]
      go_wp2_with fail
      try rw [Exit.noGoto_ret]
      go_ret3
      have h1 := HB2.out.size
      exact ⟨k, go, co, Bu, s, rfl, Go.Joins.ownsRow_le ho.out h1, hu.out, d2, by omega, hs.out, he, hG.out, HB2.out.trans (hb.out.mono h1)⟩
    · obtain ⟨v, hv⟩ : ∃ v, s.list.getLast? = some v := by
        cases h : s.list.getLast? with
        | none => exact absurd (List.getLast?_eq_none_iff.1 h) he
        | some v => exact ⟨v, rfl⟩
      obtain ⟨q, hq⟩ : ∃ q, s.list.length = q + 1 := ⟨s.list.length - 1, by have := List.length_pos_iff.2 he; omega⟩
      have hvm : v ∈ s.list := List.mem_of_getLast? hv
      have hvN : v < N := hG.out.inL v hvm
      have hvat : s.list[q]? = some v := by
        rw [List.getLast?_eq_getElem?] at hv
        rw [← hv, hq, Nat.add_sub_cancel]
      have g0 := hl.out.at_ hvat
      have hI0 : (0 : Int) ≤ (q : Int) := by omega
      have hI1 : (q : Int) < ((q + 1 : Nat) : Int) := by omega
      have hqb : q ≤ 1000 := by have := hG.out.meas; omega
      have hV0 : (0 : Int) ≤ (v : Int) := by omega
      have hV1 : (v : Int) < (N : Nat) := by omega
      rw [hq]
      obtain ⟨xs, hxs⟩ : ∃ xs, T[v]? = some xs := ⟨_, List.getElem?_eq_getElem (by rw [HTL.out]; exact hvN)⟩
      have hTv : T.getD v [] = xs := by simp [List.getD, hxs]
      obtain ⟨ad, Bx, cx, hA, hadl, hadc0, hrow⟩ := HRR.out v xs hxs
      injection hA with hA
      subst hA
      rw [add_off] at hadc0
      have hadc : wr.cell? ⟨B0, v, none⟩ = some (.slice Bx xs.length cx) := by rw [hb.out.cell (by exact hadl)]; exact hadc0
      have HRW := Lib.hid hrow
      have HTV := Lib.hid hTv
      have HV := Lib.hid hv
      have hxl : xs.length ≤ 1000 := by rw [← hTv]; exact HTR.out v
      clear hadc0 hrow hTv hxs hv
      go_wp2_with fail
      clear g0 hadc
      obtain ⟨wo, rfl⟩ : ∃ wo, wo = wr := ⟨_, rfl⟩
      go_loopw [9, 11, 45] (fun s9 s11 s45 wn => ∃ i : Nat, s9 = .slice (some ⟨go, 0, none⟩) s.order.length co ∧ s11 = .slice (some ⟨gl, 0, none⟩) (q + 1) cl ∧ s45 = .int .i64 i ∧ i ≤ xs.length ∧ wn = wo ∧ Hid (∀ (j x : Nat), j < i → xs[j]? = some (x : Int) → mayB fr s.up x = false)) (fun _ _ s45 _ => xs.length - (intOf s45).toNat)
      case atStart => exact ⟨0, rfl, rfl, rfl, Nat.zero_le _, rfl, fun j x hj => absurd hj (by omega)⟩
      case round =>
        obtain ⟨i, rfl, rfl, rfl, hi, rfl, hsk⟩ := hrel
        by_cases hlt : i < xs.length
        · obtain ⟨y, hy⟩ : ∃ y, xs[i]? = some y := ⟨_, List.getElem?_eq_getElem hlt⟩
          obtain ⟨x, rfl, hxN⟩ := HTM.out v y (by rw [HTV.out]; exact List.mem_of_getElem? hy)
          obtain ⟨ad2, rfl, hal2, d0⟩ := (HRW.out.below hb.out) i _ hy
          have e0 : wr.cell? ⟨Bu, x, none⟩ = some (.int .i64 (gd s.up x)) := by
            rw [cell_of hu.out]
            simp [zs, zv, gd, List.getD, List.getElem?_eq_getElem (show x < s.up.length by omega)]
          have e2 : wr.frozen? ⟨Bu, x, none⟩ = false := free_of hu.out x
          have hJ0 : (0 : Int) ≤ (i : Int) := by omega
          have hJ1 : (i : Int) < (xs.length : Nat) := by omega
          have hX0 : (0 : Int) ≤ (x : Int) := by omega
          have hX1 : (x : Int) < (N : Nat) := by omega
          have hstep : mayB fr s.up x = false → ∀ (j z : Nat), j < i + 1 → xs[j]? = some (z : Int) → mayB fr s.up z = false := by
            intro h j z hj hz
            by_cases e : j = i
            · subst e
              rw [hy] at hz
              have : x = z := by injection hz with hz; omega
              subst this
              exact h
            · exact hsk.out j z (by omega) hz
          have HSTEP := Lib.hid hstep
          have HY := Lib.hid hy
          clear hstep
          by_cases hxf : x = fr
          · have dq : ((x : Int) == (fr : Int)) = true := by simp [hxf]
            have hm : mayB fr s.up x = false := by simp [mayB, hxf]
            have HS2 := Lib.hid (HSTEP.out hm)
            generalize gd s.up x = gx at *
            clear hm
            go_wp2_with fail
            go_roundw
            case rel => exact ⟨i + 1, rfl, rfl, by go_num, by omega, by first | rfl | trivial, HS2⟩
            case measure => simp [intOf]; omega
          · have dq : ((x : Int) == (fr : Int)) = false := by simp; omega
            by_cases hge : 0 ≤ gd s.up x
            · have dg : decide (0 ≤ gd s.up x) = true := by simpa using hge
              have hm : mayB fr s.up x = false := by simp [mayB, hge]
              have HS2 := Lib.hid (HSTEP.out hm)
              generalize gd s.up x = gx at *
              clear hm
              go_wp2_with fail
              go_roundw
              case rel => exact ⟨i + 1, rfl, rfl, by go_num, by omega, by first | rfl | trivial, HS2⟩
              case measure => simp [intOf]; omega
            · have dg : decide (0 ≤ gd s.up x) = false := by simpa using hge
              have hm : mayB fr s.up x = true := by simp [mayB, hxf]; omega
              have hpk := pick_found (T := T) (v := v) (by rw [HTV.out]; exact HY.out) (fun j z hj hz => hsk.out j z hj (by rw [← HTV.out]; exact hz)) (fun z hz => by obtain ⟨a, e, _⟩ := HTM.out v z hz; exact ⟨a, e⟩) hm
              have hst := wstep_push HV.out hpk
              obtain ⟨hg1, hg2⟩ := hG.out.push (v := v) hxN hm
              have HST2 : Hid (wrun T N fr (k + 1) = ⟨s.up.set x (v : Int), s.order ++ [x], s.list ++ [x]⟩) := by
                show wstep T fr (wrun T N fr k) = _
                rw [← hs.out]
                exact hst
              have HG1 := Lib.hid hg1
              have HG2 := Lib.hid hg2
              have hcnt := hG.out.cnt
              have hmeas := hG.out.meas
              obtain ⟨go1, go2⟩ := ho.out.lt_
              obtain ⟨gl1, gl2⟩ := hl.out.lt_
              have hBul : Bu < wr.heap.size := lt_of_block hu.out
              obtain ⟨Y, hY⟩ : ∃ Y, Y = wr.setCell ⟨Bu, x, none⟩ (.int .i64 (v : Int)) := ⟨_, rfl⟩
              have hYz : Y.heap.size = wr.heap.size := by rw [hY]; simp [World.setCell]
              have hYu : OwnZ Y Bu (s.up.set x (v : Int)) := by
                show _ = _
                rw [hY, Go.Joins.block_setCell hu.out]
                simp [zs, zv, List.map_set]
              have hYb : Below w2.heap.size w2 Y := by rw [hY]; exact hb.out.setCell (by show w2.heap.size ≤ Bu; omega) _
              have hYo : OwnL Y w2.heap.size go co s.order := by rw [hY]; exact row_far ho.out (p := ⟨Bu, x, none⟩) d2 _
              have hYl : OwnL Y w2.heap.size gl cl s.list := by rw [hY]; exact row_far hl.out (p := ⟨Bu, x, none⟩) d3 _
              obtain ⟨Z1, hZ1⟩ : ∃ Z1, Z1 = Y.alloc (.cells #[.int .i64 (x : Int)] 3) := ⟨_, rfl⟩
              have hZz : Z1.heap.size = wr.heap.size + 1 := by rw [hZ1]; simp [hYz]
              have hZo : OwnL Z1 w2.heap.size go co s.order := by rw [hZ1]; exact hYo.alloc _
              have hZl : OwnL Z1 w2.heap.size gl cl s.list := by rw [hZ1]; exact hYl.alloc _
              have hYZ : Below Y.heap.size Y Z1 := by rw [hZ1]; exact (Below.refl _ _).alloc (Nat.le_refl _) _
              have hZu : OwnZ Z1 Bu (s.up.set x (v : Int)) := blk_below hYu hYZ
              have hZb : Below w2.heap.size w2 Z1 := next_below hYb hYZ
              have hZn : Z1.cell? ⟨wr.heap.size, 0, none⟩ = some (.int .i64 (x : Int)) := by rw [hZ1]; exact World.cell?_alloc_at _ _ _ _ hYz.symm
              have HZO := Lib.hid hZo
              have HZL := Lib.hid hZl
              have HZU := Lib.hid hZu
              have HZB := Lib.hid hZb
              have HZN := Lib.hid hZn
              have HZE : Hid (Z1 = (wr.setCell ⟨Bu, x, none⟩ (.int .i64 (v : Int))).alloc (.cells #[.int .i64 (x : Int)] 3)) := by show _ = _; rw [hZ1, hY]
              have hlo : s.order.length ≤ 1000 := by omega
              have hll : s.list.length ≤ 1000 := by omega
              generalize gd s.up x = gx at *
              have HX7 : Hid (∀ w7 : World, Z1.grownBy w7 (some go) → (w7.alloc (.cells #[.int .i64 (x : Int)] 3)).ownsRow w2.heap.size 3 1 (.slice (some ⟨gl, 0, none⟩) (q + 1) cl) (q + 1) (zn s.list) ∧ OwnZ w7 Bu (s.up.set x (v : Int)) ∧ Below w2.heap.size w2 w7 ∧
                  (∀ (j : Nat) (u : Value), [Value.int .i64 (x : Int)][j]? = some u → (w7.alloc (.cells #[.int .i64 (x : Int)] 3)).cell? ((⟨w7.heap.size, 0, none⟩ : Addr).add j) = some u) ∧ wr.heap.size + 1 ≤ w7.heap.size) := by
                intro w7 hg7
                have a1 := hZl.kept hg7 (.inr (by show some gl ≠ some go; intro e; injection e with e; omega))
                rw [hq] at a1
                refine ⟨a1.alloc _, ?_, hZb.grown hg7 (by rw [hZz]; omega) (fun m e => by injection e with e; omega), ?_, by have := hg7.size; omega⟩
                · show _ = _
                  rw [hg7.block Bu (by rw [hZz]; omega) (by intro e; injection e with e; omega)]
                  exact hZu
                · intro j u hj
                  have hj0 : j = 0 := by have := (List.getElem?_eq_some_iff.1 hj).1; simp at this; omega
                  subst hj0
                  rw [← hj, add_off]
                  exact World.cell?_alloc_at _ _ _ _ rfl
              clear hZ1 hY hYZ hYu hYb hYo hYl hZo hZl hZu hZb hZn hpk hst hg1 hg2 hm
              go_wp2_with (first
                | (at_builtin; refine wpList_append_lies _ rfl (.tmp 63) (.tmp 65) 35 rfl w2.heap.size 3 i0 (.int .i64 0) 1 8 Try.underlying35 hi0 hz0 hz1 hz2 rfl (by decide) (.slice (some ⟨go, 0, none⟩) s.order.length co) s.order.length (zn s.order) rfl (by rw [← HZE.out]; exact HZO.out) ⟨wr.heap.size, 0, none⟩ 1 1 [.int .i64 (x : Int)] (by simp [Act.eval, World.setCell]) rfl (by intro j u hj; have hj0 : j = 0 := (by have := (List.getElem?_eq_some_iff.1 hj).1; simp at this; omega); subst hj0; rw [← hj, add_off, ← HZE.out]; exact HZN.out) (by simp [Value.oneCell']) (by omega) (by simp [maxLen]; omega) (by omega) (by rw [← HZE.out, hZz]; omega) (wr.heap.size + 1) (by rw [← HZE.out, hZz]) ?_
                   intro g' cap' w7 hrow7 hgr7 hor7 hlt7
                   rw [← HZE.out] at hgr7
                   obtain ⟨f1, f2, f3, f4, f5⟩ := HX7.out w7 hgr7
                   have HL8 := Lib.hid f1
                   have HU8 := Lib.hid f2
                   have HB8 := Lib.hid f3
                   have HN8 := Lib.hid f4
                   have HO7 := Lib.hid hrow7
                   clear f1 f2 f3 f4 hgr7 hrow7)
                | (at_builtin; refine wpList_append_lies _ rfl (.tmp 67) (.tmp 69) 35 rfl w2.heap.size 3 i0 (.int .i64 0) 1 8 Try.underlying35 hi0 hz0 hz1 hz2 rfl (by decide) (.slice (some ⟨gl, 0, none⟩) (q + 1) cl) (q + 1) (zn s.list) rfl HL8.out ⟨w7.heap.size, 0, none⟩ 1 1 [.int .i64 (x : Int)] (by simp [Act.eval]) rfl HN8.out (by simp [Value.oneCell']) (by omega) (by simp [maxLen]; omega) (by omega) (by simp only [World.size_alloc]; omega) (w7.heap.size + 1) (by simp only [World.size_alloc]) ?_
                   intro g2 cap2 w8 hrow8 hgr8 hor8 hlt8))
              go_roundw
              case rel =>
                have hz7 := f5
                have k1 : w8.ownsRow w2.heap.size 3 1 (.slice (some ⟨g', 0, none⟩) (s.order.length + 1) cap') (s.order.length + 1) (zn s.order ++ [.int .i64 (x : Int)]) := by
                  refine (HO7.out.alloc _).kept hgr8 (.inr ?_)
                  show some g' ≠ some gl
                  intro e
                  injection e with e
                  rcases hor7 with h | h
                  · injection h with h
                    dsimp only at h
                    omega
                  · omega
                have k2 : OwnZ w8 Bu (s.up.set x (v : Int)) := by
                  show _ = _
                  rw [hgr8.block Bu (by simp only [World.size_alloc]; omega) (by intro e; injection e with e; dsimp only at e; omega)]
                  exact blk_below HU8.out ((Below.refl _ _).alloc (Nat.le_refl _) _)
                have k3 : Below w2.heap.size w2 w8 := (HB8.out.alloc HB8.out.size _).grown hgr8 (by simp only [World.size_alloc]; have := HB8.out.size; omega) (fun m e => by injection e with e; dsimp only at e; omega)
                have o7 : g' = go ∨ g' = wr.heap.size + 1 := by
                  rcases hor7 with h | h
                  · injection h with h; exact .inl h.symm
                  · exact .inr h
                have o8 : g2 = gl ∨ g2 = w7.heap.size + 1 := by
                  rcases hor8 with h | h
                  · injection h with h; exact .inl h.symm
                  · exact .inr h
                refine ⟨k + 1, ⟨s.up.set x (v : Int), s.order ++ [x], s.list ++ [x]⟩, g', cap', g2, cap2, by simp, by simp [hq], Lib.hid ?_, Lib.hid ?_, by omega, by omega, by omega, Lib.hid k2, Lib.hid HST2.out.symm, HG1, Lib.hid k3⟩
                · unfold OwnL
                  rw [List.length_append, List.length_singleton, show zn (s.order ++ [x]) = zn s.order ++ [.int .i64 (x : Int)] by simp [zn]]
                  exact k1
                · unfold OwnL
                  rw [List.length_append, List.length_singleton, hq, show zn (s.list ++ [x]) = zn s.list ++ [.int .i64 (x : Int)] by simp [zn]]
                  exact hrow8
              case measure =>
                have k2 : OwnZ w8 Bu (s.up.set x (v : Int)) := by
                  show _ = _
                  rw [hgr8.block Bu (by simp only [World.size_alloc]; omega) (by intro e; injection e with e; dsimp only at e; omega)]
                  exact blk_below HU8.out ((Below.refl _ _).alloc (Nat.le_refl _) _)
                rw [negW_eq k2, negW_eq hu.out]
                have := HG2.out
                simp [lenV]
                omega
        · obtain rfl : i = xs.length := by omega
          have hpk := pick_none (T := T) (fr := fr) (v := v) (up := s.up) (fun j z hz => hsk.out j z (by have := (List.getElem?_eq_some_iff.1 hz).1; rw [HTV.out] at this; exact this) (by rw [← HTV.out]; exact hz)) (fun z hz => by obtain ⟨a, e, _⟩ := HTM.out v z hz; exact ⟨a, e⟩)
          have hst := wstep_pop HV.out hpk
          have HST2 : Hid (wrun T N fr (k + 1) = ⟨s.up, s.order, s.list.dropLast⟩) := by
            show wstep T fr (wrun T N fr k) = _
            rw [← hs.out]
            exact hst
          have hcl : q + 1 ≤ cl := by
            obtain ⟨_, h0 | ⟨_, _, _, ev, _, _, h3, _⟩⟩ := hl.out
            · cases h0.1
            · injection ev with _ _ e3
              omega
          have hC0 : (q : Int) ≤ (cl : Int) := by omega
          have HTRU := Lib.hid hl.out.trunc
          have HPOP := Lib.hid hG.out.pop
          clear hpk hst
          go_wp2_with fail
          go_roundw
          case rel =>
            exact ⟨k + 1, ⟨s.up, s.order, s.list.dropLast⟩, go, co, gl, cl, rfl, by simp [hq], ho, HTRU, d1, d2, d3, hu, Lib.hid HST2.out.symm, HPOP, hb⟩
          case measure =>
            simp [lenV]
end Go.Proofs.Ytlkddjpjhchjfaa
