/- The reference of layer 8: grown. -/
import Derived.Test.YtlkfpphahfendaaH12
import Derived.Test.YtlkfpphahfendaaH9
import Derived.Test.YtlkfpphahfendaaU5
import Derived.Deep.RegionHeld3
import Derived.StillTailTactics
import Derived.Deep.RegionHeld
namespace Go.Proofs.Ytlkfpphahfendaa
set_option maxRecDepth 100000
open Go.RowKit

def unmV : Value → Bool
  | .bool b => !b
  | _ => false
/-- How many of a block's truths are not. -/
def unmW (w : World) (g : Nat) : Nat := match w.heap[g]? with
  | some (.cells cur _ _) => (cur.toList.filter unmV).length
  | _ => 0
theorem unmW_eq {w : World} {g : Nat} {S : List Bool} (h : OwnB w g S) : unmW w g = unm S := by
  unfold unmW unm
  rw [show w.heap[g]? = _ from h]
  simp only [List.filter_map, List.length_map]
  rfl
def lenB : Value → Nat
  | .bool true => 1
  | _ => 0
theorem OwnB.at_ {w : World} {B v : Nat} {l : List Bool} (h : OwnB w B l) (hv : v < l.length) : w.cell? ⟨B, v, none⟩ = some (.bool (l.getD v false)) := by
  rw [cell_of h]
  simp [List.getD, hv]
set_option maxHeartbeats 32000000 in
theorem grown_any (A B : Option Addr) (c d n m : Nat) (N : Int) (E W : List (Int × Int)) (a b : Int) (w : World) (hE : RdP w A E) (hW : RdP w B W) (hn : n = E.length) (hm : m = W.length) (hs : n ≤ 1000) (ht : m ≤ 1000) (hmem : (a, b) ∈ E) :
    Calls Try.prog 36 #[.agg #[.int .i64 N, .slice A n c], .slice B m d, .agg #[.int .i64 a, .int .i64 b]] w fun e w' => ∃ V, e = .returned V ∧ w'.ownsRow w.heap.size 44 2 V (grp W E (a, b)).length (pcells (grp W E (a, b))) ∧ Below w.heap.size w w' := by
  obtain ⟨GR, hGR⟩ : ∃ GR, grp W E (a, b) = GR := ⟨_, rfl⟩
  rw [hGR]
  obtain ⟨X, hX⟩ : ∃ X, X = (w.alloc (.cells #[.int .i64 N, .slice A n c] 24)).alloc (.cells #[.int .i64 a, .int .i64 b] 44) := ⟨_, rfl⟩
  have hb : Below w.heap.size w X := by rw [hX]; exact ((Below.refl _ _).alloc (Nat.le_refl _) _).alloc (by simp) _
  have hs2 : X.heap.size = w.heap.size + 2 := by rw [hX]; simp
  obtain ⟨i0, i1, _, _⟩ := cells_two (w := X) (g := w.heap.size) (by rw [hX]; exact two_first w _ _)
  obtain ⟨i2, i3, _, _⟩ := cells_two (w := X) (g := w.heap.size + 1) (by rw [hX]; exact two_second w _ _)
  have HJ : Hid (∀ w', Below X.heap.size X w' → (w'.cell? ⟨w.heap.size, 0, none⟩ = some (.int .i64 N) ∧ w'.cell? ⟨w.heap.size, 1, none⟩ = some (.slice A n c)) ∧ w'.cell? ⟨w.heap.size + 1, 0, none⟩ = some (.int .i64 a) ∧ w'.cell? ⟨w.heap.size + 1, 1, none⟩ = some (.int .i64 b)) := fun w' hb =>
    ⟨⟨by rw [hb.cell (by show w.heap.size < _; omega)]; exact i0, by rw [hb.cell (by show w.heap.size < _; omega)]; exact i1⟩, by rw [hb.cell (by show w.heap.size + 1 < _; omega)]; exact i2, by rw [hb.cell (by show w.heap.size + 1 < _; omega)]; exact i3⟩
  obtain ⟨w2, hw2⟩ : ∃ w2, w2 = X.alloc (.cells ((List.replicate n false).map Value.bool).toArray 4) := ⟨_, rfl⟩
  have hmk := make_bools n (by omega) X
  rw [← hw2] at hmk
  have hb2 : Below X.heap.size X w2 := by rw [hw2]; exact (Below.refl _ _).alloc (Nat.le_refl _) _
  have HO0 : Hid (OwnB w2 X.heap.size (List.replicate n false)) := by
    show _ = _
    rw [hw2]
    exact heap_alloc_new X _
  have HB2 := Lib.hid hb2
  have HGS0 := Lib.hid (GS.start W E (a, b) hn)
  have HE := Lib.hid (hE.below hb)
  have HW := Lib.hid (hW.below hb)
  have HN := Lib.hid hn
  have HM := Lib.hid hm
  have HX := Lib.hid hX
  have HB := Lib.hid hb
  have HMEM := Lib.hid hmem
  have HGR := Lib.hid hGR
  have hgt : Try.prog.eqGuardType Try.prog.depth 44 = false := by kernel_rfl
  obtain ⟨i4, hi4, hz0, hz1, hz2⟩ := info_partsI pairinfo
  have HS2 := Lib.hid hs2
  clear hE hW hn hm hX hb hw2 hb2 hmem hGR hs2
  go_enter Try.func36, Try.ntmps36
  go_upto_region 1 with fail
  rw [← HX.out]
  have HXX := Lib.hid (Below.refl X.heap.size X)
  obtain ⟨⟨j0, j1⟩, j2, j3⟩ := HJ.out X HXX.out
  clear i0 i1 i2 i3
  go_wp2_with fail
  clear hmk j0 j1 j2 j3
  go_loopw [8] (fun s8 wr => ∃ (S : List Bool) (ch : Bool), s8 = .bool ch ∧ Hid (OwnB wr X.heap.size S) ∧ Hid (GS W E (a, b) S) ∧ Hid (ch = false → Closed W E (a, b) S) ∧ Hid (Below X.heap.size X wr)) (fun s8 wr => unmW wr X.heap.size * 2 + lenB s8)
  case atStart => exact ⟨_, true, rfl, HO0, HGS0, (fun h => by cases h), HB2⟩
  case round =>
    obtain ⟨S, ch, rfl, hO, hGS, hC, hbel⟩ := hrel
    cases ch
    · have hcl := hC.out rfl
      have hl : mkd E S n = GR := by rw [HN.out, ← HGR.out]; exact mkd_all hGS.out hcl HMEM.out
      have HLL := Lib.hid hl
      have hSl : S.length = n := by rw [HN.out]; exact hGS.out.len
      have HO1 : Hid (wr.ownsRow (X.heap.size + 1) 44 2 (.slice none 0 0) (mkd E S 0).length (pcells (mkd E S 0))) := World.ownsRow_nil _ _ _ _
      clear hcl hl
      go_wp2_with fail
      go_loopw [13, 12] (fun s13 s12 wn => ∃ (k : Nat) (V : Value), k ≤ n ∧ s13 = .int .i64 k ∧ s12 = V ∧ Hid (wn.ownsRow (X.heap.size + 1) 44 2 V (mkd E S k).length (pcells (mkd E S k))) ∧ Hid (OwnB wn X.heap.size S) ∧ Hid (Below X.heap.size X wn)) (fun s13 _ _ => n - (intOf s13).toNat)
      case atStart => exact ⟨0, _, Nat.zero_le _, rfl, rfl, HO1, hO, hbel⟩
      case round =>
        obtain ⟨k, V, hk, rfl, rfl, hV, hO2, hb2⟩ := hrel
        by_cases h1 : k < n
        · have t1 : decide ((k : Int) < (n : Int)) = true := by simp; omega
          have hK0 : (0 : Int) ≤ (k : Int) := by omega
          have hK1 : (k : Int) < (n : Nat) := by omega
          have q0 := hO2.out.at_ (v := k) (by omega)
          have hst := mkd_step E S k
          have hle := mkd_le E S k
          obtain ⟨p, hp⟩ : ∃ p, S.getD k false = p := ⟨_, rfl⟩
          rw [hp] at q0 hst
          clear hp
          cases p
          · have hsame : mkd E S (k + 1) = mkd E S k := by rw [hst]; simp
            go_wp2_with fail
            go_roundw
            case rel => exact ⟨k + 1, _, by omega, by go_num, rfl, by rw [hsame]; exact hV, hO2, hb2⟩
            case measure => simp [intOf]; omega
          · obtain ⟨e, he⟩ : ∃ e, E[k]? = some e := ⟨_, List.getElem?_eq_getElem (by rw [← HN.out]; exact h1)⟩
            have hge : E.getD k (0, 0) = e := by rw [List.getD_eq_getElem?_getD, he]; rfl
            rw [hge] at hst
            have HST : Hid (mkd E S (k + 1) = mkd E S k ++ [e]) := by show _ = _; rw [hst]; simp
            obtain ⟨ad, rfl, _, p0, p1⟩ := (HE.out.below hb2.out) k e he
            obtain ⟨x, y⟩ := e
            simp only at p0 p1
            obtain ⟨⟨j0, j1⟩, j2, j3⟩ := HJ.out wr hb2.out
            have HFA := Lib.hid (hV.out.alloc (.cells #[.int .i64 x, .int .i64 y] 44))
            have HLT : Hid (∀ (i : Nat) (u : Value), [Value.int .i64 x, .int .i64 y][i]? = some u → (wr.alloc (.cells #[.int .i64 x, .int .i64 y] 44)).cell? ((⟨wr.heap.size, 0, none⟩ : Addr).add i) = some u) := fun i u hi => by
              rw [← hi, add_off, World.cell?_alloc_at _ _ _ _ rfl]
              simp
            have hsz := lt_of_block hO2.out
            obtain ⟨fl, hfl⟩ : ∃ fl, (mkd E S k).length = fl := ⟨_, rfl⟩
            rw [hfl] at HFA hle
            have HFL := Lib.hid hfl
            have hxb : Below wr.heap.size wr (wr.alloc (.cells #[.int .i64 x, .int .i64 y] 44)) := (Below.refl _ _).alloc (Nat.le_refl _) _
            have HXB := Lib.hid hxb
            clear hfl hst hge he hxb
            go_wp2_with (at_builtin; refine wpList_append_lies _ rfl (.tmp 79) (.tmp 85) 22 rfl (X.heap.size + 1) 44 i4 (.agg #[.int .i64 0, .int .i64 0]) 2 16 Try.underlying22 hi4 hz0 hz1 hz2 rfl (by decide) _ fl (pcells (mkd E S k)) rfl HFA.out ⟨wr.heap.size, 0, none⟩ 1 1 [.int .i64 x, .int .i64 y] (by simp [Act.eval]) rfl HLT.out (by simp [Value.oneCell']) (by omega) (by simp [maxLen]; omega) (by omega) (by simp; omega) (wr.heap.size + 1) (by simp) ?_; intro g7 c7 w7 hr7 hg7 _ _)
            have HB7 := Lib.hid (((hb2.out.alloc (by omega) _).grown hg7 (by simp; omega) (fun q e => by have := (HFA.out.lt q e).1; omega)))
            have HO7 : Hid (OwnB w7 X.heap.size S) := by
              show _ = _
              rw [hg7.block _ (by simp; omega) (fun e => by have := (HFA.out.lt _ e.symm).1; omega)]
              exact blk_below hO2.out HXB.out
            have HV7 : Hid (w7.ownsRow (X.heap.size + 1) 44 2 (.slice (some ⟨g7, 0, none⟩) (fl + 1) c7) (mkd E S (k + 1)).length (pcells (mkd E S (k + 1)))) := by
              show World.ownsRow _ _ _ _ _ _ _
              rw [HST.out, List.length_append, HFL.out, pcells_snoc]
              exact hr7
            clear hr7 hg7 p0 p1 j0 j1 j2 j3 q0
            go_wp2_with fail
            go_roundw
            case rel => exact ⟨k + 1, _, by omega, by go_num, rfl, HV7, HO7, HB7⟩
            case measure => simp [intOf]; omega
        · obtain rfl : k = n := by omega
          have t1 : decide ((k : Int) < (k : Int)) = false := by simp
          go_wp2_with fail
          go_ret
          have hV2 := hV.out
          rw [HLL.out] at hV2
          exact ⟨_, rfl, Go.Joins.ownsRow_le hV2 (by have := HS2.out; omega), HB.out.trans (hb2.out.mono (by have := HS2.out; omega))⟩
    · have HP0 := Lib.hid (Pass.start hGS.out)
      obtain ⟨u0, hu0⟩ : ∃ u0, unm S = u0 := ⟨_, rfl⟩
      have HU0 := Lib.hid hu0
      clear hu0 hC
      go_wp2_with fail
      go_loopw [9, 8] (fun s9 s8 wn => ∃ (i : Nat) (ch : Bool) (S2 : List Bool), i ≤ n ∧ s9 = .int .i64 i ∧ s8 = .bool ch ∧ Hid (OwnB wn X.heap.size S2) ∧ Hid (Pass W E (a, b) S i ch S2) ∧ Hid (Below X.heap.size X wn)) (fun s9 _ _ => n - (intOf s9).toNat)
      case atStart => exact ⟨0, false, S, Nat.zero_le _, rfl, rfl, hO, HP0, hbel⟩
      case round =>
        obtain ⟨i, ch, S2, hi, rfl, rfl, hO2, hP, hb2⟩ := hrel
        obtain ⟨⟨j0, j1⟩, j2, j3⟩ := HJ.out wr hb2.out
        by_cases h1 : i < n
        · have t1 : decide ((i : Int) < (n : Int)) = true := by simp; omega
          have hI0 : (0 : Int) ≤ (i : Int) := by omega
          have hI1 : (i : Int) < (n : Nat) := by omega
          have hSl : S2.length = n := by rw [HN.out]; exact hP.out.gs.len
          have q0 := hO2.out.at_ (v := i) (by omega)
          have hsd : S2[i]? = some (S2.getD i false) := by rw [List.getD_eq_getElem?_getD, List.getElem?_eq_getElem (by omega)]; rfl
          obtain ⟨p, hp⟩ : ∃ p, S2.getD i false = p := ⟨_, rfl⟩
          rw [hp] at q0 hsd
          have HSD := Lib.hid hsd
          clear hp hsd
          cases p
          · obtain ⟨x, hx⟩ : ∃ x, E[i]? = some x := ⟨_, List.getElem?_eq_getElem (by rw [← HN.out]; exact h1)⟩
            obtain ⟨ad, rfl, hal, p0, p1⟩ := (HE.out.below hb2.out) i x hx
            obtain ⟨xa, xb⟩ := x
            simp only at p0 p1
            have HXE := Lib.hid hx
            obtain ⟨q, hq⟩ : ∃ q, (xa == a && xb == b) = q := ⟨_, rfl⟩
            have hqp : ∀ ww, (Op.equalIn 10000 44 (.agg #[.int .i64 xa, .int .i64 xb]) (.agg #[.int .i64 a, .int .i64 b])).run Try.prog ww = .ok q ww := fun ww => by rw [← hq]; exact eqPair xa xb a b ww
            have HN0 : Hid (q = nowR W E S2 (a, b) (xa, xb) 0) := by show _ = _; rw [nowR_zero, ← hq]
            clear hx hq
            go_upto_region 9 with fail
            go_region
            clear hqp q0 p0 p1
            go_wp2_with fail
            clear j0 j1 j2 j3
            have HBD := Lib.hid hb2.out.drew
            have HOD : Hid (OwnB wr.drew X.heap.size S2) := hO2.out
            clear hO2 hb2
            generalize wr.drew = wv at *
            go_loopw [11, 10] (fun s11 s10 wn => ∃ (k : Nat) (nw : Bool), k ≤ n ∧ s11 = .int .i64 k ∧ s10 = .bool nw ∧ Hid (nw = nowR W E S2 (a, b) (xa, xb) k) ∧ Hid (OwnB wn X.heap.size S2) ∧ Hid (Below X.heap.size X wn)) (fun s11 _ _ => n - (intOf s11).toNat)
            case atStart => exact ⟨0, q, Nat.zero_le _, rfl, rfl, HN0, HOD, HBD⟩
            case round =>
              obtain ⟨k, nw, hk, rfl, rfl, hnw, hO3, hb3⟩ := hrel
              obtain ⟨⟨j0, j1⟩, j2, j3⟩ := HJ.out wr hb3.out
              by_cases h2 : k < n
              · have t2 : decide ((k : Int) < (n : Int)) = true := by simp; omega
                have hK0 : (0 : Int) ≤ (k : Int) := by omega
                have hK1 : (k : Int) < (n : Nat) := by omega
                have hst := nowR_step W E S2 (a, b) (xa, xb) k
                rw [← hnw.out] at hst
                obtain ⟨y, hy⟩ : ∃ y, E[k]? = some y := ⟨_, List.getElem?_eq_getElem (by rw [← HN.out]; exact h2)⟩
                have hgy : E.getD k (0, 0) = y := by rw [List.getD_eq_getElem?_getD, hy]; rfl
                rw [hgy] at hst
                have q0 := hO3.out.at_ (v := k) (by omega)
                obtain ⟨p, hp⟩ : ∃ p, S2.getD k false = p := ⟨_, rfl⟩
                rw [hp] at q0 hst
                have HST := Lib.hid hst
                have HYE := Lib.hid hy
                have HQ0 := Lib.hid q0
                clear hp hst hgy hy
                cases nw
                · cases p
                  · have HN1 : Hid (false = nowR W E S2 (a, b) (xa, xb) (k + 1)) := by show _ = _; rw [HST.out]; simp
                    go_upto_region 13 with fail
                    go_region
                    go_wp2_with fail
                    go_roundw
                    case rel => exact ⟨k + 1, false, by omega, by go_num, rfl, HN1, hO3, Lib.hid hb3.out.drew⟩
                    case measure => simp [intOf]; omega
                  · obtain ⟨ya, yb⟩ := y
                    obtain ⟨v, hv⟩ : ∃ v, meetP W (xa, xb) (ya, yb) = v := ⟨_, rfl⟩
                    have HN1 : Hid (v = nowR W E S2 (a, b) (xa, xb) (k + 1)) := by show _ = _; rw [HST.out, hv]; simp
                    have HMT : Hid (∀ w', Below wr.heap.size wr w' → Calls Try.prog 58 #[.agg #[.int .i64 xa, .int .i64 xb], .agg #[.int .i64 ya, .int .i64 yb], .slice B m d] w' fun e w'' => e = .returned (.bool v) ∧ Below w'.heap.size w' w'') := fun w' hb' => by
                      rw [← hv]
                      exact meet_any xa xb ya yb B d m W w' ((HW.out.below hb3.out).below hb') HM.out (by omega)
                    have HKP : Hid (∀ w', Below wr.heap.size wr w' → w'.cell? ⟨X.heap.size, k, none⟩ = some (.bool true) ∧ w'.cell? ⟨w.heap.size, 1, none⟩ = some (.slice (some ad) n c) ∧ w'.cell? (ad.add (i * 2)) = some (.int .i64 xa) ∧ w'.cell? ⟨(ad.add (i * 2)).block, (ad.add (i * 2)).off + 1, none⟩ = some (.int .i64 xb) ∧
                        w'.cell? (ad.add (k * 2)) = some (.int .i64 ya) ∧ w'.cell? ⟨(ad.add (k * 2)).block, (ad.add (k * 2)).off + 1, none⟩ = some (.int .i64 yb) ∧ Below wr.heap.size wr w') := by
                      intro w' hb'
                      obtain ⟨ad1, e1, _, a0, a1⟩ := ((HE.out.below hb3.out).below hb') i _ HXE.out
                      obtain ⟨ad2, e2, _, b0, b1⟩ := ((HE.out.below hb3.out).below hb') k _ HYE.out
                      injection e1 with e1
                      injection e2 with e2
                      subst e1; subst e2
                      obtain ⟨⟨_, k1⟩, _, _⟩ := HJ.out w' (next_below hb3.out hb')
                      refine ⟨?_, k1, a0, a1, b0, b1, hb'⟩
                      rw [hb'.cell (by show X.heap.size < _; exact lt_of_block hO3.out)]
                      exact HQ0.out
                    have hD := HKP.out wr.drew (Below.refl _ _).drew
                    clear hv q0
                    go_upto_region 13 with fail
                    refine wp_region_held_drew (S := (fun w' => w'.cell? ⟨X.heap.size, k, none⟩ = some (.bool true) ∧ w'.cell? ⟨w.heap.size, 1, none⟩ = some (.slice (some ad) n c) ∧ w'.cell? (ad.add (i * 2)) = some (.int .i64 xa) ∧ w'.cell? ⟨(ad.add (i * 2)).block, (ad.add (i * 2)).off + 1, none⟩ = some (.int .i64 xb) ∧ w'.cell? (ad.add (k * 2)) = some (.int .i64 ya) ∧ w'.cell? ⟨(ad.add (k * 2)).block, (ad.add (k * 2)).off + 1, none⟩ = some (.int .i64 yb) ∧ Below wr.heap.size wr w')) (by kernel_rfl) hD (fun hS => ?_)
                    refine wpAnyH_take (i := 0) (v := ?_) rfl (by kernel_rfl) (by kernel_rfl) (by kernel_rfl) (fun _ _ _ h => h) (Or.inl ⟨by rfl, ?_⟩) hS ?_
                    rotate_left
                    · intro wz hSw; (try dsimp only at hSw); obtain ⟨z1, z2, z3, z4, z5, z6, z7⟩ := hSw; go_simp; (try with_reducible rfl)
                    try simp only [List.getElem_toArray, List.getElem_cons_zero, List.getElem_cons_succ, Act.put, List.setIfInBounds_toArray, List.set_cons_zero, List.set_cons_succ]
                    refine wpAnyH_take (i := 1) (v := ?_) rfl (by kernel_rfl) (by kernel_rfl) (by kernel_rfl) (fun _ _ _ h => h) (Or.inl ⟨by rfl, ?_⟩) hS ?_
                    rotate_left
                    · intro wz hSw; (try dsimp only at hSw); obtain ⟨z1, z2, z3, z4, z5, z6, z7⟩ := hSw; go_simp; (try with_reducible rfl)
                    try simp only [List.getElem_toArray, List.getElem_cons_zero, List.getElem_cons_succ, Act.put, List.setIfInBounds_toArray, List.set_cons_zero, List.set_cons_succ]
                    refine wpAnyH_take (i := 2) (v := ?_) rfl (by kernel_rfl) (by kernel_rfl) (by kernel_rfl) (fun _ _ _ h => h) (Or.inl ⟨by rfl, ?_⟩) hS ?_
                    rotate_left
                    · intro wz hSw; (try dsimp only at hSw); obtain ⟨z1, z2, z3, z4, z5, z6, z7⟩ := hSw; go_simp; (try with_reducible rfl)
                    try simp only [List.getElem_toArray, List.getElem_cons_zero, List.getElem_cons_succ, Act.put, List.setIfInBounds_toArray, List.set_cons_zero, List.set_cons_succ]
                    refine wpAnyH_take (i := 3) (v := ?_) rfl (by kernel_rfl) (by kernel_rfl) (by kernel_rfl) (fun _ _ _ h => h) (Or.inl ⟨by rfl, ?_⟩) hS ?_
                    rotate_left
                    · intro wz hSw; (try dsimp only at hSw); obtain ⟨z1, z2, z3, z4, z5, z6, z7⟩ := hSw; go_simp; (try with_reducible rfl)
                    try simp only [List.getElem_toArray, List.getElem_cons_zero, List.getElem_cons_succ, Act.put, List.setIfInBounds_toArray, List.set_cons_zero, List.set_cons_succ]
                    refine wpAnyH_take (i := 4) (v := ?_) rfl (by kernel_rfl) (by kernel_rfl) (by kernel_rfl) (fun _ _ _ h => h) (Or.inl ⟨by rfl, ?_⟩) hS ?_
                    rotate_left
                    · intro wz hSw; (try dsimp only at hSw); obtain ⟨z1, z2, z3, z4, z5, z6, z7⟩ := hSw; go_simp; (try with_reducible rfl)
                    try simp only [List.getElem_toArray, List.getElem_cons_zero, List.getElem_cons_succ, Act.put, List.setIfInBounds_toArray, List.set_cons_zero, List.set_cons_succ]
                    refine wpAnyH_take (i := 5) (v := ?_) rfl (by kernel_rfl) (by kernel_rfl) (by kernel_rfl) (fun _ _ _ h => h) (Or.inl ⟨by rfl, ?_⟩) hS ?_
                    rotate_left
                    · intro wz hSw; (try dsimp only at hSw); obtain ⟨z1, z2, z3, z4, z5, z6, z7⟩ := hSw; go_simp; (try with_reducible rfl)
                    try simp only [List.getElem_toArray, List.getElem_cons_zero, List.getElem_cons_succ, Act.put, List.setIfInBounds_toArray, List.set_cons_zero, List.set_cons_succ]
                    refine wpAnyH_take (i := 6) (v := ?_) rfl (by kernel_rfl) (by kernel_rfl) (by kernel_rfl) (fun _ _ _ h => h) (Or.inl ⟨by rfl, ?_⟩) hS ?_
                    rotate_left
                    · intro wz hSw; (try dsimp only at hSw); obtain ⟨z1, z2, z3, z4, z5, z6, z7⟩ := hSw; go_simp; (try with_reducible rfl)
                    try simp only [List.getElem_toArray, List.getElem_cons_zero, List.getElem_cons_succ, Act.put, List.setIfInBounds_toArray, List.set_cons_zero, List.set_cons_succ]
                    refine wpAnyH_take (i := 7) (v := ?_) rfl (by kernel_rfl) (by kernel_rfl) (by kernel_rfl) (fun _ _ _ h => h) (Or.inl ⟨by rfl, ?_⟩) hS ?_
                    rotate_left
                    · intro wz hSw; (try dsimp only at hSw); obtain ⟨z1, z2, z3, z4, z5, z6, z7⟩ := hSw; go_simp; (try with_reducible rfl)
                    try simp only [List.getElem_toArray, List.getElem_cons_zero, List.getElem_cons_succ, Act.put, List.setIfInBounds_toArray, List.set_cons_zero, List.set_cons_succ]
                    refine wpAnyH_take (i := 8) (v := ?_) rfl (by kernel_rfl) (by kernel_rfl) (by kernel_rfl) (fun _ _ _ h => h) (Or.inl ⟨by rfl, ?_⟩) hS ?_
                    rotate_left
                    · intro wz hSw; (try dsimp only at hSw); obtain ⟨z1, z2, z3, z4, z5, z6, z7⟩ := hSw; go_simp; (try with_reducible rfl)
                    try simp only [List.getElem_toArray, List.getElem_cons_zero, List.getElem_cons_succ, Act.put, List.setIfInBounds_toArray, List.set_cons_zero, List.set_cons_succ]
                    refine wpAnyH_take (i := 9) (v := ?_) rfl (by kernel_rfl) (by kernel_rfl) (by kernel_rfl) (fun _ _ _ h => h) (Or.inl ⟨by rfl, ?_⟩) hS ?_
                    rotate_left
                    · intro wz hSw; (try dsimp only at hSw); obtain ⟨z1, z2, z3, z4, z5, z6, z7⟩ := hSw; go_simp; (try with_reducible rfl)
                    try simp only [List.getElem_toArray, List.getElem_cons_zero, List.getElem_cons_succ, Act.put, List.setIfInBounds_toArray, List.set_cons_zero, List.set_cons_succ]
                    refine wpAnyH_take (i := 10) (v := ?_) rfl (by kernel_rfl) (by kernel_rfl) (by kernel_rfl) (fun _ _ _ h => h) (Or.inl ⟨by rfl, ?_⟩) hS ?_
                    rotate_left
                    · intro wz hSw; (try dsimp only at hSw); obtain ⟨z1, z2, z3, z4, z5, z6, z7⟩ := hSw; go_simp; (try with_reducible rfl)
                    try simp only [List.getElem_toArray, List.getElem_cons_zero, List.getElem_cons_succ, Act.put, List.setIfInBounds_toArray, List.set_cons_zero, List.set_cons_succ]
                    refine wpAnyH_take (i := 11) (v := ?_) rfl (by kernel_rfl) (by kernel_rfl) (by kernel_rfl) (fun _ _ _ h => h) (Or.inl ⟨by rfl, ?_⟩) hS ?_
                    rotate_left
                    · intro wz hSw; (try dsimp only at hSw); obtain ⟨z1, z2, z3, z4, z5, z6, z7⟩ := hSw; go_simp; (try with_reducible rfl)
                    try simp only [List.getElem_toArray, List.getElem_cons_zero, List.getElem_cons_succ, Act.put, List.setIfInBounds_toArray, List.set_cons_zero, List.set_cons_succ]
                    refine wpAnyH_take (i := 12) (v := ?_) rfl (by kernel_rfl) (by kernel_rfl) (by kernel_rfl) (fun _ _ _ h => h) (Or.inl ⟨by rfl, ?_⟩) hS ?_
                    rotate_left
                    · intro wz hSw; (try dsimp only at hSw); obtain ⟨z1, z2, z3, z4, z5, z6, z7⟩ := hSw; go_simp; (try with_reducible rfl)
                    try simp only [List.getElem_toArray, List.getElem_cons_zero, List.getElem_cons_succ, Act.put, List.setIfInBounds_toArray, List.set_cons_zero, List.set_cons_succ]
                    refine wpAnyH_take (i := 13) (v := ?_) rfl (by kernel_rfl) (by kernel_rfl) (by kernel_rfl) (fun _ _ _ h => h) (Or.inl ⟨by rfl, ?_⟩) hS ?_
                    rotate_left
                    · intro wz hSw; (try dsimp only at hSw); obtain ⟨z1, z2, z3, z4, z5, z6, z7⟩ := hSw; go_simp; (try with_reducible rfl)
                    try simp only [List.getElem_toArray, List.getElem_cons_zero, List.getElem_cons_succ, Act.put, List.setIfInBounds_toArray, List.set_cons_zero, List.set_cons_succ]
                    refine wpAnyH_take (i := 14) (v := ?_) rfl (by kernel_rfl) (by kernel_rfl) (by kernel_rfl) (fun _ _ _ h => h) (Or.inl ⟨by rfl, ?_⟩) hS ?_
                    rotate_left
                    · intro wz hSw; (try dsimp only at hSw); obtain ⟨z1, z2, z3, z4, z5, z6, z7⟩ := hSw; go_simp; (try with_reducible rfl)
                    try simp only [List.getElem_toArray, List.getElem_cons_zero, List.getElem_cons_succ, Act.put, List.setIfInBounds_toArray, List.set_cons_zero, List.set_cons_succ]
                    refine wpAnyH_take (i := 15) (v := ?_) rfl (by kernel_rfl) (by kernel_rfl) (by kernel_rfl) (fun _ _ _ h => h) (Or.inl ⟨by rfl, ?_⟩) hS ?_
                    rotate_left
                    · intro wz hSw; (try dsimp only at hSw); obtain ⟨z1, z2, z3, z4, z5, z6, z7⟩ := hSw; go_simp; (try with_reducible rfl)
                    try simp only [List.getElem_toArray, List.getElem_cons_zero, List.getElem_cons_succ, Act.put, List.setIfInBounds_toArray, List.set_cons_zero, List.set_cons_succ]
                    refine wpAnyH_take (i := 16) (v := ?_) rfl (by kernel_rfl) (by kernel_rfl) (by kernel_rfl) (fun _ _ _ h => h) (Or.inl ⟨by rfl, ?_⟩) hS ?_
                    rotate_left
                    · intro wz hSw; (try dsimp only at hSw); obtain ⟨z1, z2, z3, z4, z5, z6, z7⟩ := hSw; go_simp; (try with_reducible rfl)
                    try simp only [List.getElem_toArray, List.getElem_cons_zero, List.getElem_cons_succ, Act.put, List.setIfInBounds_toArray, List.set_cons_zero, List.set_cons_succ]
                    refine wpAnyH_take (i := 17) (v := ?_) rfl (by kernel_rfl) (by kernel_rfl) (by kernel_rfl) (fun _ _ _ h => h) (Or.inl ⟨by rfl, ?_⟩) hS ?_
                    rotate_left
                    · intro wz hSw; (try dsimp only at hSw); obtain ⟨z1, z2, z3, z4, z5, z6, z7⟩ := hSw; go_simp; (try with_reducible rfl)
                    try simp only [List.getElem_toArray, List.getElem_cons_zero, List.getElem_cons_succ, Act.put, List.setIfInBounds_toArray, List.set_cons_zero, List.set_cons_succ]
                    refine wpAnyH_ready (rs := [18]) (by kernel_rfl) (by simp) (AllReadyH.cons rfl (fun K hK => ?_) AllReadyH.nil)
                    go_simp
                    go_at_call 58
                    refine (HMT.out _ hS.2.2.2.2.2.2).mono ?_
                    rintro e wn ⟨rfl, hb⟩
                    go_wp2_with fail
                    have hS := HKP.out wn (next_below hS.2.2.2.2.2.2 hb)
                    refine hK.out _ _ hS (fun _ => ?_)
                    clear hK K
                    try simp only [List.getElem_toArray, List.getElem_cons_zero, List.getElem_cons_succ, Act.put, List.setIfInBounds_toArray, List.set_cons_zero, List.set_cons_succ]
                    refine wpAnyH_take (i := 19) (v := ?_) rfl (by kernel_rfl) (by kernel_rfl) (by kernel_rfl) (fun _ _ _ h => h) (Or.inl ⟨by rfl, ?_⟩) hS ?_
                    rotate_left
                    · intro wz hSw; (try dsimp only at hSw); go_simp; (try with_reducible rfl)
                    try simp only [List.getElem_toArray, List.getElem_cons_zero, List.getElem_cons_succ, Act.put, List.setIfInBounds_toArray, List.set_cons_zero, List.set_cons_succ]
                    refine wpAnyH_take (i := 20) (v := ?_) rfl (by kernel_rfl) (by kernel_rfl) (by kernel_rfl) (fun _ _ _ h => h) (Or.inl ⟨by rfl, ?_⟩) hS ?_
                    rotate_left
                    · intro wz hSw; (try dsimp only at hSw); go_simp; (try with_reducible rfl)
                    try simp only [List.getElem_toArray, List.getElem_cons_zero, List.getElem_cons_succ, Act.put, List.setIfInBounds_toArray, List.set_cons_zero, List.set_cons_succ]
                    refine wpAnyH_take (i := 21) (v := ?_) rfl (by kernel_rfl) (by kernel_rfl) (by kernel_rfl) (fun _ _ _ h => h) (Or.inl ⟨by rfl, ?_⟩) hS ?_
                    rotate_left
                    · intro wz hSw; (try dsimp only at hSw); go_simp; (try with_reducible rfl)
                    try simp only [List.getElem_toArray, List.getElem_cons_zero, List.getElem_cons_succ, Act.put, List.setIfInBounds_toArray, List.set_cons_zero, List.set_cons_succ]
                    refine wpAnyH_done (by kernel_rfl) ?_ _
                    go_wp2_with fail
                    go_roundw
                    case rel => exact ⟨k + 1, v, by omega, by go_num, rfl, HN1, blk_below hO3.out hS.2.2.2.2.2.2, Lib.hid (next_below hb3.out hS.2.2.2.2.2.2)⟩
                    case measure => simp [intOf]; omega
                · have HN1 : Hid (true = nowR W E S2 (a, b) (xa, xb) (k + 1)) := by show _ = _; rw [HST.out]; simp
                  go_upto_region 13 with fail
                  go_region
                  go_wp2_with fail
                  go_roundw
                  case rel => exact ⟨k + 1, true, by omega, by go_num, rfl, HN1, hO3, Lib.hid hb3.out.drew⟩
                  case measure => simp [intOf]; omega
              · obtain rfl : k = n := by omega
                have t2 : decide ((k : Int) < (k : Int)) = false := by simp
                have hnw2 := hnw.out
                rw [HN.out] at hnw2
                have HNW2 := Lib.hid hnw2
                clear hnw2 hnw
                have q0 := hO3.out.at_ (v := i) (by omega)
                have q3 : wr.frozen? ⟨X.heap.size, i, none⟩ = false := free_of hO3.out i
                cases nw
                · clear q0 q3
                  go_wp2_with fail
                  go_roundw
                  case rel => exact ⟨i + 1, ch, S2, by omega, by go_num, rfl, hO3, Lib.hid (hP.out.not HXE.out HNW2.out.symm), hb3⟩
                  case measure => simp [intOf]; omega
                · go_wp2_with fail
                  go_roundw
                  case rel => exact ⟨i + 1, true, S2.set i true, by omega, by go_num, rfl, hO3.out.set i true, Lib.hid (hP.out.new HSD.out HXE.out HNW2.out.symm), Lib.hid (hb3.out.setCell (Nat.le_refl _) _)⟩
                  case measure => simp [intOf]; omega
          · go_wp2_with fail
            go_roundw
            case rel => exact ⟨i + 1, ch, S2, by omega, by go_num, rfl, hO2, Lib.hid (hP.out.old HSD.out), hb2⟩
            case measure => simp [intOf]; omega
        · obtain rfl : i = n := by omega
          have t1 : decide ((i : Int) < (i : Int)) = false := by simp
          go_wp2_with fail
          go_roundw
          case rel => exact ⟨S2, ch, rfl, hO2, Lib.hid hP.out.gs, (fun h => by subst h; have := hP.out; rw [HN.out] at this; exact this.closed), hb2⟩
          case measure =>
            rw [unmW_eq hO2.out, unmW_eq hO.out]
            have h5 := hP.out.le
            cases ch
            · simp [lenB]; omega
            · have h6 := hP.out.yes rfl
              simp [lenB]; omega
end Go.Proofs.Ytlkfpphahfendaa
