/- The reference's comparisons. -/
import Derived.Test.YtmnkghbbcjnlfaaR16
namespace Go.Proofs.Ytmnkghbbcjnlfaa
open Go.RowKit

theorem cmpB_at {xs ys : List Nat} {k : Nat} (h : ∀ j, j < k → ∃ x, xs[j]? = some x ∧ ys[j]? = some x) : cmpB xs ys = cmpB (xs.drop k) (ys.drop k) := cmpL_drop cmpN_stands k xs ys h
set_option maxHeartbeats 1000000 in
theorem word_any (A B : Option Addr) (c d n m : Nat) (L M : List Nat) (w : World) (hl : RdN w A L) (hm : RdN w B M) (hL : n ≤ 1000000) (hM : m ≤ 1000000) (hn : n = L.length) (hmm : m = M.length) :
    Calls Try.prog 28 #[.slice A n c, .slice B m d] w fun e w' => e = .returned (.int .i64 (cmpB L M)) ∧ Below w.heap.size w w' := by
  have HL := Lib.hid hl
  have HM := Lib.hid hm
  have HAT := Lib.hid (fun k h => cmpB_at (xs := L) (ys := M) (k := k) h)
  generalize cmpB L M = r at HAT ⊢
  have HN := Lib.hid hn
  have HMM := Lib.hid hmm
  clear hl hm hn hmm
  go_enter Try.func28, Try.ntmps28
  go_wp2_with fail
  go_loopw [5] (fun s wr => ∃ k : Nat, k ≤ n ∧ k ≤ m ∧ s = .int .i64 k ∧ Hid (∀ j, j < k → ∃ x, L[j]? = some x ∧ M[j]? = some x) ∧ Hid (Below w.heap.size w wr)) (fun s _ => n - (intOf s).toNat)
  case atStart => exact ⟨0, Nat.zero_le _, Nat.zero_le _, rfl, fun j h => absurd h (by omega), Lib.hid (Below.refl _ _)⟩
  case round =>
    obtain ⟨k, hk, hk2, rfl, hK, hbel⟩ := hrel
    by_cases hlt : k < n
    · obtain ⟨x, hx⟩ : ∃ x, L[k]? = some x := ⟨_, List.getElem?_eq_getElem (by rw [← HN.out]; exact hlt)⟩
      obtain ⟨ad, rfl, hla, c1⟩ := (HL.out.below hbel.out) k x hx
      unfold by8 at c1
      have HX := Lib.hid hx
      clear hx
      by_cases hkm : k < m
      · obtain ⟨y, hy⟩ : ∃ y, M[k]? = some y := ⟨_, List.getElem?_eq_getElem (by rw [← HMM.out]; exact hkm)⟩
        obtain ⟨bd, rfl, hlb, c2⟩ := (HM.out.below hbel.out) k y hy
        unfold by8 at c2
        have HY := Lib.hid hy
        have hI0 : (0 : Int) ≤ (k : Int) := by omega
        have hI1 : (k : Int) < (n : Nat) := by omega
        have hI2 : (k : Int) < (m : Nat) := by omega
        have HBQ := Lib.hid (fun q q2 : Nat => below_drewN (below_drewN hbel.out q) q2)
        have HBQ1 := Lib.hid (fun q : Nat => below_drewN hbel.out q)
        clear hy
        by_cases h1 : x < y
        · have h1I : (x : Int) < (y : Nat) := by omega
          go_upto_region 4 with fail
          go_quiet (fail)
          go_wp2_with fail
          go_ret
          refine ⟨ret_int ?_, HBQ1.out _⟩
          rw [HAT.out k hK.out, drop_cons HX.out, drop_cons HY.out]
          show _ = if cmpN x y = 0 then _ else cmpN x y
          have e : cmpN x y = -1 := if_pos h1
          rw [e]
          rfl
        · have h1I : (y : Int) ≤ (x : Nat) := by omega
          go_upto_region 4 with fail
          go_quiet (fail)
          go_upto_region 6 with fail
          have c1' : (wr.drewN nq).cell? (ad.add k) = some (.int .u8 (x : Nat)) := c1
          have c2' : (wr.drewN nq).cell? (bd.add k) = some (.int .u8 (y : Nat)) := c2
          by_cases h2 : y < x
          · have h2I : (y : Int) < (x : Nat) := by omega
            go_quiet (fail)
            go_wp2_with fail
            go_ret
            refine ⟨ret_int ?_, HBQ.out _ _⟩
            rw [HAT.out k hK.out, drop_cons HX.out, drop_cons HY.out]
            show _ = if cmpN x y = 0 then _ else cmpN x y
            have e : cmpN x y = 1 := by unfold cmpN; rw [if_neg h1, if_neg (by omega)]
            rw [e]
            rfl
          · obtain rfl : x = y := by omega
            go_quiet (fail)
            go_wp2_with fail
            go_roundw
            case rel =>
              refine ⟨k + 1, by omega, by omega, by go_num, fun j hj => ?_, Lib.hid (HBQ1.out _)⟩
              by_cases hjk : j = k
              · subst hjk
                exact ⟨x, HX.out, HY.out⟩
              · exact hK.out j (by omega)
            case measure => simp [intOf]; omega
      · obtain rfl : k = m := by omega
        go_wp2_with fail
        go_ret
        refine ⟨ret_int ?_, hbel.out⟩
        have hd : M.drop k = [] := List.drop_eq_nil_of_le (by rw [← HMM.out]; omega)
        rw [HAT.out k hK.out, drop_cons HX.out, hd]
        rfl
    · obtain rfl : k = n := by omega
      have hd : L.drop k = [] := List.drop_eq_nil_of_le (by rw [← HN.out]; omega)
      have HD := Lib.hid hd
      clear hd
      by_cases hlm : k < m
      · go_wp2_with fail
        go_ret
        refine ⟨ret_int ?_, hbel.out⟩
        obtain ⟨ys, hys⟩ : ∃ ys, M[k]? = some ys := ⟨_, List.getElem?_eq_getElem (by rw [← HMM.out]; exact hlm)⟩
        rw [HAT.out k hK.out, HD.out, drop_cons hys]
        rfl
      · go_wp2_with fail
        go_ret
        refine ⟨ret_int ?_, hbel.out⟩
        have hd : M.drop k = [] := List.drop_eq_nil_of_le (by rw [← HMM.out]; omega)
        rw [HAT.out k hK.out, HD.out, hd]
        rfl

set_option maxRecDepth 100000 in
set_option maxHeartbeats 1000000 in
theorem refCompare_any (A B : Option Addr) (c d n m : Nat) (L M : List (List Nat)) (w : World) (hl : RdW w A L) (hm : RdW w B M) (hwl : ∀ xs ∈ L, xs.length ≤ 1000000) (hwm : ∀ xs ∈ M, xs.length ≤ 1000000) (hL : n ≤ 1000000) (hM : m ≤ 1000000) (hn : n = L.length) (hmm : m = M.length) :
    Calls Try.prog 17 #[.slice A n c, .slice B m d] w fun e w' => e = .returned (.int .i64 (cmpW L M)) ∧ Below w.heap.size w w' := by
  have HL := Lib.hid hl
  have HM := Lib.hid hm
  have HWL := Lib.hid hwl
  have HWM := Lib.hid hwm
  have HAT := Lib.hid (fun k h => cmpW_at (L := L) (M := M) (k := k) h)
  generalize cmpW L M = r at HAT ⊢
  have HN := Lib.hid hn
  have HMM := Lib.hid hmm
  clear hl hm hn hmm hwl hwm
  go_enter Try.func17, Try.ntmps17
  go_wp2_with fail
  go_loopw [5] (fun s wr => ∃ k : Nat, k ≤ n ∧ k ≤ m ∧ s = .int .i64 k ∧ Hid (∀ j, j < k → ∃ x, L[j]? = some x ∧ M[j]? = some x) ∧ Hid (Below w.heap.size w wr)) (fun s _ => n - (intOf s).toNat)
  case atStart => exact ⟨0, Nat.zero_le _, Nat.zero_le _, rfl, fun j h => absurd h (by omega), Lib.hid (Below.refl _ _)⟩
  case round =>
    obtain ⟨k, hk, hk2, rfl, hK, hbel⟩ := hrel
    by_cases hlt : k < n
    · obtain ⟨xs, hxs⟩ : ∃ xs, L[k]? = some xs := ⟨_, List.getElem?_eq_getElem (by rw [← HN.out]; exact hlt)⟩
      obtain ⟨ad, C, c2, rfl, hla, hc, hrx, h1, h2, _⟩ := (HL.out.below hbel.out) k xs hxs
      have HX := Lib.hid hxs
      by_cases hkm : k < m
      · obtain ⟨ys, hys⟩ : ∃ ys, M[k]? = some ys := ⟨_, List.getElem?_eq_getElem (by rw [← HMM.out]; exact hkm)⟩
        obtain ⟨bd, D, d2, rfl, hlb, hcb, hry, g1, g2, _⟩ := (HM.out.below hbel.out) k ys hys
        have HY := Lib.hid hys
        have hI0 : (0 : Int) ≤ (k : Int) := by omega
        have hI1 : (k : Int) < (n : Nat) := by omega
        have hI2 : (k : Int) < (m : Nat) := by omega
        obtain ⟨q, hq⟩ : ∃ q, q = cmpB xs ys := ⟨_, rfl⟩
        have HS : ∀ w', Below wr.heap.size wr w' → (w'.cell? (ad.add k) = some (.slice C xs.length c2) ∧ w'.cell? (bd.add k) = some (.slice D ys.length d2) ∧ Below wr.heap.size wr w') := fun w' h =>
          ⟨(h.cell (by rw [block_add]; exact hla)).trans hc, (h.cell (by rw [block_add]; exact hlb)).trans hcb, h⟩
        have CC : Hid (∀ w', (w'.cell? (ad.add k) = some (.slice C xs.length c2) ∧ w'.cell? (bd.add k) = some (.slice D ys.length d2) ∧ Below wr.heap.size wr w') →
            Calls Try.prog 28 #[.slice C xs.length c2, .slice D ys.length d2] w' fun e w'' => e = .returned (.int .i64 q) ∧ Below wr.heap.size wr w'') := by
          intro w' h
          rw [hq]
          exact (word_any C D c2 d2 _ _ xs ys w' (hrx.below h.2.2) (hry.below h.2.2) (HWL.out _ (List.mem_of_getElem? hxs)) (HWM.out _ (List.mem_of_getElem? hys)) rfl rfl).mono fun _ _ ⟨a, b⟩ => ⟨a, next_below h.2.2 b⟩
        have HSS := Lib.hid HS
        have HS0 := Lib.hid (HS wr.drew (Below.refl _ _).drew)
        have HQ := Lib.hid hq
        clear HS hxs hys hc hcb hrx hry hq
        go_upto_region 4 with fail
        go_region_held3 (fun w' => w'.cell? (ad.add k) = some (.slice C xs.length c2) ∧ w'.cell? (bd.add k) = some (.slice D ys.length d2) ∧ Below wr.heap.size wr w')
          (first | exact hS | exact HS0.out)
          (first | (go_at_call 28; (with_reducible refine (CC.out _ (by assumption)).mono ?_); rintro e w6 ⟨rfl, hB⟩; have hS := HSS.out w6 hB))
        have HB6 := Lib.hid (next_below hbel.out hB)
        clear hB hS HS0 HSS CC
        by_cases h0 : q = 0
        · subst h0
          go_wp2_with fail
          go_roundw
          case rel =>
            refine ⟨k + 1, by omega, by omega, by go_num, fun j hj => ?_, HB6⟩
            by_cases hjk : j = k
            · subst hjk
              have := (cmpL_stands cmpN_stands).only xs ys HQ.out.symm
              subst this
              exact ⟨xs, HX.out, HY.out⟩
            · exact hK.out j (by omega)
          case measure => simp [intOf]; omega
        · have hq0 : (q == 0) = false := by simpa using h0
          go_wp2_with fail
          go_ret
          refine ⟨ret_int ?_, HB6.out⟩
          rw [HAT.out k hK.out, drop_cons HX.out, drop_cons HY.out]
          show _ = if cmpB xs ys = 0 then _ else cmpB xs ys
          rw [← HQ.out, if_neg h0]
      · obtain rfl : k = m := by omega
        clear hxs hrx hc
        go_wp2_with fail
        go_ret
        refine ⟨ret_int ?_, hbel.out⟩
        have hd : M.drop k = [] := List.drop_eq_nil_of_le (by rw [← HMM.out]; omega)
        rw [HAT.out k hK.out, drop_cons HX.out, hd]
        rfl
    · obtain rfl : k = n := by omega
      have hd : L.drop k = [] := List.drop_eq_nil_of_le (by rw [← HN.out]; omega)
      have HD := Lib.hid hd
      clear hd
      by_cases hlm : k < m
      · go_wp2_with fail
        go_ret
        refine ⟨ret_int ?_, hbel.out⟩
        obtain ⟨ys, hys⟩ : ∃ ys, M[k]? = some ys := ⟨_, List.getElem?_eq_getElem (by rw [← HMM.out]; exact hlm)⟩
        rw [HAT.out k hK.out, HD.out, drop_cons hys]
        rfl
      · go_wp2_with fail
        go_ret
        refine ⟨ret_int ?_, hbel.out⟩
        have hd : M.drop k = [] := List.drop_eq_nil_of_le (by rw [← HMM.out]; omega)
        rw [HAT.out k hK.out, HD.out, hd]
        rfl
end Go.Proofs.Ytmnkghbbcjnlfaa
