/- Two circles held against one another. -/
import Derived.Test.YtmnkghbbcjnlfaaR1
namespace Go.Proofs.Ytmnkghbbcjnlfaa
open Go.RowKit

theorem cmpW_at {L M : List (List Nat)} {k : Nat} (h : ∀ j, j < k → ∃ x, L[j]? = some x ∧ M[j]? = some x) : cmpW L M = cmpW (L.drop k) (M.drop k) := cmpL_drop (cmpL_stands cmpN_stands) k L M h
theorem drop_cons {α : Type} {L : List α} {k : Nat} {x : α} (h : L[k]? = some x) : L.drop k = x :: L.drop (k + 1) := by
  obtain ⟨hl, rfl⟩ := List.getElem?_eq_some_iff.1 h
  rw [List.getElem_cons_drop hl]

set_option maxHeartbeats 1000000 in
theorem compareFunc_any (A B : Option Addr) (c d n m : Nat) (L M : List (List Nat)) (w : World) (hl : RdW w A L) (hm : RdW w B M) (ol : OkW L) (om : OkW M) (hL : L.length ≤ 1000000) (hM : M.length ≤ 1000000) (hn : n = L.length) (hmm : m = M.length) :
    Calls Try.prog 26 #[.slice A n c, .slice B m d, .func (.func 27) #[] #[]] w fun e w' => e = .returned (.int .i64 (cmpW L M)) ∧ w = w' := by
  have HL := Lib.hid hl
  have HM := Lib.hid hm
  have HR := Lib.hid (show cmpW L M = cmpW L M from rfl)
  have HAT := Lib.hid (fun k h => cmpW_at (L := L) (M := M) (k := k) h)
  generalize hr : cmpW L M = r at HAT ⊢
  have HN := Lib.hid hn
  have HMM := Lib.hid hmm
  rw [← hn] at hL
  rw [← hmm] at hM
  clear hl hm hn hmm hr HR
  go_enter Try.func26, Try.ntmps26
  go_wp2_with fail
  go_loop [13] (fun i => ∃ k : Nat, k ≤ n ∧ i = .int .i64 k ∧ Hid (∀ j, j < k → ∃ x, L[j]? = some x ∧ M[j]? = some x)) (fun i => n - (intOf i).toNat)
  case atStart => exact ⟨0, Nat.zero_le _, rfl, fun j h => absurd h (by omega)⟩
  case round =>
    obtain ⟨k, hk, rfl, hK⟩ := hrel
    by_cases hlt : k < n
    · obtain ⟨xs, hxs⟩ : ∃ xs, L[k]? = some xs := ⟨_, List.getElem?_eq_getElem (by rw [← HN.out]; exact hlt)⟩
      obtain ⟨ad, C, c2, rfl, hla, hc, hrx, h1, h2, _⟩ := HL.out k xs hxs
      have HX := Lib.hid hxs
      have HRX := Lib.hid hrx
      clear hxs hrx
      by_cases hkm : k < m
      · obtain ⟨ys, hys⟩ : ∃ ys, M[k]? = some ys := ⟨_, List.getElem?_eq_getElem (by rw [← HMM.out]; exact hkm)⟩
        obtain ⟨bd, D, d2, rfl, hlb, hcb, hry, g1, g2, _⟩ := HM.out k ys hys
        have HY := Lib.hid hys
        have HRY := Lib.hid hry
        clear hys hry
        go_wp2_with fail
        refine (compare_any C D c2 d2 xs ys w HRX.out HRY.out (ol _ (List.mem_of_getElem? HX.out)) (om _ (List.mem_of_getElem? HY.out))).mono ?_
        rintro e w1 ⟨rfl, rfl⟩
        obtain ⟨q, hq⟩ : ∃ q, q = cmpB xs ys := ⟨_, rfl⟩
        rw [← hq]
        have HQ := Lib.hid hq
        clear hq
        by_cases h0 : q = 0
        · subst h0
          go_wp2_with fail
          go_round
          case rel =>
            refine ⟨k + 1, by omega, by go_num, fun j hj => ?_⟩
            by_cases hjk : j = k
            · subst hjk
              have := (cmpL_stands cmpN_stands).only xs ys HQ.out.symm
              subst this
              exact ⟨xs, HX.out, HY.out⟩
            · exact hK.out j (by omega)
          case measure => simp [intOf]; omega
        · have hq0 : (q == 0) = false := by simpa using h0
          go_wp2_with fail
          go_ret
          refine ⟨ret_int ?_, rfl⟩
          rw [HAT.out k hK.out, drop_cons HX.out, drop_cons HY.out]
          show _ = if cmpB xs ys = 0 then _ else cmpB xs ys
          rw [← HQ.out, if_neg h0]
      · go_wp2_with fail
        go_ret
        refine ⟨ret_int ?_, rfl⟩
        have hd : M.drop k = [] := List.drop_eq_nil_of_le (by rw [← HMM.out]; omega)
        rw [HAT.out k hK.out, drop_cons HX.out, hd]
        rfl
    · obtain rfl : k = n := by omega
      have hkm : k ≤ m := by
        by_cases h0 : k = 0
        · omega
        · obtain ⟨x, _, hx⟩ := hK.out (k - 1) (by omega)
          have := (List.getElem?_eq_some_iff.1 hx).1
          rw [← HMM.out] at this
          omega
      have hd : L.drop k = [] := List.drop_eq_nil_of_le (by rw [← HN.out]; omega)
      have HD := Lib.hid hd
      clear hd
      by_cases hlm : k < m
      · go_wp2_with fail
        go_ret
        refine ⟨ret_int ?_, rfl⟩
        obtain ⟨ys, hys⟩ : ∃ ys, M[k]? = some ys := ⟨_, List.getElem?_eq_getElem (by rw [← HMM.out]; exact hlm)⟩
        rw [HAT.out k hK.out, HD.out, drop_cons hys]
        rfl
      · go_wp2_with fail
        go_ret
        refine ⟨ret_int ?_, rfl⟩
        have hd : M.drop k = [] := List.drop_eq_nil_of_le (by rw [← HMM.out]; omega)
        rw [HAT.out k hK.out, HD.out, hd]
        rfl

set_option maxHeartbeats 400000 in
theorem ringCompare_any (A B : Option Addr) (c d n m : Nat) (L M : List (List Nat)) (w : World) (hl : RdW w A L) (hm : RdW w B M) (ol : OkW L) (om : OkW M) (hL : L.length ≤ 1000000) (hM : M.length ≤ 1000000) (hn : n = L.length) (hmm : m = M.length) :
    Calls Try.prog 16 #[.slice A n c, .slice B m d] w fun e w' => e = .returned (.int .i64 (cmpW L M)) ∧ w = w' := by
  have C := Lib.hid (compareFunc_any A B c d n m L M w hl hm ol om hL hM hn hmm)
  generalize cmpW L M = r at *
  clear hl hm hn hmm
  go_enter Try.func16, Try.ntmps16
  go_wp2_with fail
  refine C.out.mono ?_
  rintro e w1 ⟨rfl, rfl⟩
  go_wp2_with fail
  go_ret
  exact ⟨rfl, rfl⟩
end Go.Proofs.Ytmnkghbbcjnlfaa
