/- Lists of lists of ints are held against one another. -/
import Derived.Test.YtgldlanfbkgfjaaW11
namespace Go.Proofs.Ytgldlanfbkgfjaa
open Go.RowKit

set_option maxHeartbeats 4000000 in
theorem sameR_any (A B : Option Addr) (c d n m : Nat) (L M : List (List Int)) (w : World) (hl : RdR w A L) (hm : RdR w B M) (bl : ∀ xs ∈ L, xs.length ≤ 1000000) (bm : ∀ xs ∈ M, xs.length ≤ 1000000) (hL : n ≤ 1000000) (hM : m ≤ 1000000) (hn : n = L.length) (hmm : m = M.length) :
    Calls Try.prog 25 #[.slice A n c, .slice B m d] w fun e w' => e = .returned (.bool (decide (L = M))) ∧ Below w.heap.size w w' := by
  have HL := Lib.hid hl
  have HM := Lib.hid hm
  have HN := Lib.hid hn
  have HMM := Lib.hid hmm
  have BL := Lib.hid bl
  have BM := Lib.hid bm
  by_cases hnm : n = m
  · subst hnm
    have hd : ((n : Int) == (n : Int)) = true := by simp
    have HE : Hid (L.length = M.length) := show _ = _ by rw [← hn, ← hmm]
    clear hl hm hn hmm bl bm hd
    obtain ⟨r, hr⟩ : ∃ r, decide (L = M) = r := ⟨_, rfl⟩
    have HR := Lib.hid hr
    rw [hr]
    clear hr
    go_enter Try.func25, Try.ntmps25
    go_wp2_with fail
    go_loopw [5] (fun s wr => ∃ k : Nat, k ≤ n ∧ s = .int .i64 k ∧ Hid (∀ q, q < k → L[q]? = M[q]?) ∧ Hid (Below w.heap.size w wr)) (fun s _ => n - (intOf s).toNat)
    case atStart => exact ⟨0, Nat.zero_le _, rfl, fun q h => absurd h (by omega), Lib.hid (Below.refl _ _)⟩
    case round =>
      obtain ⟨k, hk, rfl, hK, hbel⟩ := hrel
      by_cases hlt : k < n
      · obtain ⟨x, hx⟩ : ∃ x, L[k]? = some x := ⟨_, List.getElem?_eq_getElem (by rw [← HN.out]; exact hlt)⟩
        obtain ⟨y, hy⟩ : ∃ y, M[k]? = some y := ⟨_, List.getElem?_eq_getElem (by rw [← HMM.out]; exact hlt)⟩
        obtain ⟨ad, X, cx, rfl, hal, c1, rx⟩ := (HL.out.below hbel.out) k x hx
        obtain ⟨bd, Y, cy, rfl, hbl, c2, ry⟩ := (HM.out.below hbel.out) k y hy
        have HX := Lib.hid hx
        have HY := Lib.hid hy
        have hI0 : (0 : Int) ≤ (k : Int) := by omega
        have hI1 : (k : Int) < (n : Nat) := by omega
        obtain ⟨v, hv⟩ : ∃ v, decide (x = y) = v := ⟨_, rfl⟩
        have HV := Lib.hid hv
        have HS : Hid (∀ w', Below wr.heap.size wr w' → Calls Try.prog 18 #[.slice X x.length cx, .slice Y y.length cy] w' fun e w'' => e = .returned (.bool v) ∧ Below w'.heap.size w' w'') := by
          intro w' hb
          rw [← hv]
          exact sameZ_any X Y cx cy x.length y.length x y w' (rx.below hb) (ry.below hb) (BL.out x (List.mem_of_getElem? hx)) (BM.out y (List.mem_of_getElem? hy)) rfl rfl
        have HKP : Hid (∀ w', Below wr.heap.size wr w' → w'.cell? (ad.add k) = some (.slice X x.length cx) ∧ w'.cell? (bd.add k) = some (.slice Y y.length cy) ∧ Below wr.heap.size wr w') := fun w' hb =>
          ⟨by rw [hb.cell (by rw [block_add]; exact hal)]; exact c1, by rw [hb.cell (by rw [block_add]; exact hbl)]; exact c2, hb⟩
        have hD := HKP.out wr.drew (Below.refl _ _).drew
        generalize x.length = lx at *
        generalize y.length = ly at *
        clear hx hy rx ry hv c1 c2
        go_upto_region 6 with fail
        cases v
        · go_region_held3 (fun w' => w'.cell? (ad.add k) = some (.slice X lx cx) ∧ w'.cell? (bd.add k) = some (.slice Y ly cy) ∧ Below wr.heap.size wr w')
            (first | exact hS | exact hD)
            (first | (go_at_call 18; refine (HS.out _ (‹_ ∧ _ ∧ Below wr.heap.size wr _›).2.2).mono ?_; rintro e wn ⟨rfl, hb⟩; have hS := HKP.out wn (next_below (‹_ ∧ _ ∧ Below wr.heap.size wr _›).2.2 hb)))
          all_goals go_wp2_with fail
          all_goals go_ret
          all_goals
            refine ⟨?_, next_below hbel.out hS.2.2⟩
            have hxy : x ≠ y := of_decide_eq_false HV.out
            have hdec : decide (L = M) = false := decide_eq_false (fun e => hxy (by have h1 := HX.out; rw [e, HY.out] at h1; exact (Option.some.inj h1).symm))
            rw [← HR.out, hdec]
            rfl
        · go_region_held3 (fun w' => w'.cell? (ad.add k) = some (.slice X lx cx) ∧ w'.cell? (bd.add k) = some (.slice Y ly cy) ∧ Below wr.heap.size wr w')
            (first | exact hS | exact hD)
            (first | (go_at_call 18; refine (HS.out _ (‹_ ∧ _ ∧ Below wr.heap.size wr _›).2.2).mono ?_; rintro e wn ⟨rfl, hb⟩; have hS := HKP.out wn (next_below (‹_ ∧ _ ∧ Below wr.heap.size wr _›).2.2 hb)))
          all_goals go_wp2_with fail
          all_goals go_roundw
          case rel =>
            refine ⟨k + 1, by omega, by go_num, fun q hq => ?_, Lib.hid (next_below hbel.out hS.2.2)⟩
            by_cases hqk : q = k
            · subst hqk
              rw [HX.out, HY.out, of_decide_eq_true HV.out]
            · exact hK.out q (by omega)
          case measure => simp [intOf]; omega
      · obtain rfl : k = n := by omega
        go_wp2_with fail
        go_ret
        refine ⟨?_, hbel.out⟩
        have he : L = M := by
          apply List.ext_getElem?
          intro q
          by_cases hq : q < k
          · exact hK.out q hq
          · rw [List.getElem?_eq_none (by rw [← HN.out]; omega), List.getElem?_eq_none (by rw [← HMM.out]; omega)]
        rw [← HR.out, decide_eq_true he]
        rfl
  · have hd : ((n : Int) == (m : Int)) = false := by simp; omega
    have he : Hid (decide (L = M) = false) := by
      show _ = _
      exact decide_eq_false (fun h => hnm (by rw [hn, hmm, h]))
    clear hl hm hn hmm bl bm
    go_enter Try.func25, Try.ntmps25
    go_wp2_with fail
    go_ret
    rw [he.out]
    exact ⟨rfl, Below.refl _ _⟩
end Go.Proofs.Ytgldlanfbkgfjaa
