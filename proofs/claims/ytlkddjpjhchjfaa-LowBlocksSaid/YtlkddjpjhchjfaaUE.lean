/- Some edges of a right graph are a right graph (pure). -/
import Derived.Test.YtlkddjpjhchjfaaW22
namespace Go.Proofs.Ytlkddjpjhchjfaa
set_option maxRecDepth 100000
open Go.RowKit

theorem rightG_pw8 {N : Int} {E : List (Int × Int)} (h : rightG N E = true) : E.Pairwise fun a b => cmpP a b < 0 := by
  have ho := rightG_ord h
  rw [List.pairwise_iff_getElem]
  intro i j hi hj hij
  have := ho i j hij hj
  rwa [show E.getD i (0, 0) = E[i] by simp [List.getD, hi], show E.getD j (0, 0) = E[j] by simp [List.getD, hj]] at this
theorem rightG_of8 {N : Int} {E : List (Int × Int)} (h0 : 0 ≤ N ∧ N ≤ 200) (hl : E.length ≤ 594) (he : ∀ e ∈ E, 0 ≤ e.1 ∧ e.1 < e.2 ∧ e.2 < N) (hp : E.Pairwise fun a b => cmpP a b < 0) : rightG N E = true := by
  refine rightG_yes ⟨h0.1, h0.2, hl⟩ fun k hk => ?_
  unfold okE edgeG
  rw [Bool.and_eq_true, Bool.or_eq_true, show E.getD k (0, 0) = E[k] by simp [List.getD, hk]]
  refine ⟨by simpa using he _ (List.getElem_mem hk), ?_⟩
  by_cases h1 : k = 0
  · left; simpa using h1
  · right
    rw [show E.getD (k - 1) (0, 0) = E[k - 1] by rw [List.getD_eq_getElem?_getD, List.getElem?_eq_getElem (by omega)]; rfl]
    rw [List.pairwise_iff_getElem] at hp
    simpa using hp (k - 1) k (by omega) hk (by omega)
theorem sub_right {N : Int} {E H : List (Int × Int)} (h : rightG N E = true) (hs : H.Sublist E) : rightG N H = true := by
  obtain ⟨b1, b2, b3⟩ := rightG_bounds h
  refine rightG_of8 ⟨b1, b2⟩ (Nat.le_trans hs.length_le b3) (fun e he => ?_) ((rightG_pw8 h).sublist hs)
  obtain ⟨q, hq⟩ := List.getElem?_of_mem (hs.subset he)
  exact rightG_edge h hq
theorem right_nodup {N : Int} {E : List (Int × Int)} (h : rightG N E = true) : E.Nodup := by
  have hp := rightG_pw8 h
  refine hp.imp fun hlt e => ?_
  subst e
  rw [(cmpP_zero _ _).2 rfl] at hlt
  omega
end Go.Proofs.Ytlkddjpjhchjfaa
