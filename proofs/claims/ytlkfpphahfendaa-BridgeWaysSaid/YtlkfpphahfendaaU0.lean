/- Sets that are joined, by heads (pure): who is whose head; paths made shorter; two sets made one. -/
import Derived.Test.YtlkfpphahfendaaRG
namespace Go.Proofs.Ytlkfpphahfendaa
open Go.RowKit

/-- A row of numbers at a place. -/
def hd (H : List Nat) (v : Nat) : Nat := H.getD v 0
theorem hd_at {H : List Nat} {v : Nat} (h : v < H.length) : H[v]? = some (hd H v) := by simp [hd, List.getD, h]
theorem hd_set {H : List Nat} {u v x : Nat} (h : u < H.length) : hd (H.set u x) v = if v = u then x else hd H v := by
  unfold hd
  rw [List.getD_eq_getElem?_getD, List.getD_eq_getElem?_getD, List.getElem?_set]
  by_cases e : u = v
  · subst e
    simp [h]
  · rw [if_neg e, if_neg (fun h => e h.symm)]
/-- r tells of each its set's head; d goes down on the way there. -/
structure UF (n : Nat) (H : List Nat) (r : Nat → Nat) (d : Nat → Nat) : Prop where
  len : H.length = n
  lt : ∀ v, v < n → hd H v < n
  root : ∀ v, v < n → r (hd H v) = r v
  top : ∀ v, v < n → hd H v = v → r v = v
  fix : ∀ v, v < n → hd H (r v) = r v
  rlt : ∀ v, v < n → r v < n
  down : ∀ v, v < n → hd H v ≠ v → d (hd H v) < d v
theorem UF.idem {n : Nat} {H : List Nat} {r d : Nat → Nat} (h : UF n H r d) {v : Nat} (hv : v < n) : r (r v) = r v := h.top _ (h.rlt v hv) (h.fix v hv)
theorem UF.self {n : Nat} {H : List Nat} {r d : Nat → Nat} (h : UF n H r d) {v : Nat} (hv : v < n) (e : hd H v ≠ v) : r v ≠ v := fun e2 => e (by have := h.fix v hv; rw [e2] at this; exact this)
theorem UF.start (n : Nat) : UF n (List.range n) id (fun _ => 0) := by
  have h : ∀ v, v < n → hd (List.range n) v = v := fun v hv => by simp [hd, List.getD, hv]
  refine ⟨List.length_range, fun v hv => ?_, fun v hv => ?_, fun v _ _ => rfl, fun v hv => h v hv, fun v hv => hv, fun v hv hne => absurd (h v hv) hne⟩
  · rw [h v hv]; exact hv
  · rw [h v hv]
/-- A path made shorter. -/
theorem UF.half {n : Nat} {H : List Nat} {r d : Nat → Nat} (h : UF n H r d) {v : Nat} (hv : v < n) (hne : hd H v ≠ v) : UF n (H.set v (hd H (hd H v))) r d := by
  have hl : v < H.length := by rw [h.len]; exact hv
  have h1 := h.lt v hv
  have h2 := h.lt _ h1
  have hdn : d (hd H (hd H v)) < d v := by
    have a := h.down v hv hne
    by_cases e : hd H (hd H v) = hd H v
    · rw [e]; exact a
    · exact Nat.lt_trans (h.down _ h1 e) a
  refine ⟨by rw [List.length_set]; exact h.len, fun u hu => ?_, fun u hu => ?_, fun u hu e => ?_, fun u hu => ?_, h.rlt, fun u hu e => ?_⟩
  · rw [hd_set hl]; split
    · exact h2
    · exact h.lt u hu
  · rw [hd_set hl]; split
    · next e => subst e; rw [h.root _ h1, h.root _ hv]
    · exact h.root u hu
  · rw [hd_set hl] at e
    split at e
    · next e2 =>
      subst e2
      rw [e] at hdn
      exact absurd hdn (Nat.lt_irrefl _)
    · exact h.top u hu e
  · rw [hd_set hl]; split
    · next e => exact absurd e (fun e => by have := h.fix u hu; rw [e] at this; exact hne this)
    · exact h.fix u hu
  · rw [hd_set hl] at e ⊢
    split
    · next e2 => subst e2; exact hdn
    · next e2 => rw [if_neg e2] at e; exact h.down u hu e
/-- Whose set a's is when it is joined to b's. -/
def joinR (r : Nat → Nat) (a b : Nat) : Nat → Nat := fun x => if r x = r a then r b else r x
theorem joinR_iff (r : Nat → Nat) (a b x y : Nat) : joinR r a b x = joinR r a b y ↔ r x = r y ∨ (r x = r a ∧ r y = r b) ∨ (r x = r b ∧ r y = r a) := by
  unfold joinR
  split <;> split <;> omega
theorem UF.join {n : Nat} {H : List Nat} {r d : Nat → Nat} (h : UF n H r d) {a b : Nat} (ha : a < n) (hb : b < n) :
    ∃ d', UF n (H.set (r a) (r b)) (joinR r a b) d' := by
  have hra := h.rlt a ha
  have hrb := h.rlt b hb
  have hl : r a < H.length := by rw [h.len]; exact hra
  by_cases e : r a = r b
  · have e1 : H.set (r a) (r b) = H := by
      apply List.ext_getElem?
      intro i
      rw [List.getElem?_set]
      split
      · next e2 =>
        subst e2
        rw [hd_at hl, h.fix a ha, e]
      · rfl
    have e2 : joinR r a b = r := by
      funext x
      unfold joinR
      split
      · next e3 => rw [e3, e]
      · rfl
    rw [e1, e2]
    exact ⟨d, h⟩
  · refine ⟨fun x => if r x = r a then d x + d (r b) + 1 else d x, ⟨by rw [List.length_set]; exact h.len, fun u hu => ?_, fun u hu => ?_, fun u hu e2 => ?_, fun u hu => ?_, fun u hu => ?_, fun u hu e2 => ?_⟩⟩
    · rw [hd_set hl]; split
      · exact hrb
      · exact h.lt u hu
    · rw [hd_set hl]; split
      · next e2 =>
        subst e2
        unfold joinR
        rw [h.idem hb, h.idem ha, if_neg (fun h => e h.symm), if_pos rfl]
      · unfold joinR
        rw [h.root u hu]
    · rw [hd_set hl] at e2
      split at e2
      · next e3 => exact absurd (e3.symm.trans e2.symm) (by rw [e3] at e2; exact fun _ => e e2.symm)
      · next e3 =>
        have h1 := h.top u hu e2
        unfold joinR
        rw [h1, if_neg e3]
    · unfold joinR
      split
      · rw [hd_set hl, if_neg (fun h => e h.symm)]
        exact h.fix b hb
      · next e3 =>
        rw [hd_set hl, if_neg e3]
        exact h.fix u hu
    · unfold joinR
      split
      · exact hrb
      · exact h.rlt u hu
    · rw [hd_set hl] at e2 ⊢
      split
      · next e3 =>
        subst e3
        rw [if_pos (h.idem ha)]
        simp only [h.idem hb]
        rw [if_neg (fun h => e h.symm)]
        omega
      · next e3 =>
        rw [if_neg e3] at e2
        have h1 := h.down u hu e2
        simp only [h.root u hu]
        split <;> omega
end Go.Proofs.Ytlkfpphahfendaa
