/- A walk, step by step (no world here). -/
import Derived.Test.YtlkddjpjhchjfaaW6
namespace Go.Proofs.Ytlkddjpjhchjfaa
set_option maxRecDepth 100000

structure St where
  up : List Int
  order : List Nat
  list : List Nat
/-- May a walk go on to w? -/
def mayB (fr : Nat) (up : List Int) (w : Nat) : Bool := w != fr && decide (gd up w < 0)
def pick (T : List (List Int)) (fr : Nat) (up : List Int) (v : Nat) : Option Nat := ((T.getD v []).map Int.toNat).find? (mayB fr up)
def wstep (T : List (List Int)) (fr : Nat) (s : St) : St :=
  match s.list.getLast? with
  | none => s
  | some v => match pick T fr s.up v with
    | some w => ⟨s.up.set w (v : Int), s.order ++ [w], s.list ++ [w]⟩
    | none => ⟨s.up, s.order, s.list.dropLast⟩
def wrun (T : List (List Int)) (N fr : Nat) : Nat → St
  | 0 => ⟨List.replicate N (-1), [fr], [fr]⟩
  | k + 1 => wstep T fr (wrun T N fr k)
theorem wrun_stay {T : List (List Int)} {N fr k : Nat} (h : (wrun T N fr k).list = []) : ∀ m, wrun T N fr (k + m) = wrun T N fr k
  | 0 => rfl
  | m + 1 => by
    have ih := wrun_stay h m
    show wstep T fr (wrun T N fr (k + m)) = _
    rw [ih]
    unfold wstep
    rw [h]
    rfl
/-- Where it ends it ends alike. -/
theorem wrun_end {T : List (List Int)} {N fr k m : Nat} (h : (wrun T N fr k).list = []) (h2 : (wrun T N fr m).list = []) : wrun T N fr k = wrun T N fr m := by
  rcases Nat.le_total k m with e | e
  · obtain ⟨d, rfl⟩ := Nat.exists_eq_add_of_le e
    exact (wrun_stay h d).symm
  · obtain ⟨d, rfl⟩ := Nat.exists_eq_add_of_le e
    exact wrun_stay h2 d
/-- What holds of each state. -/
structure Good (T : List (List Int)) (N fr : Nat) (s : St) : Prop where
  len : s.up.length = N
  inL : ∀ v ∈ s.list, v < N
  inO : ∀ v ∈ s.order, v < N
  cnt : s.order.length + neg s.up = N + 1
  meas : 2 * neg s.up + s.list.length ≤ 2 * N + 1
theorem good_start (T : List (List Int)) {N fr : Nat} (hf : fr < N) : Good T N fr (wrun T N fr 0) := by
  have hn : neg (List.replicate N (-1)) = N := by simp [neg]
  refine ⟨by simp [wrun], by simp [wrun]; exact hf, by simp [wrun]; exact hf, ?_, ?_⟩
  · simp [wrun, hn]; omega
  · simp [wrun, hn]
theorem pick_some {T : List (List Int)} {fr v w : Nat} {up : List Int} (h : pick T fr up v = some w) : mayB fr up w = true ∧ ∃ x ∈ T.getD v [], x.toNat = w := by
  unfold pick at h
  refine ⟨by simpa using List.find?_some h, ?_⟩
  obtain ⟨x, hx, e⟩ := List.mem_map.1 (List.mem_of_find?_eq_some h)
  exact ⟨x, hx, e⟩
theorem Good.push {T : List (List Int)} {N fr v w : Nat} {s : St} (h : Good T N fr s) (hw : w < N) (hm : mayB fr s.up w = true) : Good T N fr ⟨s.up.set w (v : Int), s.order ++ [w], s.list ++ [w]⟩ ∧ neg (s.up.set w (v : Int)) + 1 = neg s.up := by
  have hlt : gd s.up w < 0 := by
    unfold mayB at hm
    rw [Bool.and_eq_true] at hm
    simpa using hm.2
  have hn := neg_set s.up w (v : Int) (by rw [h.len]; exact hw) hlt (by omega)
  have c := h.cnt
  have m := h.meas
  refine ⟨⟨by simp [h.len], ?_, ?_, ?_, ?_⟩, hn⟩
  · intro x hx
    rcases List.mem_append.1 hx with h1 | h1
    · exact h.inL x h1
    · rw [List.mem_singleton.1 h1]; exact hw
  · intro x hx
    rcases List.mem_append.1 hx with h1 | h1
    · exact h.inO x h1
    · rw [List.mem_singleton.1 h1]; exact hw
  · simp only [List.length_append, List.length_singleton]; omega
  · simp only [List.length_append, List.length_singleton]; omega
theorem Good.pop {T : List (List Int)} {N fr : Nat} {s : St} (h : Good T N fr s) : Good T N fr ⟨s.up, s.order, s.list.dropLast⟩ := by
  have m := h.meas
  refine ⟨h.len, fun x hx => h.inL x (List.dropLast_subset _ hx), h.inO, h.cnt, ?_⟩
  simp only [List.length_dropLast]; omega
/-- The first one that may be is found: those ahead of it may not. -/
theorem pick_found {T : List (List Int)} {fr v w i : Nat} {up : List Int} (hi : (T.getD v [])[i]? = some (w : Int)) (hs : ∀ (j x : Nat), j < i → (T.getD v [])[j]? = some (x : Int) → mayB fr up x = false) (hnat : ∀ x ∈ T.getD v [], ∃ y : Nat, x = (y : Int)) (hm : mayB fr up w = true) : pick T fr up v = some w := by
  unfold pick
  generalize T.getD v [] = R at *
  rw [List.find?_eq_some_iff_getElem]
  have hil := (List.getElem?_eq_some_iff.1 hi).1
  have hie := (List.getElem?_eq_some_iff.1 hi).2
  refine ⟨hm, i, by simpa using hil, by simp [hie], fun j hj => ?_⟩
  obtain ⟨y, hy⟩ := hnat (R[j]'(by omega)) (List.getElem_mem _)
  have := hs j y hj (by rw [List.getElem?_eq_getElem (by omega), hy])
  simp [hy, this]
theorem pick_none {T : List (List Int)} {fr v : Nat} {up : List Int} (hs : ∀ (j x : Nat), (T.getD v [])[j]? = some (x : Int) → mayB fr up x = false) (hnat : ∀ x ∈ T.getD v [], ∃ y : Nat, x = (y : Int)) : pick T fr up v = none := by
  unfold pick
  rw [List.find?_eq_none]
  intro w hw
  obtain ⟨x, hx, rfl⟩ := List.mem_map.1 hw
  obtain ⟨y, rfl⟩ := hnat x hx
  obtain ⟨j, hj⟩ := List.getElem?_of_mem hx
  have := hs j y hj
  simp [this]
end Go.Proofs.Ytlkddjpjhchjfaa
