/- The edges beside a web, gathered into fragments (pure, layer 8). -/
import Derived.Test.YtlkddjpjhchjfaaU0
import Derived.Test.YtlkddjpjhchjfaaH7
namespace Go.Proofs.Ytlkddjpjhchjfaa
open Go.RowKit

/-- Whose the i-th edge is. -/
def ownF (n : Nat) (on : Nat → Bool) (r : Nat → Nat) (L : List (Int × Int)) (i : Nat) : Nat :=
  if on (L.getD i (0, 0)).1.toNat = false then r (L.getD i (0, 0)).1.toNat else if on (L.getD i (0, 0)).2.toNat = false then r (L.getD i (0, 0)).2.toNat else n + i
/-- The ends of an edge that are on the web. -/
def feetOf (on : Nat → Bool) (e : Int × Int) : List Int := (if on e.1.toNat then [e.1] else []) ++ (if on e.2.toNat then [e.2] else [])
def fragO (on : Nat → Bool) (L : List (Int × Int)) (l : List Nat) : List (Int × Int) × List Int := (l.map fun i => L.getD i (0, 0), l.flatMap fun i => feetOf on (L.getD i (0, 0)))
def fragsO (on : Nat → Bool) (L : List (Int × Int)) (own : Nat → Nat) (k : Nat) : List (List (Int × Int) × List Int) := (gath own k).map (fragO on L)
theorem fragsO_length (on : Nat → Bool) (L : List (Int × Int)) (own : Nat → Nat) (k : Nat) : (fragsO on L own k).length = (firsts own k).length := by simp [fragsO, gath_length]
theorem fragsO_le (on : Nat → Bool) (L : List (Int × Int)) (own : Nat → Nat) (k : Nat) : (fragsO on L own k).length ≤ k := by rw [fragsO_length]; exact firsts_le own k
theorem fragsO_new {on : Nat → Bool} {L : List (Int × Int)} {own : Nat → Nat} {k : Nat} {e : Int × Int} (he : L[k]? = some e) (h : place own k (own k) = none) : (fragsO on L own k ++ [([], [])]).set (fragsO on L own k).length ([e], feetOf on e) = fragsO on L own (k + 1) := by
  unfold fragsO
  rw [gath_new (place_none.1 h), List.map_append, List.set_append_right _ _ (by simp)]
  simp [fragO, List.getD, he]
theorem fragsO_old {on : Nat → Bool} {L : List (Int × Int)} {own : Nat → Nat} {k at_ : Nat} {e : Int × Int} (he : L[k]? = some e) (h : place own k (own k) = some at_) : ∃ x, (fragsO on L own k)[at_]? = some x ∧ (fragsO on L own k).set at_ (x.1 ++ [e], x.2 ++ feetOf on e) = fragsO on L own (k + 1) := by
  obtain ⟨l, h1, h2⟩ := gath_old h
  refine ⟨fragO on L l, by unfold fragsO; rw [List.getElem?_map, h1]; rfl, ?_⟩
  unfold fragsO
  rw [h2, List.map_set]
  simp [fragO, List.getD, he]
/-- Where an owner's edges are put, as the map says it. -/
def placeZ (own : Nat → Nat) (k : Nat) (z : Int) : Option Int := if 0 ≤ z then (place own k z.toNat).map fun (a : Nat) => (a : Int) else none
theorem placeZ_nat (own : Nat → Nat) (k v : Nat) : placeZ own k (v : Int) = (place own k v).map fun (a : Nat) => (a : Int) := by simp [placeZ]
theorem placeZ_zero (own : Nat → Nat) : placeZ own 0 = fun _ => none := by
  funext z
  unfold placeZ
  split
  · rw [(place_none (own := own) (k := 0) (key := z.toNat)).2 (fun j hj => by omega)]; rfl
  · rfl
theorem placeZ_new {own : Nat → Nat} {k : Nat} (h : place own k (own k) = none) (z : Int) : placeZ own (k + 1) z = if z = ((own k : Nat) : Int) then some (((firsts own k).length : Nat) : Int) else placeZ own k z := by
  unfold placeZ
  by_cases hz : 0 ≤ z
  · rw [if_pos hz, if_pos hz, place_new (place_none.1 h)]
    by_cases e : z = ((own k : Nat) : Int)
    · rw [if_pos e, if_pos (by omega)]; rfl
    · rw [if_neg e, if_neg (by omega)]
  · rw [if_neg hz, if_neg hz, if_neg (by omega)]
theorem placeZ_old {own : Nat → Nat} {k a : Nat} (h : place own k (own k) = some a) (z : Int) : placeZ own (k + 1) z = placeZ own k z := by
  obtain ⟨f, h1, h2⟩ := place_some h
  have hf := mem_firsts.1 (List.mem_of_getElem? h1)
  unfold placeZ
  split
  · rw [place_old hf.1 h2]
  · rfl
theorem place_lt {own : Nat → Nat} {k key a : Nat} (h : place own k key = some a) : a < (firsts own k).length := by
  obtain ⟨f, h1, _⟩ := place_some h
  exact (List.getElem?_eq_some_iff.1 h1).1
/-- Feet by rising numbers, each once. -/
def fin1 (x : List (Int × Int) × List Int) : List (Int × Int) × List Int := (x.1, Lib.compact (srtZ x.2))
def stp (F : List (List (Int × Int) × List Int)) (k : Nat) : List (List (Int × Int) × List Int) := (List.range F.length).map fun j => if j < k then fin1 (F.getD j ([], [])) else F.getD j ([], [])
theorem stp_length (F : List (List (Int × Int) × List Int)) (k : Nat) : (stp F k).length = F.length := by simp [stp]
theorem stp_zero (F : List (List (Int × Int) × List Int)) : stp F 0 = F := by
  apply List.ext_getElem?
  intro i
  by_cases h : i < F.length
  · simp [stp, h, List.getD]
  · rw [List.getElem?_eq_none (by rw [stp_length]; omega), List.getElem?_eq_none (by omega)]
theorem stp_all (F : List (List (Int × Int) × List Int)) : stp F F.length = F.map fin1 := by
  apply List.ext_getElem?
  intro i
  by_cases h : i < F.length
  · simp [stp, h, List.getD]
  · rw [List.getElem?_eq_none (by rw [stp_length]; omega), List.getElem?_eq_none (by rw [List.length_map]; omega)]
theorem stp_at {F : List (List (Int × Int) × List Int)} {k : Nat} {x : List (Int × Int) × List Int} (h : F[k]? = some x) : (stp F k)[k]? = some x := by
  obtain ⟨hk, hx⟩ := List.getElem?_eq_some_iff.1 h
  simp [stp, hk, hx]
theorem stp_step {F : List (List (Int × Int) × List Int)} {k : Nat} {x : List (Int × Int) × List Int} (h : F[k]? = some x) : (stp F k).set k (fin1 x) = stp F (k + 1) := by
  obtain ⟨hk, hx⟩ := List.getElem?_eq_some_iff.1 h
  apply List.ext_getElem?
  intro i
  by_cases hi : i < F.length
  · by_cases e : k = i
    · subst e
      rw [List.getElem?_set_self (by rw [stp_length]; exact hk)]
      simp [stp, hk, hx]
    · rw [List.getElem?_set_ne e]
      simp [stp, hi]
      by_cases h2 : i < k
      · rw [if_pos h2, if_pos (by omega)]
      · rw [if_neg h2, if_neg (by omega)]
  · rw [List.getElem?_eq_none (by rw [List.length_set, stp_length]; omega), List.getElem?_eq_none (by rw [stp_length]; omega)]
theorem feetOf_le (on : Nat → Bool) (e : Int × Int) : (feetOf on e).length ≤ 2 := by unfold feetOf; split <;> split <;> simp
theorem feetF_le (on : Nat → Bool) (L : List (Int × Int)) : ∀ l : List Nat, (l.flatMap fun i => feetOf on (L.getD i (0, 0))).length ≤ 2 * l.length
  | [] => by simp
  | i :: l => by
    have h1 := feetF_le on L l
    have h2 := feetOf_le on (L.getD i (0, 0))
    rw [List.flatMap_cons, List.length_append, List.length_cons]
    omega
theorem fragsO_sz {on : Nat → Bool} {L : List (Int × Int)} {own : Nat → Nat} {k j : Nat} {x : List (Int × Int) × List Int} (h : (fragsO on L own k)[j]? = some x) : x.1.length ≤ k ∧ x.2.length ≤ 2 * k := by
  unfold fragsO gath at h
  rw [List.getElem?_map, List.getElem?_map] at h
  cases hf : (firsts own k)[j]? with
  | none => rw [hf] at h; cases h
  | some f =>
    rw [hf] at h
    simp only [Option.map_some, Option.some.injEq] at h
    subst h
    have h1 : (those own k (own f)).length ≤ k := by
      have := List.length_filter_le (fun j => own j == own f) (List.range k)
      rw [List.length_range] at this
      exact this
    have h2 := feetF_le on L (those own k (own f))
    exact ⟨by show (List.map _ _).length ≤ k; rw [List.length_map]; exact h1, by show (List.flatMap _ _).length ≤ _; omega⟩
theorem feetOf_two (on : Nat → Bool) (x y : Nat) : feetOf on ((x : Int), (y : Int)) = (if on x then [(x : Int)] else []) ++ (if on y then [(y : Int)] else []) := by simp [feetOf]
end Go.Proofs.Ytlkddjpjhchjfaa
