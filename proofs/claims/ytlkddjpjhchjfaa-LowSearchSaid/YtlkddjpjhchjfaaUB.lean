/- Edges gathered by a key, in the order in which keys are met (pure; layer 5). -/
import Derived.Test.YtlkddjpjhchjfaaU0
namespace Go.Proofs.Ytlkddjpjhchjfaa
open Go.RowKit

/-- The edges of each key. -/
def blkO (L : List (Int × Int)) (own : Nat → Nat) (k : Nat) : List (List (Int × Int)) := (gath own k).map fun l => l.map fun i => L.getD i (0, 0)
theorem blkO_length (L : List (Int × Int)) (own : Nat → Nat) (k : Nat) : (blkO L own k).length = (firsts own k).length := by simp [blkO, gath_length]
theorem blkO_le (L : List (Int × Int)) (own : Nat → Nat) (k : Nat) : (blkO L own k).length ≤ k := by rw [blkO_length]; exact firsts_le own k
theorem blkO_new {L : List (Int × Int)} {own : Nat → Nat} {k : Nat} {e : Int × Int} (he : L[k]? = some e) (h : place own k (own k) = none) : (blkO L own k ++ [[]]).set (blkO L own k).length [e] = blkO L own (k + 1) := by
  unfold blkO
  rw [gath_new (place_none.1 h), List.map_append, List.set_append_right _ _ (by simp)]
  simp [List.getD, he]
theorem blkO_old {L : List (Int × Int)} {own : Nat → Nat} {k at_ : Nat} {e : Int × Int} (he : L[k]? = some e) (h : place own k (own k) = some at_) : ∃ x, (blkO L own k)[at_]? = some x ∧ (blkO L own k).set at_ (x ++ [e]) = blkO L own (k + 1) := by
  obtain ⟨l, h1, h2⟩ := gath_old h
  refine ⟨l.map fun i => L.getD i (0, 0), by unfold blkO; rw [List.getElem?_map, h1]; rfl, ?_⟩
  unfold blkO
  rw [h2, List.map_set]
  simp [List.getD, he]
theorem blkO_sz {L : List (Int × Int)} {own : Nat → Nat} {k j : Nat} {x : List (Int × Int)} (h : (blkO L own k)[j]? = some x) : x.length ≤ k := by
  unfold blkO gath at h
  rw [List.getElem?_map, List.getElem?_map] at h
  cases hf : (firsts own k)[j]? with
  | none => rw [hf] at h; cases h
  | some f =>
    rw [hf] at h
    simp only [Option.map_some, Option.some.injEq] at h
    subst h
    have := List.length_filter_le (fun j => own j == own f) (List.range k)
    rw [List.length_range] at this
    rw [List.length_map]
    exact this
/-- Where an owner's edges are put, as the map says it. -/
def plcZ (own : Nat → Nat) (k : Nat) (z : Int) : Option Int := if 0 ≤ z then (place own k z.toNat).map fun (a : Nat) => (a : Int) else none
theorem plcZ_nat (own : Nat → Nat) (k v : Nat) : plcZ own k (v : Int) = (place own k v).map fun (a : Nat) => (a : Int) := by simp [plcZ]
theorem plcZ_zero (own : Nat → Nat) : plcZ own 0 = fun _ => none := by
  funext z
  unfold plcZ
  split
  · rw [(place_none (own := own) (k := 0) (key := z.toNat)).2 (fun j hj => by omega)]; rfl
  · rfl
theorem plcZ_new {own : Nat → Nat} {k : Nat} (h : place own k (own k) = none) (z : Int) : plcZ own (k + 1) z = if z = ((own k : Nat) : Int) then some (((firsts own k).length : Nat) : Int) else plcZ own k z := by
  unfold plcZ
  by_cases hz : 0 ≤ z
  · rw [if_pos hz, if_pos hz, place_new (place_none.1 h)]
    by_cases e : z = ((own k : Nat) : Int)
    · rw [if_pos e, if_pos (by omega)]; rfl
    · rw [if_neg e, if_neg (by omega)]
  · rw [if_neg hz, if_neg hz, if_neg (by omega)]
theorem plcZ_old {own : Nat → Nat} {k a : Nat} (h : place own k (own k) = some a) (z : Int) : plcZ own (k + 1) z = plcZ own k z := by
  obtain ⟨f, h1, h2⟩ := place_some h
  have hf := mem_firsts.1 (List.mem_of_getElem? h1)
  unfold plcZ
  split
  · rw [place_old hf.1 h2]
  · rfl
end Go.Proofs.Ytlkddjpjhchjfaa
