/- The fragments beside a web, as a function (pure, layer 8). -/
import Derived.Test.YtlkddjpjhchjfaaU3
import Derived.Test.YtlkddjpjhchjfaaU0
namespace Go.Proofs.Ytlkddjpjhchjfaa
set_option maxRecDepth 100000
open Go.RowKit

/-- Is a vertex on a web? -/
def onW (W : List (Int × Int)) (v : Nat) : Bool := W.any fun e => e.1 == (v : Int) || e.2 == (v : Int)
/-- The heads of all, behind the first k edges. -/
def rT (on : Nat → Bool) (L : List (Int × Int)) (n : Nat) : Nat → List Nat
  | 0 => List.range n
  | k + 1 => match L[k]? with
    | none => rT on L n k
    | some e => if on e.1.toNat || on e.2.toNat then rT on L n k else (rT on L n k).map fun c => if c = (rT on L n k).getD e.1.toNat 0 then (rT on L n k).getD e.2.toNat 0 else c
theorem rT_length (on : Nat → Bool) (L : List (Int × Int)) (n : Nat) : ∀ k, (rT on L n k).length = n
  | 0 => by simp [rT]
  | k + 1 => by
    unfold rT
    split
    · exact rT_length on L n k
    · split
      · exact rT_length on L n k
      · rw [List.length_map]; exact rT_length on L n k
theorem rT_lt (on : Nat → Bool) (L : List (Int × Int)) (n : Nat) (hin : ∀ e ∈ L, 0 ≤ e.1 ∧ e.1 < n ∧ 0 ≤ e.2 ∧ e.2 < n) : ∀ k x, x < n → (rT on L n k).getD x 0 < n
  | 0, x, hx => by simp [rT, List.getD, hx]
  | k + 1, x, hx => by
    have ih := rT_lt on L n hin k
    unfold rT
    split
    · exact ih x hx
    · rename_i e he
      split
      · exact ih x hx
      · have h4 := hin e (List.mem_of_getElem? he)
        rw [List.getD_eq_getElem?_getD, List.getElem?_map, List.getElem?_eq_getElem (by rw [rT_length]; exact hx)]
        simp only [Option.map_some, Option.getD_some]
        split
        · exact ih _ (by omega)
        · have := ih x hx
          rw [List.getD_eq_getElem?_getD, List.getElem?_eq_getElem (by rw [rT_length]; exact hx)] at this
          exact this
theorem rT_iff (on : Nat → Bool) (L : List (Int × Int)) (n : Nat) (hin : ∀ e ∈ L, 0 ≤ e.1 ∧ e.1 < n ∧ 0 ≤ e.2 ∧ e.2 < n) : ∀ k x y, x < n → y < n → ((rT on L n k).getD x 0 = (rT on L n k).getD y 0 ↔ cnR on L k x y)
  | 0, x, y, hx, hy => by simp [rT, cnR, List.getD, hx, hy]
  | k + 1, x, y, hx, hy => by
    have ih := rT_iff on L n hin k
    unfold rT
    cases he : L[k]? with
    | none =>
      have : cnR on L (k + 1) x y ↔ cnR on L k x y := by
        show (match L[k]? with | none => _ | some e => _) ↔ _
        rw [he]
      rw [this]
      exact ih x y hx hy
    | some e =>
      have h4 := hin e (List.mem_of_getElem? he)
      obtain ⟨ea, eb⟩ := e
      simp only at h4
      obtain ⟨a, rfl⟩ := Int.eq_ofNat_of_zero_le h4.1
      obtain ⟨b, rfl⟩ := Int.eq_ofNat_of_zero_le h4.2.2.1
      simp only [Int.toNat_natCast]
      cases ho : on a || on b with
      | true =>
        simp only [if_true]
        rw [cnR_on he ho]
        exact ih x y hx hy
      | false =>
        rw [cnR_off he ho]
        simp only [Bool.false_eq_true, if_false]
        have hg : ∀ z, z < n → ((rT on L n k).map fun c => if c = (rT on L n k).getD a 0 then (rT on L n k).getD b 0 else c).getD z 0 = joinR (fun v => (rT on L n k).getD v 0) a b z := by
          intro z hz
          have hl : z < (rT on L n k).length := by rw [rT_length]; exact hz
          unfold joinR
          rw [List.getD_eq_getElem?_getD, List.getElem?_map, List.getElem?_eq_getElem hl]
          simp only [Option.map_some, Option.getD_some]
          rw [show (rT on L n k).getD z 0 = (rT on L n k)[z] by rw [List.getD_eq_getElem?_getD, List.getElem?_eq_getElem hl]; rfl]
        rw [hg x hx, hg y hy, joinR_iff]
        rw [ih x y hx hy, ih x a hx (by omega), ih y b hy (by omega), ih x b hx (by omega), ih y a hy (by omega)]
theorem firsts_congr {o1 o2 : Nat → Nat} {k : Nat} (h : ∀ i j, i < k → j < k → (o1 i = o1 j ↔ o2 i = o2 j)) : firsts o1 k = firsts o2 k := by
  unfold firsts
  apply List.filter_congr
  intro i hi
  have hik := List.mem_range.1 hi
  rw [Bool.eq_iff_iff, isF_iff, isF_iff]
  constructor
  · intro hh j hj e
    exact hh j hj ((h j i (by omega) hik).2 e)
  · intro hh j hj e
    exact hh j hj ((h j i (by omega) hik).1 e)
theorem gath_congr {o1 o2 : Nat → Nat} {k : Nat} (h : ∀ i j, i < k → j < k → (o1 i = o1 j ↔ o2 i = o2 j)) : gath o1 k = gath o2 k := by
  unfold gath
  rw [firsts_congr h]
  apply List.map_congr_left
  intro f hf
  have hfk := (mem_firsts.1 hf).1
  unfold those
  apply List.filter_congr
  intro j hj
  have hjk := List.mem_range.1 hj
  rw [Bool.eq_iff_iff, beq_iff_eq, beq_iff_eq]
  exact h j f hjk hfk
/-- Heads that join alike own alike. -/
theorem ownF_congr {n : Nat} {on : Nat → Bool} {r1 r2 : Nat → Nat} {L : List (Int × Int)} (hin : ∀ e ∈ L, 0 ≤ e.1 ∧ e.1 < n ∧ 0 ≤ e.2 ∧ e.2 < n) (h1 : ∀ v, v < n → r1 v < n) (h2 : ∀ v, v < n → r2 v < n) (h : ∀ x y, x < n → y < n → (r1 x = r1 y ↔ r2 x = r2 y)) (i j : Nat) (hi : i < L.length) (hj : j < L.length) : ownF n on r1 L i = ownF n on r1 L j ↔ ownF n on r2 L i = ownF n on r2 L j := by
  have hb : ∀ q, q < L.length → (L.getD q (0, 0)).1.toNat < n ∧ (L.getD q (0, 0)).2.toNat < n := fun q hq => by
    have := hin (L.getD q (0, 0)) (by rw [List.getD_eq_getElem?_getD, List.getElem?_eq_getElem hq]; exact List.getElem_mem hq)
    omega
  obtain ⟨a1, a2⟩ := hb i hi
  obtain ⟨b1, b2⟩ := hb j hj
  unfold ownF
  generalize (L.getD i (0, 0)).1.toNat = a at *
  generalize (L.getD i (0, 0)).2.toNat = b at *
  generalize (L.getD j (0, 0)).1.toNat = c at *
  generalize (L.getD j (0, 0)).2.toNat = d at *
  have p1 := h1 a a1; have p2 := h1 b a2; have p3 := h1 c b1; have p4 := h1 d b2
  have q1 := h2 a a1; have q2 := h2 b a2; have q3 := h2 c b1; have q4 := h2 d b2
  split <;> split <;> (try split) <;> (try split) <;> first
    | exact h _ _ (by assumption) (by assumption)
    | (constructor <;> intro e <;> omega)
/-- All that is told of a graph and a web. -/
def fragsF (n : Nat) (E W : List (Int × Int)) : List (List (Int × Int) × List Int) :=
  (fragsO (onW W) (leftP W E E.length).1 (ownF n (onW W) (fun v => (rT (onW W) (leftP W E E.length).1 n (leftP W E E.length).1.length).getD v 0) (leftP W E E.length).1) (leftP W E E.length).1.length).map fin1
def fragsT (N : Int) (E W : List (Int × Int)) : List (List (Int × Int) × List Int) × Int :=
  if rightG N E = false then ([], 20) else if (leftP W E E.length).2 = W.length then (fragsF N.toNat E W, 0) else ([], 2)
theorem fragsF_is {n : Nat} {E W : List (Int × Int)} {r : Nat → Nat} (hin : ∀ e ∈ (leftP W E E.length).1, 0 ≤ e.1 ∧ e.1 < n ∧ 0 ≤ e.2 ∧ e.2 < n) (h1 : ∀ v, v < n → r v < n) (h : ∀ x y, x < n → y < n → (r x = r y ↔ cnR (onW W) (leftP W E E.length).1 (leftP W E E.length).1.length x y)) :
    (fragsO (onW W) (leftP W E E.length).1 (ownF n (onW W) r (leftP W E E.length).1) (leftP W E E.length).1.length).map fin1 = fragsF n E W := by
  unfold fragsF fragsO
  rw [gath_congr (ownF_congr hin h1 (rT_lt _ _ n hin _) (fun x y hx hy => (h x y hx hy).trans (rT_iff _ _ n hin _ x y hx hy).symm))]
/-- Which are on the first k edges of a web. -/
def onL (n : Nat) (W : List (Int × Int)) (k : Nat) : List Bool := (List.range n).map fun v => onW (W.take k) v
theorem onL_length (n : Nat) (W : List (Int × Int)) (k : Nat) : (onL n W k).length = n := by simp [onL]
theorem onL_zero (n : Nat) (W : List (Int × Int)) : onL n W 0 = List.replicate n false := by
  apply List.ext_getElem?
  intro i
  by_cases h : i < n
  · simp [onL, onW, h]
  · rw [List.getElem?_eq_none (by rw [onL_length]; omega), List.getElem?_eq_none (by simp; omega)]
theorem onL_step {n k x y : Nat} {W : List (Int × Int)} (he : W[k]? = some ((x : Int), (y : Int))) (hx : x < n) (hy : y < n) : ((onL n W k).set x true).set y true = onL n W (k + 1) := by
  apply List.ext_getElem?
  intro i
  by_cases h : i < n
  · have h1 : (onL n W (k + 1))[i]? = some (onW (W.take k) i || (decide (x = i) || decide (y = i))) := by
      simp only [onL, List.getElem?_map, List.getElem?_range h, Option.map_some]
      rw [List.take_add_one, he]
      have h9 : ∀ q : Nat, ((q : Int) == (i : Int)) = decide (q = i) := fun q => by rw [Bool.eq_iff_iff]; simp; omega
      simp [onW, h9]
    have h0 : (onL n W k)[i]? = some (onW (W.take k) i) := by simp [onL, h]
    rw [h1]
    by_cases e2 : y = i
    · subst e2
      rw [List.getElem?_set_self (by simp [onL_length, hy])]
      simp
    · rw [List.getElem?_set_ne e2]
      by_cases e1 : x = i
      · subst e1
        rw [List.getElem?_set_self (by rw [onL_length]; exact hx)]
        simp
      · rw [List.getElem?_set_ne e1, h0]
        simp [e1, e2]
  · rw [List.getElem?_eq_none (by simp [onL_length]; omega), List.getElem?_eq_none (by rw [onL_length]; omega)]
end Go.Proofs.Ytlkddjpjhchjfaa
