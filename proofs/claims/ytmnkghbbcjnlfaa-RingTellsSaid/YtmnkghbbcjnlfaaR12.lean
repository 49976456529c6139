/- Turned on and back; bytes that tell a list. -/
import Derived.Test.YtmnkghbbcjnlfaaR11
namespace Go.Proofs.Ytmnkghbbcjnlfaa
open Go.RowKit

theorem at_turn (L : List (List Nat)) (f i : Nat) (h : 0 < L.length) : at_ (turnN L f) i = at_ L (f + i) := by
  have hl := turnN_length L f
  have hm : i % L.length < L.length := Nat.mod_lt _ h
  conv => lhs; unfold at_
  rw [hl]
  unfold turnN
  rw [List.getD_eq_getElem?_getD, List.getElem?_map, List.getElem?_range hm]
  show at_ L (f + i % L.length) = _
  unfold at_
  rw [Nat.add_mod_mod]
theorem turnN_at (T : List (List Nat)) (f i : Nat) (h : i < T.length) : (turnN T f)[i]? = some (at_ T (f + i)) := by
  unfold turnN
  rw [List.getElem?_map, List.getElem?_range h]
  rfl
theorem turn_back (L : List (List Nat)) (k : Int) : turnOf (turnOf L k) (-k) = L := by
  apply List.ext_getElem?
  intro i
  by_cases hi : i < L.length
  · have h0 : 0 < L.length := by omega
    have h1 : (turnOf L k).length = L.length := turnOf_length L k
    have h2 : i < (turnOf L k).length := by omega
    unfold turnOf at h1 h2 ⊢
    rw [turnN_at _ _ _ h2, h1, at_turn L _ _ h0, List.getElem?_eq_getElem hi]
    have hz : (offN L.length k + (offN L.length (-k) + i)) % L.length = i := by
      have e1 : ((offN L.length k : Nat) : Int) = k % (L.length : Int) := Int.toNat_of_nonneg (Int.emod_nonneg _ (by omega))
      have e2 : ((offN L.length (-k) : Nat) : Int) = (-k) % (L.length : Int) := Int.toNat_of_nonneg (Int.emod_nonneg _ (by omega))
      have e3 : (((offN L.length k + (offN L.length (-k) + i)) % L.length : Nat) : Int) = (i : Int) := by
        rw [Int.natCast_emod, Int.natCast_add, Int.natCast_add, e1, e2, Int.emod_add_emod, Int.add_comm (-k % _) _, ← Int.add_assoc, Int.add_emod_emod]
        rw [show k + (i : Int) + -k = i by omega]
        exact Int.emod_eq_of_lt (by omega) (by omega)
      omega
    unfold at_
    rw [hz, List.getD_eq_getElem?_getD, List.getElem?_eq_getElem hi]
    rfl
  · rw [List.getElem?_eq_none (by rw [turnOf_length, turnOf_length]; omega), List.getElem?_eq_none (by omega)]

theorem be4_inj {a b : Nat} (h : be4 a = be4 b) : a = b := by
  simp only [be4, List.cons.injEq, and_true] at h
  omega
theorem flatW_cons (x : List Nat) (L : List (List Nat)) : flatW (x :: L) = be4 x.length ++ (x ++ flatW L) := by simp [flatW]
theorem flatW_inj : ∀ (L M : List (List Nat)), L.length = M.length → flatW L = flatW M → L = M
  | [], [], _, _ => rfl
  | [], _ :: _, h, _ => by simp at h
  | _ :: _, [], h, _ => by simp at h
  | x :: L, y :: M, h, e => by
    rw [flatW_cons, flatW_cons] at e
    obtain ⟨e1, e2⟩ := List.append_inj e (by simp [be4])
    obtain ⟨e3, e4⟩ := List.append_inj e2 (be4_inj e1)
    rw [e3, flatW_inj L M (by simpa using h) e4]
theorem bytesW_inj {L M : List (List Nat)} (h : bytesW L = bytesW M) : L = M := by
  unfold bytesW at h
  obtain ⟨e1, e2⟩ := List.append_inj h (by simp [be4])
  exact flatW_inj L M (be4_inj e1) e2
theorem bytesW_lt {L : List (List Nat)} (ho : OkW L) (hw : ∀ xs ∈ L, xs.length ≤ 60) (hn : L.length ≤ 60) : ∀ x ∈ bytesW L, x < 256 := by
  have hb : ∀ n, n ≤ 60 → ∀ x ∈ be4 n, x < 256 := by
    intro n hn x hx
    simp only [be4, List.mem_cons, List.not_mem_nil, or_false] at hx
    omega
  intro x hx
  unfold bytesW flatW at hx
  rcases List.mem_append.1 hx with h | h
  · exact hb _ hn x h
  · obtain ⟨l, hl, hxl⟩ := List.mem_flatten.1 h
    obtain ⟨xs, hxs, rfl⟩ := List.mem_map.1 hl
    rcases List.mem_append.1 hxl with h | h
    · exact hb _ (hw xs hxs) x h
    · exact ho xs hxs x h
end Go.Proofs.Ytmnkghbbcjnlfaa
