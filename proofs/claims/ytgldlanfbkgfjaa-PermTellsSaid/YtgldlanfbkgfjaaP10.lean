/- Pure: powers of a permutation, and its order (layer 3). -/
import Derived.Test.YtgldlanfbkgfjaaP8
import Derived.Test.YtgldlanfbkgfjaaL1
namespace Go.Proofs.Ytgldlanfbkgfjaa
open Go.RowKit

section
variable {n : Nat} {p : List Nat}
theorem emod_to (k : Int) (m : Nat) (hm : 0 < m) : ((k.emod m).toNat : Int) = k % (m : Int) := by
  have := Int.emod_nonneg k (show (m : Int) ≠ 0 by omega)
  show (((k % (m : Int)).toNat : Nat) : Int) = _
  omega
theorem powAt_lt (h : Perm n p) (k : Int) {v : Nat} (hv : v < n) : powAt p k v < n := it_lt h hv _
theorem powAt_add (h : Perm n p) (j k : Int) {v : Nat} (hv : v < n) : powAt p k (powAt p j v) = powAt p (j + k) v := by
  unfold powAt
  rw [per_it h hv, it_add]
  have hp := per_pos p v
  have e1 := emod_to j (per p v) hp
  have e2 := emod_to k (per p v) hp
  have e3 := emod_to (j + k) (per p v) hp
  rw [it_mod h hv]
  congr 1
  have e4 : (((j.emod (per p v)).toNat + (k.emod (per p v)).toNat : Nat) : Int) % (per p v : Int) = (j + k) % (per p v : Int) := by
    rw [Int.natCast_add, e1, e2, ← Int.add_emod]
  rw [← e3] at e4
  exact Int.natCast_inj.1 (by rw [Int.natCast_emod]; exact e4)
theorem powAt_zero (p : List Nat) (v : Nat) : powAt p 0 v = v := by
  unfold powAt
  rw [show (0 : Int).emod (per p v) = 0 from Int.zero_emod _]
  rfl
theorem powAt_one (h : Perm n p) {v : Nat} (hv : v < n) : powAt p 1 v = gn p v := by
  unfold powAt
  have hp := per_pos p v
  have e : ((1 : Int).emod (per p v)).toNat = 1 % per p v := by
    have e1 := emod_to 1 (per p v) hp
    have e2 : ((1 : Int) % (per p v : Int)) = ((1 % per p v : Nat) : Int) := rfl
    rw [e2] at e1
    exact Int.natCast_inj.1 e1
  rw [e, ← it_mod h hv]
  rfl
theorem gn_pow {k : Int} {v : Nat} (hv : v < n) : gn (powP n p k) v = powAt p k v := gn_map hv
theorem powP_length (n : Nat) (p : List Nat) (k : Int) : (powP n p k).length = n := by simp [powP]
theorem Perm.pow (h : Perm n p) (k : Int) : Perm n (powP n p k) := by
  refine perm_of (powP_length _ _ _) (fun i hi => by rw [gn_pow hi]; exact powAt_lt h k hi) (fun i j hi hj e => ?_)
  rw [gn_pow hi, gn_pow hj] at e
  have e1 := powAt_add h k (-k) hi
  have e2 := powAt_add h k (-k) hj
  rw [Int.add_right_neg, powAt_zero] at e1 e2
  rw [← e1, ← e2, e]
theorem pow_add (h : Perm n p) (j k : Int) : compP (powP n p j) (powP n p k) = powP n p (j + k) := by
  refine gn_ext (by rw [compP_length, powP_length, powP_length]) (fun i hi => ?_)
  rw [compP_length, powP_length] at hi
  rw [gn_comp (by rw [powP_length]; exact hi), gn_pow hi, gn_pow (powAt_lt h j hi), gn_pow hi, powAt_add h j k hi]
theorem pow_one (h : Perm n p) : powP n p 1 = p := by
  refine gn_ext (by rw [powP_length, h.len]) (fun i hi => ?_)
  rw [powP_length] at hi
  rw [gn_pow hi, powAt_one h hi]
theorem per_dvd_ord (h : Perm n p) {v : Nat} (hv : v < n) : per p v ∣ ord n p := by
  obtain ⟨u, h1, h2, h3⟩ := least_of h hv
  obtain ⟨k, rfl⟩ := (mem_orb h (by omega)).1 h3
  rw [per_it h (by omega)]
  refine dvd_lcmL _ (List.mem_map.2 ⟨orb p u, mem_cycs.2 ⟨u, by omega, h2, rfl⟩, orb_length p u⟩)
theorem ord_small (h : Perm n p) (hn : n ≤ 200) : 0 < ord n p ∧ ord n p < 2 ^ 60 := pre_small h hn (rest := []) (by simp)
theorem powAt_id (h : Perm n p) (k : Int) {v : Nat} (hv : v < n) : powAt p k v = v ↔ (per p v : Int) ∣ k := by
  unfold powAt
  rw [it_eq_self h hv]
  have e1 := emod_to k (per p v) (per_pos p v)
  rw [Nat.mod_eq_of_lt (by have := Int.emod_lt_of_pos k (show (0 : Int) < per p v by have := per_pos p v; omega); omega), Int.dvd_iff_emod_eq_zero]
  omega
theorem pow_id (h : Perm n p) (k : Int) : powP n p k = List.range n ↔ (ord n p : Int) ∣ k := by
  constructor
  · intro e
    have h1 : ∀ v, v < n → (per p v : Int) ∣ k := fun v hv => by
      rw [← powAt_id h k hv, ← gn_pow hv, e, gn_range hv]
    have h2 : ord n p ∣ k.natAbs := by
      refine lcmL_dvd _ (fun x hx => ?_)
      obtain ⟨c, hc, rfl⟩ := List.mem_map.1 hx
      obtain ⟨v, hv, _, rfl⟩ := mem_cycs.1 hc
      rw [orb_length]
      exact Int.natCast_dvd_natCast.1 (Int.dvd_natAbs.2 (h1 v hv))
    exact Int.dvd_natAbs.1 (Int.natCast_dvd_natCast.2 h2)
  · intro hd
    refine gn_ext (by rw [powP_length, List.length_range]) (fun i hi => ?_)
    rw [powP_length] at hi
    rw [gn_pow hi, gn_range hi, powAt_id h k hi]
    exact Int.dvd_trans (Int.natCast_dvd_natCast.2 (per_dvd_ord h hi)) hd
end
end Go.Proofs.Ytgldlanfbkgfjaa
