/- Permutations: what is right; blocks of numbers of one's own (layer 3). -/
import Derived.Test.YtlkddjpjhchjfaaW11
import Derived.Lib.SmallJoins
import Derived.Test.YtlkddjpjhchjfaaW8
import Derived.Test.YtlkddjpjhchjfaaW14
namespace Go.Proofs.Ytlkddjpjhchjfaa
set_option maxRecDepth 100000
open Go.RowKit

theorem OwnZ.below {w w' : World} {B : Nat} {ds : List Int} (h : OwnZ w B ds) (hb : Below w.heap.size w w') : OwnZ w' B ds := blk_below h hb
theorem OwnZ.rd {w : World} {B : Nat} {ds : List Int} (h : OwnZ w B ds) : RdZ w (some ⟨B, 0, none⟩) ds := fun q x hq =>
  ⟨_, rfl, lt_of_block h, by rw [add_off, cell_of h]; simp [zs, zv, hq]⟩
def gn (p : List Nat) (i : Nat) : Nat := p.getD i 0
theorem gn_at {p : List Nat} {i : Nat} (h : i < p.length) : p[i]? = some (gn p i) := by simp [gn, List.getD, List.getElem?_eq_getElem h]
/-- Numbers as ints. -/
def iz (p : List Nat) : List Int := p.map fun (x : Nat) => (x : Int)
theorem iz_length (p : List Nat) : (iz p).length = p.length := by simp [iz]
theorem iz_at {p : List Nat} {i : Nat} (h : i < p.length) : (iz p)[i]? = some ((gn p i : Nat) : Int) := by simp [iz, gn_at h]
theorem iz_inj : ∀ {p q : List Nat}, iz p = iz q → p = q
  | [], [], _ => rfl
  | [], _ :: _, h => by cases h
  | _ :: _, [], h => by cases h
  | a :: p, b :: q, h => by
    simp only [iz, List.map_cons, List.cons.injEq] at h
    rw [iz_inj h.2, show a = b by omega]
/-- Is it a permutation? -/
def rightP (xs : List Int) : Bool := decide (xs.length ≤ 200) && (decide (∀ v ∈ xs, 0 ≤ v ∧ v < xs.length) && decide xs.Nodup)
/-- A permutation of n things. -/
structure Perm (n : Nat) (p : List Nat) : Prop where
  len : p.length = n
  lt : ∀ v ∈ p, v < n
  nod : p.Nodup
theorem iz_of : ∀ (xs : List Int), (∀ v ∈ xs, 0 ≤ v) → ∃ p : List Nat, xs = iz p
  | [], _ => ⟨[], rfl⟩
  | x :: xs, h => by
    obtain ⟨p, rfl⟩ := iz_of xs (fun v hv => h v (List.mem_cons_of_mem _ hv))
    obtain ⟨n, rfl⟩ := Int.eq_ofNat_of_zero_le (h x (List.mem_cons_self ..))
    exact ⟨n :: p, rfl⟩
theorem iz_mem {p : List Nat} {v : Nat} : (v : Int) ∈ iz p ↔ v ∈ p := by
  unfold iz
  rw [List.mem_map]
  constructor
  · rintro ⟨a, h, e⟩
    have : a = v := by omega
    rw [← this]; exact h
  · intro h; exact ⟨v, h, rfl⟩
theorem iz_nodup : ∀ {p : List Nat}, (iz p).Nodup ↔ p.Nodup
  | [] => by simp [iz]
  | a :: p => by
    have e : iz (a :: p) = (a : Int) :: iz p := rfl
    rw [e, List.nodup_cons, List.nodup_cons, iz_nodup, iz_mem]
theorem rightP_iff {xs : List Int} : rightP xs = true ↔ ∃ p : List Nat, xs = iz p ∧ Perm p.length p ∧ p.length ≤ 200 := by
  unfold rightP
  rw [Bool.and_eq_true, Bool.and_eq_true]
  simp only [decide_eq_true_eq]
  constructor
  · rintro ⟨h1, h2, h3⟩
    obtain ⟨p, rfl⟩ := iz_of xs (fun v hv => (h2 v hv).1)
    rw [iz_length] at h1 h2
    exact ⟨p, rfl, ⟨rfl, fun v hv => by have := (h2 v (iz_mem.2 hv)).2; omega, iz_nodup.1 h3⟩, h1⟩
  · rintro ⟨p, rfl, hp, hl⟩
    rw [iz_length]
    refine ⟨hl, fun v hv => ?_, iz_nodup.2 hp.nod⟩
    obtain ⟨a, ha, rfl⟩ := List.mem_map.1 hv
    have := hp.lt a ha
    omega
theorem Perm.gn_lt {n i : Nat} {p : List Nat} (h : Perm n p) (hi : i < n) : gn p i < n := h.lt _ (List.mem_of_getElem? (gn_at (by rw [h.len]; exact hi)))
theorem Perm.inj {n i j : Nat} {p : List Nat} (h : Perm n p) (hi : i < n) (hj : j < n) (e : gn p i = gn p j) : i = j := by
  have h1 := gn_at (p := p) (i := i) (by rw [h.len]; exact hi)
  have h2 := gn_at (p := p) (i := j) (by rw [h.len]; exact hj)
  rw [e] at h1
  obtain ⟨a1, a2⟩ := List.getElem?_eq_some_iff.1 h1
  obtain ⟨b1, b2⟩ := List.getElem?_eq_some_iff.1 h2
  exact (List.getElem_inj h.nod).1 (a2.trans b2.symm)
/-- Marks of those among the first ones. -/
def marks (M : Nat) (xs : List Int) (k : Nat) : List Bool := (List.range M).map fun (v : Nat) => decide ((v : Int) ∈ xs.take k)
theorem marks_length (M : Nat) (xs : List Int) (k : Nat) : (marks M xs k).length = M := by simp [marks]
theorem marks_at {M : Nat} {xs : List Int} {k v : Nat} (h : v < M) : (marks M xs k)[v]? = some (decide ((v : Int) ∈ xs.take k)) := by simp [marks, h]
theorem marks_zero (M : Nat) (xs : List Int) : marks M xs 0 = List.replicate M false := by
  apply List.ext_getElem?
  intro i
  by_cases h : i < M
  · rw [marks_at h]; simp [List.getElem?_replicate, h]
  · rw [List.getElem?_eq_none (by rw [marks_length]; omega), List.getElem?_eq_none (by rw [List.length_replicate]; omega)]
theorem marks_step {M : Nat} {xs : List Int} {k v : Nat} (hv : xs[k]? = some (v : Int)) : (marks M xs k).set v true = marks M xs (k + 1) := by
  apply List.ext_getElem?
  intro i
  by_cases h : i < M
  · rw [marks_at h, List.take_add_one, hv]
    by_cases e : i = v
    · subst e
      rw [List.getElem?_set_self (by rw [marks_length]; exact h)]
      simp
    · rw [List.getElem?_set_ne (fun e2 => e e2.symm), marks_at h]
      have : decide ((i : Int) ∈ xs.take k ++ (some (v : Int)).toList) = decide ((i : Int) ∈ xs.take k) := by
        by_cases hm : (i : Int) ∈ xs.take k
        · simp [hm]
        · simp [hm]; omega
      rw [this]
  · rw [List.getElem?_eq_none (by rw [List.length_set, marks_length]; omega), List.getElem?_eq_none (by rw [marks_length]; omega)]
theorem zero200 : Try.zeroCells110 = (bs (List.replicate 200 false)).toArray := by kernel_rfl
theorem rightP_small {xs : List Int} (h : 200 < xs.length) : rightP xs = false := by
  unfold rightP
  rw [show decide (xs.length ≤ 200) = false by rw [decide_eq_false_iff_not]; omega]
  rfl
theorem rightP_out {xs : List Int} {x : Int} (hx : x ∈ xs) (h : ¬ (0 ≤ x ∧ x < xs.length)) : rightP xs = false := by
  cases hr : rightP xs with
  | false => rfl
  | true =>
    obtain ⟨p, rfl, hp, _⟩ := rightP_iff.1 hr
    obtain ⟨a, ha, rfl⟩ := List.mem_map.1 hx
    have := hp.lt a ha
    rw [iz_length] at h
    exact absurd ⟨by omega, by omega⟩ h
theorem rightP_twice {xs : List Int} {x : Int} {k : Nat} (hx : xs[k]? = some x) (h : x ∈ xs.take k) : rightP xs = false := by
  cases hr : rightP xs with
  | false => rfl
  | true =>
    exfalso
    have hn : xs.Nodup := by
      obtain ⟨p, rfl, hp, _⟩ := rightP_iff.1 hr
      exact iz_nodup.2 hp.nod
    obtain ⟨j, hj⟩ := List.getElem?_of_mem h
    have hjl := (List.getElem?_eq_some_iff.1 hj).1
    rw [List.length_take] at hjl
    rw [List.getElem?_take_of_lt (by omega)] at hj
    obtain ⟨a1, a2⟩ := List.getElem?_eq_some_iff.1 hj
    obtain ⟨b1, b2⟩ := List.getElem?_eq_some_iff.1 hx
    have := (List.getElem_inj hn).1 (a2.trans b2.symm)
    omega
theorem rightP_all {xs : List Int} (h0 : xs.length ≤ 200) (h : ∀ (k : Nat) (x : Int), xs[k]? = some x → 0 ≤ x ∧ x < xs.length ∧ x ∉ xs.take k) : rightP xs = true := by
  unfold rightP
  rw [Bool.and_eq_true, Bool.and_eq_true]
  simp only [decide_eq_true_eq]
  refine ⟨h0, fun v hv => ?_, ?_⟩
  · obtain ⟨k, hk⟩ := List.getElem?_of_mem hv
    have := h k v hk
    omega
  · rw [List.Nodup, List.pairwise_iff_getElem]
    intro i j hi hj hij e
    refine (h j xs[j] (List.getElem?_eq_getElem hj)).2.2 ?_
    rw [← e]
    exact List.mem_of_getElem? (i := i) (by rw [List.getElem?_take_of_lt hij]; exact List.getElem?_eq_getElem hi)

set_option maxRecDepth 100000 in
set_option maxHeartbeats 8000000 in
theorem rightP_any (A : Option Addr) (c n : Nat) (xs : List Int) (w : World) (hr : RdZ w A xs) (hn : n = xs.length) (hs : n ≤ 9223372036854775807) :
    Calls Try.prog 63 #[.slice A n c] w fun e w' => e = .returned (.bool (rightP xs)) ∧ Below w.heap.size w w' := by
  obtain ⟨r, hrr⟩ : ∃ r, rightP xs = r := ⟨_, rfl⟩
  have HRR := Lib.hid hrr
  rw [hrr]
  have HR := Lib.hid hr
  have HN := Lib.hid hn
  clear hrr hr hn
  by_cases hg : 200 < n
  · have HF : Hid (r = false) := by
      show _ = _
      rw [← HRR.out]
      exact rightP_small (by rw [← HN.out]; exact hg)
    have d1 : decide ((200 : Int) < (n : Int)) = true := by rw [decide_eq_true_iff]; omega
    go_enter Try.func63, Try.ntmps63
    go_wp2_with fail
    go_ret
    exact ⟨by rw [HF.out]; rfl, Below.refl _ _⟩
  · have d1 : decide ((200 : Int) < (n : Int)) = false := by rw [decide_eq_false_iff_not]; omega
    have HM0 : Hid ((w.alloc (.cells Try.zeroCells110 110)).heap[w.heap.size]? = some (.cells (bs (marks 200 xs 0)).toArray 110 (0, 0))) := by
      show _ = _
      rw [marks_zero, ← zero200]
      exact heap_alloc_new w _
    have HB0 : Hid (Below w.heap.size w (w.alloc (.cells Try.zeroCells110 110))) := (Below.refl _ _).alloc (Nat.le_refl _) _
    have HC0 : Hid (∀ (k : Nat) (x : Int), k < 0 → xs[k]? = some x → 0 ≤ x ∧ x < xs.length ∧ x ∉ xs.take k) := fun k x h => by omega
    go_enter Try.func63, Try.ntmps63
    go_wp2_with fail
    go_loopw [11] (fun s wr => ∃ k : Nat, k ≤ n ∧ s = .int .i64 k ∧ Hid (wr.heap[w.heap.size]? = some (.cells (bs (marks 200 xs k)).toArray 110 (0, 0))) ∧ Hid (∀ (j : Nat) (x : Int), j < k → xs[j]? = some x → 0 ≤ x ∧ x < xs.length ∧ x ∉ xs.take j) ∧ Hid (Below w.heap.size w wr)) (fun s _ => n - (intOf s).toNat)
    case atStart => exact ⟨0, Nat.zero_le _, rfl, HM0, HC0, HB0⟩
    case round =>
      obtain ⟨k, hk, rfl, hM, hC, hb⟩ := hrel
      by_cases h1 : k < n
      · have t1 : decide ((k : Int) < (n : Int)) = true := by simp; omega
        have hI0 : (0 : Int) ≤ (k : Int) := by omega
        have hI1 : (k : Int) < (n : Nat) := by omega
        obtain ⟨x, hx⟩ : ∃ x, xs[k]? = some x := ⟨_, List.getElem?_eq_getElem (by rw [← HN.out]; exact h1)⟩
        obtain ⟨ad, rfl, hal, c0⟩ := (HR.out.below hb.out) k x hx
        have HX := Lib.hid hx
        have hxm := List.mem_of_getElem? hx
        have hnl := HN.out
        by_cases hx0 : x < 0
        · have HF : Hid (r = false) := by show _ = _; rw [← HRR.out]; exact rightP_out hxm (by omega)
          have d2 : decide (x < 0) = true := by simpa using hx0
          clear hx hxm hnl
          go_wp2_with fail
          go_ret
          exact ⟨by rw [HF.out]; rfl, hb.out⟩
        · have d2 : decide (x < 0) = false := by simpa using hx0
          by_cases hx1 : (n : Int) ≤ x
          · have HF : Hid (r = false) := by show _ = _; rw [← HRR.out]; exact rightP_out hxm (by omega)
            have d3 : decide ((n : Int) ≤ x) = true := by simpa using hx1
            clear hx hxm hnl
            go_wp2_with fail
            go_ret
            exact ⟨by rw [HF.out]; rfl, hb.out⟩
          · obtain ⟨v, rfl⟩ := Int.eq_ofNat_of_zero_le (show 0 ≤ x by omega)
            have hv200 : v < 200 := by omega
            have hv0 : (0 : Int) ≤ (v : Int) := by omega
            have hv1 : (v : Int) < 200 := by omega
            have d3 : decide ((n : Int) ≤ (v : Int)) = false := by rw [decide_eq_false_iff_not]; exact hx1
            have d4 : decide (n ≤ v) = false := by rw [decide_eq_false_iff_not]; omega
            have c1 : wr.cell? ⟨w.heap.size, v, none⟩ = some (.bool (decide ((v : Int) ∈ xs.take k))) := by
              rw [cell_of hM.out]
              simp [bs, marks_at hv200]
            have c2 : wr.frozen? ⟨w.heap.size, v, none⟩ = false := free_of hM.out v
            by_cases hin : (v : Int) ∈ xs.take k
            · have HF : Hid (r = false) := by show _ = _; rw [← HRR.out]; exact rightP_twice hx hin
              rw [decide_eq_true hin] at c1
              clear hx hxm hnl hin
              go_wp2_with fail
              go_ret
              exact ⟨by rw [HF.out]; rfl, hb.out⟩
            · rw [decide_eq_false hin] at c1
              have HM1 : Hid ((wr.setCell ⟨w.heap.size, v, none⟩ (.bool true)).heap[w.heap.size]? = some (.cells (bs (marks 200 xs (k + 1))).toArray 110 (0, 0))) := by
                show _ = _
                rw [Go.Joins.block_setCell hM.out, ← marks_step hx]
                simp [bs, List.map_set]
              have HB1 := Lib.hid (hb.out.setCell (p := ⟨w.heap.size, v, none⟩) (Nat.le_refl _) (.bool true))
              have HC1 : Hid (∀ (j : Nat) (x : Int), j < k + 1 → xs[j]? = some x → 0 ≤ x ∧ x < xs.length ∧ x ∉ xs.take j) := fun j x hj hjx => by
                by_cases e : j = k
                · subst e
                  rw [hx] at hjx
                  injection hjx with hjx
                  subst hjx
                  exact ⟨by omega, by omega, hin⟩
                · exact hC.out j x (by omega) hjx
              clear hx hxm hnl hin
              go_wp2_with fail
              go_roundw
              case rel => exact ⟨k + 1, by omega, by go_num, HM1, HC1, HB1⟩
              case measure => simp [intOf]; omega
      · obtain rfl : k = n := by omega
        have t1 : decide ((k : Int) < (k : Int)) = false := by simp
        have HF : Hid (r = true) := by
          show _ = _
          rw [← HRR.out]
          have hnl := HN.out
          exact rightP_all (by omega) (fun j x hj => hC.out j x (by have := (List.getElem?_eq_some_iff.1 hj).1; omega) hj)
        go_wp2_with fail
        go_ret
        exact ⟨by rw [HF.out]; rfl, hb.out⟩
end Go.Proofs.Ytlkddjpjhchjfaa
