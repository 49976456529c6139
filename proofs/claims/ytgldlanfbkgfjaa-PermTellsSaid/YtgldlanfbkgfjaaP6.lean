/- perm.cycles; a permutation done k times: perm.Power (layer 3). -/
import Derived.Test.YtgldlanfbkgfjaaP5
import Derived.Test.YtgldlanfbkgfjaaPR
import Derived.Shelf.Abstract
namespace Go.Proofs.Ytgldlanfbkgfjaa
open Go.RowKit
attribute [local go_sem] Oper.semAt_some

set_option maxRecDepth 100000 in
theorem cycles_any (A : Option Addr) (n c : Nat) (w : World) : Calls Try.prog 36 #[.slice A n c] w fun e w' => e = .returned (.func (.func 45) #[] #[.pointer (some ⟨w.heap.size, 0, none⟩)]) ∧ w' = w.alloc (.cells #[.slice A n c] 22) := by
  go_enter Try.func36, Try.ntmps36
  go_wp2_with fail
  go_ret
  exact ⟨rfl, rfl⟩
/-- Where v comes to, p done k times (k of whatever sign). -/
def powAt (p : List Nat) (k : Int) (v : Nat) : Nat := it p v (k.emod (per p v)).toNat
def powP (n : Nat) (p : List Nat) (k : Int) : List Nat := (List.range n).map (powAt p k)
/-- A row in which those of S are filled. -/
def filS (n : Nat) (S : List Nat) (h : Nat → Nat) : List Int := (List.range n).map fun v => if v ∈ S then ((h v : Nat) : Int) else 0
theorem filS_length (n : Nat) (S : List Nat) (h : Nat → Nat) : (filS n S h).length = n := by simp [filS]
theorem filS_nil (n : Nat) (h : Nat → Nat) : filS n [] h = List.replicate n 0 := by
  apply List.ext_getElem?
  intro i
  by_cases hi : i < n
  · simp [filS, hi]
  · rw [List.getElem?_eq_none (by rw [filS_length]; omega), List.getElem?_eq_none (by rw [List.length_replicate]; omega)]
theorem filS_step {n v : Nat} (S : List Nat) (h : Nat → Nat) (hv : v < n) : (filS n S h).set v ((h v : Nat) : Int) = filS n (S ++ [v]) h := by
  apply List.ext_getElem?
  intro i
  by_cases hi : i < n
  · by_cases e : i = v
    · subst e
      rw [List.getElem?_set_self (by rw [filS_length]; exact hv)]
      simp [filS, hi]
    · rw [List.getElem?_set_ne (fun e2 => e e2.symm)]
      simp [filS, hi, e]
  · rw [List.getElem?_eq_none (by rw [List.length_set, filS_length]; omega), List.getElem?_eq_none (by rw [filS_length]; omega)]
theorem filS_all {n : Nat} {S : List Nat} (h : Nat → Nat) (hS : ∀ v, v < n → v ∈ S) : filS n S h = iz ((List.range n).map h) := by
  apply List.ext_getElem?
  intro i
  by_cases hi : i < n
  · simp [filS, iz, hi, hS i hi]
  · rw [List.getElem?_eq_none (by rw [filS_length]; omega), List.getElem?_eq_none (by rw [iz_length]; simp; omega)]
theorem least_of {n : Nat} {p : List Nat} (h : Perm n p) {v : Nat} (hv : v < n) : ∃ u, u ≤ v ∧ leastB p u = true ∧ v ∈ orb p u := by
  induction v using Nat.strongRecOn with
  | ind v ih =>
    cases hl : leastB p v with
    | true => exact ⟨v, Nat.le_refl _, hl, orb_self h hv⟩
    | false =>
      obtain ⟨u, h1, h2, h3⟩ := not_least h hv hl
      obtain ⟨x, g1, g2, g3⟩ := ih u h1 (by omega)
      exact ⟨x, by omega, g2, orb_trans h (by omega) g3 h3⟩
theorem cycs_all {n : Nat} {p : List Nat} (h : Perm n p) {v : Nat} (hv : v < n) : v ∈ (cycs p n).flatten := by
  obtain ⟨u, h1, h2, h3⟩ := least_of h hv
  exact List.mem_flatten.2 ⟨orb p u, mem_cycs.2 ⟨u, by omega, h2, rfl⟩, h3⟩
theorem cycs_mid {n : Nat} {p : List Nat} {pre rest : List (List Nat)} {x : List Nat} (e : cycs p n = pre ++ x :: rest) : ∃ f, f < n ∧ leastB p f = true ∧ x = orb p f :=
  mem_cycs.1 (by rw [e]; simp)
theorem powAt_orb {n : Nat} {p : List Nat} (h : Perm n p) {f : Nat} (hf : f < n) (k : Int) (i : Nat) : powAt p k (it p f i) = it p f ((i + (k.emod (per p f)).toNat) % per p f) := by
  unfold powAt
  rw [per_it h hf, it_add, it_mod h hf]

/-- What lies between two rounds of Power: k's box, the row (block z), its box, p's box. -/
structure PowI (w0 : World) (n c z : Nat) (A0 : Option Addr) (p : List Nat) (k : Int) (S : List Nat) (A : World) : Prop where
  below : Below w0.heap.size w0 A
  low : w0.heap.size < z
  size : z + 3 ≤ A.heap.size
  box : A.cell? ⟨w0.heap.size, 0, none⟩ = some (.int .i64 k)
  row : OwnZ A z (filS n S (powAt p k))
  out : A.cell? ⟨z + 1, 0, none⟩ = some (.slice (some ⟨z, 0, none⟩) n n)
  src : A.cell? ⟨z + 2, 0, none⟩ = some (.slice A0 n c)
theorem PowI.bar {w0 : World} {n c z d m : Nat} {A0 : Option Addr} {p : List Nat} {k : Int} {S : List Nat} {A B : World} (h : PowI w0 n c z A0 p k S A) (hd : z + 3 ≤ d) (hb : Bar d m A B) : PowI w0 n c z A0 p k S B := by
  obtain ⟨h1, h2, h3, h4, h5, h6, h7⟩ := h
  refine ⟨?_, h2, Nat.le_trans h3 hb.size, ?_, (hb.same z (by omega) (.inl (by omega))).trans h5, ?_, ?_⟩
  · exact ⟨hb.os.trans h1.os, hb.tape.trans h1.tape, hb.output.trans h1.output, Nat.le_trans h1.size hb.size, fun b hlt => (hb.same b (by have := h1.size; omega) (.inl (by omega))).trans (h1.block b hlt)⟩
  · exact (hb.cell (by show w0.heap.size < _; omega) (.inl (by show w0.heap.size < _; omega))).trans h4
  · rw [hb.cell (by show z + 1 < _; omega) (.inl (by show z + 1 < _; omega))]; exact h6
  · rw [hb.cell (by show z + 2 < _; omega) (.inl (by show z + 2 < _; omega))]; exact h7
theorem PowI.step {w0 : World} {n c z : Nat} {A0 : Option Addr} {p : List Nat} {k : Int} {S : List Nat} {A : World} (h : PowI w0 n c z A0 p k S A) {v : Nat} (hv : v < n) : PowI w0 n c z A0 p k (S ++ [v]) (A.setCell ⟨z, v, none⟩ (.int .i64 ((powAt p k v : Nat) : Int))) := by
  obtain ⟨h1, h2, h3, h4, h5, h6, h7⟩ := h
  have hs := h5.set (v := v) ((powAt p k v : Nat) : Int)
  rw [filS_step S _ hv] at hs
  refine ⟨h1.setCell (p := ⟨z, v, none⟩) (by show w0.heap.size ≤ z; omega) _, h2, by simpa using h3, ?_, hs, ?_, ?_⟩
  · rw [World.cell?_setCell_other _ _ _ _ (by intro e; injection e with e; omega)]; exact h4
  · rw [World.cell?_setCell_other _ _ _ _ (by simp)]; exact h6
  · rw [World.cell?_setCell_other _ _ _ _ (by simp)]; exact h7

theorem drew_bar {d k : Nat} (A : World) : Bar d k A A.drew := ⟨rfl, rfl, rfl, Nat.le_refl _, fun _ _ _ => rfl⟩
theorem tmod_emod (k : Int) (m : Nat) : k.tmod m % (m : Int) = k % m := by
  have h := Int.mul_tdiv_add_tmod k m
  have h2 : k % (m : Int) = (m * k.tdiv m + k.tmod m) % m := by rw [h]
  rw [h2, Int.mul_add_emod_self_left]
theorem Bar.row {d k : Nat} {A B : World} (h : Bar d k A B) {base n b cap : Nat} {e : TypeId} {size : Nat} {cs : List Value} (hr : A.ownsRow base e size (.slice (some ⟨b, 0, none⟩) n cap) n cs) (hb : b < d ∨ d + k ≤ b) : B.ownsRow base e size (.slice (some ⟨b, 0, none⟩) n cap) n cs := by
  obtain ⟨hl, h0 | ⟨g, c, cur, ev, h1, h2, h3⟩⟩ := hr
  · cases h0.1
  · have : b = g := by injection ev with a; injection a with a; injection a
    subst this
    exact ⟨hl, .inr ⟨b, c, cur, ev, h1, (h.same b (lt_of_block h2) hb).trans h2, h3⟩⟩

set_option maxRecDepth 100000 in
set_option maxHeartbeats 8000000 in
theorem power_yes (A0 : Option Addr) (c n : Nat) (p : List Nat) (k : Int) (w : World) (hr : RdZ w A0 (iz p)) (hp : Perm n p) (hn : n ≤ 200) (hk0 : -9223372036854775808 ≤ k) (hk1 : k ≤ 9223372036854775807) :
    Calls Try.prog 21 #[.slice A0 n c, .int .i64 k] w fun e w' => ∃ K : Nat, e = .returned (.tuple #[.slice (some ⟨K, 0, none⟩) n n, .int .i64 0]) ∧ OwnZ w' K (iz (powP n p k)) ∧ w.heap.size ≤ K ∧ Below w.heap.size w w' := by
  have HR1 := Lib.hid (perm_right hp hn)
  have HA := Lib.hid hr
  have HP := Lib.hid hp
  have hmk := fun w' => make_ints n (by omega) w'
  clear hr hp
  refine callsIn_wide (n := 0).1 (callsIn_of_wp_marks Try.func21 rfl trivial ?_ rfl)
  refine wpIn_wide.2 ?_
  simp only [Try.ntmps21, List.size_toArray, List.length_cons, List.length_nil, Nat.reduceAdd, Nat.reduceSub, Array.replicate_succ, Array.replicate_zero, List.push_toArray, List.append_toArray, List.nil_append, List.cons_append]
  go_wp2_with fail
  refine (rightP_any A0 c n (iz p) _ (HA.out.below ((Below.refl _ _).alloc (Nat.le_refl _) _)) (izl HP.out) (by omega)).mono ?_
  rintro e w1 ⟨rfl, hb1⟩
  rw [HR1.out]
  have HB1 := Lib.hid (next_below ((Below.refl w.heap.size w).alloc (Nat.le_refl _) _) hb1)
  have c0 : w1.cell? ⟨w.heap.size, 0, none⟩ = some (.int .i64 k) := by
    rw [hb1.cell (by simp)]
    exact World.cell?_alloc_at _ _ _ _ rfl
  clear hb1
  go_wp2_with fail
  refine (cycles_any A0 n c _).mono ?_
  rintro e w2 ⟨rfl, hw2⟩
  have hI0 : PowI w n c w1.heap.size A0 p k [] w2 := by
    have hs1 := HB1.out.size
    have hlt : w.heap.size < w1.heap.size := World.block_lt_of_cell? _ _ c0
    rw [hw2]
    refine ⟨((HB1.out.alloc HB1.out.size _).alloc (by simp; omega) _).alloc (by simp; omega) _, hlt, by simp, ?_, ?_, ?_, ?_⟩
    · have hb3 : Below w1.heap.size w1 (((w1.alloc (.cells (zs (List.replicate n 0)).toArray 3)).alloc (.cells #[.slice (some ⟨w1.heap.size, 0, none⟩) n n] 22)).alloc (.cells #[.slice A0 n c] 22)) := (((Below.refl _ _).alloc (Nat.le_refl _) _).alloc (by simp) _).alloc (by simp; omega) _
      exact (hb3.cell hlt).trans c0
    · show _ = _
      rw [heap_alloc_old _ _ (by simp; omega), heap_alloc_old _ _ (by simp), filS_nil]
      exact heap_alloc_new w1 _
    · exact (((Below.refl _ _).alloc (Nat.le_refl _) _).cell (p := ⟨w1.heap.size + 1, 0, none⟩) (by simp)).trans (World.cell?_alloc_at _ _ _ _ (by simp))
    · exact World.cell?_alloc_at _ _ _ _ (by simp)
  have HI0 := Lib.hid hI0
  have hz2 : w2.heap.size = w1.heap.size + 3 := by rw [hw2]; simp
  clear hw2 hI0 hmk
  go_wp2_with fail
  refine wpIn_wide.1 (range_cycles (w := w2) A0 (w1.heap.size + 2) n c p rfl rfl (enters_of Try.func45 (by kernel_rfl) rfl) (fun W _ _ => cycles1_any A0 _ n c p W HP.out hn)
    (fun pre A => PowI w n c w1.heap.size A0 p k pre.flatten A) (fun pre A h => ⟨HA.out.below h.below, h.src⟩) (fun pre A B h hb => h.bar (by omega) hb) HI0.out ?a1 ?assign ?body ?done)
  case assign =>
    intro l v W K hK
    gi_wp2
    exact hK
  case body =>
    rintro l pre x rest A W1 b cap hcy hI hbar hsz hrow hb
    obtain ⟨f, hf, hl, rfl⟩ := cycs_mid hcy
    have hI1 := hI.bar (by omega) hbar
    have hrow1 : W1.ownsRow A.heap.size 3 1 (.slice (some ⟨b, 0, none⟩) (per p f) cap) (per p f) (zs (iz (orb p f))) := by
      have h := hrow
      unfold RowI at h
      rw [orb_length] at h
      exact h
    rw [orb_length]
    have c1 := hI1.box
    obtain ⟨m, hm⟩ : ∃ m, m = per p f := ⟨_, rfl⟩
    have hm1 := per_pos p f
    have hm2 := (per_spec HP.out hf).1
    rw [← hm] at hrow1 hm1 hm2 ⊢
    have hm3 : ¬ m = 0 := by omega
    obtain ⟨s1, hs1⟩ : ∃ s1, s1 = k.tmod m := ⟨_, rfl⟩
    obtain ⟨s2, hs2⟩ : ∃ s2 : Nat, k % (m : Int) = s2 := ⟨(k % (m : Int)).toNat, by have := Int.emod_nonneg k (show (m : Int) ≠ 0 by omega); omega⟩
    have hs3 : -(m : Int) < s1 ∧ s1 < m := by
      rw [hs1]
      exact ⟨Int.lt_tmod_of_pos _ (by omega), Int.tmod_lt_of_pos _ (by omega)⟩
    have hs4 : (s1 + m).tmod m = s2 := by
      rw [Int.tmod_eq_emod_of_nonneg (by omega), Int.add_emod_right, ← hs2, hs1]
      exact tmod_emod k m
    have hs5 : IntKind.i64.wrap (s1 + m) = s1 + m := IntWalk.i64_in _ (by omega)
    have hs6 : k.tmod m = s1 := hs1.symm
    have hs7 : s2 < m := by
      have := Int.emod_lt_of_pos k (show (0 : Int) < m by omega)
      omega
    have hs8 : ∀ i, it p f ((i + s2) % m) = powAt p k (it p f i) := fun i => by
      rw [powAt_orb HP.out hf, hm]
      congr 3
      rw [← hm]
      show _ = (k % (m : Int)).toNat
      omega
    clear hm1 hs1
    have HI1 : Hid (PowI w n c w1.heap.size A0 p k (pre.flatten ++ (orb p f).take 0) W1) := by show PowI _ _ _ _ _ _ _ _ _; simpa using hI1
    have HB1 := Lib.hid (Bar.refl w1.heap.size 1 W1)
    have HROW := Lib.hid hrow1
    have HS8 := Lib.hid hs8
    have HM := Lib.hid hm
    clear hs8 hrow1 hm hrow
    gi_wp2
    clear c1 hI1 hI hs3
    gi_loopw [32] (fun s wr => ∃ i : Nat, i ≤ m ∧ s = .int .i64 i ∧ Hid (PowI w n c w1.heap.size A0 p k (pre.flatten ++ (orb p f).take i) wr) ∧ Hid (Bar w1.heap.size 1 W1 wr)) (fun s _ => m - (intOf s).toNat)
    case atStart => exact ⟨0, Nat.zero_le _, rfl, HI1, HB1⟩
    case round =>
      obtain ⟨i, hi, rfl, hQ, hBr⟩ := hrel
      by_cases h1 : i < m
      · have t1 : decide ((i : Int) < (m : Int)) = true := by simp; omega
        have hI0 : (0 : Int) ≤ (i : Int) := by omega
        have hI1 : (i : Int) < (m : Nat) := by omega
        have hj1 := Nat.mod_lt (i + s2) (show 0 < m by omega)
        have hrb := hBr.out.row HROW.out (by omega)
        have c0 := hrb.cells (g := b) rfl i (.int .i64 ((it p f i : Nat) : Int)) (by simp [zs, zv, iz, orb_at (show i < per p f by rw [← HM.out]; exact h1)])
        have c2 := hrb.cells (g := b) rfl ((i + s2) % m) (.int .i64 ((powAt p k (it p f i) : Nat) : Int)) (by rw [← HS8.out]; simp [zs, zv, iz, orb_at (show (i + s2) % m < per p f by rw [← HM.out]; exact hj1)])
        have c3 := hQ.out.out
        rw [add_off] at c0 c2
        have hxn := it_lt HP.out hf i
        have c4 := hQ.out.row.at_ (List.getElem?_eq_getElem (show it p f i < (filS n (pre.flatten ++ (orb p f).take i) (powAt p k)).length by rw [filS_length]; exact hxn))
        have c5 : wr.frozen? ⟨w1.heap.size, it p f i, none⟩ = false := free_of hQ.out.row _
        have hQ1 := hQ.out.step hxn
        have hB2 : Bar w1.heap.size 1 W1 (wr.setCell ⟨w1.heap.size, it p f i, none⟩ (.int .i64 ((powAt p k (it p f i) : Nat) : Int))) := hBr.out.setCell (.inr ⟨Nat.le_refl _, by simp⟩) _
        rw [List.append_assoc, show (orb p f).take i ++ [it p f i] = (orb p f).take (i + 1) by rw [List.take_add_one, orb_at (show i < per p f by rw [← HM.out]; exact h1)]; rfl] at hQ1
        generalize (filS n (pre.flatten ++ (orb p f).take i) (powAt p k))[it p f i]'(by rw [filS_length]; exact hxn) = old at c4
        have HQ1 := Lib.hid hQ1
        have HB2 := Lib.hid hB2
        have hu1 : IntKind.i64.wrap ((i : Int) + (s2 : Int)) = ((i + s2 : Nat) : Int) := (IntWalk.i64_in _ (by omega)).trans (by omega)
        have hu2 : (((i + s2 : Nat) : Int)).tmod m = (((i + s2) % m : Nat) : Int) := rfl
        clear hQ1 hB2 hrb
        generalize powAt p k (it p f i) = y at *
        generalize it p f i = x at *
        generalize (i + s2) % m = j at *
        generalize i + s2 = s3 at *
        have hX0 : (0 : Int) ≤ (x : Int) := by omega
        have hX1 : (x : Int) < (n : Nat) := by omega
        have hJ0 : (0 : Int) ≤ (j : Int) := by omega
        have hJ1 : (j : Int) < (m : Nat) := by omega
        gi_wp2
        refine round_region_held (S := fun wz => wz.cell? ⟨w1.heap.size + 1, 0, none⟩ = some (.slice (some ⟨w1.heap.size, 0, none⟩) n n) ∧ wz.cell? ⟨b, j, none⟩ = some (.int .i64 ((y : Nat) : Int))) (by kernel_rfl) (by kernel_rfl) (fun hh => by obtain ⟨a9, w9, h9⟩ := hh; rcases h9 with ⟨h9, -⟩; cases h9) ⟨c3, c2⟩ (fun hS => ?_)
        refine wpAnyH_take (i := 0) (v := ?_) rfl (by kernel_rfl) (by kernel_rfl) (by kernel_rfl) (fun _ _ _ h => h) (Or.inl ⟨by rfl, ?_⟩) hS ?_
        rotate_left
        · intro wz hSw; (try dsimp only at hSw); obtain ⟨q1, q2⟩ := hSw; go_simp; (try with_reducible rfl)
        try simp only [List.getElem_toArray, List.getElem_cons_zero, List.getElem_cons_succ, Act.put, List.setIfInBounds_toArray, List.set_cons_zero, List.set_cons_succ]
        refine wpAnyH_take (i := 1) (v := ?_) rfl (by kernel_rfl) (by kernel_rfl) (by kernel_rfl) (fun _ _ _ h => h) (Or.inl ⟨by rfl, ?_⟩) hS ?_
        rotate_left
        · intro wz hSw; (try dsimp only at hSw); go_simp; (try with_reducible rfl)
        try simp only [List.getElem_toArray, List.getElem_cons_zero, List.getElem_cons_succ, Act.put, List.setIfInBounds_toArray, List.set_cons_zero, List.set_cons_succ]
        refine wpAnyH_take (i := 2) (v := ?_) rfl (by kernel_rfl) (by kernel_rfl) (by kernel_rfl) (fun _ _ _ h => h) (Or.inl ⟨by rfl, ?_⟩) hS ?_
        rotate_left
        · intro wz hSw; (try dsimp only at hSw); go_simp; (try with_reducible rfl)
        try simp only [List.getElem_toArray, List.getElem_cons_zero, List.getElem_cons_succ, Act.put, List.setIfInBounds_toArray, List.set_cons_zero, List.set_cons_succ]
        refine wpAnyH_take (i := 3) (v := ?_) rfl (by kernel_rfl) (by kernel_rfl) (by kernel_rfl) (fun _ _ _ h => h) (Or.inl ⟨by rfl, ?_⟩) hS ?_
        rotate_left
        · intro wz hSw; (try dsimp only at hSw); go_simp; (try with_reducible rfl)
        try simp only [List.getElem_toArray, List.getElem_cons_zero, List.getElem_cons_succ, Act.put, List.setIfInBounds_toArray, List.set_cons_zero, List.set_cons_succ]
        refine wpAnyH_take (i := 4) (v := ?_) rfl (by kernel_rfl) (by kernel_rfl) (by kernel_rfl) (fun _ _ _ h => h) (Or.inl ⟨by rfl, ?_⟩) hS ?_
        rotate_left
        · intro wz hSw; (try dsimp only at hSw); go_simp; (try with_reducible rfl)
        try simp only [List.getElem_toArray, List.getElem_cons_zero, List.getElem_cons_succ, Act.put, List.setIfInBounds_toArray, List.set_cons_zero, List.set_cons_succ]
        refine wpAnyH_take (i := 5) (v := ?_) rfl (by kernel_rfl) (by kernel_rfl) (by kernel_rfl) (fun _ _ _ h => h) (Or.inl ⟨by rfl, ?_⟩) hS ?_
        rotate_left
        · intro wz hSw; (try dsimp only at hSw); go_simp; (try with_reducible rfl)
        try simp only [List.getElem_toArray, List.getElem_cons_zero, List.getElem_cons_succ, Act.put, List.setIfInBounds_toArray, List.set_cons_zero, List.set_cons_succ]
        refine wpAnyH_take (i := 6) (v := ?_) rfl (by kernel_rfl) (by kernel_rfl) (by kernel_rfl) (fun _ _ _ h => h) (Or.inl ⟨by rfl, ?_⟩) hS ?_
        rotate_left
        · intro wz hSw; (try dsimp only at hSw); go_simp; (try with_reducible rfl)
        try simp only [List.getElem_toArray, List.getElem_cons_zero, List.getElem_cons_succ, Act.put, List.setIfInBounds_toArray, List.set_cons_zero, List.set_cons_succ]
        refine wpAnyH_take (i := 7) (v := ?_) rfl (by kernel_rfl) (by kernel_rfl) (by kernel_rfl) (fun _ _ _ h => h) (Or.inl ⟨by rfl, ?_⟩) hS ?_
        rotate_left
        · intro wz hSw; (try dsimp only at hSw); go_simp; (try with_reducible rfl)
        try simp only [List.getElem_toArray, List.getElem_cons_zero, List.getElem_cons_succ, Act.put, List.setIfInBounds_toArray, List.set_cons_zero, List.set_cons_succ]
        refine wpAnyH_take (i := 8) (v := ?_) rfl (by kernel_rfl) (by kernel_rfl) (by kernel_rfl) (fun _ _ _ h => h) (Or.inl ⟨by rfl, ?_⟩) hS ?_
        rotate_left
        · intro wz hSw; (try dsimp only at hSw); go_simp; (try with_reducible rfl)
        try simp only [List.getElem_toArray, List.getElem_cons_zero, List.getElem_cons_succ, Act.put, List.setIfInBounds_toArray, List.set_cons_zero, List.set_cons_succ]
        refine wpAnyH_take (i := 9) (v := ?_) rfl (by kernel_rfl) (by kernel_rfl) (by kernel_rfl) (fun _ _ _ h => h) (Or.inl ⟨by rfl, ?_⟩) hS ?_
        rotate_left
        · intro wz hSw; (try dsimp only at hSw); go_simp; (try with_reducible rfl)
        try simp only [List.getElem_toArray, List.getElem_cons_zero, List.getElem_cons_succ, Act.put, List.setIfInBounds_toArray, List.set_cons_zero, List.set_cons_succ]
        refine wpAnyH_take (i := 10) (v := ?_) rfl (by kernel_rfl) (by kernel_rfl) (by kernel_rfl) (fun _ _ _ h => h) (Or.inl ⟨by rfl, ?_⟩) hS ?_
        rotate_left
        · intro wz hSw; (try dsimp only at hSw); obtain ⟨q1, q2⟩ := hSw; go_simp; (try with_reducible rfl)
        try simp only [List.getElem_toArray, List.getElem_cons_zero, List.getElem_cons_succ, Act.put, List.setIfInBounds_toArray, List.set_cons_zero, List.set_cons_succ]
        refine wpAnyH_take (i := 11) (v := ?_) rfl (by kernel_rfl) (by kernel_rfl) (by kernel_rfl) (fun _ _ _ h => h) (Or.inl ⟨by rfl, ?_⟩) hS ?_
        rotate_left
        · intro wz hSw; (try dsimp only at hSw); go_simp; (try with_reducible rfl)
        try simp only [List.getElem_toArray, List.getElem_cons_zero, List.getElem_cons_succ, Act.put, List.setIfInBounds_toArray, List.set_cons_zero, List.set_cons_succ]
        refine wpAnyH_ready (rs := [12]) (by kernel_rfl) (by simp) (AllReadyH.cons rfl (fun K hK => ?_) AllReadyH.nil)
        go_simp
        refine hK.out _ _ ⟨?_, ?_⟩ (fun _ => ?_)
        · exact (World.cell?_setCell_far _ _ _ _ (by show _ ≠ _; simp)).trans c3
        · exact (World.cell?_setCell_far _ _ _ _ (by show w1.heap.size ≠ b; omega)).trans c2
        clear hK K
        refine wpAnyH_done (by kernel_rfl) ?_ _
        gi_wp2
        go_roundw
        case rel => exact ⟨i + 1, by omega, by go_num, HQ1.out.bar (d := W1.heap.size) (m := 0) (by omega) (drew_bar _), HB2.out.trans (drew_bar _)⟩
        case measure => simp [intOf]; omega
      · obtain rfl : i = m := by omega
        have t1 : decide ((i : Int) < (i : Int)) = false := by simp
        gi_wp2
        have hQ1 := hQ.out
        rw [List.take_of_length_le (by rw [orb_length, ← HM.out]; exact Nat.le_refl _)] at hQ1
        refine ⟨by simpa using hQ1, hBr.out.size, fun j hj1 hj2 => hBr.out.same j (by omega) (.inr (by omega))⟩
  case done =>
    intro W hI hK
    have c1 := hI.out
    dsimp only
    go_wp2_with fail
    refine ⟨by simp, .inl ⟨_, _, rfl, run_takeDeferred hK, ?_⟩⟩
    have hI2 := hI.bar (d := w2.heap.size) (m := 3) (by omega) (Bar.put W (.deferred none) (Nat.le_refl _) (by omega))
    have hrw := hI2.row
    rw [filS_all _ (fun v hv => cycs_all HP.out hv)] at hrw
    exact ⟨_, results_tmp2 rfl _ _ _, w1.heap.size, rfl, hrw, Nat.le_of_lt hI2.low, hI2.below⟩
end Go.Proofs.Ytgldlanfbkgfjaa
