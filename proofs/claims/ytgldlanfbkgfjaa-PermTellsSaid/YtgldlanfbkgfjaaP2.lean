/- Compose, Invert, both, CopyInts (layer 3). -/
import Derived.Test.YtgldlanfbkgfjaaP1
import Derived.Laws.AppendOwnNone
namespace Go.Proofs.Ytgldlanfbkgfjaa
open Go.RowKit

theorem perm_right {n : Nat} {p : List Nat} (h : Perm n p) (hn : n ≤ 200) : rightP (iz p) = true := by
  obtain ⟨rfl, h2, h3⟩ := h
  exact rightP_iff.2 ⟨p, rfl, ⟨rfl, h2, h3⟩, hn⟩
theorem izl {n : Nat} {p : List Nat} (h : Perm n p) : n = (iz p).length := by rw [iz_length, h.len]

set_option maxRecDepth 100000 in
set_option maxHeartbeats 8000000 in
theorem compose_yes (A B : Option Addr) (c d n : Nat) (p q : List Nat) (w : World) (hr : RdZ w A (iz p)) (hs : RdZ w B (iz q)) (hp : Perm n p) (hq : Perm n q) (hn : n ≤ 200) :
    Calls Try.prog 12 #[.slice A n c, .slice B n d] w fun e w' => ∃ K : Nat, e = .returned (.tuple #[.slice (some ⟨K, 0, none⟩) n n, .int .i64 0]) ∧ OwnZ w' K (iz (compP p q)) ∧ w.heap.size ≤ K ∧ Below w.heap.size w w' := by
  have R1 := perm_right hp hn
  have R2 := perm_right hq hn
  have HA := Lib.hid hr
  have HB := Lib.hid hs
  have HP := Lib.hid hp
  have HQ := Lib.hid hq
  have hmk := fun w' => make_ints n (by omega) w'
  have HR1 := Lib.hid R1
  have HR2 := Lib.hid R2
  have hnn : ((n : Int) != (n : Int)) = false := by simp
  clear hr hs hp hq R1 R2
  go_enter Try.func12, Try.ntmps12
  go_wp2_with fail
  refine (rightP_any A c n (iz p) w HA.out (izl HP.out) (by omega)).mono ?_
  rintro e w1 ⟨rfl, hb1⟩
  rw [HR1.out]
  have HB1 := Lib.hid hb1
  clear hb1
  go_wp2_with fail
  refine (rightP_any B d n (iz q) w1 (HB.out.below HB1.out) (izl HQ.out) (by omega)).mono ?_
  rintro e w2 ⟨rfl, hb2⟩
  rw [HR2.out]
  have HB2 := Lib.hid (next_below HB1.out hb2)
  clear hb2
  obtain ⟨f, hf⟩ : ∃ f : Nat → Nat, f = fun i => gn q (gn p i) := ⟨_, rfl⟩
  have HF := Lib.hid hf
  clear hf
  have HB0 : Hid (Below w2.heap.size w2 (w2.alloc (.cells (zs (List.replicate n 0)).toArray 3))) := (Below.refl _ _).alloc (Nat.le_refl _) _
  have HZ0 : Hid (OwnZ (w2.alloc (.cells (zs (List.replicate n 0)).toArray 3)) w2.heap.size (fillN n 0 f)) := by
    show _ = _
    rw [fillN_zero]
    exact heap_alloc_new w2 _
  go_wp2_with fail
  clear hmk
  go_loopw [29] (fun s wr => ∃ k : Nat, k ≤ n ∧ s = .int .i64 k ∧ Hid (OwnZ wr w2.heap.size (fillN n k f)) ∧ Hid (Below w2.heap.size w2 wr)) (fun s _ => n - (intOf s).toNat)
  case atStart => exact ⟨0, Nat.zero_le _, rfl, HZ0, HB0⟩
  case round =>
    obtain ⟨k, hk, rfl, hZ, hb⟩ := hrel
    by_cases h1 : k < n
    · have t1 : decide ((k : Int) < (n : Int)) = true := by simp; omega
      have hI0 : (0 : Int) ≤ (k : Int) := by omega
      have hI1 : (k : Int) < (n : Nat) := by omega
      have HBW := Lib.hid (next_below HB2.out hb.out)
      obtain ⟨a1, rfl, _, e0⟩ := (HA.out.below HBW.out) k _ (iz_at (by rw [HP.out.len]; exact h1))
      have hg := HP.out.gn_lt h1
      obtain ⟨a2, rfl, _, e1⟩ := (HB.out.below HBW.out) (gn p k) _ (iz_at (by rw [HQ.out.len]; exact hg))
      have c0 := hZ.out.at_ (List.getElem?_eq_getElem (show k < (fillN n k f).length by rw [fillN_length]; exact h1))
      have c1 : wr.frozen? ⟨w2.heap.size, k, none⟩ = false := free_of hZ.out k
      have hfk : f k = gn q (gn p k) := by rw [HF.out]
      have hz := hZ.out.set (v := k) ((f k : Nat) : Int)
      rw [fillN_step f h1, hfk] at hz
      have HZ1 := Lib.hid hz
      have HB3 := Lib.hid (hb.out.setCell (p := ⟨w2.heap.size, k, none⟩) (Nat.le_refl _) (.int .i64 ((gn q (gn p k) : Nat) : Int)))
      clear hz hfk
      generalize (fillN n k f)[k]'(by rw [fillN_length]; exact h1) = old at c0
      generalize gn q (gn p k) = y at *
      generalize gn p k = x at *
      have hX0 : (0 : Int) ≤ (x : Int) := by omega
      have hX1 : (x : Int) < (n : Nat) := by omega
      go_wp2_with fail
      go_roundw
      case rel => exact ⟨k + 1, by omega, by go_num, HZ1, HB3⟩
      case measure => simp [intOf]; omega
    · obtain rfl : k = n := by omega
      have t1 : decide ((k : Int) < (k : Int)) = false := by simp
      have HZ1 : Hid (OwnZ wr w2.heap.size (iz (compP p q))) := by
        have h := hZ.out
        rw [fillN_all, HF.out] at h
        unfold compP
        rw [HP.out.len]
        exact h
      go_wp2_with fail
      go_ret2
      exact ⟨_, rfl, HZ1.out, HB2.out.size, next_below HB2.out hb.out⟩

theorem invN_step {n k : Nat} {p : List Nat} (hp : Perm n p) (h : k < n) : ((List.range n).map fun v => if p.idxOf v < k then ((p.idxOf v : Nat) : Int) else 0).set (gn p k) (k : Int) = (List.range n).map fun v => if p.idxOf v < k + 1 then ((p.idxOf v : Nat) : Int) else 0 := by
  have hidx : p.idxOf (gn p k) = k := by
    have h1 := gn_inv hp h
    unfold invP at h1
    rw [gn_map (by rw [hp.len]; exact hp.gn_lt h)] at h1
    exact h1
  apply List.ext_getElem?
  intro i
  by_cases hi : i < n
  · by_cases e : i = gn p k
    · subst e
      rw [List.getElem?_set_self (by simpa using hi)]
      simp [hi, hidx]
    · rw [List.getElem?_set_ne (fun e2 => e e2.symm)]
      have h1 : (p.idxOf i < k + 1) ↔ p.idxOf i < k := by
        constructor
        · intro h2
          rcases Nat.lt_or_eq_of_le (Nat.le_of_lt_succ h2) with h3 | h3
          · exact h3
          · exfalso
            apply e
            have hm := hp.mem hi
            have h4 := List.getElem_idxOf (List.idxOf_lt_length_iff.2 hm)
            have h5 : gn p k = p[p.idxOf i]'(List.idxOf_lt_length_iff.2 hm) := by
              simp only [h3, gn, List.getD]
              rw [List.getElem?_eq_getElem (by rw [hp.len]; exact h)]
              rfl
            rw [h5, h4]
        · intro h2; omega
      simp [hi, h1]
  · rw [List.getElem?_eq_none (by simp; omega), List.getElem?_eq_none (by simp; omega)]
set_option maxRecDepth 100000 in
set_option maxHeartbeats 8000000 in
theorem invert_yes (A : Option Addr) (c n : Nat) (p : List Nat) (w : World) (hr : RdZ w A (iz p)) (hp : Perm n p) (hn : n ≤ 200) :
    Calls Try.prog 14 #[.slice A n c] w fun e w' => ∃ K : Nat, e = .returned (.tuple #[.slice (some ⟨K, 0, none⟩) n n, .int .i64 0]) ∧ OwnZ w' K (iz (invP p)) ∧ w.heap.size ≤ K ∧ Below w.heap.size w w' := by
  have R1 := perm_right hp hn
  have HA := Lib.hid hr
  have HP := Lib.hid hp
  have hmk := fun w' => make_ints n (by omega) w'
  have HR1 := Lib.hid R1
  clear hr hp R1
  go_enter Try.func14, Try.ntmps14
  go_wp2_with fail
  refine (rightP_any A c n (iz p) w HA.out (izl HP.out) (by omega)).mono ?_
  rintro e w2 ⟨rfl, hb1⟩
  rw [HR1.out]
  have HB2 := Lib.hid hb1
  clear hb1
  obtain ⟨F, hF⟩ : ∃ F : Nat → List Int, F = fun k => (List.range n).map fun v => if p.idxOf v < k then ((p.idxOf v : Nat) : Int) else 0 := ⟨_, rfl⟩
  have HF := Lib.hid hF
  have hFl : ∀ k, (F k).length = n := fun k => by rw [hF]; simp
  have HFL := Lib.hid hFl
  have HFS : Hid (∀ k, k < n → (F k).set (gn p k) (k : Int) = F (k + 1)) := fun k hk => by rw [hF]; exact invN_step HP.out hk
  have HB0 : Hid (Below w2.heap.size w2 (w2.alloc (.cells (zs (List.replicate n 0)).toArray 3))) := (Below.refl _ _).alloc (Nat.le_refl _) _
  have HZ0 : Hid (OwnZ (w2.alloc (.cells (zs (List.replicate n 0)).toArray 3)) w2.heap.size (F 0)) := by
    show _ = _
    have : F 0 = List.replicate n 0 := by
      rw [hF]
      apply List.ext_getElem?
      intro i
      by_cases h : i < n
      · simp [h, List.getElem?_replicate]
      · rw [List.getElem?_eq_none (by simp; omega), List.getElem?_eq_none (by rw [List.length_replicate]; omega)]
    rw [this]
    exact heap_alloc_new w2 _
  clear hF hFl
  go_wp2_with fail
  clear hmk
  go_loopw [15] (fun s wr => ∃ k : Nat, k ≤ n ∧ s = .int .i64 k ∧ Hid (OwnZ wr w2.heap.size (F k)) ∧ Hid (Below w2.heap.size w2 wr)) (fun s _ => n - (intOf s).toNat)
  case atStart => exact ⟨0, Nat.zero_le _, rfl, HZ0, HB0⟩
  case round =>
    obtain ⟨k, hk, rfl, hZ, hb⟩ := hrel
    by_cases h1 : k < n
    · have t1 : decide ((k : Int) < (n : Int)) = true := by simp; omega
      have hI0 : (0 : Int) ≤ (k : Int) := by omega
      have hI1 : (k : Int) < (n : Nat) := by omega
      have HBW := Lib.hid (next_below HB2.out hb.out)
      obtain ⟨a1, rfl, _, e0⟩ := (HA.out.below HBW.out) k _ (iz_at (by rw [HP.out.len]; exact h1))
      have hg := HP.out.gn_lt h1
      have c0 := hZ.out.at_ (List.getElem?_eq_getElem (show gn p k < (F k).length by rw [HFL.out]; exact hg))
      have c1 : wr.frozen? ⟨w2.heap.size, gn p k, none⟩ = false := free_of hZ.out _
      have hz := hZ.out.set (v := gn p k) (k : Int)
      rw [HFS.out k h1] at hz
      have HZ1 := Lib.hid hz
      have HB3 := Lib.hid (hb.out.setCell (p := ⟨w2.heap.size, gn p k, none⟩) (Nat.le_refl _) (.int .i64 (k : Int)))
      clear hz
      generalize (F k)[gn p k]'(by rw [HFL.out]; exact hg) = old at c0
      generalize gn p k = x at *
      have hX0 : (0 : Int) ≤ (x : Int) := by omega
      have hX1 : (x : Int) < (n : Nat) := by omega
      go_wp2_with fail
      go_roundw
      case rel => exact ⟨k + 1, by omega, by go_num, HZ1, HB3⟩
      case measure => simp [intOf]; omega
    · obtain rfl : k = n := by omega
      have t1 : decide ((k : Int) < (k : Int)) = false := by simp
      have HZ1 : Hid (OwnZ wr w2.heap.size (iz (invP p))) := by
        have h := hZ.out
        have e : F k = iz (invP p) := by
          rw [HF.out]
          unfold invP iz
          rw [List.map_map, HP.out.len]
          apply List.map_congr_left
          intro i hi
          have hm := HP.out.mem (List.mem_range.1 hi)
          have := List.idxOf_lt_length_iff.2 hm
          rw [HP.out.len] at this
          rw [if_pos this]
          rfl
        rw [e] at h
        exact h
      go_wp2_with fail
      go_ret2
      exact ⟨_, rfl, HZ1.out, HB2.out.size, next_below HB2.out hb.out⟩
set_option maxHeartbeats 4000000 in
theorem invert_no (A : Option Addr) (c n : Nat) (xs : List Int) (w : World) (hr : RdZ w A xs) (hn : n = xs.length) (hs : n ≤ 9223372036854775807) (hx : rightP xs = false) :
    Calls Try.prog 14 #[.slice A n c] w fun e w' => e = .returned (.tuple #[.slice none 0 0, .int .i64 30]) ∧ Below w.heap.size w w' := by
  have HA := Lib.hid hr
  have HN := Lib.hid hn
  have HX := Lib.hid hx
  clear hr hn hx
  go_enter Try.func14, Try.ntmps14
  go_wp2_with fail
  refine (rightP_any A c n xs w HA.out HN.out hs).mono ?_
  rintro e w2 ⟨rfl, hb1⟩
  rw [HX.out]
  go_wp2_with fail
  go_ret2
  exact ⟨rfl, hb1⟩
set_option maxHeartbeats 4000000 in
theorem both_yes (A B : Option Addr) (c d n : Nat) (p q : List Nat) (w : World) (hr : RdZ w A (iz p)) (hs : RdZ w B (iz q)) (hp : Perm n p) (hq : Perm n q) (hn : n ≤ 200) :
    Calls Try.prog 31 #[.slice A n c, .slice B n d] w fun e w' => ∃ K : Nat, e = .returned (.tuple #[.slice (some ⟨K, 0, none⟩) n n, .bool true]) ∧ OwnZ w' K (iz (compP p q)) ∧ w.heap.size ≤ K ∧ Below w.heap.size w w' := by
  have HC := Lib.hid (compose_yes A B c d n p q w hr hs hp hq hn)
  have HPC := Lib.hid (hp.comp hq)
  clear hr hs hp hq
  go_enter Try.func31, Try.ntmps31
  go_wp2_with fail
  refine HC.out.mono ?_
  rintro e w1 ⟨K, rfl, hK, hKb, hb⟩
  have HK := Lib.hid hK
  have HB := Lib.hid hb
  have HR := Lib.hid (perm_right HPC.out hn)
  clear hK hb
  go_wp2_with fail
  refine (rightP_any (some ⟨K, 0, none⟩) n n (iz (compP p q)) w1 HK.out.rd (izl HPC.out) (by omega)).mono ?_
  rintro e w2 ⟨rfl, hb2⟩
  rw [HR.out]
  go_wp2_with fail
  go_ret2
  exact ⟨K, rfl, HK.out.below hb2, hKb, next_below HB.out hb2⟩
end Go.Proofs.Ytgldlanfbkgfjaa
