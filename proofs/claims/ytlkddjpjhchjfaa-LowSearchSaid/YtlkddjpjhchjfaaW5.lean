/- slices.Repeat of one number. -/
import Derived.Test.YtlkddjpjhchjfaaW3
import Derived.Test.YtlkddjpjhchjfaaWS
import Derived.Deep.RegionLaw
namespace Go.Proofs.Ytlkddjpjhchjfaa
set_option maxRecDepth 100000
open Go.RowKit

def fill (i N : Nat) (z : Int) : List Value := List.replicate i (.int .i64 z) ++ List.replicate (N - i) (.int .i64 0)
theorem fill_length {i N : Nat} (z : Int) (h : i ≤ N) : (fill i N z).length = N := by simp [fill]; omega
theorem fill_splice {i N m : Nat} (z : Int) (h : i + m ≤ N) : splice (fill i N z) i (List.replicate m (.int .i64 z)) = fill (i + m) N z := by
  unfold splice fill
  rw [List.take_append_of_le_length (by simp), List.take_of_length_le (by simp), List.length_replicate, List.drop_append, List.drop_of_length_le (by simp), List.length_replicate, List.drop_replicate, List.nil_append,
    ← List.append_assoc, List.replicate_append_replicate]
  congr 2
  omega
theorem fill_get {i N j : Nat} (z : Int) (h : j < i) : (fill i N z)[j]? = some (.int .i64 z) := by
  unfold fill
  rw [List.getElem?_append_left (by simpa using h)]
  simp [h]
theorem fill_all (N : Nat) (z : Int) : fill N N z = List.replicate N (.int .i64 z) := by simp [fill]

set_option maxHeartbeats 4000000 in
theorem repeat_any (g N : Nat) (z : Int) (w : World) (hz : w.cell? ⟨g, 0, none⟩ = some (.int .i64 z)) (hN : N ≤ 1000000) :
    Calls Try.prog 74 #[.slice (some ⟨g, 0, none⟩) 1 1, .int .i64 (N : Nat)] w fun e w' => ∃ B, e = .returned (.slice (some ⟨B, 0, none⟩) N N) ∧ w'.heap[B]? = some (.cells (List.replicate N (Value.int .i64 z)).toArray 3 (0, 0)) ∧ w.heap.size ≤ B ∧ Below w.heap.size w w' := by
  obtain ⟨i0, hi0, hz0, hz1, hz2⟩ := info_partsI i64info
  have hmk : ∀ w' : World, (Instr.makeSlice 35 (.int .i64 N) (.int .i64 N)).run Try.prog w' = .ok (.slice (some ⟨w'.heap.size, 0, none⟩) N N) (w'.alloc (.cells (fill 0 N z).toArray 3)) := by
    intro w'
    have hr := run_make (P := Try.prog) w' 35 3 i0 (.int .i64 0) Try.underlying35 hi0 hz0 .i64 .i64 N N (by omega) (by omega) (by rw [hz2]; omega) (by omega)
    rw [hz1, Nat.mul_one] at hr
    rw [hr]
    congr 3
    apply Array.ext'
    show (madeCells #[Value.int .i64 0] N).toList = _
    rw [toList_madeCells_one]
    simp [fill]
  have hsz : (Try.prog.info? 3).map (·.size) = some 1 := by rw [hi0]; simp [hz1]
  have hmul : ((1 * N / 18446744073709551616 : Nat) : Int) = 0 := by rw [Nat.div_eq_of_lt (by omega)]; rfl
  have hmul2 : ((1 * N % 18446744073709551616 : Nat) : Int) = (N : Nat) := by rw [Nat.mod_eq_of_lt (by omega), Nat.one_mul]
  have hn0 : decide ((N : Int) < 0) = false := by simp
  have hbig : decide ((9223372036854775807 : Int) < (N : Int)) = false := by simp; omega
  obtain ⟨m, hm⟩ : ∃ m, m = min 1 N := ⟨_, rfl⟩
  have hmN : m ≤ N := by omega
  have hml : (List.replicate m (Value.int .i64 z)).length = m := by simp
  obtain ⟨cs, hcs⟩ : ∃ cs, cs = List.replicate m (Value.int .i64 z) := ⟨_, rfl⟩
  rw [← hcs] at hml
  have HCS := Lib.hid hcs
  have HG := Lib.hid (heap_alloc_new w (.cells (fill 0 N z).toArray 3))
  have HB := Lib.hid ((Below.refl w.heap.size w).alloc (Nat.le_refl _) (.cells (fill 0 N z).toArray 3))
  have HSRC : Hid (∀ j v, cs[j]? = some v → (w.alloc (.cells (fill 0 N z).toArray 3)).cell? ((⟨g, 0, none⟩ : Addr).add j) = some v) := by
    intro j v hj
    have hjl := (List.getElem?_eq_some_iff.1 hj).1
    obtain rfl : j = 0 := by omega
    have hv : v = .int .i64 z := by
      rw [hcs, List.getElem?_replicate] at hj
      split at hj
      · injection hj with hj; exact hj.symm
      · cases hj
    rw [hv, add_off]
    exact (World.cell?_alloc_lt _ _ _ (World.block_lt_of_cell? w _ hz)).trans hz
  have HONE : Hid (∀ v ∈ cs, v.oneCell' = true) := by
    intro v hv
    rw [hcs] at hv
    rw [List.eq_of_mem_replicate hv]
    rfl
  have HFL := Lib.hid (fill_length (i := 0) (N := N) z (Nat.zero_le _))
  clear hz hcs
  go_enter Try.func74, Try.ntmps74
  go_wp2_with (first
    | (go_at_call 83; refine (mul_any 1 N (by omega) (by omega) _).mono ?_; rintro e wn ⟨rfl, hw⟩; rw [hmul, hmul2, hw]; clear hw)
    | ((with_reducible refine wpList_copy_splice rfl (.tmp 31) (.tmp 32) 35 35 rfl 3 Try.underlying35 hsz (some ⟨w.heap.size, 0, none⟩) (some ⟨g, 0, none⟩) N N 1 1 rfl rfl w.heap.size 0 (fill 0 N z) 3 HG.out cs (hml.trans hm) (fun _ => ⟨rfl, _, rfl, HSRC.out⟩) (by rw [HFL.out, hml]; omega) HONE.out w.heap.size w HB.out (Nat.le_refl _) ?_); intro w2 hg2 hb2))
  have hfill : splice (fill 0 N z) 0 cs = fill m N z := by
    rw [HCS.out, fill_splice z (by omega), Nat.zero_add]
  rw [hfill] at hg2
  have hb2' := Lib.hid hb2
  have hm1 : 1 ≤ m ∨ N = 0 := by omega
  clear hfill HSRC HONE HFL HG HB
  go_loopw [8] (fun s wr => ∃ i : Nat, i ≤ N ∧ (1 ≤ i ∨ N = 0) ∧ s = .int .i64 i ∧ Hid (wr.heap[w.heap.size]? = some (.cells (fill i N z).toArray 3 (0, 0))) ∧ Hid (Below w.heap.size w wr)) (fun s _ => N - (intOf s).toNat)
  case atStart => exact ⟨m, hmN, hm1, by rw [hm], hg2, hb2'⟩
  case round =>
    obtain ⟨i, hi, hi1, rfl, hg, hb⟩ := hrel
    by_cases hlt : i < N
    · obtain ⟨k, hk⟩ : ∃ k, k = min i (N - i) := ⟨_, rfl⟩
      have hI0 : (0 : Int) ≤ (i : Int) := by omega
      have hI1 : (i : Int) ≤ (N : Int) := by omega
      obtain ⟨ds, hds⟩ : ∃ ds, ds = List.replicate k (Value.int .i64 z) := ⟨_, rfl⟩
      have hdl : ds.length = k := by rw [hds]; simp
      have HD := Lib.hid hds
      have HSRC : Hid (∀ j v, ds[j]? = some v → wr.drew.cell? ((⟨w.heap.size, 0, none⟩ : Addr).add j) = some v) := by
        intro j v hj
        have hjl := (List.getElem?_eq_some_iff.1 hj).1
        have hv : v = .int .i64 z := by
          rw [hds, List.getElem?_replicate] at hj
          split at hj
          · injection hj with hj; exact hj.symm
          · cases hj
        rw [hv, add_off]
        show wr.cell? _ = _
        rw [cell_of hg.out]
        simp only [List.getElem?_toArray]
        exact fill_get z (by omega)
      have HONE : Hid (∀ v ∈ ds, v.oneCell' = true) := by
        intro v hv
        rw [hds] at hv
        rw [List.eq_of_mem_replicate hv]
        rfl
      have HFL := Lib.hid (fill_length z hi)
      have hsub : ((N : Int) - i).toNat = N - i := by omega
      clear hds
      go_upto_region 9 with fail
      go_region_law (refine step_copy_splice rfl (.tmp 41) (.tmp 44) 35 35 rfl 3 Try.underlying35 hsz (some ⟨w.heap.size, i, none⟩) (some ⟨w.heap.size, 0, none⟩) (N - i) (N - i) i N (by simp [Act.eval, Act.put]; omega) (by simp [Act.eval, Act.put]) w.heap.size i (fill i N z) 3 hg.out ds (hdl.trans hk) (fun _ => ⟨rfl, _, rfl, HSRC.out⟩) (by rw [HFL.out, hdl]; omega) HONE.out w.heap.size w hb.out.drew (Nat.le_refl _) ?_; intro w4 hg4 hb4)
      all_goals go_wp2_with fail
      all_goals
        have hwk : IntKind.i64.wrap ((i : Int) + ((min i (N - i) : Nat) : Int)) = ((i + k : Nat) : Int) := by
          rw [← hk, IntWalk.i64_in _ (by omega)]
          omega
        rw [hwk]
        refine ⟨⟨i + k, by omega, by omega, rfl, ?_, by first | trivial | exact Lib.hid hb4⟩, by simp [intOf]; omega⟩
        have h := hg4.out
        rw [HD.out, fill_splice z (by omega)] at h
        exact h
    · obtain rfl : i = N := by omega
      go_wp2_with fail
      go_ret
      have h := hg.out
      rw [fill_all] at h
      exact ⟨_, rfl, h, Nat.le_refl _, hb.out⟩
end Go.Proofs.Ytlkddjpjhchjfaa
