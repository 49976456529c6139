/- Walks: one knot by itself; bytes that are no strand's; the chapter's examples. -/
import Derived.Test.YtgljaimoaijcaaaB2
namespace Go.Proofs.Ytgljaimoaijcaaa
open Go.RowKit

set_option maxHeartbeats 1000000 in
theorem unpack_none (A : Option Addr) (c : Nat) (w : World) :
    Calls Try.prog 24 #[.slice A 0 c] w (ErrSt 13 w) := by
  go_enter Try.func24, Try.ntmps24
  go_wp2_with fail
  refine bodyPost_ret (v := .tuple #[.agg #[.slice none 0 0, .int .i64 0], .int .i64 13]) (by simp [results, Try.results24, go_sem]) rfl ⟨rfl, ?_⟩
  first
    | exact (Below.refl _ _).alloc (Nat.le_refl _) _
    | exact (((Below.refl _ _).alloc (Nat.le_refl _) _).setCell (by show _ ≤ w.heap.size; omega) _).setCell (by show _ ≤ w.heap.size; omega) _

set_option maxRecDepth 100000 in
set_option maxHeartbeats 1000000 in
theorem unpack_zero (ad : Addr) (n c : Nat) (w : World) (h1 : 1 ≤ n) (h2 : n ≤ 524289) (hb : ad.block < w.heap.size) (hc : w.cell? (ad.add (n - 1)) = some (.int .u8 0)) :
    Calls Try.prog 24 #[.slice (some ad) n c] w (ErrSt 13 w) := by
  have hc1 : ∀ o, (w.alloc o).cell? (ad.add (n - 1)) = some (.int .u8 0) := fun o => (World.cell?_alloc_lt w o _ (by rw [block_add]; exact hb)).trans hc
  have d1 : ((n : Int) == 0) = false := by simp; omega
  have d2 : decide ((524289 : Int) < (n : Int)) = false := by simp; omega
  clear hc
  go_enter Try.func24, Try.ntmps24
  go_wp2_with fail
  refine bodyPost_ret (v := .tuple #[.agg #[.slice none 0 0, .int .i64 0], .int .i64 13]) (by simp [results, Try.results24, go_sem]) rfl ⟨rfl, ?_⟩
  first
    | exact (Below.refl _ _).alloc (Nat.le_refl _) _
    | exact (((Below.refl _ _).alloc (Nat.le_refl _) _).setCell (by show _ ≤ w.heap.size; omega) _).setCell (by show _ ≤ w.heap.size; omega) _

theorem st_nil (w : World) (A : Option Addr) (c : Nat) : St w (.agg #[.slice A 0 c, .int .i64 0]) [] := ⟨A, c, rfl, Rd.nil_, by simp⟩

/-- What is behind a call that answers bits alone, in memory of their own. -/
def OneSt (l : List Bool) (w : World) (e : Ending) (w' : World) : Prop := ∃ (g : Nat) (v : Value), e = .returned v ∧ Mine w' g v l ∧ w.heap.size ≤ g ∧ Below w.heap.size w w'

set_option maxHeartbeats 1000000 in
theorem knots_one (g n : Nat) (w : World) (hn : n < 18446744073709551615) (hb : w.heap[g]? = some (.cells #[.int .u64 (n : Nat)] 25 (0, 0))) :
    Calls Try.prog 36 #[.slice (some ⟨g, 0, none⟩) 1 1] w (OneSt (knot n) w) := by
  have hg := lt_of_block hb
  have HB := Lib.hid hb
  clear hb
  have hkn : ∀ w' : World, Calls Try.prog 22 #[.agg #[.slice none 0 0, .int .i64 0], .int .u64 (n : Nat)] w' (NewSt (knot n) w') := fun w' => by
    have h := knot_any _ [] n w' (st_nil w' none 0) hn (by simp)
    rwa [List.nil_append] at h
  have HKN := Lib.hid hkn
  clear hkn
  generalize knot n = K at *
  have hcell : ∀ o p, ((w.alloc o).alloc p).cell? ⟨g, 0, none⟩ = some (.int .u64 (n : Nat)) := fun o p =>
    (World.cell?_alloc_lt _ p _ (by show g < (w.alloc o).heap.size; simp; omega)).trans ((World.cell?_alloc_lt w o _ hg).trans (cell_of_one HB.out))
  go_enter Try.func36, Try.ntmps36
  go_wp2_with fail
  go_loopw [8] (fun i wr => (i = .int .i64 0 ∧ wr = (w.alloc (.cells #[.slice none 0 0, .int .i64 0] 24)).alloc (.cells #[.slice none 0 0, .int .i64 0] 24)) ∨
      (i = .int .i64 1 ∧ ∃ g' : Nat, Hid (Own wr g' K) ∧ w.heap.size + 2 ≤ g' ∧ Hid (Below w.heap.size w wr) ∧ Hid (wr.heap[w.heap.size]? = some (.cells #[.slice none 0 0, .int .i64 0] 24 (0, 0))) ∧
        Hid (wr.heap[w.heap.size + 1]? = some (.cells #[.slice (some ⟨g', 0, none⟩) (nB K) (nB K), .int .i64 (K.length : Nat)] 24 (0, 0)))))
    (fun i _ => 1 - (intOf i).toNat)
  case atStart => exact .inl ⟨rfl, rfl⟩
  case round =>
    rcases hrel with ⟨rfl, rfl⟩ | ⟨rfl, g', HO, hg', HBl, hX, hY⟩
    · have HF : Hid (∀ o p, ((w.alloc o).alloc p).cell? ⟨g, 0, none⟩ = some (.int .u64 (n : Nat))) := hcell
      go_wp2_with fail
      refine (HKN.out _).mono ?_
      rintro e w1 ⟨g', v, rfl, ⟨rfl, ho⟩, hg', hb1⟩
      have HO := Lib.hid ho
      clear ho
      have hX := Lib.hid ((hb1.block w.heap.size (by simp only [World.size_alloc]; omega)).trans (two_first w _ _))
      have hY := Lib.hid ((hb1.block (w.heap.size + 1) (by simp only [World.size_alloc]; omega)).trans (two_second w _ _))
      obtain ⟨y1, y2, y3, y4⟩ := cells_two hY.out
      obtain ⟨x1, x2, x3, x4⟩ := cells_two hX.out
      simp only [World.size_alloc] at hg'
      have hB := Lib.hid ((((Below.refl w.heap.size w).alloc (Nat.le_refl _) _).alloc (by simp) _).trans (hb1.mono (by simp; omega)))
      clear hb1
      go_wp2_with fail
      go_roundw
      case rel =>
        refine .inr ⟨by simp, g', (HO.out.far (p := ⟨w.heap.size + 1, 0, none⟩) (by show g' ≠ w.heap.size + 1; omega) _).far (p := ⟨w.heap.size + 1, 1, none⟩) (by show g' ≠ w.heap.size + 1; omega) _, by omega, (hB.out.setCell (by show _ ≤ w.heap.size + 1; omega) _).setCell (by show _ ≤ w.heap.size + 1; omega) _, ?_, ?_⟩
        · exact (Below.heap_setCell _ _ _ _ (by show w.heap.size ≠ w.heap.size + 1; omega)).trans ((Below.heap_setCell _ _ _ _ (by show w.heap.size ≠ w.heap.size + 1; omega)).trans hX.out)
        · show _ = _
          have h := hY.out
          simp [World.setCell, Array.getElem?_modify, h]
      case measure => simp [intOf]
    · obtain ⟨x1, x2, x3, x4⟩ := cells_two hX.out
      obtain ⟨y1, y2, y3, y4⟩ := cells_two hY.out
      go_wp2_with fail
      refine bodyPost_ret (v := .agg #[.slice (some ⟨g', 0, none⟩) (nB K) (nB K), .int .i64 (K.length : Nat)]) (by simp [results, Try.results36, go_sem, x1, x2]) rfl ?_
      refine ⟨g', _, rfl, ⟨rfl, (HO.out.far (by show g' ≠ w.heap.size; omega) _).far (by show g' ≠ w.heap.size; omega) _⟩, by omega, ?_⟩
      exact (HBl.out.setCell (by show _ ≤ w.heap.size; omega) _).setCell (by show _ ≤ w.heap.size; omega) _
end Go.Proofs.Ytgljaimoaijcaaa
