/- The document's own answer: the strand of digits. -/
import Derived.Test.YtgljaimoaijcaaaT4
namespace Go.Proofs.Ytgljaimoaijcaaa
open Go.RowKit

set_option maxHeartbeats 1000000 in
theorem refOf_any (l : List Bool) (w : World) (hl : l.length ≤ 4194304) :
    Calls Try.prog 44 #[.string (txt l)] w (NewSt l w) := by
  have hz := txt_size l
  have C := Lib.hid (fun w' => refBytes_any l w' hl)
  generalize txt l = s at *
  go_enter Try.func44, Try.ntmps44
  go_wp2_with fail
  refine (C.out _).mono ?_
  rintro e w1 ⟨rfl, ho, hb⟩
  obtain ⟨hc, hf⟩ := old_cells hb
  have HO := Lib.hid ho
  have HB := Lib.hid (next_below ((Below.refl _ _).alloc (Nat.le_refl _) _) hb)
  clear ho hb
  go_wp2_with fail
  refine bodyPost_ret (v := .tuple #[.agg #[.slice (some ⟨w.heap.size + 1, 0, none⟩) (nB l) (nB l), .int .i64 (l.length : Nat)], .int .i64 0]) (by simp [results, Try.results44, go_sem, hc]) rfl ⟨w.heap.size + 1, _, rfl, ⟨rfl, (Own.far ?_ ?_ _).far ?_ _⟩, by omega, ?_⟩
  · have := HO.out; simpa using this
  · show w.heap.size + 1 ≠ w.heap.size; omega
  · show w.heap.size + 1 ≠ w.heap.size; omega
  · exact (HB.out.setCell (by show _ ≤ w.heap.size; omega) _).setCell (by show _ ≤ w.heap.size; omega) _
end Go.Proofs.Ytgljaimoaijcaaa
