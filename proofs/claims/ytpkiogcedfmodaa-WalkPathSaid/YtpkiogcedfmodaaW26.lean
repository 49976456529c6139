/- WalkPath. -/
import Derived.Test.YtpkiogcedfmodaaW20
import Derived.Test.YtpkiogcedfmodaaW25
namespace Go.Proofs.Ytpkiogcedfmodaa
open Go.RowKit

set_option maxHeartbeats 4000000 in
theorem path_no (A : Option Addr) (c : Nat) (N a b : Int) (E : List (Int × Int)) (w : World) (hr : RdP w A E) (ht : thereB N E [a, b] = false) :
    Calls Try.prog 7 #[.agg #[.int .i64 N, .slice A E.length c], .int .i64 a, .int .i64 b] w fun e w' => e = .returned (.bool true) ∧ Below w.heap.size w w' := by
  obtain ⟨W, hW⟩ : ∃ W, W = w.alloc (.cells #[.int .i64 N, .slice A E.length c] 24) := ⟨_, rfl⟩
  have hb : Below w.heap.size w W := by rw [hW]; exact (Below.refl _ _).alloc (Nat.le_refl _) _
  have hWS : w.heap.size < W.heap.size := by rw [hW]; simp
  have hWz : W.heap.size = w.heap.size + 1 := by rw [hW]; simp
  obtain ⟨i0, i1, _, _⟩ := cells_two (w := W) (by rw [hW]; exact heap_alloc_new w _)
  have HR := Lib.hid (hr.below hb)
  have HB := Lib.hid hb
  have HT := Lib.hid ht
  have HW := Lib.hid hW
  clear hr hb hW ht
  go_enter Try.func7, Try.ntmps7
  go_wp2_with fail
  rw [← HW.out]
  have HLT := Lib.hid (two_lit W a b)
  rw [hWz] at HLT
  clear hWz
  have HBA := Lib.hid ((Below.refl W.heap.size W).alloc (Nat.le_refl _) (.cells #[.int .i64 a, .int .i64 b] 3))
  refine (there_any A (some ⟨w.heap.size + 1, 0, none⟩) c 2 E.length 2 N E [a, b] _ (HR.out.below HBA.out) rfl (HLT.out) rfl (by omega)).mono ?_
  rintro e w1 ⟨rfl, hb1⟩
  rw [HT.out]
  have HB1 := Lib.hid (HB.out.trans ((next_below HBA.out hb1).mono (Nat.le_of_lt hWS)))
  clear hb1 i0 i1
  go_wp2_with fail
  refine (awake_any w1).mono ?_
  rintro e w2 ⟨rfl, hb2⟩
  go_wp2_with fail
  go_ret
  exact ⟨rfl, next_below HB1.out hb2⟩

end Go.Proofs.Ytpkiogcedfmodaa
