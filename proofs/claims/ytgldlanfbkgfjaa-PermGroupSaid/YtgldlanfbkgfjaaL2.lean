/- The law PermGroup (layer 3): for whatever comes in. -/
import Derived.Test.YtgldlanfbkgfjaaL1
namespace Go.Proofs.Ytgldlanfbkgfjaa
open Go.RowKit

set_option maxRecDepth 100000 in
set_option maxHeartbeats 8000000 in
theorem group_walk (v0 v1 v2 : Value) (w : World) (o0 : OkInts w v0) (o1 : OkInts w v1) (o2 : OkInts w v2) :
    Calls Try.prog 4 #[v0, v1, v2] w fun e w' => e = .returned (.bool true) ∧ Below w.heap.size w w' := by
  obtain ⟨A0, c0, x0, rfl, _, r0, l0, m0, _⟩ := o0
  obtain ⟨A1, c1, x1, rfl, _, r1, l1, m1, _⟩ := o1
  obtain ⟨A2, c2, x2, rfl, _, r2, l2, m2, _⟩ := o2
  have R0 := Lib.hid r0
  have R1 := Lib.hid r1
  have R2 := Lib.hid r2
  clear r0 r1 r2
  by_cases h0 : rightP x0 = false
  · have H0 := Lib.hid h0
    clear h0
    go_enter Try.func4, Try.ntmps4
    go_wp2_with fail
    refine (rightP_any A0 c0 x0.length x0 w R0.out rfl (by omega)).mono ?_
    rintro e w1 ⟨rfl, hb⟩
    rw [show rightP x0 = false from H0.out]
    have R0 := Lib.hid (R0.out.below hb)
    have R1 := Lib.hid (R1.out.below hb)
    have R2 := Lib.hid (R2.out.below hb)
    have HB := Lib.hid hb
    clear  hb
    go_wp2_with fail
    refine (awake_any w1).mono ?_
    rintro e w99 ⟨rfl, hb⟩
    go_wp2_with fail
    go_ret
    exact ⟨rfl, next_below HB.out hb⟩
  have h0 : rightP x0 = true := by simpa using h0
  have H0 := Lib.hid h0
  by_cases h1 : rightP x1 = false
  · have H1 := Lib.hid h1
    clear h0 h1
    go_enter Try.func4, Try.ntmps4
    go_wp2_with fail
    refine (rightP_any A0 c0 x0.length x0 w R0.out rfl (by omega)).mono ?_
    rintro e w1 ⟨rfl, hb⟩
    rw [show rightP x0 = true from H0.out]
    have R0 := Lib.hid (R0.out.below hb)
    have R1 := Lib.hid (R1.out.below hb)
    have R2 := Lib.hid (R2.out.below hb)
    have HB := Lib.hid hb
    clear  hb
    go_wp2_with fail
    refine (rightP_any A1 c1 x1.length x1 w1 R1.out rfl (by omega)).mono ?_
    rintro e w2 ⟨rfl, hb⟩
    rw [show rightP x1 = false from H1.out]
    have R0 := Lib.hid (R0.out.below hb)
    have R1 := Lib.hid (R1.out.below hb)
    have R2 := Lib.hid (R2.out.below hb)
    have HB := Lib.hid (next_below HB.out hb)
    clear  hb
    go_wp2_with fail
    refine (awake_any w2).mono ?_
    rintro e w99 ⟨rfl, hb⟩
    go_wp2_with fail
    go_ret
    exact ⟨rfl, next_below HB.out hb⟩
  have h1 : rightP x1 = true := by simpa using h1
  have H1 := Lib.hid h1
  by_cases h2 : rightP x2 = false
  · have H2 := Lib.hid h2
    clear h0 h1 h2
    go_enter Try.func4, Try.ntmps4
    go_wp2_with fail
    refine (rightP_any A0 c0 x0.length x0 w R0.out rfl (by omega)).mono ?_
    rintro e w1 ⟨rfl, hb⟩
    rw [show rightP x0 = true from H0.out]
    have R0 := Lib.hid (R0.out.below hb)
    have R1 := Lib.hid (R1.out.below hb)
    have R2 := Lib.hid (R2.out.below hb)
    have HB := Lib.hid hb
    clear  hb
    go_wp2_with fail
    refine (rightP_any A1 c1 x1.length x1 w1 R1.out rfl (by omega)).mono ?_
    rintro e w2 ⟨rfl, hb⟩
    rw [show rightP x1 = true from H1.out]
    have R0 := Lib.hid (R0.out.below hb)
    have R1 := Lib.hid (R1.out.below hb)
    have R2 := Lib.hid (R2.out.below hb)
    have HB := Lib.hid (next_below HB.out hb)
    clear  hb
    go_wp2_with fail
    refine (rightP_any A2 c2 x2.length x2 w2 R2.out rfl (by omega)).mono ?_
    rintro e w3 ⟨rfl, hb⟩
    rw [show rightP x2 = false from H2.out]
    have R0 := Lib.hid (R0.out.below hb)
    have R1 := Lib.hid (R1.out.below hb)
    have R2 := Lib.hid (R2.out.below hb)
    have HB := Lib.hid (next_below HB.out hb)
    clear  hb
    go_wp2_with fail
    refine (awake_any w3).mono ?_
    rintro e w99 ⟨rfl, hb⟩
    go_wp2_with fail
    go_ret
    exact ⟨rfl, next_below HB.out hb⟩
  have h2 : rightP x2 = true := by simpa using h2
  have H2 := Lib.hid h2
  by_cases h3 : x0.length = x1.length
  · by_cases h4 : x1.length = x2.length
    · obtain ⟨p, rfl, hp, hpl⟩ := rightP_iff.1 h0
      obtain ⟨q, rfl, hq, _⟩ := rightP_iff.1 h1
      obtain ⟨r, rfl, hr, _⟩ := rightP_iff.1 h2
      rw [iz_length, iz_length] at h3 h4
      have hq' : Perm p.length q := by rw [h3]; exact hq
      have hr' : Perm p.length r := by rw [h3, h4]; exact hr
      have e1 : (iz p).length = p.length := iz_length p
      have e2 : (iz q).length = p.length := by rw [iz_length, h3]
      have e3 : (iz r).length = p.length := by rw [iz_length, h3, h4]
      rw [e1, e2, e3]
      exact group_main A0 A1 A2 c0 c1 c2 p.length p q r w R0.out R1.out R2.out hp hq' hr' hpl
    · have t4 : ((x1.length : Int) != (x2.length : Int)) = true := by simp; omega
      have t3 : ((x0.length : Int) != (x1.length : Int)) = false := by simp; omega
      have t5 : (x1.length != x2.length) = true := by simp; omega
      have t6 : (x0.length != x1.length) = false := by simp; omega
      clear h0 h1 h2 h3 h4
      go_enter Try.func4, Try.ntmps4
      go_wp2_with fail
      refine (rightP_any A0 c0 x0.length x0 w R0.out rfl (by omega)).mono ?_
      rintro e w1 ⟨rfl, hb⟩
      rw [show rightP x0 = true from H0.out]
      have R0 := Lib.hid (R0.out.below hb)
      have R1 := Lib.hid (R1.out.below hb)
      have R2 := Lib.hid (R2.out.below hb)
      have HB := Lib.hid hb
      clear  hb
      go_wp2_with fail
      refine (rightP_any A1 c1 x1.length x1 w1 R1.out rfl (by omega)).mono ?_
      rintro e w2 ⟨rfl, hb⟩
      rw [show rightP x1 = true from H1.out]
      have R0 := Lib.hid (R0.out.below hb)
      have R1 := Lib.hid (R1.out.below hb)
      have R2 := Lib.hid (R2.out.below hb)
      have HB := Lib.hid (next_below HB.out hb)
      clear  hb
      go_wp2_with fail
      refine (rightP_any A2 c2 x2.length x2 w2 R2.out rfl (by omega)).mono ?_
      rintro e w3 ⟨rfl, hb⟩
      rw [show rightP x2 = true from H2.out]
      have R0 := Lib.hid (R0.out.below hb)
      have R1 := Lib.hid (R1.out.below hb)
      have R2 := Lib.hid (R2.out.below hb)
      have HB := Lib.hid (next_below HB.out hb)
      clear  hb
      go_wp2_with fail
      refine (awake_any w3).mono ?_
      rintro e w99 ⟨rfl, hb⟩
      go_wp2_with fail
      go_ret
      exact ⟨rfl, next_below HB.out hb⟩
  · have t3 : ((x0.length : Int) != (x1.length : Int)) = true := by simp; omega
    have t5 : (x0.length != x1.length) = true := by simp; omega
    clear h0 h1 h2 h3
    go_enter Try.func4, Try.ntmps4
    go_wp2_with fail
    refine (rightP_any A0 c0 x0.length x0 w R0.out rfl (by omega)).mono ?_
    rintro e w1 ⟨rfl, hb⟩
    rw [show rightP x0 = true from H0.out]
    have R0 := Lib.hid (R0.out.below hb)
    have R1 := Lib.hid (R1.out.below hb)
    have R2 := Lib.hid (R2.out.below hb)
    have HB := Lib.hid hb
    clear  hb
    go_wp2_with fail
    refine (rightP_any A1 c1 x1.length x1 w1 R1.out rfl (by omega)).mono ?_
    rintro e w2 ⟨rfl, hb⟩
    rw [show rightP x1 = true from H1.out]
    have R0 := Lib.hid (R0.out.below hb)
    have R1 := Lib.hid (R1.out.below hb)
    have R2 := Lib.hid (R2.out.below hb)
    have HB := Lib.hid (next_below HB.out hb)
    clear  hb
    go_wp2_with fail
    refine (rightP_any A2 c2 x2.length x2 w2 R2.out rfl (by omega)).mono ?_
    rintro e w3 ⟨rfl, hb⟩
    rw [show rightP x2 = true from H2.out]
    have R0 := Lib.hid (R0.out.below hb)
    have R1 := Lib.hid (R1.out.below hb)
    have R2 := Lib.hid (R2.out.below hb)
    have HB := Lib.hid (next_below HB.out hb)
    clear  hb
    go_wp2_with fail
    refine (awake_any w3).mono ?_
    rintro e w99 ⟨rfl, hb⟩
    go_wp2_with fail
    go_ret
    exact ⟨rfl, next_below HB.out hb⟩
end Go.Proofs.Ytgldlanfbkgfjaa
