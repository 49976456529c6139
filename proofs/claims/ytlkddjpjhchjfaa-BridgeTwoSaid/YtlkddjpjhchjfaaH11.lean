/- The chapter's examples (layer 8). -/
import Derived.Test.YtlkddjpjhchjfaaH10
namespace Go.Proofs.Ytlkddjpjhchjfaa
set_option maxRecDepth 100000
open Go.RowKit

def E0 : List (Int × Int) := [(0, 1), (0, 2), (0, 3), (0, 4), (1, 2), (1, 4), (2, 3), (3, 4)]
def W0 : List (Int × Int) := [(0, 1), (0, 3), (1, 2), (2, 3)]
def F0 : List (List (Int × Int) × List Int) := [([(0, 2)], [0, 2]), ([(0, 4), (1, 4), (3, 4)], [0, 1, 3])]
theorem srtZ_id {l : List Int} (h : l.Pairwise fun a b => decide (a ≤ b) = true) : srtZ l = l := List.mergeSort_of_pairwise h
theorem fin1_id {x : List (Int × Int) × List Int} (h : x.2.Pairwise fun a b => decide (a ≤ b) = true) (hc : Lib.compact x.2 = x.2) : fin1 x = x := by
  unfold fin1
  rw [srtZ_id h, hc]
theorem frags0 : fragsT 5 E0 W0 = (F0, 0) := by
  have h1 : (fragsO (onW W0) (leftP W0 E0 E0.length).1 (ownF 5 (onW W0) (fun v => (rT (onW W0) (leftP W0 E0 E0.length).1 5 (leftP W0 E0 E0.length).1.length).getD v 0) (leftP W0 E0 E0.length).1) (leftP W0 E0 E0.length).1.length) = F0 := by decide +kernel
  unfold fragsT fragsF
  rw [if_neg (by decide), if_pos (by decide), show (5 : Int).toNat = 5 from rfl, h1]
  simp only [F0, List.map_cons, List.map_nil]
  rw [fin1_id (by decide) (by decide +kernel), fin1_id (by decide) (by decide +kernel)]
theorem frags1 : fragsT 5 E0 [] = ([(E0, [])], 0) := by
  have h1 : (fragsO (onW []) (leftP [] E0 E0.length).1 (ownF 5 (onW []) (fun v => (rT (onW []) (leftP [] E0 E0.length).1 5 (leftP [] E0 E0.length).1.length).getD v 0) (leftP [] E0 E0.length).1) (leftP [] E0 E0.length).1.length) = [(E0, [])] := by decide +kernel
  unfold fragsT fragsF
  rw [if_neg (by decide), if_pos (by decide), show (5 : Int).toNat = 5 from rfl, h1]
  simp only [List.map_cons, List.map_nil]
  rw [fin1_id (by simp) (by decide +kernel)]
theorem frags2 : fragsT 5 E0 E0 = ([], 0) := by
  have h1 : (fragsO (onW E0) (leftP E0 E0 E0.length).1 (ownF 5 (onW E0) (fun v => (rT (onW E0) (leftP E0 E0 E0.length).1 5 (leftP E0 E0 E0.length).1.length).getD v 0) (leftP E0 E0 E0.length).1) (leftP E0 E0 E0.length).1.length) = [] := by decide +kernel
  unfold fragsT fragsF
  rw [if_neg (by decide), if_pos (by decide), show (5 : Int).toNat = 5 from rfl, h1]
  rfl
theorem frags3 : fragsT 5 E0 [(1, 2), (0, 1)] = ([], 2) := by
  unfold fragsT
  rw [if_neg (by decide), if_neg (by decide)]
/-- The answer, its length spelled. -/
theorem frags_c (A B : Option Addr) (c d n m : Nat) (N : Int) (E W : List (Int × Int)) (F : List (List (Int × Int) × List Int)) (er : Int) (l : Nat) (h : fragsT N E W = (F, er)) (hl : F.length = l) (w : World) (hE : RdP w A E) (hW : RdP w B W) (hn : n = E.length) (hm : m = W.length) (hmd : m ≤ d) (hd : d ≤ 9223372036854775807) :
    Calls Try.prog 43 #[.agg #[.int .i64 N, .slice A n c], .slice B m d] w fun e w' => ∃ A' c' fr, e = .returned (.tuple #[.slice A' l c', .int .i64 er]) ∧ Frags w' w.heap.size (.slice A' l c') fr F ∧ Below w.heap.size w w' := by
  refine (frags_any A B c d n m N E W w hE hW hn hm hmd hd).mono ?_
  rintro e w' ⟨V, fr, rfl, hF, hb⟩
  rw [h] at hF ⊢
  subst hl
  simp only at hF
  obtain ⟨A', c', ev⟩ := owns_form hF.row
  subst ev
  exact ⟨A', c', fr, rfl, hF, hb⟩
theorem lit_rdP (w : World) (E : List (Int × Int)) : RdP (w.alloc (.cells (pcells E).toArray 51)) (some ⟨w.heap.size, 0, none⟩) E := by
  intro q e hq
  obtain ⟨h1, h2⟩ := pcells_at E q e hq
  have hn := heap_alloc_new w (.cells (pcells E).toArray 51)
  refine ⟨_, rfl, by simp, ?_, ?_⟩
  · rw [add_off, cell_of hn]
    simpa [zv] using h1
  · rw [add_off, cell_of hn]
    simpa [zv] using h2
theorem lit_rd (w : World) (xs : List Int) : RdZ (w.alloc (.cells (zs xs).toArray 3)) (some ⟨w.heap.size, 0, none⟩) xs := by
  intro q x hq
  refine ⟨_, rfl, by simp, ?_⟩
  rw [add_off, cell_of (heap_alloc_new w _)]
  simp [zs, zv, hq]
/-- Two fragments that are spelled. -/
theorem two_rdF (w : World) (e1 e2 : List (Int × Int)) (f1 f2 : List Int) : RdF (((((w.alloc (.cells (pcells e1).toArray 51)).alloc (.cells (zs f1).toArray 3)).alloc (.cells (pcells e2).toArray 51)).alloc (.cells (zs f2).toArray 3)).alloc (.cells #[.slice (some ⟨w.heap.size, 0, none⟩) e1.length e1.length, .slice (some ⟨w.heap.size + 1, 0, none⟩) f1.length f1.length, .slice (some ⟨w.heap.size + 1 + 1, 0, none⟩) e2.length e2.length, .slice (some ⟨w.heap.size + 1 + 1 + 1, 0, none⟩) f2.length f2.length] 71)) (some ⟨w.heap.size + 1 + 1 + 1 + 1, 0, none⟩) [(e1, f1), (e2, f2)] := by
  obtain ⟨W1, h1⟩ : ∃ W1, W1 = w.alloc (.cells (pcells e1).toArray 51) := ⟨_, rfl⟩
  obtain ⟨W2, h2⟩ : ∃ W2, W2 = W1.alloc (.cells (zs f1).toArray 3) := ⟨_, rfl⟩
  obtain ⟨W3, h3⟩ : ∃ W3, W3 = W2.alloc (.cells (pcells e2).toArray 51) := ⟨_, rfl⟩
  obtain ⟨W4, h4⟩ : ∃ W4, W4 = W3.alloc (.cells (zs f2).toArray 3) := ⟨_, rfl⟩
  have z1 : W1.heap.size = w.heap.size + 1 := by rw [h1]; simp
  have z2 : W2.heap.size = w.heap.size + 1 + 1 := by rw [h2]; simp [z1]
  have z3 : W3.heap.size = w.heap.size + 1 + 1 + 1 := by rw [h3]; simp [z2]
  have z4 : W4.heap.size = w.heap.size + 1 + 1 + 1 + 1 := by rw [h4]; simp [z3]
  have r1 : RdP W1 (some ⟨w.heap.size, 0, none⟩) e1 := by rw [h1]; exact lit_rdP w _
  have r2 : RdZ W2 (some ⟨w.heap.size + 1, 0, none⟩) f1 := by rw [h2, ← z1]; exact lit_rd W1 _
  have r3 : RdP W3 (some ⟨w.heap.size + 1 + 1, 0, none⟩) e2 := by rw [h3, ← z2]; exact lit_rdP W2 _
  have r4 : RdZ W4 (some ⟨w.heap.size + 1 + 1 + 1, 0, none⟩) f2 := by rw [h4, ← z3]; exact lit_rd W3 _
  have b2 : Below W1.heap.size W1 W2 := by rw [h2]; exact (Below.refl _ _).alloc (Nat.le_refl _) _
  have b3 : Below W2.heap.size W2 W3 := by rw [h3]; exact (Below.refl _ _).alloc (Nat.le_refl _) _
  have b4 : Below W3.heap.size W3 W4 := by rw [h4]; exact (Below.refl _ _).alloc (Nat.le_refl _) _
  rw [← h1, ← h2, ← h3, ← h4]
  generalize hO : (Obj.cells #[.slice (some ⟨w.heap.size, 0, none⟩) e1.length e1.length, .slice (some ⟨w.heap.size + 1, 0, none⟩) f1.length f1.length, .slice (some ⟨w.heap.size + 1 + 1, 0, none⟩) e2.length e2.length, .slice (some ⟨w.heap.size + 1 + 1 + 1, 0, none⟩) f2.length f2.length] 71) = O
  have b5 : Below W4.heap.size W4 (W4.alloc O) := (Below.refl _ _).alloc (Nat.le_refl _) _
  have hn := heap_alloc_new W4 O
  rw [z4, ← hO] at hn
  rw [← hO] at b5 ⊢
  intro j x hx
  match j, hx with
  | 0, hx =>
    simp at hx; subst hx
    exact ⟨_, _, _, _, _, rfl, lt_of_block hn, by rw [add_off, cell_of hn]; rfl, by rw [add_off, cell_of hn]; rfl, (((r1.below b2).below b3).below b4).below b5, ((r2.below b3).below b4).below b5⟩
  | 1, hx =>
    simp at hx; subst hx
    exact ⟨_, _, _, _, _, rfl, lt_of_block hn, by rw [add_off, cell_of hn]; rfl, by rw [add_off, cell_of hn]; rfl, (r3.below b4).below b5, r4.below b5⟩
set_option maxHeartbeats 16000000 in
theorem awake_any (w : World) : Calls Try.prog 41 #[] w fun e w' => e = .returned (.bool true) ∧ Below w.heap.size w w' := by
  obtain ⟨W, hW⟩ : ∃ W, W = (w.alloc (.cells (pcells E0).toArray 51)).alloc (.cells #[.int .i64 5, .slice (some ⟨w.heap.size, 0, none⟩) 8 8] 24) := ⟨_, rfl⟩
  have hWz : W.heap.size = w.heap.size + 1 + 1 := by rw [hW]; simp
  have hbW : Below w.heap.size w W := by rw [hW]; exact ((Below.refl _ _).alloc (Nat.le_refl _) _).alloc (by simp) _
  have hr : RdP W (some ⟨w.heap.size, 0, none⟩) E0 := by rw [hW]; exact (lit_rdP w E0).below ((Below.refl _ _).alloc (Nat.le_refl _) _)
  obtain ⟨j0, j1, _, _⟩ := cells_two (w := W) (g := w.heap.size + 1) (by rw [hW]; exact two_second w _ _)
  have HRP := Lib.hid hr
  have HJ : Hid (∀ w', Below W.heap.size W w' → w'.cell? ⟨w.heap.size + 1, 0, none⟩ = some (.int .i64 5) ∧ w'.cell? ⟨w.heap.size + 1, 1, none⟩ = some (.slice (some ⟨w.heap.size, 0, none⟩) 8 8)) := fun w' hb =>
    ⟨by rw [hb.cell (by show w.heap.size + 1 < _; omega)]; exact j0, by rw [hb.cell (by show w.heap.size + 1 < _; omega)]; exact j1⟩
  have hP0 : pcells E0 = [.int .i64 0, .int .i64 1, .int .i64 0, .int .i64 2, .int .i64 0, .int .i64 3, .int .i64 0, .int .i64 4, .int .i64 1, .int .i64 2, .int .i64 1, .int .i64 4, .int .i64 2, .int .i64 3, .int .i64 3, .int .i64 4] := rfl
  rw [hP0] at hW
  have HBW := Lib.hid hbW
  have HW := Lib.hid hW
  have HB0 := Lib.hid (Below.refl W.heap.size W)
  clear hW hbW hr hWz hP0 j0 j1
  go_enter Try.func41, Try.ntmps41
  go_upto_region 2 with fail
  rw [← HW.out]
  obtain ⟨j0, j1⟩ := HJ.out W HB0.out
  go_wp2_with fail
  have hbl : Below W.heap.size W (W.alloc (.cells (pcells W0).toArray 51)) := (Below.refl _ _).alloc (Nat.le_refl _) _
  refine (frags_c (some ⟨w.heap.size, 0, none⟩) (some ⟨W.heap.size, 0, none⟩) 8 4 8 4 5 E0 W0 F0 0 2 frags0 rfl _ (HRP.out.below hbl) (lit_rdP W W0) rfl rfl (by omega) (by omega)).mono ?_
  rintro e w1 ⟨A1, c1, fr1, rfl, hF1, hb⟩
  have HF1 := Lib.hid hF1.rd
  have HB1 := Lib.hid (next_below hbl hb)
  clear hbl hb hF1 j0 j1
  obtain ⟨j0, j1⟩ := HJ.out w1 HB1.out
  go_wp2_with fail
  refine (frags_c (some ⟨w.heap.size, 0, none⟩) none 8 0 8 0 5 E0 [] [(E0, [])] 0 1 frags1 rfl w1 (HRP.out.below HB1.out) (fun q e hq => by simp at hq) rfl rfl (by omega) (by omega)).mono ?_
  rintro e w2 ⟨A2, c2, fr2, rfl, hF2, hb⟩
  obtain ⟨g2, k2, ev⟩ := hF2.form (by simp)
  injection ev with e1 e2 e3
  subst e1; subst e3
  have HK : Hid (∀ w', Below w2.heap.size w2 w' → ∃ Ae ce Af cf, w'.cell? ⟨g2, 0, none⟩ = some (.slice Ae 8 ce) ∧ w'.cell? ⟨g2, 1, none⟩ = some (.slice Af 0 cf)) := by
    intro w' hb'
    obtain ⟨ad, Ae, Af, ce, cf, h0, hl, h1, h2, _, _⟩ := (hF2.rd.below hb') 0 (E0, []) rfl
    injection h0 with h0
    subst h0
    exact ⟨Ae, ce, Af, cf, h1, h2⟩
  have HF1b := Lib.hid (HF1.out.below hb)
  have HB2 := Lib.hid (next_below HB1.out hb)
  clear hb hF2 j0 j1 HF1 e2
  obtain ⟨j0, j1⟩ := HJ.out w2 HB2.out
  go_wp2_with fail
  refine (frags_c (some ⟨w.heap.size, 0, none⟩) (some ⟨w.heap.size, 0, none⟩) 8 8 8 8 5 E0 E0 [] 0 0 frags2 rfl w2 (HRP.out.below HB2.out) (HRP.out.below HB2.out) rfl rfl (by omega) (by omega)).mono ?_
  rintro e w3 ⟨A3, c3, fr3, rfl, _, hb⟩
  have HF1c := Lib.hid (HF1b.out.below hb)
  have HB23 := Lib.hid hb
  have HB3 := Lib.hid (next_below HB2.out hb)
  clear hb j0 j1 HF1b
  obtain ⟨j0, j1⟩ := HJ.out w3 HB3.out
  go_wp2_with fail
  have hbl : Below w3.heap.size w3 (w3.alloc (.cells (pcells [(1, 2), (0, 1)]).toArray 51)) := (Below.refl _ _).alloc (Nat.le_refl _) _
  refine (frags_c (some ⟨w.heap.size, 0, none⟩) (some ⟨w3.heap.size, 0, none⟩) 8 2 8 2 5 E0 [(1, 2), (0, 1)] [] 2 0 frags3 rfl _ ((HRP.out.below HB3.out).below hbl) (lit_rdP w3 [(1, 2), (0, 1)]) rfl rfl (by omega) (by omega)).mono ?_
  rintro e w4 ⟨A4, c4, fr4, rfl, _, hb⟩
  have HF1d := Lib.hid ((HF1c.out.below hbl).below hb)
  have HB24 := Lib.hid (next_below HB23.out (next_below hbl hb))
  have HB4 := Lib.hid (next_below HB3.out (next_below hbl hb))
  clear hb hbl j0 j1 HF1c HB23
  go_wp2_with fail
  have hb5 : ∀ a b c d e : Obj, Below w4.heap.size w4 (((((w4.alloc a).alloc b).alloc c).alloc d).alloc e) := fun a b c d e => (((((Below.refl _ _).alloc (Nat.le_refl _) _).alloc (by simp) _).alloc (by simp; omega) _).alloc (by simp; omega) _).alloc (by simp; omega) _
  refine (sameF_any A1 (some ⟨w4.heap.size + 1 + 1 + 1 + 1, 0, none⟩) c1 2 2 2 F0 [([(0, 2)], [0, 2]), ([(0, 4), (1, 4), (3, 4)], [0, 1, 3])] _ (HF1d.out.below (hb5 _ _ _ _ _)) (two_rdF w4 [(0, 2)] [(0, 4), (1, 4), (3, 4)] [0, 2] [0, 1, 3]) (by decide) (by decide) (by omega) (by omega) rfl rfl).mono ?_
  rintro e w6 ⟨he, hb⟩
  have he : e = .returned (.bool true) := he
  subst he
  have HB6 := Lib.hid (next_below HB4.out (next_below (hb5 _ _ _ _ _) hb))
  obtain ⟨Ae, ce, Af, cf, q0, q1⟩ := HK.out w6 (next_below HB24.out (next_below (hb5 _ _ _ _ _) hb))
  clear hb hb5 HF1d HB24 HK
  go_wp2_with fail
  go_ret
  exact ⟨rfl, next_below HBW.out HB6.out⟩
end Go.Proofs.Ytlkddjpjhchjfaa
