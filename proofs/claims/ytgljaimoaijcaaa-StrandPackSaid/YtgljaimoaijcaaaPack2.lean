/- The walk of StrandPack, to its end. -/
import Derived.Test.YtgljaimoaijcaaaPack
namespace Go.Proofs.Ytgljaimoaijcaaa
open Go.RowKit

set_option maxRecDepth 100000 in
set_option maxHeartbeats 2000000 in
theorem pack_great (v1 v2 : Value) (A : Option Addr) (n c : Nat) (w : World) (h : 250 < n) (h1 : OkStrand w v1) (h2 : OkStrand w v2) :
    Calls Try.prog 5 #[v1, v2, .slice A n c] w fun e w' => e = .returned (.bool true) ∧ Below w.heap.size w w' := by
  obtain ⟨B, d, L, ys, rfl, _, _, _⟩ := h1
  obtain ⟨C, e, M, zs, rfl, _, _, _⟩ := h2
  have hd : decide ((250 : Int) < (n : Int)) = true := by simp; omega
  clear h
  go_enter Try.func5, Try.ntmps5
  go_wp2_with fail
  refine (awake_any _).mono ?_
  rintro e w1 ⟨rfl, hb⟩
  go_wp2_with fail
  go_ret
  exact ⟨rfl, (((Below.refl _ _).alloc (Nat.le_refl _) _).alloc (by simp) _).trans (hb.mono (by simp; omega))⟩

theorem small_ofP {L : Int} {l : List Bool} {n : Nat} (hL : L = (l.length : Nat)) (h : gB L n = false) : l.length ≤ 2000 := by
  unfold gB at h
  rw [Bool.or_eq_false_iff] at h
  have := of_decide_eq_false h.1
  omega
theorem packed_inj (l m : List Bool) : decide (bytesN (l ++ [true]) = bytesN (m ++ [true])) = decide (l = m) := by
  by_cases h : l = m
  · subst h; simp
  · have : ¬ bytesN (l ++ [true]) = bytesN (m ++ [true]) := by
      intro hb
      have hn : nB (l ++ [true]) = nB (m ++ [true]) := by rw [← bytesN_length, hb, bytesN_length]
      rw [unpack_size, unpack_size] at hn
      have hq : l.length / 8 = m.length / 8 := by omega
      have hby : byteOf (l ++ [true]) (l.length / 8) = byteOf (m ++ [true]) (m.length / 8) := by
        have h1 : (bytesN (l ++ [true]))[l.length / 8]? = (bytesN (m ++ [true]))[m.length / 8]? := by rw [hb, hq]
        have e1 : l.length / 8 < nB (l ++ [true]) := by rw [unpack_size]; omega
        have e2 : m.length / 8 < nB (m ++ [true]) := by rw [unpack_size]; omega
        simpa [bytesN, e1, e2] using h1
      have t1 := (tz_last l).1
      have t2 := (tz_last m).1
      rw [hby, t2] at t1
      have hlen : (l ++ [true]).length = (m ++ [true]).length := by simp; omega
      exact h (List.append_cancel_right (bytesN_inj hlen hb))
    simp [h, this]
section
variable {W w' : World} {b1 b2 b3 : Nat} {u0 u1 v0 v1 x0 x1 : Value}
theorem held6 (w2 : World) (h1 : b1 < W.heap.size) (h2 : b2 < W.heap.size) (h3 : b3 < W.heap.size) (k : Below w'.heap.size w' w2)
    (h : w'.cell? ⟨b1, 0, none⟩ = some u0 ∧ w'.cell? ⟨b1, 1, none⟩ = some u1 ∧ w'.cell? ⟨b2, 0, none⟩ = some v0 ∧ w'.cell? ⟨b2, 1, none⟩ = some v1 ∧ w'.cell? ⟨b3, 0, none⟩ = some x0 ∧ w'.cell? ⟨b3, 1, none⟩ = some x1 ∧ Below W.heap.size W w') :
    w2.cell? ⟨b1, 0, none⟩ = some u0 ∧ w2.cell? ⟨b1, 1, none⟩ = some u1 ∧ w2.cell? ⟨b2, 0, none⟩ = some v0 ∧ w2.cell? ⟨b2, 1, none⟩ = some v1 ∧ w2.cell? ⟨b3, 0, none⟩ = some x0 ∧ w2.cell? ⟨b3, 1, none⟩ = some x1 ∧ Below W.heap.size W w2 := by
  obtain ⟨a, b, c, d, e, f, hb⟩ := h
  have hz := hb.size
  exact ⟨(k.cell (p := ⟨b1, 0, none⟩) (Nat.lt_of_lt_of_le h1 hz)).trans a, (k.cell (p := ⟨b1, 1, none⟩) (Nat.lt_of_lt_of_le h1 hz)).trans b, (k.cell (p := ⟨b2, 0, none⟩) (Nat.lt_of_lt_of_le h2 hz)).trans c, (k.cell (p := ⟨b2, 1, none⟩) (Nat.lt_of_lt_of_le h2 hz)).trans d, (k.cell (p := ⟨b3, 0, none⟩) (Nat.lt_of_lt_of_le h3 hz)).trans e, (k.cell (p := ⟨b3, 1, none⟩) (Nat.lt_of_lt_of_le h3 hz)).trans f, next_below hb k⟩
end

set_option maxRecDepth 100000 in
set_option maxHeartbeats 4000000 in
theorem pack_small (B C A : Option Addr) (d e c : Nat) (L M : Int) (ys zs xs : List Int) (w : World) (hys : isBytes ys) (hzs : isBytes zs) (hxs : isBytes xs) (hy : RdB w B ys) (hz : RdB w C zs) (hx : RdB w A xs) (hl : xs.length ≤ 250) :
    Calls Try.prog 5 #[.agg #[.slice B ys.length d, .int .i64 L], .agg #[.slice C zs.length e, .int .i64 M], .slice A xs.length c] w fun e w' => e = .returned (.bool true) ∧ Below w.heap.size w w' := by
  have hX := (hx.alloc (.cells #[.slice B ys.length d, .int .i64 L] 24)).alloc (.cells #[.slice C zs.length e, .int .i64 M] 24)
  have hY := (hy.alloc (.cells #[.slice B ys.length d, .int .i64 L] 24)).alloc (.cells #[.slice C zs.length e, .int .i64 M] 24)
  have hZ := (hz.alloc (.cells #[.slice B ys.length d, .int .i64 L] 24)).alloc (.cells #[.slice C zs.length e, .int .i64 M] 24)
  have S0 := Lib.hid (Bun.start ((w.alloc (.cells #[.slice B ys.length d, .int .i64 L] 24)).alloc (.cells #[.slice C zs.length e, .int .i64 M] 24)))
  have HF : Hid (∀ w', Below ((w.alloc (.cells #[.slice B ys.length d, .int .i64 L] 24)).alloc (.cells #[.slice C zs.length e, .int .i64 M] 24)).heap.size ((w.alloc (.cells #[.slice B ys.length d, .int .i64 L] 24)).alloc (.cells #[.slice C zs.length e, .int .i64 M] 24)) w' → Below w.heap.size w w') :=
    fun w' hb => (((Below.refl _ _).alloc (Nat.le_refl _) _).alloc (by simp) _).trans (hb.mono (by simp; omega))
  have HX := Lib.hid hX
  have HY := Lib.hid hY
  have HZ := Lib.hid hZ
  have IX := Lib.hid hxs
  have IY := Lib.hid hys
  have IZ := Lib.hid hzs
  have hd : decide ((250 : Int) < (xs.length : Int)) = false := by simp; omega
  clear hX hY hZ hx hy hz hxs hys hzs
  go_enter Try.func5, Try.ntmps5
  go_wp2_with fail
  refine (unpack_c A xs c _ IX.out HX.out hl).mono ?_
  rintro e1 w1 ⟨P, a, b, K, k, rfl, hb, hU⟩
  have HU := Lib.hid hU
  clear hU
  have S1 := Lib.hid ((S0.out.below hb).new (.cells #[.slice P a b, .int .i64 K] 24))
  have HB1 := Lib.hid hb
  clear hb
  obtain ⟨hc, hf⟩ := S1.out.olds
  go_upto_if 26 with fail
  go_cut [] (fun wx => Below (w1.alloc (.cells #[.slice P a b, .int .i64 K] 24)).heap.size (w1.alloc (.cells #[.slice P a b, .int .i64 K] 24)) wx)
  case first =>
    rcases HU.out with ⟨rfl, l, g, rfl, rfl, rfl, rfl, ho, h1, h3, hl2⟩ | ⟨rfl, h0⟩
    · have hN : ∀ w', Below ((w.alloc (.cells #[.slice B ys.length d, .int .i64 L] 24)).alloc (.cells #[.slice C zs.length e, .int .i64 M] 24)).heap.size ((w.alloc (.cells #[.slice B ys.length d, .int .i64 L] 24)).alloc (.cells #[.slice C zs.length e, .int .i64 M] 24)) w' → RdN w' A (bytesN (l ++ [true])) := by
        intro w' hb q x hq
        have hlt : q < nB (l ++ [true]) := by have := (List.getElem?_eq_some_iff.1 hq).1; simpa [bytesN] using this
        obtain ⟨ad, e, hbl, hc⟩ := (HX.out.below hb) q _ (h3 q hlt)
        refine ⟨ad, e, hbl, ?_⟩
        rw [hc]
        simp [bytesN, hlt] at hq
        rw [← hq]; rfl
      have HN := Lib.hid hN
      have H1 := Lib.hid h1
      have S2 := Lib.hid (S1.out.own ((Own.alloc ho _ : Own (w1.alloc (os g l)) g l)))
      clear ho h1 h3 hN hc hf HU S1
      obtain ⟨u1, u2, _, _⟩ := cells_two (S2.out.get (g := w1.heap.size) (o := os g l) (by simp))
      go_wp2_with fail
      refine (pack_any _ l _ (S2.out.sv (by simp) (by omega))).mono ?_
      rintro e2 w2 ⟨gc, rfl, ho, _, hb⟩
      have S3 := Lib.hid ((S2.out.below hb).own ho)
      have HW2 := Lib.hid hb
      clear hb ho S2 u1 u2
      obtain ⟨u1, u2, _, _⟩ := cells_two (S3.out.get (g := w1.heap.size) (o := os g l) (by simp))
      go_wp2_with fail
      refine (right_yes _ l _ _ _ _ (Own.rd (S3.out.get (o := ob l) (by simp))) rfl rfl (by omega)).mono ?_
      rintro e3 w3 ⟨rfl, hb⟩
      have S4 := Lib.hid (S3.out.below hb)
      have HW3 := Lib.hid (next_below HW2.out hb)
      clear hb S3 u1 u2
      go_wp2_with fail
      refine (sameBytes_any A (some ⟨gc, 0, none⟩) _ _ c _ (bytesN (l ++ [true])) (bytesN (l ++ [true])) _ (HN.out _ S4.out.2.2) (Own.rd (S4.out.get (o := ob (l ++ [true])) (by simp))).n (by rw [bytesN_length]; exact H1.out) (bytesN_length _).symm (bytesN_lt _) (bytesN_lt _)).mono ?_
      rintro e4 w4 ⟨rfl, rfl⟩
      rw [show decide (bytesN (l ++ [true]) = bytesN (l ++ [true])) = true from decide_eq_true rfl]
      go_wp2_with fail
      go_meet
      exact HW3.out
    · by_cases hne : xs = []
      · have hz0 : (xs.length : Int) = 0 := by rw [hne]; rfl
        clear hne h0
        go_wp2_with fail
        go_meet
        exact Below.refl _ _
      · have hpos : 0 < xs.length := List.length_pos_iff.2 hne
        have hq : xs[xs.length - 1]? = some 0 := by
          have h := (h0.resolve_left hne).2
          rw [List.getElem?_eq_getElem (by omega)]
          simp [List.getD, List.getElem?_eq_getElem (show xs.length - 1 < xs.length by omega)] at h
          rw [h]
        obtain ⟨ad, rfl, hbl, hcell⟩ := (HX.out.below S1.out.2.2) _ _ hq
        have hpi : 1 ≤ (xs.length : Int) := by omega
        clear hne h0 hq hc hf
        generalize xs.length = nx at *
        go_wp2_with fail
        go_meet
        exact Below.refl _ _
  case rest =>
    have S2 := Lib.hid (S1.out.below hcut)
    clear hcut S1 hc hf
    obtain ⟨hc, hf⟩ := S2.out.olds
    have HB2 := Lib.hid S2.out.2.2
    clear S2 hc hf S0 HU HB1
    cases g2 : gB L ys.length
    case' false =>
      cases g3 : gB M zs.length
      case' false =>
        cases r2 : rightB ys L
        case' true =>
          cases r3 : rightB zs M
    case true.true =>
      obtain ⟨l1, ha, la, ra, _, _⟩ := bits_st (c := d) IY.out HY.out r2
      obtain ⟨l2, hb, lb, rb, _, _⟩ := bits_st (c := e) IZ.out HZ.out r3
      have ga := small_ofP ha g2
      have gb := small_ofP hb g3
      have RA := Lib.hid ra
      have RB := Lib.hid rb
      clear r2 r3 g2 g3 HY HZ HX IX IY IZ hd ra rb
      subst ha hb
      generalize ys.length = ny at *
      generalize zs.length = nz at *
      subst la lb
      have T0 := Lib.hid (((Bun.start _).rd RB.out).rd RA.out)
      have T2 := Lib.hid (T0.out.below HB2.out)
      clear T0 HB2 RA RB
      obtain ⟨hc, hf⟩ := T2.out.olds
      go_wp2_with fail
      refine (great_any B _ d _ _).mono ?_
      rintro e1 w3 ⟨rfl, hb⟩
      rw [not_great ga]
      have T3 := Lib.hid (T2.out.below hb)
      clear hb T2 hc hf
      obtain ⟨hc, hf⟩ := T3.out.olds
      go_wp2_with fail
      refine (great_any C _ e _ _).mono ?_
      rintro e1 w4 ⟨rfl, hb⟩
      rw [not_great gb]
      have T4 := Lib.hid (T3.out.below hb)
      clear hb T3 hc hf
      obtain ⟨hc, hf⟩ := T4.out.olds
      go_wp2_with fail
      refine (right_yes B l1 _ d _ _ (T4.out.read (by simp)) rfl rfl (by omega)).mono ?_
      rintro e1 w5 ⟨rfl, hb⟩
      have T5 := Lib.hid (T4.out.below hb)
      clear hb T4 hc hf
      obtain ⟨hc, hf⟩ := T5.out.olds
      go_wp2_with fail
      refine (right_yes C l2 _ e _ _ (T5.out.read (by simp)) rfl rfl (by omega)).mono ?_
      rintro e1 w6 ⟨rfl, hb⟩
      have T6 := Lib.hid (T5.out.below hb)
      clear hb T5 hc hf
      obtain ⟨hc, hf⟩ := T6.out.olds
      go_wp2_with fail
      refine (pack_any _ l1 _ (T6.out.st d (by simp) (by omega))).mono ?_
      rintro e1 w7 ⟨gp, rfl, ho, _, hb⟩
      have T7 := Lib.hid ((T6.out.below hb).own ho)
      clear hb T6 hc hf ho
      obtain ⟨hc, hf⟩ := T7.out.olds
      go_wp2_with fail
      refine (pack_any _ l2 _ (T7.out.st e (by simp) (by omega))).mono ?_
      rintro e1 w8 ⟨gq, rfl, ho, _, hb⟩
      have T8 := Lib.hid ((T7.out.below hb).own ho)
      clear hb T7 hc hf ho
      obtain ⟨hc, hf⟩ := T8.out.olds
      go_wp2_with fail
      refine (unpack_any _ l1 _ _ _ (Own.rd (T8.out.get (g := gp) (o := ob (l1 ++ [true])) (by simp))) rfl (by omega)).mono ?_
      rintro e1 w9 ⟨gv, v, rfl, ⟨rfl, ho⟩, _, hb⟩
      have T9 := Lib.hid (((T8.out.below hb).own ho).new (os gv l1))
      clear hb T8 hc hf ho
      obtain ⟨hc, hf⟩ := T9.out.olds
      go_wp2_with fail
      obtain ⟨v1, v2, _, _⟩ := cells_two (T9.out.get (g := w9.heap.size) (o := os gv l1) (by simp))
      have y1 : (w9.alloc (os gv l1)).cell? ⟨w.heap.size, 0, none⟩ = some (.slice B (nB l1) d) := by
        rw [hc _ _ (by simp only [World.size_alloc]; omega), World.cell?_alloc_lt _ _ _ (by show w.heap.size < _; simp only [World.size_alloc]; omega), cell_of (heap_alloc_new w _)]
        rfl
      have y2 : (w9.alloc (os gv l1)).cell? ⟨w.heap.size, 1, none⟩ = some (.int .i64 (l1.length : Nat)) := by
        rw [hc _ _ (by simp only [World.size_alloc]; omega), World.cell?_alloc_lt _ _ _ (by show w.heap.size < _; simp only [World.size_alloc]; omega), cell_of (heap_alloc_new w _)]
        rfl
      have z1 : (w9.alloc (os gv l1)).cell? ⟨w.heap.size + 1, 0, none⟩ = some (.slice C (nB l2) e) := by
        rw [hc _ _ (by simp only [World.size_alloc]; omega), cell_of (two_second w _ _)]
        rfl
      have z2 : (w9.alloc (os gv l1)).cell? ⟨w.heap.size + 1, 1, none⟩ = some (.int .i64 (l2.length : Nat)) := by
        rw [hc _ _ (by simp only [World.size_alloc]; omega), cell_of (two_second w _ _)]
        rfl
      have hs1 : w.heap.size < (w9.alloc (os gv l1)).heap.size := by have h := T9.out.2.2.size; simp only [World.size_alloc] at h ⊢; omega
      have hs2 : w.heap.size + 1 < (w9.alloc (os gv l1)).heap.size := by have h := T9.out.2.2.size; simp only [World.size_alloc] at h ⊢; omega
      have hs3 : w9.heap.size < (w9.alloc (os gv l1)).heap.size := by simp
      have hfinW : Hid (∀ w', Below (w9.alloc (os gv l1)).heap.size (w9.alloc (os gv l1)) w' → Below w.heap.size w w') := fun w' hb => HF.out _ (next_below T9.out.2.2 hb)
      have hStA : ∀ w', Below (w9.alloc (os gv l1)).heap.size (w9.alloc (os gv l1)) w' → St w' (.agg #[.slice B (nB l1) d, .int .i64 (l1.length : Nat)]) l1 := fun w' hb => (T9.out.st d (by simp) (by omega)).below hb
      have hStB : ∀ w', Below (w9.alloc (os gv l1)).heap.size (w9.alloc (os gv l1)) w' → St w' (.agg #[.slice C (nB l2) e, .int .i64 (l2.length : Nat)]) l2 := fun w' hb => (T9.out.st e (by simp) (by omega)).below hb
      have hStV : ∀ w', Below (w9.alloc (os gv l1)).heap.size (w9.alloc (os gv l1)) w' → St w' (sv gv l1) l1 := fun w' hb => (T9.out.sv (by simp) (by omega)).below hb
      have hRp : ∀ w', Below (w9.alloc (os gv l1)).heap.size (w9.alloc (os gv l1)) w' → RdN w' (some ⟨gp, 0, none⟩) (bytesN (l1 ++ [true])) := fun w' hb => (Own.rd (T9.out.get (g := gp) (o := ob (l1 ++ [true])) (by simp))).n.below hb
      have hRq : ∀ w', Below (w9.alloc (os gv l1)).heap.size (w9.alloc (os gv l1)) w' → RdN w' (some ⟨gq, 0, none⟩) (bytesN (l2 ++ [true])) := fun w' hb => (Own.rd (T9.out.get (g := gq) (o := ob (l2 ++ [true])) (by simp))).n.below hb
      have hb0 := Below.refl (w9.alloc (os gv l1)).heap.size (w9.alloc (os gv l1))
      have HS1 := Lib.hid hs1
      have HS2 := Lib.hid hs2
      have HS3 := Lib.hid hs3
      clear T9 hc hf hs1 hs2 hs3 HF
      generalize hWg : w9.alloc (os gv l1) = W at *
      clear hWg
      have c1 : ∀ w', (w'.cell? ⟨w.heap.size, 0, none⟩ = some (.slice B (nB l1) d) ∧ w'.cell? ⟨w.heap.size, 1, none⟩ = some (.int .i64 (l1.length : Nat)) ∧ w'.cell? ⟨w.heap.size + 1, 0, none⟩ = some (.slice C (nB l2) e) ∧ w'.cell? ⟨w.heap.size + 1, 1, none⟩ = some (.int .i64 (l2.length : Nat)) ∧ w'.cell? ⟨w9.heap.size, 0, none⟩ = some (.slice (some ⟨gv, 0, none⟩) (nB l1) (nB l1)) ∧ w'.cell? ⟨w9.heap.size, 1, none⟩ = some (.int .i64 (l1.length : Nat)) ∧ Below W.heap.size W w') →
          Calls Try.prog 17 #[.agg #[.slice B (nB l1) d, .int .i64 (l1.length : Nat)], sv gv l1] w' fun e w'' => e = .returned (.bool true) ∧ Below w'.heap.size w' w'' := fun w' h => by
        have hh := same_any _ _ l1 l1 w' (hStA w' h.2.2.2.2.2.2) (hStV w' h.2.2.2.2.2.2)
        rwa [show decide (l1 = l1) = true from decide_eq_true rfl] at hh
      have c2 : ∀ w', (w'.cell? ⟨w.heap.size, 0, none⟩ = some (.slice B (nB l1) d) ∧ w'.cell? ⟨w.heap.size, 1, none⟩ = some (.int .i64 (l1.length : Nat)) ∧ w'.cell? ⟨w.heap.size + 1, 0, none⟩ = some (.slice C (nB l2) e) ∧ w'.cell? ⟨w.heap.size + 1, 1, none⟩ = some (.int .i64 (l2.length : Nat)) ∧ w'.cell? ⟨w9.heap.size, 0, none⟩ = some (.slice (some ⟨gv, 0, none⟩) (nB l1) (nB l1)) ∧ w'.cell? ⟨w9.heap.size, 1, none⟩ = some (.int .i64 (l1.length : Nat)) ∧ Below W.heap.size W w') →
          Calls Try.prog 32 #[.slice (some ⟨gp, 0, none⟩) (nB (l1 ++ [true])) (nB (l1 ++ [true])), .slice (some ⟨gq, 0, none⟩) (nB (l2 ++ [true])) (nB (l2 ++ [true]))] w' fun e w'' => e = .returned (.bool (decide (l1 = l2))) ∧ w' = w'' := fun w' h => by
        have hh := sameBytes_any (some ⟨gp, 0, none⟩) (some ⟨gq, 0, none⟩) _ _ (nB (l1 ++ [true])) (nB (l2 ++ [true])) _ _ w' (hRp w' h.2.2.2.2.2.2) (hRq w' h.2.2.2.2.2.2) (bytesN_length _).symm (bytesN_length _).symm (bytesN_lt _) (bytesN_lt _)
        rwa [packed_inj] at hh
      have c3 : ∀ w', (w'.cell? ⟨w.heap.size, 0, none⟩ = some (.slice B (nB l1) d) ∧ w'.cell? ⟨w.heap.size, 1, none⟩ = some (.int .i64 (l1.length : Nat)) ∧ w'.cell? ⟨w.heap.size + 1, 0, none⟩ = some (.slice C (nB l2) e) ∧ w'.cell? ⟨w.heap.size + 1, 1, none⟩ = some (.int .i64 (l2.length : Nat)) ∧ w'.cell? ⟨w9.heap.size, 0, none⟩ = some (.slice (some ⟨gv, 0, none⟩) (nB l1) (nB l1)) ∧ w'.cell? ⟨w9.heap.size, 1, none⟩ = some (.int .i64 (l1.length : Nat)) ∧ Below W.heap.size W w') →
          Calls Try.prog 17 #[.agg #[.slice B (nB l1) d, .int .i64 (l1.length : Nat)], .agg #[.slice C (nB l2) e, .int .i64 (l2.length : Nat)]] w' fun e w'' => e = .returned (.bool (decide (l1 = l2))) ∧ Below w'.heap.size w' w'' := fun w' h =>
        same_any _ _ l1 l2 w' (hStA w' h.2.2.2.2.2.2) (hStB w' h.2.2.2.2.2.2)
      have hnb := unpack_size l1
      generalize nB (l1 ++ [true]) = N1 at *
      generalize nB (l2 ++ [true]) = N2 at *
      obtain ⟨q, hq⟩ : ∃ q, q = l1.length / 8 := ⟨_, rfl⟩
      rw [← hq] at hnb
      have hnt : (((N1 : Nat) : Int) == (q : Int) + 1) = true := by simp; omega
      clear hnb
      have hq1 : (l1.length : Int).tdiv 8 = (q : Nat) := by rw [hq, Int.tdiv_eq_ediv_of_nonneg (by omega)]; omega
      have hq2 : (l1.length : Int) / 8 = (q : Nat) := by rw [hq]; omega
      have hq3 : (q : Int) + 1 ≤ 300 := by omega
      have hq4 : IntKind.i64.wrap ((q : Int) + 1) = (q : Int) + 1 := IntWalk.i64_in _ (by omega)
      have hq5 : IntKind.i64.wrap (q : Int) = (q : Int) := IntWalk.i64_in _ (by omega)
      clear hq hq3
      generalize hδ : decide (l1 = l2) = δ at *
      clear hδ
      have C1 := Lib.hid c1
      have C2 := Lib.hid c2
      have C3 := Lib.hid c3
      clear c1 c2 c3 hStA hStB hStV hRp hRq
      go_region_held3 (fun w' => w'.cell? ⟨w.heap.size, 0, none⟩ = some (.slice B (nB l1) d) ∧ w'.cell? ⟨w.heap.size, 1, none⟩ = some (.int .i64 (l1.length : Nat)) ∧ w'.cell? ⟨w.heap.size + 1, 0, none⟩ = some (.slice C (nB l2) e) ∧ w'.cell? ⟨w.heap.size + 1, 1, none⟩ = some (.int .i64 (l2.length : Nat)) ∧ w'.cell? ⟨w9.heap.size, 0, none⟩ = some (.slice (some ⟨gv, 0, none⟩) (nB l1) (nB l1)) ∧ w'.cell? ⟨w9.heap.size, 1, none⟩ = some (.int .i64 (l1.length : Nat)) ∧ Below W.heap.size W w')
        (first | exact hS | exact ⟨y1, y2, z1, z2, v1, v2, hb0.drew⟩)
        (first
          | (go_at_call 32; (with_reducible refine (C2.out _ (by assumption)).mono ?_); rintro e1 wn ⟨rfl, rfl⟩)
          | (go_at_call 11; (with_reducible refine (awake_any _).mono ?_); rintro e1 wn ⟨rfl, hb⟩; have hS := held6 wn HS1.out HS2.out HS3.out hb (by assumption))
          | (go_at_call 17; (with_reducible refine (C1.out _ (by assumption)).mono ?_); rintro e1 wn ⟨rfl, hb⟩; have hS := held6 wn HS1.out HS2.out HS3.out hb (by assumption))
          | (go_at_call 17; (with_reducible refine (C3.out _ (by assumption)).mono ?_); rintro e1 wn ⟨rfl, hb⟩; have hS := held6 wn HS1.out HS2.out HS3.out hb (by assumption)))
      all_goals go_wp2_with fail
      all_goals go_ret
      all_goals exact ⟨rfl, hfinW.out _ hS.2.2.2.2.2.2⟩
    all_goals
      have hB2 := HB2.out
      obtain ⟨hc, hf⟩ := old_cells hB2
      go_wp2_with (first
        | (go_at_call 10; refine (great_c (by assumption) _ _ _ _).mono ?_; rintro e wn ⟨rfl, hbn⟩; obtain ⟨hc, hf⟩ := old_cells hbn)
        | (go_at_call 16; refine (right_c (by assumption) _ _ _ _ (by first | exact HY.out | exact HZ.out)).mono ?_; rintro e wn ⟨rfl, hbn⟩; obtain ⟨hc, hf⟩ := old_cells hbn)
        | (go_at_call 11; refine (awake_c (by assumption)).mono ?_; rintro e wn ⟨rfl, hbn⟩))
      go_ret
      exact ⟨rfl, HF.out _ (by assumption)⟩

theorem pack_walk (v1 v2 v3 : Value) (w : World) (h1 : OkStrand w v1) (h2 : OkStrand w v2) (h3 : OkBytes w v3) :
    Calls Try.prog 5 #[v1, v2, v3] w fun e w' => e = .returned (.bool true) ∧ Below w.heap.size w w' := by
  obtain ⟨A, c, xs, rfl, hx, hrx, _⟩ := h3
  by_cases hl : xs.length ≤ 250
  · obtain ⟨B, d, L, ys, rfl, hy, hry, _⟩ := h1
    obtain ⟨C, e, M, zs, rfl, hz, hrz, _⟩ := h2
    exact pack_small B C A d e c L M ys zs xs w hy hz hx hry hrz hrx hl
  · exact pack_great v1 v2 A xs.length c w (by omega) h1 h2
end Go.Proofs.Ytgljaimoaijcaaa
