/- The walk of StrandParts. -/
import Derived.Test.YtgljaimoaijcaaaB6
namespace Go.Proofs.Ytgljaimoaijcaaa
open Go.RowKit

set_option maxRecDepth 100000 in
set_option maxHeartbeats 8000000 in
/-- Whoever is too great, or is not right: the examples alone. -/
theorem parts_slow (A B C : Option Addr) (c d e : Nat) (K L M : Int) (xs ys zs : List Int) (at_ n : Nat) (w : World)
    (hx : RdB w A xs) (hy : RdB w B ys) (hz : RdB w C zs)
    (h : gB K xs.length = true ∨ (gB K xs.length = false ∧ (gB L ys.length = true ∨ (gB L ys.length = false ∧ (gB M zs.length = true ∨ (gB M zs.length = false ∧ (rightB xs K = false ∨ (rightB xs K = true ∧ (rightB ys L = false ∨ (rightB ys L = true ∧ rightB zs M = false)))))))))) :
    Calls Try.prog 7 #[.agg #[.slice A xs.length c, .int .i64 K], .agg #[.slice B ys.length d, .int .i64 L], .agg #[.slice C zs.length e, .int .i64 M], .int .u16 at_, .int .u64 n] w
      fun e w' => e = .returned (.bool true) ∧ Below w.heap.size w w' := by
  have hX := (((hx.alloc (.cells #[.slice A xs.length c, .int .i64 K] 24)).alloc (.cells #[.slice B ys.length d, .int .i64 L] 24)).alloc (.cells #[.slice C zs.length e, .int .i64 M] 24))
  have hY := (((hy.alloc (.cells #[.slice A xs.length c, .int .i64 K] 24)).alloc (.cells #[.slice B ys.length d, .int .i64 L] 24)).alloc (.cells #[.slice C zs.length e, .int .i64 M] 24))
  have hZ := (((hz.alloc (.cells #[.slice A xs.length c, .int .i64 K] 24)).alloc (.cells #[.slice B ys.length d, .int .i64 L] 24)).alloc (.cells #[.slice C zs.length e, .int .i64 M] 24))
  have hB0 : Below (((w.alloc (.cells #[.slice A xs.length c, .int .i64 K] 24)).alloc (.cells #[.slice B ys.length d, .int .i64 L] 24)).alloc (.cells #[.slice C zs.length e, .int .i64 M] 24)).heap.size _ _ :=
    Below.refl _ (((w.alloc (.cells #[.slice A xs.length c, .int .i64 K] 24)).alloc (.cells #[.slice B ys.length d, .int .i64 L] 24)).alloc (.cells #[.slice C zs.length e, .int .i64 M] 24))
  have hfin : ∀ w', Below (((w.alloc (.cells #[.slice A xs.length c, .int .i64 K] 24)).alloc (.cells #[.slice B ys.length d, .int .i64 L] 24)).alloc (.cells #[.slice C zs.length e, .int .i64 M] 24)).heap.size (((w.alloc (.cells #[.slice A xs.length c, .int .i64 K] 24)).alloc (.cells #[.slice B ys.length d, .int .i64 L] 24)).alloc (.cells #[.slice C zs.length e, .int .i64 M] 24)) w' → Below w.heap.size w w' :=
    fun w' hb => ((((Below.refl _ _).alloc (Nat.le_refl _) _).alloc (by simp) _).alloc (by simp; omega) _).trans (hb.mono (by simp; omega))
  have HX := Lib.hid hX
  have HY := Lib.hid hY
  have HZ := Lib.hid hZ
  have HF := Lib.hid hfin
  clear hX hY hZ hfin hx hy hz
  rcases h with h1 | ⟨h1, h2 | ⟨h2, h3 | ⟨h3, h4 | ⟨h4, h5 | ⟨h5, h6⟩⟩⟩⟩⟩
  all_goals
    go_enter Try.func7, Try.ntmps7
    go_wp2_with (first
      | (go_at_call 10; refine (great_c (by assumption) _ _ _ _).mono ?_; rintro e wn ⟨rfl, hbn⟩; obtain ⟨hc, hf⟩ := old_cells hbn)
      | (go_at_call 16; refine (right_c (by assumption) _ _ _ _ (by first | exact HX.out | exact HY.out | exact HZ.out)).mono ?_; rintro e wn ⟨rfl, hbn⟩; obtain ⟨hc, hf⟩ := old_cells hbn)
      | (go_at_call 11; refine (awake_c (by assumption)).mono ?_; rintro e wn ⟨rfl, hbn⟩))
    go_ret
    exact ⟨rfl, HF.out _ (by assumption)⟩

theorem digs_split (n w : Nat) (h : w ≤ 64) : digs n 64 = digs (n / 2 ^ w) (64 - w) ++ digs (n % 2 ^ w) w := by
  apply ext_getD
  · simp [digs_length]; omega
  · intro j hj
    rw [digs_length] at hj
    rw [getD_append, digs_length, digs_at _ _ _ hj]
    split
    · rename_i h1
      rw [digs_at _ _ _ h1, Nat.div_div_eq_div_mul, ← Nat.pow_add, show w + (64 - w - 1 - j) = 64 - 1 - j by omega]
    · rename_i h1
      rw [digs_at _ _ _ (by omega), show w - 1 - (j - (64 - w)) = 64 - 1 - j by omega]
      have e : n % 2 ^ w / 2 ^ (64 - 1 - j) = n / 2 ^ (64 - 1 - j) % 2 ^ (w - (64 - 1 - j)) := by
        rw [show 2 ^ w = 2 ^ (64 - 1 - j) * 2 ^ (w - (64 - 1 - j)) by rw [← Nat.pow_add]; congr 1; omega]
        exact Nat.mod_mul_right_div_self n _ _
      rw [e, show w - (64 - 1 - j) = (w - (64 - 1 - j) - 1) + 1 by omega, Nat.pow_succ, Nat.mod_mul_left_mod]

abbrev bx (A : Option Addr) (c : Nat) (l : List Bool) : Obj := .cells #[.slice A (nB l) c, .int .i64 (l.length : Nat)] 24 (0, 0)
set_option maxRecDepth 100000 in
set_option maxHeartbeats 600000 in
theorem parts_main (A B C : Option Addr) (ca cb cc : Nat) (a b d : List Bool) (at_ n : Nat) (w : World) (hA : Rd w A a) (hB : Rd w B b) (hC : Rd w C d)
    (la : a.length ≤ 2000) (lb : b.length ≤ 2000) (ld : d.length ≤ 2000) (hat : at_ < 65536) (hn : n < 18446744073709551616) :
    Calls Try.prog 7 #[.agg #[.slice A (nB a) ca, .int .i64 (a.length : Nat)], .agg #[.slice B (nB b) cb, .int .i64 (b.length : Nat)], .agg #[.slice C (nB d) cc, .int .i64 (d.length : Nat)], .int .u16 at_, .int .u64 n] w
      fun e w' => e = .returned (.bool true) ∧ Below w.heap.size w w' := by
  have S0 := Lib.hid ((((Bun.start (((w.alloc (bx A ca a)).alloc (bx B cb b)).alloc (bx C cc d))).rd (((hC.alloc _).alloc _).alloc _)).rd (((hB.alloc _).alloc _).alloc _)).rd (((hA.alloc _).alloc _).alloc _))
  have HF : Hid (∀ w', Below (((w.alloc (bx A ca a)).alloc (bx B cb b)).alloc (bx C cc d)).heap.size (((w.alloc (bx A ca a)).alloc (bx B cb b)).alloc (bx C cc d)) w' → Below w.heap.size w w') :=
    fun w' hb => ((((Below.refl _ _).alloc (Nat.le_refl _) _).alloc (by simp) _).alloc (by simp; omega) _).trans (hb.mono (by simp; omega))
  clear hA hB hC
  go_enter Try.func7, Try.ntmps7
  go_wp2_with fail
  refine (great_any A _ ca _ _).mono ?_
  rintro e w1 ⟨rfl, hb⟩
  rw [not_great la]
  have S1 := Lib.hid (S0.out.below hb)
  clear hb S0
  obtain ⟨hc, hf⟩ := S1.out.olds
  go_wp2_with fail
  refine (great_any B _ cb _ _).mono ?_
  rintro e w2 ⟨rfl, hb⟩
  rw [not_great lb]
  have S2 := Lib.hid (S1.out.below hb)
  clear hb S1 hc hf
  obtain ⟨hc, hf⟩ := S2.out.olds
  go_wp2_with fail
  refine (great_any C _ cc _ _).mono ?_
  rintro e w3 ⟨rfl, hb⟩
  rw [not_great ld]
  have S3 := Lib.hid (S2.out.below hb)
  clear hb S2 hc hf
  obtain ⟨hc, hf⟩ := S3.out.olds
  go_wp2_with fail
  refine (right_yes A a _ ca _ _ (S3.out.read (by simp)) rfl rfl (by omega)).mono ?_
  rintro e w4 ⟨rfl, hb⟩
  have S4 := Lib.hid (S3.out.below hb)
  clear hb S3 hc hf
  obtain ⟨hc, hf⟩ := S4.out.olds
  go_wp2_with fail
  refine (right_yes B b _ cb _ _ (S4.out.read (by simp)) rfl rfl (by omega)).mono ?_
  rintro e w5 ⟨rfl, hb⟩
  have S5 := Lib.hid (S4.out.below hb)
  clear hb S4 hc hf
  obtain ⟨hc, hf⟩ := S5.out.olds
  go_wp2_with fail
  refine (right_yes C d _ cc _ _ (S5.out.read (by simp)) rfl rfl (by omega)).mono ?_
  rintro e w6 ⟨rfl, hb⟩
  have S6 := Lib.hid (S5.out.below hb)
  clear hb S5 hc hf
  obtain ⟨hc, hf⟩ := S6.out.olds
  obtain ⟨k, hk⟩ : ∃ k, k = at_ % (a.length + 1) := ⟨_, rfl⟩
  have hkI : ((at_ : Int) % ((a.length : Int) + 1)) = (k : Nat) := by rw [hk, Int.natCast_emod, Int.natCast_add]; rfl
  have hk2 : k ≤ a.length := by rw [hk]; have := Nat.mod_lt at_ (show a.length + 1 > 0 by omega); omega
  clear hk
  go_wp2_with fail
  refine (cut_any _ a 0 k _ (S6.out.st ca (by simp) (by omega)) (by omega) hk2).mono ?_
  rintro e w7 ⟨gx, v, rfl, ⟨rfl, ho⟩, _, hb⟩
  rw [List.drop_zero, Nat.sub_zero] at ho ⊢
  generalize hx : a.take k = xl at *
  have HX := Lib.hid hx
  clear hx
  have S7 := Lib.hid (((S6.out.below hb).own ho).new (os gx xl))
  clear hb S6 hc hf ho
  obtain ⟨hc, hf⟩ := S7.out.olds
  go_wp2_with fail
  refine (cut_any _ a k a.length _ (S7.out.st ca (by simp) (by omega)) hk2 (by omega)).mono ?_
  rintro e w8 ⟨gy, v, rfl, ⟨rfl, ho⟩, _, hb⟩
  rw [show (a.drop k).take (a.length - k) = a.drop k by rw [List.take_of_length_le (by simp)]] at ho ⊢
  generalize hy : a.drop k = yl at *
  have HY := Lib.hid hy
  have hxy : Hid (xl ++ yl = a) := by show xl ++ yl = a; rw [← HX.out, ← HY.out, List.take_append_drop]
  have lx : xl.length ≤ 2000 := by rw [← HX.out]; simp; omega
  have ly : yl.length ≤ 2000 := by rw [← HY.out]; simp; omega
  have lxy : xl.length + yl.length ≤ 4194304 := by omega
  clear hy
  have S8 := Lib.hid (((S7.out.below hb).own ho).new (os gy yl))
  clear hb S7 hc hf ho
  obtain ⟨hc, hf⟩ := S8.out.olds
  obtain ⟨x1, x2, _, _⟩ := cells_two (S8.out.get (g := w7.heap.size) (o := os gx xl) (by simp))
  go_wp2_with fail
  refine (join_any _ _ xl yl _ (S8.out.sv (by simp) (by omega)) (S8.out.sv (by simp) (by omega)) lxy).mono ?_
  rintro e w9 ⟨gz, v, rfl, ⟨rfl, ho⟩, _, hb⟩
  rw [hxy.out] at ho ⊢
  have S9 := Lib.hid (((S8.out.below hb).own ho).new (os gz a))
  clear hb S8 hc hf ho x1 x2
  obtain ⟨hc, hf⟩ := S9.out.olds
  go_wp2_with fail
  refine (same_any _ _ a a _ (S9.out.st ca (by simp) (by omega)) (S9.out.sv (by simp) (by omega))).mono ?_
  rintro e w10 ⟨rfl, hb⟩
  rw [show decide (a = a) = true from decide_eq_true rfl]
  have S10 := Lib.hid (S9.out.below hb)
  clear hb S9 hc hf
  obtain ⟨hc, hf⟩ := S10.out.olds
  go_wp2_with fail
  refine (join_any _ _ a b _ (S10.out.st ca (by simp) (by omega)) (S10.out.st cb (by simp) (by omega)) (by omega)).mono ?_
  rintro e w11 ⟨gab, v, rfl, ⟨rfl, ho⟩, _, hb⟩
  have lab : (a ++ b).length ≤ 4000 := by simp; omega
  generalize hab : a ++ b = ab at *
  have HAB := Lib.hid hab
  clear hab
  have S11 := Lib.hid (((S10.out.below hb).own ho).new (os gab ab))
  clear hb S10 hc hf ho
  obtain ⟨hc, hf⟩ := S11.out.olds
  go_wp2_with fail
  refine (join_any _ _ b d _ (S11.out.st cb (by simp) (by omega)) (S11.out.st cc (by simp) (by omega)) (by omega)).mono ?_
  rintro e w12 ⟨gbc, v, rfl, ⟨rfl, ho⟩, _, hb⟩
  have lbd : (b ++ d).length ≤ 4000 := by simp; omega
  generalize hbd : b ++ d = bd at *
  have HBD := Lib.hid hbd
  clear hbd
  have S12 := Lib.hid (((S11.out.below hb).own ho).new (os gbc bd))
  clear hb S11 hc hf ho
  obtain ⟨hc, hf⟩ := S12.out.olds
  obtain ⟨x1, x2, _, _⟩ := cells_two (S12.out.get (g := w11.heap.size) (o := os gab ab) (by simp))
  go_wp2_with fail
  refine (join_any _ _ ab d _ (S12.out.sv (by simp) (by omega)) (S12.out.st cc (by simp) (by omega)) (by omega)).mono ?_
  rintro e w13 ⟨g1, v, rfl, ⟨rfl, ho⟩, _, hb⟩
  have lone : (ab ++ d).length = a.length + b.length + d.length := by rw [← HAB.out]; simp; omega
  have HBD' : Hid (a ++ bd = ab ++ d) := by show a ++ bd = _; rw [← HAB.out, ← HBD.out, List.append_assoc]
  have LONE := Lib.hid lone
  have lone2 : (ab ++ d).length ≤ 6000 := by omega
  clear lone
  generalize ab ++ d = one at *
  have S13 := Lib.hid (((S12.out.below hb).own ho).new (os g1 one))
  clear hb S12 hc hf ho x1 x2
  obtain ⟨hc, hf⟩ := S13.out.olds
  obtain ⟨x1, x2, _, _⟩ := cells_two (S13.out.get (g := w12.heap.size) (o := os gbc bd) (by simp))
  go_wp2_with fail
  refine (join_any _ _ a bd _ (S13.out.st ca (by simp) (by omega)) (S13.out.sv (by simp) (by omega)) (by omega)).mono ?_
  rintro e w14 ⟨g2, v, rfl, ⟨rfl, ho⟩, _, hb⟩
  rw [HBD'.out] at ho ⊢
  have S14 := Lib.hid (((S13.out.below hb).own ho).new (os g2 one))
  clear hb S13 hc hf ho x1 x2
  obtain ⟨hc, hf⟩ := S14.out.olds
  obtain ⟨x1, x2, _, _⟩ := cells_two (S14.out.get (g := w13.heap.size) (o := os g1 one) (by simp))
  go_wp2_with fail
  refine (same_any _ _ one one _ (S14.out.sv (by simp) (by omega)) (S14.out.sv (by simp) (by omega))).mono ?_
  rintro e w15 ⟨rfl, hb⟩
  rw [show decide (one = one) = true from decide_eq_true rfl]
  have S15 := Lib.hid (S14.out.below hb)
  clear hb S14 hc hf x1 x2
  obtain ⟨hc, hf⟩ := S15.out.olds
  obtain ⟨x1, x2, _, _⟩ := cells_two (S15.out.get (g := w13.heap.size) (o := os g1 one) (by simp))
  have z1 : ((one.length : Int) != (a.length : Int) + b.length + d.length) = false := by have := LONE.out; simp; omega
  obtain ⟨wd, hwd⟩ : ∃ wd, wd = at_ % 65 := ⟨_, rfl⟩
  have hwd2 : wd ≤ 64 := by omega
  have hwI : ((at_ : Int) % 65) = (wd : Nat) := by rw [hwd]; omega
  clear hwd
  have hdiv : ((n : Int) / 2 ^ wd) = ((n / 2 ^ wd : Nat) : Int) := by rw [Int.natCast_ediv, Int.natCast_pow]; rfl
  have hlow : n % 2 ^ wd < 2 ^ wd := Nat.mod_lt _ (Nat.pow_pos (by omega))
  have hhigh : n / 2 ^ wd < 2 ^ (64 - wd) := by
    apply Nat.div_lt_of_lt_mul
    rw [← Nat.pow_add, show wd + (64 - wd) = 64 by omega]; exact hn
  have hsp := digs_split n wd hwd2
  have HLOW := Lib.hid hlow
  have HHIGH := Lib.hid hhigh
  have HSP := Lib.hid hsp
  have H64 : Hid (n < 2 ^ 64) := hn
  clear hlow hhigh hsp
  generalize hlo : n % 2 ^ wd = lo at *
  have HLO := Lib.hid hlo
  clear hlo
  generalize hhi : n / 2 ^ wd = hi at *
  have hhi64 : hi < 18446744073709551616 := by rw [← hhi]; exact Nat.lt_of_le_of_lt (Nat.div_le_self _ _) hn
  clear hhi
  have hsh := shr64 n wd (wd : Nat) rfl hn
  go_upto_if 148 with fail
  go_cut [24] (fun s24 wx => wx = w15 ∧ s24 = .int .u64 (lo : Nat))
  case first =>
    rcases Nat.lt_or_ge wd 64 with hw64 | hw64
    · obtain ⟨p, hp⟩ : ∃ p, p = 2 ^ wd := ⟨_, rfl⟩
      have hp1 : 1 ≤ p := by rw [hp]; exact Nat.pow_pos (by omega)
      have hp2 : p < 18446744073709551616 := by rw [hp, show 18446744073709551616 = 2 ^ 64 from rfl]; exact Nat.pow_lt_pow_right (by omega) hw64
      have hpI : (2 : Int) ^ wd = (p : Nat) := by rw [hp, Int.natCast_pow]; rfl
      have hwr : IntKind.u64.wrap ((2 : Int) ^ wd) = (p : Nat) := by rw [hpI]; simp [IntKind.wrap, IntKind.bits, IntKind.signed]; omega
      have hmo : (n : Int) % (p : Nat) = (lo : Nat) := by rw [← HLO.out, ← hp, Int.natCast_emod]
      clear hp hpI
      go_wp2_with fail
      go_meet
      exact ⟨rfl, by rw [hmo]⟩
    · have hwe : n = lo := by rw [← HLO.out, show wd = 64 by omega]; exact (Nat.mod_eq_of_lt hn).symm
      have HWE := Lib.hid hwe
      clear hwe
      go_wp2_with fail
      go_meet
      exact ⟨rfl, by rw [← HWE.out]⟩
  case rest =>
    obtain ⟨rfl, rfl⟩ := hcut
    go_wp2_with fail
    refine (field_any _ a n 64 _ (S15.out.st ca (by simp) (by omega)) (by omega) H64.out (by omega)).mono ?_
    rintro e w16 ⟨gw, v, rfl, ⟨rfl, ho⟩, _, hb⟩
    have lw : (a ++ digs n 64).length ≤ 2064 := by simp [digs_length]; omega
    generalize hwh : a ++ digs n 64 = wh at *
    have HWH := Lib.hid hwh
    clear hwh
    have S16 := Lib.hid (((S15.out.below hb).own ho).new (os gw wh))
    clear hb S15 hc hf ho x1 x2
    obtain ⟨hc, hf⟩ := S16.out.olds
    obtain ⟨u, hu⟩ : ∃ u, u = 64 - wd := ⟨_, rfl⟩
    have hsub : (64 : Int) - wd = (u : Nat) := by omega
    have hu64 : u ≤ 64 := by omega
    have hwu : IntKind.i64.wrap (u : Nat) = (u : Nat) := IntWalk.i64_in _ (by omega)
    have hwu2 : IntKind.i64.wrap ((64 : Int) - wd) = (u : Nat) := by rw [hsub]; exact hwu
    have HHU : Hid (hi < 2 ^ u) := by show hi < 2 ^ u; rw [hu]; exact HHIGH.out
    have HU := Lib.hid hu
    clear hu
    have lh : (a ++ digs hi u).length ≤ 2064 := by simp [digs_length]; omega
    have hbW : w.heap.size < (w16.alloc (os gw wh)).heap.size := by
      have h := S16.out.2.2.size
      simp only [World.size_alloc] at h ⊢
      omega
    have y1 : (w16.alloc (os gw wh)).cell? ⟨w.heap.size, 0, none⟩ = some (.slice A (nB a) ca) := by
      rw [hc _ _ (by simp only [World.size_alloc]; omega), World.cell?_alloc_lt _ _ _ (by show w.heap.size < _; simp only [World.size_alloc]; omega), World.cell?_alloc_lt _ _ _ (by show w.heap.size < _; simp only [World.size_alloc]; omega), cell_of (heap_alloc_new w (bx A ca a))]
      rfl
    have y2 : (w16.alloc (os gw wh)).cell? ⟨w.heap.size, 1, none⟩ = some (.int .i64 (a.length : Nat)) := by
      rw [hc _ _ (by simp only [World.size_alloc]; omega), World.cell?_alloc_lt _ _ _ (by show w.heap.size < _; simp only [World.size_alloc]; omega), World.cell?_alloc_lt _ _ _ (by show w.heap.size < _; simp only [World.size_alloc]; omega), cell_of (heap_alloc_new w (bx A ca a))]
      rfl
    have hFD : ∀ w' : World, (w'.cell? ⟨w.heap.size, 0, none⟩ = some (.slice A (nB a) ca) ∧ w'.cell? ⟨w.heap.size, 1, none⟩ = some (.int .i64 (a.length : Nat)) ∧ Below (w16.alloc (os gw wh)).heap.size (w16.alloc (os gw wh)) w') →
        Calls Try.prog 20 #[.agg #[.slice A (nB a) ca, .int .i64 (a.length : Nat)], .int .u64 hi, .int .i64 (u : Nat)] w' (fun e w'' => ∃ g : Nat, e = .returned (.tuple #[sv g (a ++ digs hi u), .int .i64 0]) ∧ Own w'' g (a ++ digs hi u) ∧ w'.heap.size ≤ g ∧ Below w'.heap.size w' w'') :=
      fun w' hs => (field_any _ a hi u w' ⟨A, ca, rfl, (S16.out.read (by simp)).below hs.2.2, by omega⟩ (by omega) HHU.out (by omega)).mono
        (by rintro e w'' ⟨g, v, rfl, ⟨rfl, ho⟩, hg, hb⟩; exact ⟨g, rfl, ho, hg, hb⟩)
    have HFD := Lib.hid hFD
    clear hFD
    generalize hhl : a ++ digs hi u = hl at *
    have HHL := Lib.hid hhl
    clear hhl
    have HBW := Lib.hid hbW
    clear hc hf
    go_upto_region 20 with fail
    go_cut [26, 15] (fun s26 s15 wx => ∃ p g : Nat, s26 = .pointer (some ⟨p, 0, none⟩) ∧ s15 = .int .i64 0 ∧ Hid (wx.heap[p]? = some (os g hl)) ∧ Hid (wx.heap[g]? = some (ob hl)) ∧ Below (w16.alloc (os gw wh)).heap.size (w16.alloc (os gw wh)) wx)
    case first =>
      have hb0 := Below.refl (w16.alloc (os gw wh)).heap.size (w16.alloc (os gw wh))
      clear S16 HHL HWH HSP HLOW HHIGH HLO LONE HAB HBD HBD' HX HY hxy HF
      generalize w16.alloc (os gw wh) = W at *
      have hD0 := held_drew ⟨y1, y2, hb0⟩
      go_region_held3 (fun w' => w'.cell? ⟨w.heap.size, 0, none⟩ = some (.slice A (nB a) ca) ∧ w'.cell? ⟨w.heap.size, 1, none⟩ = some (.int .i64 (a.length : Nat)) ∧ Below W.heap.size W w')
        (first | exact hS | exact hD0 | exact held_alloc _ HBW.out (by assumption) | exact held_set _ _ HBW.out (Nat.le_refl _) (held_set _ _ HBW.out (Nat.le_refl _) (by assumption)))
        (first | (go_at_call 20; refine (HFD.out _ (by assumption)).mono ?_; rintro e w17 ⟨g, rfl, ho, hg, hb⟩; have hS := held_below w17 HBW.out (by assumption) hb; obtain ⟨hc, hf⟩ := old_cells hb))
      all_goals go_wp2_with fail
      all_goals go_meet
      · have hS2 := held_alloc (os g hl) HBW.out hS
        exact ⟨w17.heap.size, g, rfl, rfl, heap_alloc_new w17 (os g hl), Own.alloc ho _, hS2.2.2⟩
      · have hgW : W.heap.size < g := by have : (W.alloc (Obj.cells #[Value.slice none 0 0, Value.int IntKind.i64 0] 24)).heap.size ≤ g := hg; simp only [World.size_alloc] at this; omega
        have hz : w17.heap[W.heap.size]? = some (Obj.cells #[Value.slice none 0 0, Value.int IntKind.i64 0] 24) := (hb.block W.heap.size (by show W.heap.size < (W.alloc _).heap.size; simp only [World.size_alloc]; omega)).trans (heap_alloc_new W _)
        refine ⟨W.heap.size, g, rfl, rfl, ?_, (Own.far (Own.far ho (p := ⟨W.heap.size, 0, none⟩) (by show g ≠ W.heap.size; omega) _) (p := ⟨W.heap.size, 1, none⟩) (by show g ≠ W.heap.size; omega) _), (hS.2.2.setCell (Nat.le_refl _) _).setCell (Nat.le_refl _) _⟩
        show _ = _
        simp [World.setCell, Array.getElem?_modify, hz]
    case rest =>
      obtain ⟨p, g, rfl, rfl, hp, hg, hb⟩ := hcut
      have S17 := Lib.hid (((S16.out.below hb).own hg.out).own hp.out)
      clear hb S16 hp hg y1 y2 HFD
      obtain ⟨hc, hf⟩ := S17.out.olds
      obtain ⟨p1, p2, _, _⟩ := cells_two (S17.out.get (g := p) (o := os g hl) (by simp))
      go_wp2_with fail
      refine (field_any _ hl lo wd _ (S17.out.sv (by simp) (by omega)) hwd2 HLOW.out (by omega)).mono ?_
      rintro e w18 ⟨gf, v, rfl, ⟨rfl, ho⟩, _, hb⟩
      have hend : hl ++ digs lo wd = wh := by rw [← HWH.out, ← HHL.out, HSP.out, HU.out, List.append_assoc]
      rw [hend] at ho ⊢
      have S18 := Lib.hid (((S17.out.below hb).own ho).new (os gf wh))
      clear hb S17 hc hf ho p1 p2
      obtain ⟨p1, p2, _, _⟩ := cells_two (S18.out.get (g := w16.heap.size) (o := os gw wh) (by simp))
      go_wp2_with fail
      refine (same_any _ _ wh wh _ (S18.out.sv (by simp) (by omega)) (S18.out.sv (by simp) (by omega))).mono ?_
      rintro e w19 ⟨rfl, hb⟩
      rw [show decide (wh = wh) = true from decide_eq_true rfl]
      have S19 := Lib.hid (S18.out.below hb)
      clear hb S18 p1 p2
      go_wp2_with fail
      refine (awake_any _).mono ?_
      rintro e w20 ⟨rfl, hb⟩
      go_wp2_with fail
      go_ret
      exact ⟨rfl, HF.out _ (next_below S19.out.2.2 hb)⟩
end Go.Proofs.Ytgljaimoaijcaaa
