/- BridgeEdges: each edge that is not of the web is in one fragment (layer 8). -/
import Derived.Test.YtlkfpphahfendaaH22
import Derived.Test.YtlkfpphahfendaaH24
import Derived.Test.YtlkfpphahfendaaU12
import Derived.Test.YtlkfpphahfendaaW24
import Derived.Laws.Rows
namespace Go.Proofs.Ytlkfpphahfendaa
set_option maxRecDepth 100000
open Go.RowKit Go.Maps Go.WideMaps

/-- What both maps hold: the edges so far, and whose the vertices are. -/
structure EI (D : List (List (Int × Int) × List Int)) (W : List (Int × Int)) (ob : Nat) (S : List (Int × Int)) (m : Nat) (w : World) : Prop where
  of_ : MapP w ob S.length S
  at_ : ∃ (n2 k : Nat) (f : Int → Option Int), n2 ≤ m ∧ MapZ w (ob + 1) n2 f k ∧ AtI D W f
theorem EI.same {D : List (List (Int × Int) × List Int)} {W : List (Int × Int)} {ob : Nat} {S : List (Int × Int)} {m : Nat} {w w' : World} (h : EI D W ob S m w) (h1 : w'.heap[ob]? = w.heap[ob]?) (h2 : w'.heap[ob + 1]? = w.heap[ob + 1]?) : EI D W ob S m w' := by
  obtain ⟨a, n2, k, f, b, c, d⟩ := h
  exact ⟨a.same h1, n2, k, f, b, c.same8 h2, d⟩
theorem EI.below {D : List (List (Int × Int) × List Int)} {W : List (Int × Int)} {ob : Nat} {S : List (Int × Int)} {m : Nat} {w w' : World} (h : EI D W ob S m w) (hb : Below w.heap.size w w') : EI D W ob S m w' := by
  obtain ⟨a, n2, k, f, b, c, d⟩ := h
  exact ⟨a.below hb, n2, k, f, b, c.below hb, d⟩
theorem EI.lt {D : List (List (Int × Int) × List Int)} {W : List (Int × Int)} {ob : Nat} {S : List (Int × Int)} {m : Nat} {w : World} (h : EI D W ob S m w) : ob + 1 < w.heap.size := by
  obtain ⟨a, n2, k, f, b, c, d⟩ := h
  exact c.lt
theorem EI.le {D : List (List (Int × Int) × List Int)} {W : List (Int × Int)} {ob : Nat} {S : List (Int × Int)} {m m' : Nat} {w : World} (h : EI D W ob S m w) (hm : m ≤ m') : EI D W ob S m' w := by
  obtain ⟨a, n2, k, f, b, c, d⟩ := h
  exact ⟨a, n2, k, f, by omega, c, d⟩
/-- What stands within a fragment's round: its copy, the edges that do not end on the web, both maps. -/
structure EB (D : List (List (Int × Int) × List Int)) (W : List (Int × Int)) (w0 : World) (pf z : Nat) (fx : Array Value) (N : Nat) (Bh : Option Addr) (lh ch : Nat) (H S : List (Int × Int)) (m : Nat) (w : World) : Prop where
  lt : w0.heap.size + 1 < pf ∧ pf < z
  frag : w.heap[pf]? = some (.cells fx 43 (0, 0))
  box : w.heap[z]? = some (.cells #[.int .i64 (N : Nat), .slice Bh lh ch] 24 (0, 0))
  row : w.ownsRow z 44 2 (.slice Bh lh ch) lh (pcells H)
  ei : EI D W w0.heap.size S m w
  bel : Below w0.heap.size w0 w
section
variable {D : List (List (Int × Int) × List Int)} {W : List (Int × Int)} {w0 : World} {pf z : Nat} {fx : Array Value} {N : Nat} {Bh : Option Addr} {lh ch : Nat} {H S : List (Int × Int)} {m : Nat} {w w' : World}
theorem EB.below (h : EB D W w0 pf z fx N Bh lh ch H S m w) (hb : Below w.heap.size w w') : EB D W w0 pf z fx N Bh lh ch H S m w' :=
  ⟨h.lt, blk_below h.frag hb, blk_below h.box hb, row_below h.row hb, h.ei.below hb, next_below h.bel hb⟩
theorem EB.le {m' : Nat} (h : EB D W w0 pf z fx N Bh lh ch H S m w) (hm : m ≤ m') : EB D W w0 pf z fx N Bh lh ch H S m' w := ⟨h.lt, h.frag, h.box, h.row, h.ei.le hm, h.bel⟩
theorem EB.zlt (h : EB D W w0 pf z fx N Bh lh ch H S m w) : z < w.heap.size := lt_of_block h.box
theorem EB.kept_row (h : EB D W w0 pf z fx N Bh lh ch H S m w) {b : Nat} (hb : b < z) (hg : w.grownBy w' (some b)) : w'.ownsRow z 44 2 (.slice Bh lh ch) lh (pcells H) := by
  refine h.row.kept hg ?_
  cases hv : (Value.slice Bh lh ch).ownBlock with
  | none => exact .inl rfl
  | some q => exact .inr (fun e => by injection e with e; have := (h.row.lt q hv).1; omega)
/-- An edge is set down. -/
theorem EB.ofPut (h : EB D W w0 pf z fx N Bh lh ch H S m w) {S' : List (Int × Int)} (hg : w.grownBy w' (some w0.heap.size)) (hM : MapP w' w0.heap.size S'.length S') : EB D W w0 pf z fx N Bh lh ch H S' m w' := by
  have h1 := h.lt
  have h2 := h.zlt
  obtain ⟨n2, k, f, b, c, d⟩ := h.ei.at_
  exact ⟨h1, blk_gb h.frag hg (by omega), blk_gb h.box hg (by omega), h.kept_row (by omega) hg, ⟨hM, n2, k, f, b, c.kept hg (fun e => by injection e with e; omega), d⟩, h.bel.grown hg h.bel.size (fun q e => by injection e with e; omega)⟩
/-- A vertex is set down. -/
theorem EB.atPut (h : EB D W w0 pf z fx N Bh lh ch H S m w) {n2 k : Nat} {f : Int → Option Int} (hg : w.grownBy w' (some (w0.heap.size + 1))) (hm : n2 ≤ m + 1) (hM : MapZ w' (w0.heap.size + 1) n2 f k) (hA : AtI D W f) : EB D W w0 pf z fx N Bh lh ch H S (m + 1) w' := by
  have h1 := h.lt
  have h2 := h.zlt
  exact ⟨h1, blk_gb h.frag hg (by omega), blk_gb h.box hg (by omega), h.kept_row (by omega) hg, ⟨h.ei.of_.kept hg (fun e => by injection e with e; omega), n2, k, f, hm, hM, hA⟩, h.bel.grown hg h.bel.size (fun q e => by injection e with e; omega)⟩
/-- An edge more beside the web. -/
theorem EB.more {Bh' : Option Addr} {lh' ch' : Nat} {H' : List (Int × Int)} (h : EB D W w0 pf z fx N Bh lh ch H S m w) (hk : ∀ b, b < z → w'.heap[b]? = w.heap[b]?) (hb : w'.heap[z]? = some (.cells #[.int .i64 (N : Nat), .slice Bh' lh' ch'] 24 (0, 0))) (hr : w'.ownsRow z 44 2 (.slice Bh' lh' ch') lh' (pcells H')) (hB : Below w0.heap.size w0 w') : EB D W w0 pf z fx N Bh' lh' ch' H' S m w' := by
  have h1 := h.lt
  exact ⟨h1, (hk _ h1.2).trans h.frag, hb, hr, h.ei.same (hk _ (by omega)) (hk _ (by omega)), hB⟩
end
set_option maxHeartbeats 64000000 in
theorem edges_walk_g (A B : Option Addr) (c d n m : Nat) (N : Int) (E : List (Int × Int)) (bs : List Bool) (w : World) (hE : RdP w A E) (hB : RdB w B bs) (hn : n = E.length) (hm : m = bs.length) :
    Calls Try.prog 4 #[.agg #[.int .i64 N, .slice A n c], .slice B m d] w fun e w' => e = .returned (.bool true) ∧ Below w.heap.size w w' := by
  obtain ⟨X, hX⟩ : ∃ X, X = w.alloc (.cells #[.int .i64 N, .slice A n c] 24) := ⟨_, rfl⟩
  have hb : Below w.heap.size w X := by rw [hX]; exact (Below.refl _ _).alloc (Nat.le_refl _) _
  have hXS : w.heap.size < X.heap.size := by rw [hX]; simp
  obtain ⟨j0, j1, _, _⟩ := cells_two (w := X) (by rw [hX]; exact heap_alloc_new w _)
  have HJ : Hid (∀ w', Below X.heap.size X w' → w'.cell? ⟨w.heap.size, 0, none⟩ = some (.int .i64 N) ∧ w'.cell? ⟨w.heap.size, 1, none⟩ = some (.slice A n c)) := fun w' hb =>
    ⟨by rw [hb.cell (by show w.heap.size < _; omega)]; exact j0, by rw [hb.cell (by show w.heap.size < _; omega)]; exact j1⟩
  have HR := rightS_any A c n N E X (hE.below hb) hn
  obtain ⟨p, hp⟩ : ∃ p, rightS N E = p := ⟨_, rfl⟩
  rw [hp] at HR
  have HR := Lib.hid HR
  have HE := Lib.hid (hE.below hb)
  have HBS := Lib.hid (hB.below hb)
  have HN := Lib.hid hn
  have HM := Lib.hid hm
  have HX := Lib.hid hX
  have HB := Lib.hid hb
  have HP := Lib.hid hp
  have HXS := Lib.hid hXS
  obtain ⟨i4, hi4, hz0, hz1, hz2⟩ := info_partsI pairinfo
  clear hE hB hn hm hX hb hp hXS
  go_enter Try.func4, Try.ntmps4
  go_wp2_with fail
  rw [← HX.out]
  refine HR.out.mono ?_
  rintro e w1 ⟨rfl, hb1⟩
  have HB1 := Lib.hid hb1
  clear hb1 j0 j1 HR
  cases p with
  | false =>
    go_wp2_with fail
    refine (awake_any w1).mono ?_
    rintro e w2 ⟨rfl, hb2⟩
    go_wp2_with fail
    go_ret
    exact ⟨rfl, HB.out.trans ((next_below HB1.out hb2).mono (Nat.le_of_lt HXS.out))⟩
  | true =>
    have hp := HP.out
    unfold rightS at hp
    rw [Bool.and_eq_true, decide_eq_true_iff] at hp
    have hg := hp.1
    have hn6 : n ≤ 594 := by rw [HN.out]; exact (rightG_bounds hg).2.2
    obtain ⟨Nn, rfl⟩ := Int.eq_ofNat_of_zero_le (rightG_bounds hg).1
    have hN2 : Nn ≤ 30 := by have := hp.2; omega
    have HG := Lib.hid hg
    obtain ⟨V, hV⟩ : ∃ V, mkd E bs n = V := ⟨_, rfl⟩
    have hweb := chosen_web (bs := bs) hg HN.out
    rw [hV] at hweb
    have HWEB := Lib.hid hweb
    have hVl : V.length ≤ 594 := by rw [← hV]; exact Nat.le_trans (mkd_le E bs n) hn6
    have HCH := chosen_any A B c d n m (Nn : Nat) E bs w1 (HE.out.below HB1.out) (HBS.out.below HB1.out) HN.out HM.out (by omega)
    rw [hV] at HCH
    have HCH := Lib.hid HCH
    have HVL := Lib.hid hVl
    clear hp hg hweb hV hVl
    obtain ⟨j0, j1⟩ := HJ.out w1 HB1.out
    go_wp2_with fail
    refine HCH.out.mono ?_
    rintro e w2 ⟨Bw, lw, cw, rfl, hrow, hb⟩
    obtain ⟨hlw, hrw⟩ := pcells_len hrow
    have hcap := row_cap hrow
    have HB2 := Lib.hid (next_below HB1.out hb)
    have RW := Lib.hid hrw
    have HLW := Lib.hid hlw
    have hlb : lw ≤ 594 := by rw [hlw]; exact HVL.out
    clear hrow hb hrw hlw HCH j0 j1
    obtain ⟨j0, j1⟩ := HJ.out w2 HB2.out
    have HT := fragsTT A Bw c cw n lw (Nn : Nat) E V w2 (HE.out.below HB2.out) RW.out HN.out HLW.out hcap.1 hcap.2
    have hft : fragsT (Nn : Nat) E V = (fragsF Nn E V, 0) := by
      unfold fragsT
      rw [if_neg (by rw [HG.out]; simp), if_pos HWEB.out.1]
      rfl
    have hsm := fragsT_small (Nn : Nat) E V (by rw [← HN.out]; omega)
    rw [hft] at HT hsm
    have HT := Lib.hid HT
    have HSM := Lib.hid hsm
    clear hft hsm
    go_wp2_with fail
    refine HT.out.mono ?_
    rintro e w3 ⟨A4, l4, c4, rfl, hl4, r4, hb⟩
    have HB3 := Lib.hid (next_below HB2.out hb)
    have RW := Lib.hid (RW.out.below hb)
    have R4 := Lib.hid r4
    have hl4b : l4 ≤ 1000 := by rw [hl4]; exact HSM.out.1
    have HL4 := Lib.hid hl4
    clear hb r4 hl4 HT j0 j1
    obtain ⟨j0, j1⟩ := HJ.out w3 HB3.out
    have HON := Lib.hid (onW_any Bw cw Nn lw V w3 RW.out HLW.out (by omega) (by omega) HWEB.out.2)
    go_wp2_with fail
    refine HON.out.mono ?_
    rintro e w4 ⟨rfl, hob, hb⟩
    have HIS : Hid (RdO w4 (some ⟨w3.heap.size, 0, none⟩) Nn (onW V)) := hob.rd (fun v hv => by
      have h9 : V.take lw = V := by rw [HLW.out]; exact List.take_length
      simp [onL, hv, h9])
    have HB4 := Lib.hid (next_below HB3.out hb)
    have RW := Lib.hid (RW.out.below hb)
    have R4 := Lib.hid (R4.out.below hb)
    have hmm := @run_makeMap Try.prog
    clear hob hb HON j0 j1
    go_upto_region 10 with fail
    have HL4B := Lib.hid hl4b
    have HEI0 : Hid (EI (fragsF Nn E V) V w4.heap.size (soFar (fragsF Nn E V) 0 [] 0) 0 ((w4.alloc (.map #[] 0)).alloc (.map #[] 0))) := by
      refine ⟨?_, 0, 0, _, Nat.le_refl _, ?_, AtI.start _ _⟩
      · exact (MapP.made w4).below ((Below.refl _ _).alloc (Nat.le_refl _) _)
      · have h := MapZ.made (w4.alloc (.map #[] 0))
        rw [show (w4.alloc (.map #[] 0)).heap.size = w4.heap.size + 1 by simp] at h
        exact h
    have HBM0 : Hid (Below w4.heap.size w4 ((w4.alloc (.map #[] 0)).alloc (.map #[] 0))) := ((Below.refl _ _).alloc (Nat.le_refl _) _).alloc (by simp) _
    clear hmm
    generalize (w4.alloc (.map #[] 0)).alloc (.map #[] 0) = wm at *
    go_wp2_with fail
    go_loopw [46] (fun s46 wr => ∃ i : Nat, i ≤ l4 ∧ s46 = .int .i64 i ∧ Hid (EI (fragsF Nn E V) V w4.heap.size (soFar (fragsF Nn E V) i [] 0) (2 * (soFar (fragsF Nn E V) i [] 0).length) wr) ∧ Hid (Below w4.heap.size w4 wr)) (fun s46 _ => l4 - (intOf s46).toNat)
    case atStart => exact ⟨0, Nat.zero_le _, rfl, HEI0.out.le (Nat.zero_le _), HBM0⟩
    case round =>
      obtain ⟨i, hi, rfl, hei, hbel⟩ := hrel
      by_cases h1 : i < l4
      · have t1 : decide ((i : Int) < (l4 : Int)) = true := by simp; omega
        have hI0 : (0 : Int) ≤ (i : Int) := by omega
        have hI1 : (i : Int) < (l4 : Nat) := by omega
        obtain ⟨x, hx⟩ : ∃ x, (fragsF Nn E V)[i]? = some x := ⟨_, List.getElem?_eq_getElem (by have h : l4 = (fragsF Nn E V).length := HL4.out; omega)⟩
        obtain ⟨fq, e0, hfi⟩ := frag_at HG.out HWEB.out.1 hx
        obtain ⟨ad, B1, B2, x1, x2, rfl, hal, q0, q1, g1, g2⟩ := R4.out i x hx
        rw [← hbel.out.cell (World.block_lt_of_cell? _ _ q0)] at q0
        rw [← hbel.out.cell (World.block_lt_of_cell? _ _ q1)] at q1
        have hxs := HSM.out.2 x (List.mem_of_getElem? hx)
        have hxl : x.1.length ≤ 594 := by have := (frag_sublist hfi).length_le; have := HN.out; omega
        have hxf : x.2.length ≤ 30 := by rw [hfi.feet]; exact Nat.le_trans (feetR_le _ _ _) hN2
        obtain ⟨G, F⟩ := x
        simp only at q0 q1 g1 g2 hxs hxl hxf
        have HX0 := Lib.hid hx
        have HFI := Lib.hid hfi
        obtain ⟨lg, hlg⟩ : ∃ lg, G.length = lg := ⟨_, rfl⟩
        obtain ⟨lf, hlf⟩ : ∃ lf, F.length = lf := ⟨_, rfl⟩
        rw [hlg] at q0 hxl
        rw [hlf] at q1 hxf
        have HLG := Lib.hid hlg
        have HLF := Lib.hid hlf
        obtain ⟨Y, hY⟩ : ∃ Y, Y = wr.alloc (.cells #[.slice B1 lg x1, .slice B2 lf x2] 43) := ⟨_, rfl⟩
        have hbY : Below wr.heap.size wr Y := by rw [hY]; exact (Below.refl _ _).alloc (Nat.le_refl _) _
        have hEB : Y.heap[wr.heap.size]? = some (.cells #[.slice B1 lg x1, .slice B2 lf x2] 43 (0, 0)) := by rw [hY]; exact heap_alloc_new wr _
        have HG1 := Lib.hid g1
        have HG2 := Lib.hid g2
        have HBY := Lib.hid (next_below hbel.out hbY)
        have HEY := Lib.hid (hei.out.below hbY)
        have hpf0 := hei.out.lt
        have HYY := Lib.hid hY
        clear hx hfi hlg hlf hbY hY hal g1 g2 hbel hei
        go_upto_region 13 with fail
        rw [← HYY.out]
        obtain ⟨pf, hpf⟩ : ∃ pf, wr.heap.size = pf := ⟨_, rfl⟩
        rw [hpf] at hEB hpf0 ⊢
        have HYF : Hid (Y = wr.alloc (.cells #[.slice B1 lg x1, .slice B2 lf x2] 43)) := HYY
        clear q0 q1 hpf HYY HYF
        have hpl := lt_of_block hEB
        obtain ⟨r0, r1, _, _⟩ := cells_two hEB
        have HEB := Lib.hid hEB
        have HPF0 := Lib.hid hpf0
        obtain ⟨P, hP⟩ : ∃ P, P = Y.alloc (.cells #[.int .i64 (Nn : Nat), .slice B1 lg x1] 24) := ⟨_, rfl⟩
        have hbP : Below Y.heap.size Y P := by rw [hP]; exact (Below.refl _ _).alloc (Nat.le_refl _) _
        obtain ⟨s0, s1, _, _⟩ := cells_two (w := P) (by rw [hP]; exact heap_alloc_new Y _)
        have hsP : Y.heap.size < P.heap.size := by rw [hP]; simp
        have HP1 := Lib.hid hP
        have HBP := Lib.hid hbP
        obtain ⟨j0, _⟩ := HJ.out Y (next_below HB4.out HBY.out)
        clear hP hEB hpf0
        go_upto_region 14 with fail
        rw [← HP1.out]
        obtain ⟨pp, hpp⟩ : ∃ pp, Y.heap.size = pp := ⟨_, rfl⟩
        have hrG : rightG (Nn : Nat) G = true := sub_right HG.out (frag_sublist HFI.out)
        have HRP : Hid (∀ w', Below P.heap.size P w' → Calls Try.prog 19 #[.agg #[.int .i64 (Nn : Nat), .slice B1 lg x1]] w' fun e w'' => e = .returned (.bool true) ∧ Below w'.heap.size w' w'') := fun w' hb' => by
          have h := right_any B1 x1 lg (Nn : Nat) G w' ((HG1.out.below (next_below HBY.out HBP.out)).below hb') HLG.out.symm
          rw [hrG] at h
          exact h
        have r0P : P.cell? ⟨pf, 0, none⟩ = some (.slice B1 lg x1) := by rw [hbP.cell (by exact hpl)]; exact r0
        have hlg0 : 0 < lg := by have := (List.getElem?_eq_some_iff.1 HFI.out.head).1; rw [← HLG.out]; exact this
        have e1 : ((lg : Int) == 0) = false := by simp; omega
        have e2 : (lg == 0) = false := by simp; omega
        rw [hpp] at s0 s1 hpl hsP ⊢
        have HHD := Lib.hid (HG1.out.below (next_below HBY.out HBP.out) 0 e0 HFI.out.head)
        clear r0 r1 hrG hpp j0 HP1
        clear hxs
        go_cut [120] from 47 to 233 (fun s120 wx => s120 = .bool false ∧ Hid (Below P.heap.size P wx))
        case first => as_aux_lemma =>
          simp only [List.append_eq, List.cons_append, List.nil_append]
          by_cases hi0 : i = 0
          · subst hi0
            have d1 : decide ((0 : Int) < ((0 : Nat) : Int)) = false := by simp
            have HKP : Hid (∀ w', Below P.heap.size P w' → w'.cell? ⟨pf, 0, none⟩ = some (.slice B1 lg x1) ∧ w'.cell? ⟨pp, 0, none⟩ = some (.int .i64 (Nn : Nat)) ∧ w'.cell? ⟨pp, 1, none⟩ = some (.slice B1 lg x1) ∧ Below P.heap.size P w') := fun w' hb' =>
              ⟨by rw [hb'.cell (by show pf < _; omega)]; exact r0P, by rw [hb'.cell (by exact hsP)]; exact s0, by rw [hb'.cell (by exact hsP)]; exact s1, hb'⟩
            have hD := HKP.out P.drew (Below.refl _ _).drew
            refine wp_region_held_drew (S := (fun w' => w'.cell? ⟨pf, 0, none⟩ = some (.slice B1 lg x1) ∧ w'.cell? ⟨pp, 0, none⟩ = some (.int .i64 (Nn : Nat)) ∧ w'.cell? ⟨pp, 1, none⟩ = some (.slice B1 lg x1) ∧ Below P.heap.size P w')) (by kernel_rfl) hD (fun hS => ?_)
            refine wpAnyH_take (i := 0) (v := ?_) rfl (by kernel_rfl) (by kernel_rfl) (by kernel_rfl) (fun _ _ _ h => h) (Or.inl ⟨by rfl, ?_⟩) hS ?_
            rotate_left
            · intro wz hSw; (try dsimp only at hSw); obtain ⟨z1, z2, z3, z4⟩ := hSw; go_simp; (try with_reducible rfl)
            try simp only [List.getElem_toArray, List.getElem_cons_zero, List.getElem_cons_succ, Act.put, List.setIfInBounds_toArray, List.set_cons_zero, List.set_cons_succ]
            refine wpAnyH_take (i := 1) (v := ?_) rfl (by kernel_rfl) (by kernel_rfl) (by kernel_rfl) (fun _ _ _ h => h) (Or.inl ⟨by rfl, ?_⟩) hS ?_
            rotate_left
            · intro wz hSw; (try dsimp only at hSw); obtain ⟨z1, z2, z3, z4⟩ := hSw; go_simp; (try with_reducible rfl)
            try simp only [List.getElem_toArray, List.getElem_cons_zero, List.getElem_cons_succ, Act.put, List.setIfInBounds_toArray, List.set_cons_zero, List.set_cons_succ]
            refine wpAnyH_take (i := 2) (v := ?_) rfl (by kernel_rfl) (by kernel_rfl) (by kernel_rfl) (fun _ _ _ h => h) (Or.inl ⟨by rfl, ?_⟩) hS ?_
            rotate_left
            · intro wz hSw; (try dsimp only at hSw); obtain ⟨z1, z2, z3, z4⟩ := hSw; go_simp; (try with_reducible rfl)
            try simp only [List.getElem_toArray, List.getElem_cons_zero, List.getElem_cons_succ, Act.put, List.setIfInBounds_toArray, List.set_cons_zero, List.set_cons_succ]
            refine wpAnyH_take (i := 3) (v := ?_) rfl (by kernel_rfl) (by kernel_rfl) (by kernel_rfl) (fun _ _ _ h => h) (Or.inl ⟨by rfl, ?_⟩) hS ?_
            rotate_left
            · intro wz hSw; (try dsimp only at hSw); obtain ⟨z1, z2, z3, z4⟩ := hSw; go_simp; (try with_reducible rfl)
            try simp only [List.getElem_toArray, List.getElem_cons_zero, List.getElem_cons_succ, Act.put, List.setIfInBounds_toArray, List.set_cons_zero, List.set_cons_succ]
            refine wpAnyH_take (i := 4) (v := ?_) rfl (by kernel_rfl) (by kernel_rfl) (by kernel_rfl) (fun _ _ _ h => h) (Or.inl ⟨by rfl, ?_⟩) hS ?_
            rotate_left
            · intro wz hSw; (try dsimp only at hSw); obtain ⟨z1, z2, z3, z4⟩ := hSw; go_simp; (try with_reducible rfl)
            try simp only [List.getElem_toArray, List.getElem_cons_zero, List.getElem_cons_succ, Act.put, List.setIfInBounds_toArray, List.set_cons_zero, List.set_cons_succ]
            refine wpAnyH_take (i := 5) (v := ?_) rfl (by kernel_rfl) (by kernel_rfl) (by kernel_rfl) (fun _ _ _ h => h) (Or.inl ⟨by rfl, ?_⟩) hS ?_
            rotate_left
            · intro wz hSw; (try dsimp only at hSw); obtain ⟨z1, z2, z3, z4⟩ := hSw; go_simp; (try with_reducible rfl)
            try simp only [List.getElem_toArray, List.getElem_cons_zero, List.getElem_cons_succ, Act.put, List.setIfInBounds_toArray, List.set_cons_zero, List.set_cons_succ]
            refine wpAnyH_ready (rs := [6]) (by kernel_rfl) (by simp) (AllReadyH.cons rfl (fun K hK => ?_) AllReadyH.nil)
            go_simp
            go_at_call 19
            refine (HRP.out _ hS.2.2.2).mono ?_
            rintro e w5 ⟨rfl, hb5⟩
            go_wp2_with fail
            have hS := HKP.out w5 (next_below hS.2.2.2 hb5)
            refine hK.out _ _ hS (fun _ => ?_)
            clear hK K
            try simp only [List.getElem_toArray, List.getElem_cons_zero, List.getElem_cons_succ, Act.put, List.setIfInBounds_toArray, List.set_cons_zero, List.set_cons_succ]
            refine wpAnyH_take (i := 7) (v := ?_) rfl (by kernel_rfl) (by kernel_rfl) (by kernel_rfl) (fun _ _ _ h => h) (Or.inl ⟨by rfl, ?_⟩) hS ?_
            rotate_left
            · intro wz hSw; (try dsimp only at hSw); clear hSw; go_simp; (try with_reducible rfl)
            try simp only [List.getElem_toArray, List.getElem_cons_zero, List.getElem_cons_succ, Act.put, List.setIfInBounds_toArray, List.set_cons_zero, List.set_cons_succ]
            refine wpAnyH_take (i := 8) (v := ?_) rfl (by kernel_rfl) (by kernel_rfl) (by kernel_rfl) (fun _ _ _ h => h) (Or.inl ⟨by rfl, ?_⟩) hS ?_
            rotate_left
            · intro wz hSw; (try dsimp only at hSw); clear hSw; go_simp; (try with_reducible rfl)
            try simp only [List.getElem_toArray, List.getElem_cons_zero, List.getElem_cons_succ, Act.put, List.setIfInBounds_toArray, List.set_cons_zero, List.set_cons_succ]
            refine wpAnyH_take (i := 9) (v := ?_) rfl (by kernel_rfl) (by kernel_rfl) (by kernel_rfl) (fun _ _ _ h => h) (Or.inl ⟨by rfl, ?_⟩) hS ?_
            rotate_left
            · intro wz hSw; (try dsimp only at hSw); clear hSw; go_simp; (try with_reducible rfl)
            try simp only [List.getElem_toArray, List.getElem_cons_zero, List.getElem_cons_succ, Act.put, List.setIfInBounds_toArray, List.set_cons_zero, List.set_cons_succ]
            refine wpAnyH_take (i := 10) (v := ?_) rfl (by kernel_rfl) (by kernel_rfl) (by kernel_rfl) (fun _ _ _ h => h) (Or.inl ⟨by rfl, ?_⟩) hS ?_
            rotate_left
            · intro wz hSw; (try dsimp only at hSw); clear hSw; go_simp; (try with_reducible rfl)
            try simp only [List.getElem_toArray, List.getElem_cons_zero, List.getElem_cons_succ, Act.put, List.setIfInBounds_toArray, List.set_cons_zero, List.set_cons_succ]
            refine wpAnyH_take (i := 11) (v := ?_) rfl (by kernel_rfl) (by kernel_rfl) (by kernel_rfl) (fun _ _ _ h => h) (Or.inl ⟨by rfl, ?_⟩) hS ?_
            rotate_left
            · intro wz hSw; (try dsimp only at hSw); clear hSw; go_simp; (try with_reducible rfl)
            try simp only [List.getElem_toArray, List.getElem_cons_zero, List.getElem_cons_succ, Act.put, List.setIfInBounds_toArray, List.set_cons_zero, List.set_cons_succ]
            refine wpAnyH_take (i := 12) (v := ?_) rfl (by kernel_rfl) (by kernel_rfl) (by kernel_rfl) (fun _ _ _ h => h) (Or.inl ⟨by rfl, ?_⟩) hS ?_
            rotate_left
            · intro wz hSw; (try dsimp only at hSw); clear hSw; go_simp; (try with_reducible rfl)
            try simp only [List.getElem_toArray, List.getElem_cons_zero, List.getElem_cons_succ, Act.put, List.setIfInBounds_toArray, List.set_cons_zero, List.set_cons_succ]
            refine wpAnyH_take (i := 13) (v := undef) rfl (by kernel_rfl) (by kernel_rfl) (by kernel_rfl) (fun _ _ _ h => h) (Or.inr ⟨by rfl, rfl⟩) hS ?_
            try simp only [List.getElem_toArray, List.getElem_cons_zero, List.getElem_cons_succ, Act.put, List.setIfInBounds_toArray, List.set_cons_zero, List.set_cons_succ]
            refine wpAnyH_take (i := 14) (v := undef) rfl (by kernel_rfl) (by kernel_rfl) (by kernel_rfl) (fun _ _ _ h => h) (Or.inr ⟨by rfl, rfl⟩) hS ?_
            try simp only [List.getElem_toArray, List.getElem_cons_zero, List.getElem_cons_succ, Act.put, List.setIfInBounds_toArray, List.set_cons_zero, List.set_cons_succ]
            refine wpAnyH_take (i := 15) (v := undef) rfl (by kernel_rfl) (by kernel_rfl) (by kernel_rfl) (fun _ _ _ h => h) (Or.inr ⟨by rfl, rfl⟩) hS ?_
            try simp only [List.getElem_toArray, List.getElem_cons_zero, List.getElem_cons_succ, Act.put, List.setIfInBounds_toArray, List.set_cons_zero, List.set_cons_succ]
            refine wpAnyH_take (i := 16) (v := undef) rfl (by kernel_rfl) (by kernel_rfl) (by kernel_rfl) (fun _ _ _ h => h) (Or.inr ⟨by rfl, rfl⟩) hS ?_
            try simp only [List.getElem_toArray, List.getElem_cons_zero, List.getElem_cons_succ, Act.put, List.setIfInBounds_toArray, List.set_cons_zero, List.set_cons_succ]
            refine wpAnyH_take (i := 17) (v := undef) rfl (by kernel_rfl) (by kernel_rfl) (by kernel_rfl) (fun _ _ _ h => h) (Or.inr ⟨by rfl, rfl⟩) hS ?_
            try simp only [List.getElem_toArray, List.getElem_cons_zero, List.getElem_cons_succ, Act.put, List.setIfInBounds_toArray, List.set_cons_zero, List.set_cons_succ]
            refine wpAnyH_take (i := 18) (v := undef) rfl (by kernel_rfl) (by kernel_rfl) (by kernel_rfl) (fun _ _ _ h => h) (Or.inr ⟨by rfl, rfl⟩) hS ?_
            try simp only [List.getElem_toArray, List.getElem_cons_zero, List.getElem_cons_succ, Act.put, List.setIfInBounds_toArray, List.set_cons_zero, List.set_cons_succ]
            refine wpAnyH_take (i := 19) (v := undef) rfl (by kernel_rfl) (by kernel_rfl) (by kernel_rfl) (fun _ _ _ h => h) (Or.inr ⟨by rfl, rfl⟩) hS ?_
            try simp only [List.getElem_toArray, List.getElem_cons_zero, List.getElem_cons_succ, Act.put, List.setIfInBounds_toArray, List.set_cons_zero, List.set_cons_succ]
            refine wpAnyH_take (i := 20) (v := undef) rfl (by kernel_rfl) (by kernel_rfl) (by kernel_rfl) (fun _ _ _ h => h) (Or.inr ⟨by rfl, rfl⟩) hS ?_
            try simp only [List.getElem_toArray, List.getElem_cons_zero, List.getElem_cons_succ, Act.put, List.setIfInBounds_toArray, List.set_cons_zero, List.set_cons_succ]
            refine wpAnyH_take (i := 21) (v := undef) rfl (by kernel_rfl) (by kernel_rfl) (by kernel_rfl) (fun _ _ _ h => h) (Or.inr ⟨by rfl, rfl⟩) hS ?_
            try simp only [List.getElem_toArray, List.getElem_cons_zero, List.getElem_cons_succ, Act.put, List.setIfInBounds_toArray, List.set_cons_zero, List.set_cons_succ]
            refine wpAnyH_take (i := 22) (v := undef) rfl (by kernel_rfl) (by kernel_rfl) (by kernel_rfl) (fun _ _ _ h => h) (Or.inr ⟨by rfl, rfl⟩) hS ?_
            try simp only [List.getElem_toArray, List.getElem_cons_zero, List.getElem_cons_succ, Act.put, List.setIfInBounds_toArray, List.set_cons_zero, List.set_cons_succ]
            refine wpAnyH_take (i := 23) (v := undef) rfl (by kernel_rfl) (by kernel_rfl) (by kernel_rfl) (fun _ _ _ h => h) (Or.inr ⟨by rfl, rfl⟩) hS ?_
            try simp only [List.getElem_toArray, List.getElem_cons_zero, List.getElem_cons_succ, Act.put, List.setIfInBounds_toArray, List.set_cons_zero, List.set_cons_succ]
            refine wpAnyH_take (i := 24) (v := undef) rfl (by kernel_rfl) (by kernel_rfl) (by kernel_rfl) (fun _ _ _ h => h) (Or.inr ⟨by rfl, rfl⟩) hS ?_
            try simp only [List.getElem_toArray, List.getElem_cons_zero, List.getElem_cons_succ, Act.put, List.setIfInBounds_toArray, List.set_cons_zero, List.set_cons_succ]
            refine wpAnyH_take (i := 25) (v := undef) rfl (by kernel_rfl) (by kernel_rfl) (by kernel_rfl) (fun _ _ _ h => h) (Or.inr ⟨by rfl, rfl⟩) hS ?_
            try simp only [List.getElem_toArray, List.getElem_cons_zero, List.getElem_cons_succ, Act.put, List.setIfInBounds_toArray, List.set_cons_zero, List.set_cons_succ]
            refine wpAnyH_take (i := 26) (v := undef) rfl (by kernel_rfl) (by kernel_rfl) (by kernel_rfl) (fun _ _ _ h => h) (Or.inr ⟨by rfl, rfl⟩) hS ?_
            try simp only [List.getElem_toArray, List.getElem_cons_zero, List.getElem_cons_succ, Act.put, List.setIfInBounds_toArray, List.set_cons_zero, List.set_cons_succ]
            refine wpAnyH_take (i := 27) (v := undef) rfl (by kernel_rfl) (by kernel_rfl) (by kernel_rfl) (fun _ _ _ h => h) (Or.inr ⟨by rfl, rfl⟩) hS ?_
            try simp only [List.getElem_toArray, List.getElem_cons_zero, List.getElem_cons_succ, Act.put, List.setIfInBounds_toArray, List.set_cons_zero, List.set_cons_succ]
            refine wpAnyH_take (i := 28) (v := undef) rfl (by kernel_rfl) (by kernel_rfl) (by kernel_rfl) (fun _ _ _ h => h) (Or.inr ⟨by rfl, rfl⟩) hS ?_
            try simp only [List.getElem_toArray, List.getElem_cons_zero, List.getElem_cons_succ, Act.put, List.setIfInBounds_toArray, List.set_cons_zero, List.set_cons_succ]
            refine wpAnyH_take (i := 29) (v := undef) rfl (by kernel_rfl) (by kernel_rfl) (by kernel_rfl) (fun _ _ _ h => h) (Or.inr ⟨by rfl, rfl⟩) hS ?_
            try simp only [List.getElem_toArray, List.getElem_cons_zero, List.getElem_cons_succ, Act.put, List.setIfInBounds_toArray, List.set_cons_zero, List.set_cons_succ]
            refine wpAnyH_take (i := 30) (v := undef) rfl (by kernel_rfl) (by kernel_rfl) (by kernel_rfl) (fun _ _ _ h => h) (Or.inr ⟨by rfl, rfl⟩) hS ?_
            try simp only [List.getElem_toArray, List.getElem_cons_zero, List.getElem_cons_succ, Act.put, List.setIfInBounds_toArray, List.set_cons_zero, List.set_cons_succ]
            refine wpAnyH_take (i := 31) (v := undef) rfl (by kernel_rfl) (by kernel_rfl) (by kernel_rfl) (fun _ _ _ h => h) (Or.inr ⟨by rfl, rfl⟩) hS ?_
            try simp only [List.getElem_toArray, List.getElem_cons_zero, List.getElem_cons_succ, Act.put, List.setIfInBounds_toArray, List.set_cons_zero, List.set_cons_succ]
            refine wpAnyH_take (i := 32) (v := undef) rfl (by kernel_rfl) (by kernel_rfl) (by kernel_rfl) (fun _ _ _ h => h) (Or.inr ⟨by rfl, rfl⟩) hS ?_
            try simp only [List.getElem_toArray, List.getElem_cons_zero, List.getElem_cons_succ, Act.put, List.setIfInBounds_toArray, List.set_cons_zero, List.set_cons_succ]
            refine wpAnyH_take (i := 33) (v := undef) rfl (by kernel_rfl) (by kernel_rfl) (by kernel_rfl) (fun _ _ _ h => h) (Or.inr ⟨by rfl, rfl⟩) hS ?_
            try simp only [List.getElem_toArray, List.getElem_cons_zero, List.getElem_cons_succ, Act.put, List.setIfInBounds_toArray, List.set_cons_zero, List.set_cons_succ]
            refine wpAnyH_take (i := 34) (v := undef) rfl (by kernel_rfl) (by kernel_rfl) (by kernel_rfl) (fun _ _ _ h => h) (Or.inr ⟨by rfl, rfl⟩) hS ?_
            try simp only [List.getElem_toArray, List.getElem_cons_zero, List.getElem_cons_succ, Act.put, List.setIfInBounds_toArray, List.set_cons_zero, List.set_cons_succ]
            refine wpAnyH_take (i := 35) (v := undef) rfl (by kernel_rfl) (by kernel_rfl) (by kernel_rfl) (fun _ _ _ h => h) (Or.inr ⟨by rfl, rfl⟩) hS ?_
            try simp only [List.getElem_toArray, List.getElem_cons_zero, List.getElem_cons_succ, Act.put, List.setIfInBounds_toArray, List.set_cons_zero, List.set_cons_succ]
            refine wpAnyH_take (i := 36) (v := undef) rfl (by kernel_rfl) (by kernel_rfl) (by kernel_rfl) (fun _ _ _ h => h) (Or.inr ⟨by rfl, rfl⟩) hS ?_
            try simp only [List.getElem_toArray, List.getElem_cons_zero, List.getElem_cons_succ, Act.put, List.setIfInBounds_toArray, List.set_cons_zero, List.set_cons_succ]
            refine wpAnyH_take (i := 37) (v := undef) rfl (by kernel_rfl) (by kernel_rfl) (by kernel_rfl) (fun _ _ _ h => h) (Or.inr ⟨by rfl, rfl⟩) hS ?_
            try simp only [List.getElem_toArray, List.getElem_cons_zero, List.getElem_cons_succ, Act.put, List.setIfInBounds_toArray, List.set_cons_zero, List.set_cons_succ]
            refine wpAnyH_take (i := 38) (v := undef) rfl (by kernel_rfl) (by kernel_rfl) (by kernel_rfl) (fun _ _ _ h => h) (Or.inr ⟨by rfl, rfl⟩) hS ?_
            try simp only [List.getElem_toArray, List.getElem_cons_zero, List.getElem_cons_succ, Act.put, List.setIfInBounds_toArray, List.set_cons_zero, List.set_cons_succ]
            refine wpAnyH_take (i := 39) (v := undef) rfl (by kernel_rfl) (by kernel_rfl) (by kernel_rfl) (fun _ _ _ h => h) (Or.inr ⟨by rfl, rfl⟩) hS ?_
            try simp only [List.getElem_toArray, List.getElem_cons_zero, List.getElem_cons_succ, Act.put, List.setIfInBounds_toArray, List.set_cons_zero, List.set_cons_succ]
            refine wpAnyH_take (i := 40) (v := undef) rfl (by kernel_rfl) (by kernel_rfl) (by kernel_rfl) (fun _ _ _ h => h) (Or.inr ⟨by rfl, rfl⟩) hS ?_
            try simp only [List.getElem_toArray, List.getElem_cons_zero, List.getElem_cons_succ, Act.put, List.setIfInBounds_toArray, List.set_cons_zero, List.set_cons_succ]
            refine wpAnyH_take (i := 41) (v := undef) rfl (by kernel_rfl) (by kernel_rfl) (by kernel_rfl) (fun _ _ _ h => h) (Or.inr ⟨by rfl, rfl⟩) hS ?_
            try simp only [List.getElem_toArray, List.getElem_cons_zero, List.getElem_cons_succ, Act.put, List.setIfInBounds_toArray, List.set_cons_zero, List.set_cons_succ]
            refine wpAnyH_take (i := 42) (v := undef) rfl (by kernel_rfl) (by kernel_rfl) (by kernel_rfl) (fun _ _ _ h => h) (Or.inr ⟨by rfl, rfl⟩) hS ?_
            try simp only [List.getElem_toArray, List.getElem_cons_zero, List.getElem_cons_succ, Act.put, List.setIfInBounds_toArray, List.set_cons_zero, List.set_cons_succ]
            refine wpAnyH_take (i := 43) (v := undef) rfl (by kernel_rfl) (by kernel_rfl) (by kernel_rfl) (fun _ _ _ h => h) (Or.inr ⟨by rfl, rfl⟩) hS ?_
            try simp only [List.getElem_toArray, List.getElem_cons_zero, List.getElem_cons_succ, Act.put, List.setIfInBounds_toArray, List.set_cons_zero, List.set_cons_succ]
            refine wpAnyH_take (i := 44) (v := undef) rfl (by kernel_rfl) (by kernel_rfl) (by kernel_rfl) (fun _ _ _ h => h) (Or.inr ⟨by rfl, rfl⟩) hS ?_
            try simp only [List.getElem_toArray, List.getElem_cons_zero, List.getElem_cons_succ, Act.put, List.setIfInBounds_toArray, List.set_cons_zero, List.set_cons_succ]
            refine wpAnyH_take (i := 45) (v := undef) rfl (by kernel_rfl) (by kernel_rfl) (by kernel_rfl) (fun _ _ _ h => h) (Or.inr ⟨by rfl, rfl⟩) hS ?_
            try simp only [List.getElem_toArray, List.getElem_cons_zero, List.getElem_cons_succ, Act.put, List.setIfInBounds_toArray, List.set_cons_zero, List.set_cons_succ]
            refine wpAnyH_take (i := 46) (v := undef) rfl (by kernel_rfl) (by kernel_rfl) (by kernel_rfl) (fun _ _ _ h => h) (Or.inr ⟨by rfl, rfl⟩) hS ?_
            try simp only [List.getElem_toArray, List.getElem_cons_zero, List.getElem_cons_succ, Act.put, List.setIfInBounds_toArray, List.set_cons_zero, List.set_cons_succ]
            refine wpAnyH_take (i := 47) (v := undef) rfl (by kernel_rfl) (by kernel_rfl) (by kernel_rfl) (fun _ _ _ h => h) (Or.inr ⟨by rfl, rfl⟩) hS ?_
            try simp only [List.getElem_toArray, List.getElem_cons_zero, List.getElem_cons_succ, Act.put, List.setIfInBounds_toArray, List.set_cons_zero, List.set_cons_succ]
            refine wpAnyH_take (i := 48) (v := undef) rfl (by kernel_rfl) (by kernel_rfl) (by kernel_rfl) (fun _ _ _ h => h) (Or.inr ⟨by rfl, rfl⟩) hS ?_
            try simp only [List.getElem_toArray, List.getElem_cons_zero, List.getElem_cons_succ, Act.put, List.setIfInBounds_toArray, List.set_cons_zero, List.set_cons_succ]
            refine wpAnyH_take (i := 49) (v := undef) rfl (by kernel_rfl) (by kernel_rfl) (by kernel_rfl) (fun _ _ _ h => h) (Or.inr ⟨by rfl, rfl⟩) hS ?_
            try simp only [List.getElem_toArray, List.getElem_cons_zero, List.getElem_cons_succ, Act.put, List.setIfInBounds_toArray, List.set_cons_zero, List.set_cons_succ]
            refine wpAnyH_take (i := 50) (v := undef) rfl (by kernel_rfl) (by kernel_rfl) (by kernel_rfl) (fun _ _ _ h => h) (Or.inr ⟨by rfl, rfl⟩) hS ?_
            try simp only [List.getElem_toArray, List.getElem_cons_zero, List.getElem_cons_succ, Act.put, List.setIfInBounds_toArray, List.set_cons_zero, List.set_cons_succ]
            refine wpAnyH_take (i := 51) (v := undef) rfl (by kernel_rfl) (by kernel_rfl) (by kernel_rfl) (fun _ _ _ h => h) (Or.inr ⟨by rfl, rfl⟩) hS ?_
            try simp only [List.getElem_toArray, List.getElem_cons_zero, List.getElem_cons_succ, Act.put, List.setIfInBounds_toArray, List.set_cons_zero, List.set_cons_succ]
            refine wpAnyH_take (i := 52) (v := undef) rfl (by kernel_rfl) (by kernel_rfl) (by kernel_rfl) (fun _ _ _ h => h) (Or.inr ⟨by rfl, rfl⟩) hS ?_
            try simp only [List.getElem_toArray, List.getElem_cons_zero, List.getElem_cons_succ, Act.put, List.setIfInBounds_toArray, List.set_cons_zero, List.set_cons_succ]
            refine wpAnyH_take (i := 53) (v := undef) rfl (by kernel_rfl) (by kernel_rfl) (by kernel_rfl) (fun _ _ _ h => h) (Or.inr ⟨by rfl, rfl⟩) hS ?_
            try simp only [List.getElem_toArray, List.getElem_cons_zero, List.getElem_cons_succ, Act.put, List.setIfInBounds_toArray, List.set_cons_zero, List.set_cons_succ]
            refine wpAnyH_take (i := 54) (v := undef) rfl (by kernel_rfl) (by kernel_rfl) (by kernel_rfl) (fun _ _ _ h => h) (Or.inr ⟨by rfl, rfl⟩) hS ?_
            try simp only [List.getElem_toArray, List.getElem_cons_zero, List.getElem_cons_succ, Act.put, List.setIfInBounds_toArray, List.set_cons_zero, List.set_cons_succ]
            refine wpAnyH_take (i := 55) (v := undef) rfl (by kernel_rfl) (by kernel_rfl) (by kernel_rfl) (fun _ _ _ h => h) (Or.inr ⟨by rfl, rfl⟩) hS ?_
            try simp only [List.getElem_toArray, List.getElem_cons_zero, List.getElem_cons_succ, Act.put, List.setIfInBounds_toArray, List.set_cons_zero, List.set_cons_succ]
            refine wpAnyH_take (i := 56) (v := undef) rfl (by kernel_rfl) (by kernel_rfl) (by kernel_rfl) (fun _ _ _ h => h) (Or.inr ⟨by rfl, rfl⟩) hS ?_
            try simp only [List.getElem_toArray, List.getElem_cons_zero, List.getElem_cons_succ, Act.put, List.setIfInBounds_toArray, List.set_cons_zero, List.set_cons_succ]
            refine wpAnyH_take (i := 57) (v := undef) rfl (by kernel_rfl) (by kernel_rfl) (by kernel_rfl) (fun _ _ _ h => h) (Or.inr ⟨by rfl, rfl⟩) hS ?_
            try simp only [List.getElem_toArray, List.getElem_cons_zero, List.getElem_cons_succ, Act.put, List.setIfInBounds_toArray, List.set_cons_zero, List.set_cons_succ]
            refine wpAnyH_take (i := 58) (v := undef) rfl (by kernel_rfl) (by kernel_rfl) (by kernel_rfl) (fun _ _ _ h => h) (Or.inr ⟨by rfl, rfl⟩) hS ?_
            try simp only [List.getElem_toArray, List.getElem_cons_zero, List.getElem_cons_succ, Act.put, List.setIfInBounds_toArray, List.set_cons_zero, List.set_cons_succ]
            refine wpAnyH_take (i := 59) (v := undef) rfl (by kernel_rfl) (by kernel_rfl) (by kernel_rfl) (fun _ _ _ h => h) (Or.inr ⟨by rfl, rfl⟩) hS ?_
            try simp only [List.getElem_toArray, List.getElem_cons_zero, List.getElem_cons_succ, Act.put, List.setIfInBounds_toArray, List.set_cons_zero, List.set_cons_succ]
            refine wpAnyH_take (i := 60) (v := undef) rfl (by kernel_rfl) (by kernel_rfl) (by kernel_rfl) (fun _ _ _ h => h) (Or.inr ⟨by rfl, rfl⟩) hS ?_
            try simp only [List.getElem_toArray, List.getElem_cons_zero, List.getElem_cons_succ, Act.put, List.setIfInBounds_toArray, List.set_cons_zero, List.set_cons_succ]
            refine wpAnyH_take (i := 61) (v := undef) rfl (by kernel_rfl) (by kernel_rfl) (by kernel_rfl) (fun _ _ _ h => h) (Or.inr ⟨by rfl, rfl⟩) hS ?_
            try simp only [List.getElem_toArray, List.getElem_cons_zero, List.getElem_cons_succ, Act.put, List.setIfInBounds_toArray, List.set_cons_zero, List.set_cons_succ]
            refine wpAnyH_take (i := 62) (v := undef) rfl (by kernel_rfl) (by kernel_rfl) (by kernel_rfl) (fun _ _ _ h => h) (Or.inr ⟨by rfl, rfl⟩) hS ?_
            try simp only [List.getElem_toArray, List.getElem_cons_zero, List.getElem_cons_succ, Act.put, List.setIfInBounds_toArray, List.set_cons_zero, List.set_cons_succ]
            refine wpAnyH_take (i := 63) (v := ?_) rfl (by kernel_rfl) (by kernel_rfl) (by kernel_rfl) (fun _ _ _ h => h) (Or.inl ⟨by rfl, ?_⟩) hS ?_
            rotate_left
            · intro wz hSw; (try dsimp only at hSw); clear hSw; go_simp; (try with_reducible rfl)
            try simp only [List.getElem_toArray, List.getElem_cons_zero, List.getElem_cons_succ, Act.put, List.setIfInBounds_toArray, List.set_cons_zero, List.set_cons_succ]
            refine wpAnyH_take (i := 64) (v := ?_) rfl (by kernel_rfl) (by kernel_rfl) (by kernel_rfl) (fun _ _ _ h => h) (Or.inl ⟨by rfl, ?_⟩) hS ?_
            rotate_left
            · intro wz hSw; (try dsimp only at hSw); clear hSw; go_simp; (try with_reducible rfl)
            try simp only [List.getElem_toArray, List.getElem_cons_zero, List.getElem_cons_succ, Act.put, List.setIfInBounds_toArray, List.set_cons_zero, List.set_cons_succ]
            refine wpAnyH_done (by kernel_rfl) ?_ _
            have hb9 := hS.2.2.2
            go_wp2_with fail
            go_meet
            exact ⟨rfl, hb9⟩
          · have d1 : decide ((0 : Int) < (i : Int)) = true := by simp; omega
            have d2 : decide (0 < i) = true := by simp; omega
            obtain ⟨p2, hp2⟩ : ∃ p2, p2 = i - 1 := ⟨_, rfl⟩
            have hjI : (i : Int) - 1 = (p2 : Nat) := by omega
            have hjJ : (p2 : Int) < (l4 : Nat) := by omega
            have hjK : (0 : Int) ≤ (p2 : Int) := by omega
            have hjW : IntKind.i64.wrap (p2 : Int) = (p2 : Int) := IntWalk.i64_in _ (by have := HL4B.out; omega)
            obtain ⟨y, hy⟩ : ∃ y, (fragsF Nn E V)[p2]? = some y := ⟨_, List.getElem?_eq_getElem (by have h : l4 = (fragsF Nn E V).length := HL4.out; omega)⟩
            obtain ⟨gq, e1, hfj⟩ := frag_at HG.out HWEB.out.1 hy
            have hrise := frag_rise HG.out HWEB.out.1 hfj HFI.out (by omega)
            obtain ⟨ad', B3, B4, x3, x4, ead, hal, q0, q1, g1, g2⟩ := (R4.out.below (next_below HBY.out HBP.out)) p2 y hy
            injection ead with ead
            subst ead
            obtain ⟨gy, egy, hgl, p0, p1⟩ := g1 0 e1 hfj.head
            obtain ⟨hyl, hyl'⟩ := List.getElem?_eq_some_iff.1 hfj.head
            obtain ⟨gz, egz, hgl2, p3, p4⟩ := HHD.out
            subst egy egz
            rw [add_none] at p0 p1 p3 p4
            obtain ⟨ly, hly⟩ : ∃ ly, y.1.length = ly := ⟨_, rfl⟩
            rw [hly] at q0 hyl
            have hy1 : (0 : Int) < (ly : Nat) := by omega
            have hy2 : 0 < ly := hyl
            have hg1 : (0 : Int) < (lg : Nat) := by omega
            obtain ⟨ea, eb⟩ := e1
            obtain ⟨fa, fb⟩ := e0
            simp only at p0 p1 p3 p4 hrise
            have hal0 := World.block_lt_of_cell? _ _ q0
            have hal1 := World.block_lt_of_cell? _ _ p0
            have hal2 := World.block_lt_of_cell? _ _ p1
            have hal3 := World.block_lt_of_cell? _ _ p3
            have hal4 := World.block_lt_of_cell? _ _ p4
            clear hy hfj hly hyl' g1 g2 hal hgl hgl2 q1 hp2
            have HKP : Hid (∀ w', Below P.heap.size P w' → w'.cell? ⟨pf, 0, none⟩ = some (.slice (some gz) lg x1) ∧ w'.cell? ⟨pp, 0, none⟩ = some (.int .i64 (Nn : Nat)) ∧ w'.cell? ⟨pp, 1, none⟩ = some (.slice (some gz) lg x1) ∧ w'.cell? (ad.add (p2 * 2)) = some (.slice (some gy) ly x3) ∧ w'.cell? gy = some (.int .i64 ea) ∧ w'.cell? ⟨gy.block, gy.off + 1, none⟩ = some (.int .i64 eb) ∧ w'.cell? gz = some (.int .i64 fa) ∧ w'.cell? ⟨gz.block, gz.off + 1, none⟩ = some (.int .i64 fb) ∧ Below P.heap.size P w') := fun w' hb' =>
              ⟨by rw [hb'.cell (by show pf < _; omega)]; exact r0P, by rw [hb'.cell (by exact hsP)]; exact s0, by rw [hb'.cell (by exact hsP)]; exact s1, by rw [hb'.cell hal0]; exact q0, by rw [hb'.cell hal1]; exact p0, by rw [hb'.cell hal2]; exact p1, by rw [hb'.cell hal3]; exact p3, by rw [hb'.cell hal4]; exact p4, hb'⟩
            have hD := HKP.out P.drew (Below.refl _ _).drew
            clear hal0 hal1 hal2 hal3 hal4 q0 p0 p1 p3 p4
            by_cases hlt : ea < fa
            · have f1 : decide (ea < fa) = true := by simpa using hlt
              clear hlt hrise
              refine wp_region_held_drew (S := (fun w' => w'.cell? ⟨pf, 0, none⟩ = some (.slice (some gz) lg x1) ∧ w'.cell? ⟨pp, 0, none⟩ = some (.int .i64 (Nn : Nat)) ∧ w'.cell? ⟨pp, 1, none⟩ = some (.slice (some gz) lg x1) ∧ w'.cell? (ad.add (p2 * 2)) = some (.slice (some gy) ly x3) ∧ w'.cell? gy = some (.int .i64 ea) ∧ w'.cell? ⟨gy.block, gy.off + 1, none⟩ = some (.int .i64 eb) ∧ w'.cell? gz = some (.int .i64 fa) ∧ w'.cell? ⟨gz.block, gz.off + 1, none⟩ = some (.int .i64 fb) ∧ Below P.heap.size P w')) (by kernel_rfl) hD (fun hS => ?_)
              refine wpAnyH_take (i := 0) (v := ?_) rfl (by kernel_rfl) (by kernel_rfl) (by kernel_rfl) (fun _ _ _ h => h) (Or.inl ⟨by rfl, ?_⟩) hS ?_
              rotate_left
              · intro wz hSw; (try dsimp only at hSw); obtain ⟨z1, z2, z3, z4, z5, z6, z7, z8, z9⟩ := hSw; go_simp; (try with_reducible rfl)
              try simp only [List.getElem_toArray, List.getElem_cons_zero, List.getElem_cons_succ, Act.put, List.setIfInBounds_toArray, List.set_cons_zero, List.set_cons_succ]
              refine wpAnyH_take (i := 1) (v := ?_) rfl (by kernel_rfl) (by kernel_rfl) (by kernel_rfl) (fun _ _ _ h => h) (Or.inl ⟨by rfl, ?_⟩) hS ?_
              rotate_left
              · intro wz hSw; (try dsimp only at hSw); obtain ⟨z1, z2, z3, z4, z5, z6, z7, z8, z9⟩ := hSw; go_simp; (try with_reducible rfl)
              try simp only [List.getElem_toArray, List.getElem_cons_zero, List.getElem_cons_succ, Act.put, List.setIfInBounds_toArray, List.set_cons_zero, List.set_cons_succ]
              refine wpAnyH_take (i := 2) (v := ?_) rfl (by kernel_rfl) (by kernel_rfl) (by kernel_rfl) (fun _ _ _ h => h) (Or.inl ⟨by rfl, ?_⟩) hS ?_
              rotate_left
              · intro wz hSw; (try dsimp only at hSw); obtain ⟨z1, z2, z3, z4, z5, z6, z7, z8, z9⟩ := hSw; go_simp; (try with_reducible rfl)
              try simp only [List.getElem_toArray, List.getElem_cons_zero, List.getElem_cons_succ, Act.put, List.setIfInBounds_toArray, List.set_cons_zero, List.set_cons_succ]
              refine wpAnyH_take (i := 3) (v := ?_) rfl (by kernel_rfl) (by kernel_rfl) (by kernel_rfl) (fun _ _ _ h => h) (Or.inl ⟨by rfl, ?_⟩) hS ?_
              rotate_left
              · intro wz hSw; (try dsimp only at hSw); obtain ⟨z1, z2, z3, z4, z5, z6, z7, z8, z9⟩ := hSw; go_simp; (try with_reducible rfl)
              try simp only [List.getElem_toArray, List.getElem_cons_zero, List.getElem_cons_succ, Act.put, List.setIfInBounds_toArray, List.set_cons_zero, List.set_cons_succ]
              refine wpAnyH_take (i := 4) (v := ?_) rfl (by kernel_rfl) (by kernel_rfl) (by kernel_rfl) (fun _ _ _ h => h) (Or.inl ⟨by rfl, ?_⟩) hS ?_
              rotate_left
              · intro wz hSw; (try dsimp only at hSw); obtain ⟨z1, z2, z3, z4, z5, z6, z7, z8, z9⟩ := hSw; go_simp; (try with_reducible rfl)
              try simp only [List.getElem_toArray, List.getElem_cons_zero, List.getElem_cons_succ, Act.put, List.setIfInBounds_toArray, List.set_cons_zero, List.set_cons_succ]
              refine wpAnyH_take (i := 5) (v := ?_) rfl (by kernel_rfl) (by kernel_rfl) (by kernel_rfl) (fun _ _ _ h => h) (Or.inl ⟨by rfl, ?_⟩) hS ?_
              rotate_left
              · intro wz hSw; (try dsimp only at hSw); obtain ⟨z1, z2, z3, z4, z5, z6, z7, z8, z9⟩ := hSw; go_simp; (try with_reducible rfl)
              try simp only [List.getElem_toArray, List.getElem_cons_zero, List.getElem_cons_succ, Act.put, List.setIfInBounds_toArray, List.set_cons_zero, List.set_cons_succ]
              refine wpAnyH_ready (rs := [6]) (by kernel_rfl) (by simp) (AllReadyH.cons rfl (fun K hK => ?_) AllReadyH.nil)
              go_simp
              go_at_call 19
              refine (HRP.out _ hS.2.2.2.2.2.2.2.2).mono ?_
              rintro e w5 ⟨rfl, hb5⟩
              go_wp2_with fail
              have hS := HKP.out w5 (next_below hS.2.2.2.2.2.2.2.2 hb5)
              refine hK.out _ _ hS (fun _ => ?_)
              clear hK K
              try simp only [List.getElem_toArray, List.getElem_cons_zero, List.getElem_cons_succ, Act.put, List.setIfInBounds_toArray, List.set_cons_zero, List.set_cons_succ]
              refine wpAnyH_take (i := 7) (v := ?_) rfl (by kernel_rfl) (by kernel_rfl) (by kernel_rfl) (fun _ _ _ h => h) (Or.inl ⟨by rfl, ?_⟩) hS ?_
              rotate_left
              · intro wz hSw; (try dsimp only at hSw); obtain ⟨z1, z2, z3, z4, z5, z6, z7, z8, z9⟩ := hSw; go_simp; (try with_reducible rfl)
              try simp only [List.getElem_toArray, List.getElem_cons_zero, List.getElem_cons_succ, Act.put, List.setIfInBounds_toArray, List.set_cons_zero, List.set_cons_succ]
              refine wpAnyH_take (i := 8) (v := ?_) rfl (by kernel_rfl) (by kernel_rfl) (by kernel_rfl) (fun _ _ _ h => h) (Or.inl ⟨by rfl, ?_⟩) hS ?_
              rotate_left
              · intro wz hSw; (try dsimp only at hSw); obtain ⟨z1, z2, z3, z4, z5, z6, z7, z8, z9⟩ := hSw; go_simp; (try with_reducible rfl)
              try simp only [List.getElem_toArray, List.getElem_cons_zero, List.getElem_cons_succ, Act.put, List.setIfInBounds_toArray, List.set_cons_zero, List.set_cons_succ]
              refine wpAnyH_take (i := 9) (v := ?_) rfl (by kernel_rfl) (by kernel_rfl) (by kernel_rfl) (fun _ _ _ h => h) (Or.inl ⟨by rfl, ?_⟩) hS ?_
              rotate_left
              · intro wz hSw; (try dsimp only at hSw); obtain ⟨z1, z2, z3, z4, z5, z6, z7, z8, z9⟩ := hSw; go_simp; (try with_reducible rfl)
              try simp only [List.getElem_toArray, List.getElem_cons_zero, List.getElem_cons_succ, Act.put, List.setIfInBounds_toArray, List.set_cons_zero, List.set_cons_succ]
              refine wpAnyH_take (i := 10) (v := ?_) rfl (by kernel_rfl) (by kernel_rfl) (by kernel_rfl) (fun _ _ _ h => h) (Or.inl ⟨by rfl, ?_⟩) hS ?_
              rotate_left
              · intro wz hSw; (try dsimp only at hSw); obtain ⟨z1, z2, z3, z4, z5, z6, z7, z8, z9⟩ := hSw; go_simp; (try with_reducible rfl)
              try simp only [List.getElem_toArray, List.getElem_cons_zero, List.getElem_cons_succ, Act.put, List.setIfInBounds_toArray, List.set_cons_zero, List.set_cons_succ]
              refine wpAnyH_take (i := 11) (v := ?_) rfl (by kernel_rfl) (by kernel_rfl) (by kernel_rfl) (fun _ _ _ h => h) (Or.inl ⟨by rfl, ?_⟩) hS ?_
              rotate_left
              · intro wz hSw; (try dsimp only at hSw); obtain ⟨z1, z2, z3, z4, z5, z6, z7, z8, z9⟩ := hSw; go_simp; (try with_reducible rfl)
              try simp only [List.getElem_toArray, List.getElem_cons_zero, List.getElem_cons_succ, Act.put, List.setIfInBounds_toArray, List.set_cons_zero, List.set_cons_succ]
              refine wpAnyH_take (i := 12) (v := ?_) rfl (by kernel_rfl) (by kernel_rfl) (by kernel_rfl) (fun _ _ _ h => h) (Or.inl ⟨by rfl, ?_⟩) hS ?_
              rotate_left
              · intro wz hSw; (try dsimp only at hSw); obtain ⟨z1, z2, z3, z4, z5, z6, z7, z8, z9⟩ := hSw; go_simp; (try with_reducible rfl)
              try simp only [List.getElem_toArray, List.getElem_cons_zero, List.getElem_cons_succ, Act.put, List.setIfInBounds_toArray, List.set_cons_zero, List.set_cons_succ]
              refine wpAnyH_take (i := 13) (v := ?_) rfl (by kernel_rfl) (by kernel_rfl) (by kernel_rfl) (fun _ _ _ h => h) (Or.inl ⟨by rfl, ?_⟩) hS ?_
              rotate_left
              · intro wz hSw; (try dsimp only at hSw); obtain ⟨z1, z2, z3, z4, z5, z6, z7, z8, z9⟩ := hSw; go_simp; (try with_reducible rfl)
              try simp only [List.getElem_toArray, List.getElem_cons_zero, List.getElem_cons_succ, Act.put, List.setIfInBounds_toArray, List.set_cons_zero, List.set_cons_succ]
              refine wpAnyH_take (i := 14) (v := ?_) rfl (by kernel_rfl) (by kernel_rfl) (by kernel_rfl) (fun _ _ _ h => h) (Or.inl ⟨by rfl, ?_⟩) hS ?_
              rotate_left
              · intro wz hSw; (try dsimp only at hSw); obtain ⟨z1, z2, z3, z4, z5, z6, z7, z8, z9⟩ := hSw; go_simp; (try with_reducible rfl)
              try simp only [List.getElem_toArray, List.getElem_cons_zero, List.getElem_cons_succ, Act.put, List.setIfInBounds_toArray, List.set_cons_zero, List.set_cons_succ]
              refine wpAnyH_take (i := 15) (v := ?_) rfl (by kernel_rfl) (by kernel_rfl) (by kernel_rfl) (fun _ _ _ h => h) (Or.inl ⟨by rfl, ?_⟩) hS ?_
              rotate_left
              · intro wz hSw; (try dsimp only at hSw); obtain ⟨z1, z2, z3, z4, z5, z6, z7, z8, z9⟩ := hSw; go_simp; (try with_reducible rfl)
              try simp only [List.getElem_toArray, List.getElem_cons_zero, List.getElem_cons_succ, Act.put, List.setIfInBounds_toArray, List.set_cons_zero, List.set_cons_succ]
              refine wpAnyH_take (i := 16) (v := ?_) rfl (by kernel_rfl) (by kernel_rfl) (by kernel_rfl) (fun _ _ _ h => h) (Or.inl ⟨by rfl, ?_⟩) hS ?_
              rotate_left
              · intro wz hSw; (try dsimp only at hSw); obtain ⟨z1, z2, z3, z4, z5, z6, z7, z8, z9⟩ := hSw; go_simp; (try with_reducible rfl)
              try simp only [List.getElem_toArray, List.getElem_cons_zero, List.getElem_cons_succ, Act.put, List.setIfInBounds_toArray, List.set_cons_zero, List.set_cons_succ]
              refine wpAnyH_take (i := 17) (v := ?_) rfl (by kernel_rfl) (by kernel_rfl) (by kernel_rfl) (fun _ _ _ h => h) (Or.inl ⟨by rfl, ?_⟩) hS ?_
              rotate_left
              · intro wz hSw; (try dsimp only at hSw); obtain ⟨z1, z2, z3, z4, z5, z6, z7, z8, z9⟩ := hSw; go_simp; (try with_reducible rfl)
              try simp only [List.getElem_toArray, List.getElem_cons_zero, List.getElem_cons_succ, Act.put, List.setIfInBounds_toArray, List.set_cons_zero, List.set_cons_succ]
              refine wpAnyH_take (i := 18) (v := ?_) rfl (by kernel_rfl) (by kernel_rfl) (by kernel_rfl) (fun _ _ _ h => h) (Or.inl ⟨by rfl, ?_⟩) hS ?_
              rotate_left
              · intro wz hSw; (try dsimp only at hSw); obtain ⟨z1, z2, z3, z4, z5, z6, z7, z8, z9⟩ := hSw; go_simp; (try with_reducible rfl)
              try simp only [List.getElem_toArray, List.getElem_cons_zero, List.getElem_cons_succ, Act.put, List.setIfInBounds_toArray, List.set_cons_zero, List.set_cons_succ]
              refine wpAnyH_take (i := 19) (v := ?_) rfl (by kernel_rfl) (by kernel_rfl) (by kernel_rfl) (fun _ _ _ h => h) (Or.inl ⟨by rfl, ?_⟩) hS ?_
              rotate_left
              · intro wz hSw; (try dsimp only at hSw); obtain ⟨z1, z2, z3, z4, z5, z6, z7, z8, z9⟩ := hSw; go_simp; (try with_reducible rfl)
              try simp only [List.getElem_toArray, List.getElem_cons_zero, List.getElem_cons_succ, Act.put, List.setIfInBounds_toArray, List.set_cons_zero, List.set_cons_succ]
              refine wpAnyH_take (i := 20) (v := ?_) rfl (by kernel_rfl) (by kernel_rfl) (by kernel_rfl) (fun _ _ _ h => h) (Or.inl ⟨by rfl, ?_⟩) hS ?_
              rotate_left
              · intro wz hSw; (try dsimp only at hSw); obtain ⟨z1, z2, z3, z4, z5, z6, z7, z8, z9⟩ := hSw; go_simp; (try with_reducible rfl)
              try simp only [List.getElem_toArray, List.getElem_cons_zero, List.getElem_cons_succ, Act.put, List.setIfInBounds_toArray, List.set_cons_zero, List.set_cons_succ]
              refine wpAnyH_take (i := 21) (v := ?_) rfl (by kernel_rfl) (by kernel_rfl) (by kernel_rfl) (fun _ _ _ h => h) (Or.inl ⟨by rfl, ?_⟩) hS ?_
              rotate_left
              · intro wz hSw; (try dsimp only at hSw); obtain ⟨z1, z2, z3, z4, z5, z6, z7, z8, z9⟩ := hSw; go_simp; (try with_reducible rfl)
              try simp only [List.getElem_toArray, List.getElem_cons_zero, List.getElem_cons_succ, Act.put, List.setIfInBounds_toArray, List.set_cons_zero, List.set_cons_succ]
              refine wpAnyH_take (i := 22) (v := ?_) rfl (by kernel_rfl) (by kernel_rfl) (by kernel_rfl) (fun _ _ _ h => h) (Or.inl ⟨by rfl, ?_⟩) hS ?_
              rotate_left
              · intro wz hSw; (try dsimp only at hSw); obtain ⟨z1, z2, z3, z4, z5, z6, z7, z8, z9⟩ := hSw; go_simp; (try with_reducible rfl)
              try simp only [List.getElem_toArray, List.getElem_cons_zero, List.getElem_cons_succ, Act.put, List.setIfInBounds_toArray, List.set_cons_zero, List.set_cons_succ]
              refine wpAnyH_take (i := 23) (v := ?_) rfl (by kernel_rfl) (by kernel_rfl) (by kernel_rfl) (fun _ _ _ h => h) (Or.inl ⟨by rfl, ?_⟩) hS ?_
              rotate_left
              · intro wz hSw; (try dsimp only at hSw); obtain ⟨z1, z2, z3, z4, z5, z6, z7, z8, z9⟩ := hSw; go_simp; (try with_reducible rfl)
              try simp only [List.getElem_toArray, List.getElem_cons_zero, List.getElem_cons_succ, Act.put, List.setIfInBounds_toArray, List.set_cons_zero, List.set_cons_succ]
              refine wpAnyH_take (i := 24) (v := ?_) rfl (by kernel_rfl) (by kernel_rfl) (by kernel_rfl) (fun _ _ _ h => h) (Or.inl ⟨by rfl, ?_⟩) hS ?_
              rotate_left
              · intro wz hSw; (try dsimp only at hSw); obtain ⟨z1, z2, z3, z4, z5, z6, z7, z8, z9⟩ := hSw; go_simp; (try with_reducible rfl)
              try simp only [List.getElem_toArray, List.getElem_cons_zero, List.getElem_cons_succ, Act.put, List.setIfInBounds_toArray, List.set_cons_zero, List.set_cons_succ]
              refine wpAnyH_take (i := 25) (v := ?_) rfl (by kernel_rfl) (by kernel_rfl) (by kernel_rfl) (fun _ _ _ h => h) (Or.inl ⟨by rfl, ?_⟩) hS ?_
              rotate_left
              · intro wz hSw; (try dsimp only at hSw); obtain ⟨z1, z2, z3, z4, z5, z6, z7, z8, z9⟩ := hSw; go_simp; (try with_reducible rfl)
              try simp only [List.getElem_toArray, List.getElem_cons_zero, List.getElem_cons_succ, Act.put, List.setIfInBounds_toArray, List.set_cons_zero, List.set_cons_succ]
              refine wpAnyH_take (i := 26) (v := ?_) rfl (by kernel_rfl) (by kernel_rfl) (by kernel_rfl) (fun _ _ _ h => h) (Or.inl ⟨by rfl, ?_⟩) hS ?_
              rotate_left
              · intro wz hSw; (try dsimp only at hSw); obtain ⟨z1, z2, z3, z4, z5, z6, z7, z8, z9⟩ := hSw; go_simp; (try with_reducible rfl)
              try simp only [List.getElem_toArray, List.getElem_cons_zero, List.getElem_cons_succ, Act.put, List.setIfInBounds_toArray, List.set_cons_zero, List.set_cons_succ]
              refine wpAnyH_take (i := 27) (v := ?_) rfl (by kernel_rfl) (by kernel_rfl) (by kernel_rfl) (fun _ _ _ h => h) (Or.inl ⟨by rfl, ?_⟩) hS ?_
              rotate_left
              · intro wz hSw; (try dsimp only at hSw); obtain ⟨z1, z2, z3, z4, z5, z6, z7, z8, z9⟩ := hSw; go_simp; (try with_reducible rfl)
              try simp only [List.getElem_toArray, List.getElem_cons_zero, List.getElem_cons_succ, Act.put, List.setIfInBounds_toArray, List.set_cons_zero, List.set_cons_succ]
              refine wpAnyH_take (i := 28) (v := ?_) rfl (by kernel_rfl) (by kernel_rfl) (by kernel_rfl) (fun _ _ _ h => h) (Or.inl ⟨by rfl, ?_⟩) hS ?_
              rotate_left
              · intro wz hSw; (try dsimp only at hSw); obtain ⟨z1, z2, z3, z4, z5, z6, z7, z8, z9⟩ := hSw; go_simp; (try with_reducible rfl)
              try simp only [List.getElem_toArray, List.getElem_cons_zero, List.getElem_cons_succ, Act.put, List.setIfInBounds_toArray, List.set_cons_zero, List.set_cons_succ]
              refine wpAnyH_take (i := 29) (v := undef) rfl (by kernel_rfl) (by kernel_rfl) (by kernel_rfl) (fun _ _ _ h => h) (Or.inr ⟨by rfl, rfl⟩) hS ?_
              try simp only [List.getElem_toArray, List.getElem_cons_zero, List.getElem_cons_succ, Act.put, List.setIfInBounds_toArray, List.set_cons_zero, List.set_cons_succ]
              refine wpAnyH_take (i := 30) (v := undef) rfl (by kernel_rfl) (by kernel_rfl) (by kernel_rfl) (fun _ _ _ h => h) (Or.inr ⟨by rfl, rfl⟩) hS ?_
              try simp only [List.getElem_toArray, List.getElem_cons_zero, List.getElem_cons_succ, Act.put, List.setIfInBounds_toArray, List.set_cons_zero, List.set_cons_succ]
              refine wpAnyH_take (i := 31) (v := undef) rfl (by kernel_rfl) (by kernel_rfl) (by kernel_rfl) (fun _ _ _ h => h) (Or.inr ⟨by rfl, rfl⟩) hS ?_
              try simp only [List.getElem_toArray, List.getElem_cons_zero, List.getElem_cons_succ, Act.put, List.setIfInBounds_toArray, List.set_cons_zero, List.set_cons_succ]
              refine wpAnyH_take (i := 32) (v := undef) rfl (by kernel_rfl) (by kernel_rfl) (by kernel_rfl) (fun _ _ _ h => h) (Or.inr ⟨by rfl, rfl⟩) hS ?_
              try simp only [List.getElem_toArray, List.getElem_cons_zero, List.getElem_cons_succ, Act.put, List.setIfInBounds_toArray, List.set_cons_zero, List.set_cons_succ]
              refine wpAnyH_take (i := 33) (v := undef) rfl (by kernel_rfl) (by kernel_rfl) (by kernel_rfl) (fun _ _ _ h => h) (Or.inr ⟨by rfl, rfl⟩) hS ?_
              try simp only [List.getElem_toArray, List.getElem_cons_zero, List.getElem_cons_succ, Act.put, List.setIfInBounds_toArray, List.set_cons_zero, List.set_cons_succ]
              refine wpAnyH_take (i := 34) (v := undef) rfl (by kernel_rfl) (by kernel_rfl) (by kernel_rfl) (fun _ _ _ h => h) (Or.inr ⟨by rfl, rfl⟩) hS ?_
              try simp only [List.getElem_toArray, List.getElem_cons_zero, List.getElem_cons_succ, Act.put, List.setIfInBounds_toArray, List.set_cons_zero, List.set_cons_succ]
              refine wpAnyH_take (i := 35) (v := undef) rfl (by kernel_rfl) (by kernel_rfl) (by kernel_rfl) (fun _ _ _ h => h) (Or.inr ⟨by rfl, rfl⟩) hS ?_
              try simp only [List.getElem_toArray, List.getElem_cons_zero, List.getElem_cons_succ, Act.put, List.setIfInBounds_toArray, List.set_cons_zero, List.set_cons_succ]
              refine wpAnyH_take (i := 36) (v := undef) rfl (by kernel_rfl) (by kernel_rfl) (by kernel_rfl) (fun _ _ _ h => h) (Or.inr ⟨by rfl, rfl⟩) hS ?_
              try simp only [List.getElem_toArray, List.getElem_cons_zero, List.getElem_cons_succ, Act.put, List.setIfInBounds_toArray, List.set_cons_zero, List.set_cons_succ]
              refine wpAnyH_take (i := 37) (v := undef) rfl (by kernel_rfl) (by kernel_rfl) (by kernel_rfl) (fun _ _ _ h => h) (Or.inr ⟨by rfl, rfl⟩) hS ?_
              try simp only [List.getElem_toArray, List.getElem_cons_zero, List.getElem_cons_succ, Act.put, List.setIfInBounds_toArray, List.set_cons_zero, List.set_cons_succ]
              refine wpAnyH_take (i := 38) (v := undef) rfl (by kernel_rfl) (by kernel_rfl) (by kernel_rfl) (fun _ _ _ h => h) (Or.inr ⟨by rfl, rfl⟩) hS ?_
              try simp only [List.getElem_toArray, List.getElem_cons_zero, List.getElem_cons_succ, Act.put, List.setIfInBounds_toArray, List.set_cons_zero, List.set_cons_succ]
              refine wpAnyH_take (i := 39) (v := undef) rfl (by kernel_rfl) (by kernel_rfl) (by kernel_rfl) (fun _ _ _ h => h) (Or.inr ⟨by rfl, rfl⟩) hS ?_
              try simp only [List.getElem_toArray, List.getElem_cons_zero, List.getElem_cons_succ, Act.put, List.setIfInBounds_toArray, List.set_cons_zero, List.set_cons_succ]
              refine wpAnyH_take (i := 40) (v := undef) rfl (by kernel_rfl) (by kernel_rfl) (by kernel_rfl) (fun _ _ _ h => h) (Or.inr ⟨by rfl, rfl⟩) hS ?_
              try simp only [List.getElem_toArray, List.getElem_cons_zero, List.getElem_cons_succ, Act.put, List.setIfInBounds_toArray, List.set_cons_zero, List.set_cons_succ]
              refine wpAnyH_take (i := 41) (v := undef) rfl (by kernel_rfl) (by kernel_rfl) (by kernel_rfl) (fun _ _ _ h => h) (Or.inr ⟨by rfl, rfl⟩) hS ?_
              try simp only [List.getElem_toArray, List.getElem_cons_zero, List.getElem_cons_succ, Act.put, List.setIfInBounds_toArray, List.set_cons_zero, List.set_cons_succ]
              refine wpAnyH_take (i := 42) (v := undef) rfl (by kernel_rfl) (by kernel_rfl) (by kernel_rfl) (fun _ _ _ h => h) (Or.inr ⟨by rfl, rfl⟩) hS ?_
              try simp only [List.getElem_toArray, List.getElem_cons_zero, List.getElem_cons_succ, Act.put, List.setIfInBounds_toArray, List.set_cons_zero, List.set_cons_succ]
              refine wpAnyH_take (i := 43) (v := undef) rfl (by kernel_rfl) (by kernel_rfl) (by kernel_rfl) (fun _ _ _ h => h) (Or.inr ⟨by rfl, rfl⟩) hS ?_
              try simp only [List.getElem_toArray, List.getElem_cons_zero, List.getElem_cons_succ, Act.put, List.setIfInBounds_toArray, List.set_cons_zero, List.set_cons_succ]
              refine wpAnyH_take (i := 44) (v := undef) rfl (by kernel_rfl) (by kernel_rfl) (by kernel_rfl) (fun _ _ _ h => h) (Or.inr ⟨by rfl, rfl⟩) hS ?_
              try simp only [List.getElem_toArray, List.getElem_cons_zero, List.getElem_cons_succ, Act.put, List.setIfInBounds_toArray, List.set_cons_zero, List.set_cons_succ]
              refine wpAnyH_take (i := 45) (v := undef) rfl (by kernel_rfl) (by kernel_rfl) (by kernel_rfl) (fun _ _ _ h => h) (Or.inr ⟨by rfl, rfl⟩) hS ?_
              try simp only [List.getElem_toArray, List.getElem_cons_zero, List.getElem_cons_succ, Act.put, List.setIfInBounds_toArray, List.set_cons_zero, List.set_cons_succ]
              refine wpAnyH_take (i := 46) (v := undef) rfl (by kernel_rfl) (by kernel_rfl) (by kernel_rfl) (fun _ _ _ h => h) (Or.inr ⟨by rfl, rfl⟩) hS ?_
              try simp only [List.getElem_toArray, List.getElem_cons_zero, List.getElem_cons_succ, Act.put, List.setIfInBounds_toArray, List.set_cons_zero, List.set_cons_succ]
              refine wpAnyH_take (i := 47) (v := undef) rfl (by kernel_rfl) (by kernel_rfl) (by kernel_rfl) (fun _ _ _ h => h) (Or.inr ⟨by rfl, rfl⟩) hS ?_
              try simp only [List.getElem_toArray, List.getElem_cons_zero, List.getElem_cons_succ, Act.put, List.setIfInBounds_toArray, List.set_cons_zero, List.set_cons_succ]
              refine wpAnyH_take (i := 48) (v := undef) rfl (by kernel_rfl) (by kernel_rfl) (by kernel_rfl) (fun _ _ _ h => h) (Or.inr ⟨by rfl, rfl⟩) hS ?_
              try simp only [List.getElem_toArray, List.getElem_cons_zero, List.getElem_cons_succ, Act.put, List.setIfInBounds_toArray, List.set_cons_zero, List.set_cons_succ]
              refine wpAnyH_take (i := 49) (v := undef) rfl (by kernel_rfl) (by kernel_rfl) (by kernel_rfl) (fun _ _ _ h => h) (Or.inr ⟨by rfl, rfl⟩) hS ?_
              try simp only [List.getElem_toArray, List.getElem_cons_zero, List.getElem_cons_succ, Act.put, List.setIfInBounds_toArray, List.set_cons_zero, List.set_cons_succ]
              refine wpAnyH_take (i := 50) (v := undef) rfl (by kernel_rfl) (by kernel_rfl) (by kernel_rfl) (fun _ _ _ h => h) (Or.inr ⟨by rfl, rfl⟩) hS ?_
              try simp only [List.getElem_toArray, List.getElem_cons_zero, List.getElem_cons_succ, Act.put, List.setIfInBounds_toArray, List.set_cons_zero, List.set_cons_succ]
              refine wpAnyH_take (i := 51) (v := undef) rfl (by kernel_rfl) (by kernel_rfl) (by kernel_rfl) (fun _ _ _ h => h) (Or.inr ⟨by rfl, rfl⟩) hS ?_
              try simp only [List.getElem_toArray, List.getElem_cons_zero, List.getElem_cons_succ, Act.put, List.setIfInBounds_toArray, List.set_cons_zero, List.set_cons_succ]
              refine wpAnyH_take (i := 52) (v := undef) rfl (by kernel_rfl) (by kernel_rfl) (by kernel_rfl) (fun _ _ _ h => h) (Or.inr ⟨by rfl, rfl⟩) hS ?_
              try simp only [List.getElem_toArray, List.getElem_cons_zero, List.getElem_cons_succ, Act.put, List.setIfInBounds_toArray, List.set_cons_zero, List.set_cons_succ]
              refine wpAnyH_take (i := 53) (v := undef) rfl (by kernel_rfl) (by kernel_rfl) (by kernel_rfl) (fun _ _ _ h => h) (Or.inr ⟨by rfl, rfl⟩) hS ?_
              try simp only [List.getElem_toArray, List.getElem_cons_zero, List.getElem_cons_succ, Act.put, List.setIfInBounds_toArray, List.set_cons_zero, List.set_cons_succ]
              refine wpAnyH_take (i := 54) (v := undef) rfl (by kernel_rfl) (by kernel_rfl) (by kernel_rfl) (fun _ _ _ h => h) (Or.inr ⟨by rfl, rfl⟩) hS ?_
              try simp only [List.getElem_toArray, List.getElem_cons_zero, List.getElem_cons_succ, Act.put, List.setIfInBounds_toArray, List.set_cons_zero, List.set_cons_succ]
              refine wpAnyH_take (i := 55) (v := undef) rfl (by kernel_rfl) (by kernel_rfl) (by kernel_rfl) (fun _ _ _ h => h) (Or.inr ⟨by rfl, rfl⟩) hS ?_
              try simp only [List.getElem_toArray, List.getElem_cons_zero, List.getElem_cons_succ, Act.put, List.setIfInBounds_toArray, List.set_cons_zero, List.set_cons_succ]
              refine wpAnyH_take (i := 56) (v := undef) rfl (by kernel_rfl) (by kernel_rfl) (by kernel_rfl) (fun _ _ _ h => h) (Or.inr ⟨by rfl, rfl⟩) hS ?_
              try simp only [List.getElem_toArray, List.getElem_cons_zero, List.getElem_cons_succ, Act.put, List.setIfInBounds_toArray, List.set_cons_zero, List.set_cons_succ]
              refine wpAnyH_take (i := 57) (v := undef) rfl (by kernel_rfl) (by kernel_rfl) (by kernel_rfl) (fun _ _ _ h => h) (Or.inr ⟨by rfl, rfl⟩) hS ?_
              try simp only [List.getElem_toArray, List.getElem_cons_zero, List.getElem_cons_succ, Act.put, List.setIfInBounds_toArray, List.set_cons_zero, List.set_cons_succ]
              refine wpAnyH_take (i := 58) (v := undef) rfl (by kernel_rfl) (by kernel_rfl) (by kernel_rfl) (fun _ _ _ h => h) (Or.inr ⟨by rfl, rfl⟩) hS ?_
              try simp only [List.getElem_toArray, List.getElem_cons_zero, List.getElem_cons_succ, Act.put, List.setIfInBounds_toArray, List.set_cons_zero, List.set_cons_succ]
              refine wpAnyH_take (i := 59) (v := undef) rfl (by kernel_rfl) (by kernel_rfl) (by kernel_rfl) (fun _ _ _ h => h) (Or.inr ⟨by rfl, rfl⟩) hS ?_
              try simp only [List.getElem_toArray, List.getElem_cons_zero, List.getElem_cons_succ, Act.put, List.setIfInBounds_toArray, List.set_cons_zero, List.set_cons_succ]
              refine wpAnyH_take (i := 60) (v := undef) rfl (by kernel_rfl) (by kernel_rfl) (by kernel_rfl) (fun _ _ _ h => h) (Or.inr ⟨by rfl, rfl⟩) hS ?_
              try simp only [List.getElem_toArray, List.getElem_cons_zero, List.getElem_cons_succ, Act.put, List.setIfInBounds_toArray, List.set_cons_zero, List.set_cons_succ]
              refine wpAnyH_take (i := 61) (v := ?_) rfl (by kernel_rfl) (by kernel_rfl) (by kernel_rfl) (fun _ _ _ h => h) (Or.inl ⟨by rfl, ?_⟩) hS ?_
              rotate_left
              · intro wz hSw; (try dsimp only at hSw); obtain ⟨z1, z2, z3, z4, z5, z6, z7, z8, z9⟩ := hSw; go_simp; (try with_reducible rfl)
              try simp only [List.getElem_toArray, List.getElem_cons_zero, List.getElem_cons_succ, Act.put, List.setIfInBounds_toArray, List.set_cons_zero, List.set_cons_succ]
              refine wpAnyH_take (i := 62) (v := ?_) rfl (by kernel_rfl) (by kernel_rfl) (by kernel_rfl) (fun _ _ _ h => h) (Or.inl ⟨by rfl, ?_⟩) hS ?_
              rotate_left
              · intro wz hSw; (try dsimp only at hSw); obtain ⟨z1, z2, z3, z4, z5, z6, z7, z8, z9⟩ := hSw; go_simp; (try with_reducible rfl)
              try simp only [List.getElem_toArray, List.getElem_cons_zero, List.getElem_cons_succ, Act.put, List.setIfInBounds_toArray, List.set_cons_zero, List.set_cons_succ]
              refine wpAnyH_take (i := 63) (v := ?_) rfl (by kernel_rfl) (by kernel_rfl) (by kernel_rfl) (fun _ _ _ h => h) (Or.inl ⟨by rfl, ?_⟩) hS ?_
              rotate_left
              · intro wz hSw; (try dsimp only at hSw); obtain ⟨z1, z2, z3, z4, z5, z6, z7, z8, z9⟩ := hSw; go_simp; (try with_reducible rfl)
              try simp only [List.getElem_toArray, List.getElem_cons_zero, List.getElem_cons_succ, Act.put, List.setIfInBounds_toArray, List.set_cons_zero, List.set_cons_succ]
              refine wpAnyH_take (i := 64) (v := ?_) rfl (by kernel_rfl) (by kernel_rfl) (by kernel_rfl) (fun _ _ _ h => h) (Or.inl ⟨by rfl, ?_⟩) hS ?_
              rotate_left
              · intro wz hSw; (try dsimp only at hSw); obtain ⟨z1, z2, z3, z4, z5, z6, z7, z8, z9⟩ := hSw; go_simp; (try with_reducible rfl)
              try simp only [List.getElem_toArray, List.getElem_cons_zero, List.getElem_cons_succ, Act.put, List.setIfInBounds_toArray, List.set_cons_zero, List.set_cons_succ]
              refine wpAnyH_done (by kernel_rfl) ?_ _
              have hb9 := hS.2.2.2.2.2.2.2.2
              go_wp2_with fail
              go_meet
              exact ⟨rfl, hb9⟩
            · obtain ⟨heq, hlt2⟩ := hrise.resolve_left hlt
              have f1 : decide (ea < fa) = false := by simpa using hlt
              have f2 : (ea == fa) = true := by simpa using heq
              have f3 : decide (eb < fb) = true := by simpa using hlt2
              clear heq
              clear hlt hlt2 hrise
              refine wp_region_held_drew (S := (fun w' => w'.cell? ⟨pf, 0, none⟩ = some (.slice (some gz) lg x1) ∧ w'.cell? ⟨pp, 0, none⟩ = some (.int .i64 (Nn : Nat)) ∧ w'.cell? ⟨pp, 1, none⟩ = some (.slice (some gz) lg x1) ∧ w'.cell? (ad.add (p2 * 2)) = some (.slice (some gy) ly x3) ∧ w'.cell? gy = some (.int .i64 ea) ∧ w'.cell? ⟨gy.block, gy.off + 1, none⟩ = some (.int .i64 eb) ∧ w'.cell? gz = some (.int .i64 fa) ∧ w'.cell? ⟨gz.block, gz.off + 1, none⟩ = some (.int .i64 fb) ∧ Below P.heap.size P w')) (by kernel_rfl) hD (fun hS => ?_)
              refine wpAnyH_take (i := 0) (v := ?_) rfl (by kernel_rfl) (by kernel_rfl) (by kernel_rfl) (fun _ _ _ h => h) (Or.inl ⟨by rfl, ?_⟩) hS ?_
              rotate_left
              · intro wz hSw; (try dsimp only at hSw); obtain ⟨z1, z2, z3, z4, z5, z6, z7, z8, z9⟩ := hSw; go_simp; (try with_reducible rfl)
              try simp only [List.getElem_toArray, List.getElem_cons_zero, List.getElem_cons_succ, Act.put, List.setIfInBounds_toArray, List.set_cons_zero, List.set_cons_succ]
              refine wpAnyH_take (i := 1) (v := ?_) rfl (by kernel_rfl) (by kernel_rfl) (by kernel_rfl) (fun _ _ _ h => h) (Or.inl ⟨by rfl, ?_⟩) hS ?_
              rotate_left
              · intro wz hSw; (try dsimp only at hSw); obtain ⟨z1, z2, z3, z4, z5, z6, z7, z8, z9⟩ := hSw; go_simp; (try with_reducible rfl)
              try simp only [List.getElem_toArray, List.getElem_cons_zero, List.getElem_cons_succ, Act.put, List.setIfInBounds_toArray, List.set_cons_zero, List.set_cons_succ]
              refine wpAnyH_take (i := 2) (v := ?_) rfl (by kernel_rfl) (by kernel_rfl) (by kernel_rfl) (fun _ _ _ h => h) (Or.inl ⟨by rfl, ?_⟩) hS ?_
              rotate_left
              · intro wz hSw; (try dsimp only at hSw); obtain ⟨z1, z2, z3, z4, z5, z6, z7, z8, z9⟩ := hSw; go_simp; (try with_reducible rfl)
              try simp only [List.getElem_toArray, List.getElem_cons_zero, List.getElem_cons_succ, Act.put, List.setIfInBounds_toArray, List.set_cons_zero, List.set_cons_succ]
              refine wpAnyH_take (i := 3) (v := ?_) rfl (by kernel_rfl) (by kernel_rfl) (by kernel_rfl) (fun _ _ _ h => h) (Or.inl ⟨by rfl, ?_⟩) hS ?_
              rotate_left
              · intro wz hSw; (try dsimp only at hSw); obtain ⟨z1, z2, z3, z4, z5, z6, z7, z8, z9⟩ := hSw; go_simp; (try with_reducible rfl)
              try simp only [List.getElem_toArray, List.getElem_cons_zero, List.getElem_cons_succ, Act.put, List.setIfInBounds_toArray, List.set_cons_zero, List.set_cons_succ]
              refine wpAnyH_take (i := 4) (v := ?_) rfl (by kernel_rfl) (by kernel_rfl) (by kernel_rfl) (fun _ _ _ h => h) (Or.inl ⟨by rfl, ?_⟩) hS ?_
              rotate_left
              · intro wz hSw; (try dsimp only at hSw); obtain ⟨z1, z2, z3, z4, z5, z6, z7, z8, z9⟩ := hSw; go_simp; (try with_reducible rfl)
              try simp only [List.getElem_toArray, List.getElem_cons_zero, List.getElem_cons_succ, Act.put, List.setIfInBounds_toArray, List.set_cons_zero, List.set_cons_succ]
              refine wpAnyH_take (i := 5) (v := ?_) rfl (by kernel_rfl) (by kernel_rfl) (by kernel_rfl) (fun _ _ _ h => h) (Or.inl ⟨by rfl, ?_⟩) hS ?_
              rotate_left
              · intro wz hSw; (try dsimp only at hSw); obtain ⟨z1, z2, z3, z4, z5, z6, z7, z8, z9⟩ := hSw; go_simp; (try with_reducible rfl)
              try simp only [List.getElem_toArray, List.getElem_cons_zero, List.getElem_cons_succ, Act.put, List.setIfInBounds_toArray, List.set_cons_zero, List.set_cons_succ]
              refine wpAnyH_ready (rs := [6]) (by kernel_rfl) (by simp) (AllReadyH.cons rfl (fun K hK => ?_) AllReadyH.nil)
              go_simp
              go_at_call 19
              refine (HRP.out _ hS.2.2.2.2.2.2.2.2).mono ?_
              rintro e w5 ⟨rfl, hb5⟩
              go_wp2_with fail
              have hS := HKP.out w5 (next_below hS.2.2.2.2.2.2.2.2 hb5)
              refine hK.out _ _ hS (fun _ => ?_)
              clear hK K
              try simp only [List.getElem_toArray, List.getElem_cons_zero, List.getElem_cons_succ, Act.put, List.setIfInBounds_toArray, List.set_cons_zero, List.set_cons_succ]
              refine wpAnyH_take (i := 7) (v := ?_) rfl (by kernel_rfl) (by kernel_rfl) (by kernel_rfl) (fun _ _ _ h => h) (Or.inl ⟨by rfl, ?_⟩) hS ?_
              rotate_left
              · intro wz hSw; (try dsimp only at hSw); obtain ⟨z1, z2, z3, z4, z5, z6, z7, z8, z9⟩ := hSw; go_simp; (try with_reducible rfl)
              try simp only [List.getElem_toArray, List.getElem_cons_zero, List.getElem_cons_succ, Act.put, List.setIfInBounds_toArray, List.set_cons_zero, List.set_cons_succ]
              refine wpAnyH_take (i := 8) (v := ?_) rfl (by kernel_rfl) (by kernel_rfl) (by kernel_rfl) (fun _ _ _ h => h) (Or.inl ⟨by rfl, ?_⟩) hS ?_
              rotate_left
              · intro wz hSw; (try dsimp only at hSw); obtain ⟨z1, z2, z3, z4, z5, z6, z7, z8, z9⟩ := hSw; go_simp; (try with_reducible rfl)
              try simp only [List.getElem_toArray, List.getElem_cons_zero, List.getElem_cons_succ, Act.put, List.setIfInBounds_toArray, List.set_cons_zero, List.set_cons_succ]
              refine wpAnyH_take (i := 9) (v := ?_) rfl (by kernel_rfl) (by kernel_rfl) (by kernel_rfl) (fun _ _ _ h => h) (Or.inl ⟨by rfl, ?_⟩) hS ?_
              rotate_left
              · intro wz hSw; (try dsimp only at hSw); obtain ⟨z1, z2, z3, z4, z5, z6, z7, z8, z9⟩ := hSw; go_simp; (try with_reducible rfl)
              try simp only [List.getElem_toArray, List.getElem_cons_zero, List.getElem_cons_succ, Act.put, List.setIfInBounds_toArray, List.set_cons_zero, List.set_cons_succ]
              refine wpAnyH_take (i := 10) (v := ?_) rfl (by kernel_rfl) (by kernel_rfl) (by kernel_rfl) (fun _ _ _ h => h) (Or.inl ⟨by rfl, ?_⟩) hS ?_
              rotate_left
              · intro wz hSw; (try dsimp only at hSw); obtain ⟨z1, z2, z3, z4, z5, z6, z7, z8, z9⟩ := hSw; go_simp; (try with_reducible rfl)
              try simp only [List.getElem_toArray, List.getElem_cons_zero, List.getElem_cons_succ, Act.put, List.setIfInBounds_toArray, List.set_cons_zero, List.set_cons_succ]
              refine wpAnyH_take (i := 11) (v := ?_) rfl (by kernel_rfl) (by kernel_rfl) (by kernel_rfl) (fun _ _ _ h => h) (Or.inl ⟨by rfl, ?_⟩) hS ?_
              rotate_left
              · intro wz hSw; (try dsimp only at hSw); obtain ⟨z1, z2, z3, z4, z5, z6, z7, z8, z9⟩ := hSw; go_simp; (try with_reducible rfl)
              try simp only [List.getElem_toArray, List.getElem_cons_zero, List.getElem_cons_succ, Act.put, List.setIfInBounds_toArray, List.set_cons_zero, List.set_cons_succ]
              refine wpAnyH_take (i := 12) (v := ?_) rfl (by kernel_rfl) (by kernel_rfl) (by kernel_rfl) (fun _ _ _ h => h) (Or.inl ⟨by rfl, ?_⟩) hS ?_
              rotate_left
              · intro wz hSw; (try dsimp only at hSw); obtain ⟨z1, z2, z3, z4, z5, z6, z7, z8, z9⟩ := hSw; go_simp; (try with_reducible rfl)
              try simp only [List.getElem_toArray, List.getElem_cons_zero, List.getElem_cons_succ, Act.put, List.setIfInBounds_toArray, List.set_cons_zero, List.set_cons_succ]
              refine wpAnyH_take (i := 13) (v := ?_) rfl (by kernel_rfl) (by kernel_rfl) (by kernel_rfl) (fun _ _ _ h => h) (Or.inl ⟨by rfl, ?_⟩) hS ?_
              rotate_left
              · intro wz hSw; (try dsimp only at hSw); obtain ⟨z1, z2, z3, z4, z5, z6, z7, z8, z9⟩ := hSw; go_simp; (try with_reducible rfl)
              try simp only [List.getElem_toArray, List.getElem_cons_zero, List.getElem_cons_succ, Act.put, List.setIfInBounds_toArray, List.set_cons_zero, List.set_cons_succ]
              refine wpAnyH_take (i := 14) (v := ?_) rfl (by kernel_rfl) (by kernel_rfl) (by kernel_rfl) (fun _ _ _ h => h) (Or.inl ⟨by rfl, ?_⟩) hS ?_
              rotate_left
              · intro wz hSw; (try dsimp only at hSw); obtain ⟨z1, z2, z3, z4, z5, z6, z7, z8, z9⟩ := hSw; go_simp; (try with_reducible rfl)
              try simp only [List.getElem_toArray, List.getElem_cons_zero, List.getElem_cons_succ, Act.put, List.setIfInBounds_toArray, List.set_cons_zero, List.set_cons_succ]
              refine wpAnyH_take (i := 15) (v := ?_) rfl (by kernel_rfl) (by kernel_rfl) (by kernel_rfl) (fun _ _ _ h => h) (Or.inl ⟨by rfl, ?_⟩) hS ?_
              rotate_left
              · intro wz hSw; (try dsimp only at hSw); obtain ⟨z1, z2, z3, z4, z5, z6, z7, z8, z9⟩ := hSw; go_simp; (try with_reducible rfl)
              try simp only [List.getElem_toArray, List.getElem_cons_zero, List.getElem_cons_succ, Act.put, List.setIfInBounds_toArray, List.set_cons_zero, List.set_cons_succ]
              refine wpAnyH_take (i := 16) (v := ?_) rfl (by kernel_rfl) (by kernel_rfl) (by kernel_rfl) (fun _ _ _ h => h) (Or.inl ⟨by rfl, ?_⟩) hS ?_
              rotate_left
              · intro wz hSw; (try dsimp only at hSw); obtain ⟨z1, z2, z3, z4, z5, z6, z7, z8, z9⟩ := hSw; go_simp; (try with_reducible rfl)
              try simp only [List.getElem_toArray, List.getElem_cons_zero, List.getElem_cons_succ, Act.put, List.setIfInBounds_toArray, List.set_cons_zero, List.set_cons_succ]
              refine wpAnyH_take (i := 17) (v := ?_) rfl (by kernel_rfl) (by kernel_rfl) (by kernel_rfl) (fun _ _ _ h => h) (Or.inl ⟨by rfl, ?_⟩) hS ?_
              rotate_left
              · intro wz hSw; (try dsimp only at hSw); obtain ⟨z1, z2, z3, z4, z5, z6, z7, z8, z9⟩ := hSw; go_simp; (try with_reducible rfl)
              try simp only [List.getElem_toArray, List.getElem_cons_zero, List.getElem_cons_succ, Act.put, List.setIfInBounds_toArray, List.set_cons_zero, List.set_cons_succ]
              refine wpAnyH_take (i := 18) (v := ?_) rfl (by kernel_rfl) (by kernel_rfl) (by kernel_rfl) (fun _ _ _ h => h) (Or.inl ⟨by rfl, ?_⟩) hS ?_
              rotate_left
              · intro wz hSw; (try dsimp only at hSw); obtain ⟨z1, z2, z3, z4, z5, z6, z7, z8, z9⟩ := hSw; go_simp; (try with_reducible rfl)
              try simp only [List.getElem_toArray, List.getElem_cons_zero, List.getElem_cons_succ, Act.put, List.setIfInBounds_toArray, List.set_cons_zero, List.set_cons_succ]
              refine wpAnyH_take (i := 19) (v := ?_) rfl (by kernel_rfl) (by kernel_rfl) (by kernel_rfl) (fun _ _ _ h => h) (Or.inl ⟨by rfl, ?_⟩) hS ?_
              rotate_left
              · intro wz hSw; (try dsimp only at hSw); obtain ⟨z1, z2, z3, z4, z5, z6, z7, z8, z9⟩ := hSw; go_simp; (try with_reducible rfl)
              try simp only [List.getElem_toArray, List.getElem_cons_zero, List.getElem_cons_succ, Act.put, List.setIfInBounds_toArray, List.set_cons_zero, List.set_cons_succ]
              refine wpAnyH_take (i := 20) (v := ?_) rfl (by kernel_rfl) (by kernel_rfl) (by kernel_rfl) (fun _ _ _ h => h) (Or.inl ⟨by rfl, ?_⟩) hS ?_
              rotate_left
              · intro wz hSw; (try dsimp only at hSw); obtain ⟨z1, z2, z3, z4, z5, z6, z7, z8, z9⟩ := hSw; go_simp; (try with_reducible rfl)
              try simp only [List.getElem_toArray, List.getElem_cons_zero, List.getElem_cons_succ, Act.put, List.setIfInBounds_toArray, List.set_cons_zero, List.set_cons_succ]
              refine wpAnyH_take (i := 21) (v := ?_) rfl (by kernel_rfl) (by kernel_rfl) (by kernel_rfl) (fun _ _ _ h => h) (Or.inl ⟨by rfl, ?_⟩) hS ?_
              rotate_left
              · intro wz hSw; (try dsimp only at hSw); obtain ⟨z1, z2, z3, z4, z5, z6, z7, z8, z9⟩ := hSw; go_simp; (try with_reducible rfl)
              try simp only [List.getElem_toArray, List.getElem_cons_zero, List.getElem_cons_succ, Act.put, List.setIfInBounds_toArray, List.set_cons_zero, List.set_cons_succ]
              refine wpAnyH_take (i := 22) (v := ?_) rfl (by kernel_rfl) (by kernel_rfl) (by kernel_rfl) (fun _ _ _ h => h) (Or.inl ⟨by rfl, ?_⟩) hS ?_
              rotate_left
              · intro wz hSw; (try dsimp only at hSw); obtain ⟨z1, z2, z3, z4, z5, z6, z7, z8, z9⟩ := hSw; go_simp; (try with_reducible rfl)
              try simp only [List.getElem_toArray, List.getElem_cons_zero, List.getElem_cons_succ, Act.put, List.setIfInBounds_toArray, List.set_cons_zero, List.set_cons_succ]
              refine wpAnyH_take (i := 23) (v := ?_) rfl (by kernel_rfl) (by kernel_rfl) (by kernel_rfl) (fun _ _ _ h => h) (Or.inl ⟨by rfl, ?_⟩) hS ?_
              rotate_left
              · intro wz hSw; (try dsimp only at hSw); obtain ⟨z1, z2, z3, z4, z5, z6, z7, z8, z9⟩ := hSw; go_simp; (try with_reducible rfl)
              try simp only [List.getElem_toArray, List.getElem_cons_zero, List.getElem_cons_succ, Act.put, List.setIfInBounds_toArray, List.set_cons_zero, List.set_cons_succ]
              refine wpAnyH_take (i := 24) (v := ?_) rfl (by kernel_rfl) (by kernel_rfl) (by kernel_rfl) (fun _ _ _ h => h) (Or.inl ⟨by rfl, ?_⟩) hS ?_
              rotate_left
              · intro wz hSw; (try dsimp only at hSw); obtain ⟨z1, z2, z3, z4, z5, z6, z7, z8, z9⟩ := hSw; go_simp; (try with_reducible rfl)
              try simp only [List.getElem_toArray, List.getElem_cons_zero, List.getElem_cons_succ, Act.put, List.setIfInBounds_toArray, List.set_cons_zero, List.set_cons_succ]
              refine wpAnyH_take (i := 25) (v := ?_) rfl (by kernel_rfl) (by kernel_rfl) (by kernel_rfl) (fun _ _ _ h => h) (Or.inl ⟨by rfl, ?_⟩) hS ?_
              rotate_left
              · intro wz hSw; (try dsimp only at hSw); obtain ⟨z1, z2, z3, z4, z5, z6, z7, z8, z9⟩ := hSw; go_simp; (try with_reducible rfl)
              try simp only [List.getElem_toArray, List.getElem_cons_zero, List.getElem_cons_succ, Act.put, List.setIfInBounds_toArray, List.set_cons_zero, List.set_cons_succ]
              refine wpAnyH_take (i := 26) (v := ?_) rfl (by kernel_rfl) (by kernel_rfl) (by kernel_rfl) (fun _ _ _ h => h) (Or.inl ⟨by rfl, ?_⟩) hS ?_
              rotate_left
              · intro wz hSw; (try dsimp only at hSw); obtain ⟨z1, z2, z3, z4, z5, z6, z7, z8, z9⟩ := hSw; go_simp; (try with_reducible rfl)
              try simp only [List.getElem_toArray, List.getElem_cons_zero, List.getElem_cons_succ, Act.put, List.setIfInBounds_toArray, List.set_cons_zero, List.set_cons_succ]
              refine wpAnyH_take (i := 27) (v := ?_) rfl (by kernel_rfl) (by kernel_rfl) (by kernel_rfl) (fun _ _ _ h => h) (Or.inl ⟨by rfl, ?_⟩) hS ?_
              rotate_left
              · intro wz hSw; (try dsimp only at hSw); obtain ⟨z1, z2, z3, z4, z5, z6, z7, z8, z9⟩ := hSw; go_simp; (try with_reducible rfl)
              try simp only [List.getElem_toArray, List.getElem_cons_zero, List.getElem_cons_succ, Act.put, List.setIfInBounds_toArray, List.set_cons_zero, List.set_cons_succ]
              refine wpAnyH_take (i := 28) (v := ?_) rfl (by kernel_rfl) (by kernel_rfl) (by kernel_rfl) (fun _ _ _ h => h) (Or.inl ⟨by rfl, ?_⟩) hS ?_
              rotate_left
              · intro wz hSw; (try dsimp only at hSw); obtain ⟨z1, z2, z3, z4, z5, z6, z7, z8, z9⟩ := hSw; go_simp; (try with_reducible rfl)
              try simp only [List.getElem_toArray, List.getElem_cons_zero, List.getElem_cons_succ, Act.put, List.setIfInBounds_toArray, List.set_cons_zero, List.set_cons_succ]
              refine wpAnyH_take (i := 29) (v := ?_) rfl (by kernel_rfl) (by kernel_rfl) (by kernel_rfl) (fun _ _ _ h => h) (Or.inl ⟨by rfl, ?_⟩) hS ?_
              rotate_left
              · intro wz hSw; (try dsimp only at hSw); obtain ⟨z1, z2, z3, z4, z5, z6, z7, z8, z9⟩ := hSw; go_simp; (try with_reducible rfl)
              try simp only [List.getElem_toArray, List.getElem_cons_zero, List.getElem_cons_succ, Act.put, List.setIfInBounds_toArray, List.set_cons_zero, List.set_cons_succ]
              refine wpAnyH_take (i := 30) (v := ?_) rfl (by kernel_rfl) (by kernel_rfl) (by kernel_rfl) (fun _ _ _ h => h) (Or.inl ⟨by rfl, ?_⟩) hS ?_
              rotate_left
              · intro wz hSw; (try dsimp only at hSw); obtain ⟨z1, z2, z3, z4, z5, z6, z7, z8, z9⟩ := hSw; go_simp; (try with_reducible rfl)
              try simp only [List.getElem_toArray, List.getElem_cons_zero, List.getElem_cons_succ, Act.put, List.setIfInBounds_toArray, List.set_cons_zero, List.set_cons_succ]
              refine wpAnyH_take (i := 31) (v := ?_) rfl (by kernel_rfl) (by kernel_rfl) (by kernel_rfl) (fun _ _ _ h => h) (Or.inl ⟨by rfl, ?_⟩) hS ?_
              rotate_left
              · intro wz hSw; (try dsimp only at hSw); obtain ⟨z1, z2, z3, z4, z5, z6, z7, z8, z9⟩ := hSw; go_simp; (try with_reducible rfl)
              try simp only [List.getElem_toArray, List.getElem_cons_zero, List.getElem_cons_succ, Act.put, List.setIfInBounds_toArray, List.set_cons_zero, List.set_cons_succ]
              refine wpAnyH_take (i := 32) (v := ?_) rfl (by kernel_rfl) (by kernel_rfl) (by kernel_rfl) (fun _ _ _ h => h) (Or.inl ⟨by rfl, ?_⟩) hS ?_
              rotate_left
              · intro wz hSw; (try dsimp only at hSw); obtain ⟨z1, z2, z3, z4, z5, z6, z7, z8, z9⟩ := hSw; go_simp; (try with_reducible rfl)
              try simp only [List.getElem_toArray, List.getElem_cons_zero, List.getElem_cons_succ, Act.put, List.setIfInBounds_toArray, List.set_cons_zero, List.set_cons_succ]
              refine wpAnyH_take (i := 33) (v := ?_) rfl (by kernel_rfl) (by kernel_rfl) (by kernel_rfl) (fun _ _ _ h => h) (Or.inl ⟨by rfl, ?_⟩) hS ?_
              rotate_left
              · intro wz hSw; (try dsimp only at hSw); obtain ⟨z1, z2, z3, z4, z5, z6, z7, z8, z9⟩ := hSw; go_simp; (try with_reducible rfl)
              try simp only [List.getElem_toArray, List.getElem_cons_zero, List.getElem_cons_succ, Act.put, List.setIfInBounds_toArray, List.set_cons_zero, List.set_cons_succ]
              refine wpAnyH_take (i := 34) (v := ?_) rfl (by kernel_rfl) (by kernel_rfl) (by kernel_rfl) (fun _ _ _ h => h) (Or.inl ⟨by rfl, ?_⟩) hS ?_
              rotate_left
              · intro wz hSw; (try dsimp only at hSw); obtain ⟨z1, z2, z3, z4, z5, z6, z7, z8, z9⟩ := hSw; go_simp; (try with_reducible rfl)
              try simp only [List.getElem_toArray, List.getElem_cons_zero, List.getElem_cons_succ, Act.put, List.setIfInBounds_toArray, List.set_cons_zero, List.set_cons_succ]
              refine wpAnyH_take (i := 35) (v := ?_) rfl (by kernel_rfl) (by kernel_rfl) (by kernel_rfl) (fun _ _ _ h => h) (Or.inl ⟨by rfl, ?_⟩) hS ?_
              rotate_left
              · intro wz hSw; (try dsimp only at hSw); obtain ⟨z1, z2, z3, z4, z5, z6, z7, z8, z9⟩ := hSw; go_simp; (try with_reducible rfl)
              try simp only [List.getElem_toArray, List.getElem_cons_zero, List.getElem_cons_succ, Act.put, List.setIfInBounds_toArray, List.set_cons_zero, List.set_cons_succ]
              refine wpAnyH_take (i := 36) (v := ?_) rfl (by kernel_rfl) (by kernel_rfl) (by kernel_rfl) (fun _ _ _ h => h) (Or.inl ⟨by rfl, ?_⟩) hS ?_
              rotate_left
              · intro wz hSw; (try dsimp only at hSw); obtain ⟨z1, z2, z3, z4, z5, z6, z7, z8, z9⟩ := hSw; go_simp; (try with_reducible rfl)
              try simp only [List.getElem_toArray, List.getElem_cons_zero, List.getElem_cons_succ, Act.put, List.setIfInBounds_toArray, List.set_cons_zero, List.set_cons_succ]
              refine wpAnyH_take (i := 37) (v := ?_) rfl (by kernel_rfl) (by kernel_rfl) (by kernel_rfl) (fun _ _ _ h => h) (Or.inl ⟨by rfl, ?_⟩) hS ?_
              rotate_left
              · intro wz hSw; (try dsimp only at hSw); obtain ⟨z1, z2, z3, z4, z5, z6, z7, z8, z9⟩ := hSw; go_simp; (try with_reducible rfl)
              try simp only [List.getElem_toArray, List.getElem_cons_zero, List.getElem_cons_succ, Act.put, List.setIfInBounds_toArray, List.set_cons_zero, List.set_cons_succ]
              refine wpAnyH_take (i := 38) (v := ?_) rfl (by kernel_rfl) (by kernel_rfl) (by kernel_rfl) (fun _ _ _ h => h) (Or.inl ⟨by rfl, ?_⟩) hS ?_
              rotate_left
              · intro wz hSw; (try dsimp only at hSw); obtain ⟨z1, z2, z3, z4, z5, z6, z7, z8, z9⟩ := hSw; go_simp; (try with_reducible rfl)
              try simp only [List.getElem_toArray, List.getElem_cons_zero, List.getElem_cons_succ, Act.put, List.setIfInBounds_toArray, List.set_cons_zero, List.set_cons_succ]
              refine wpAnyH_take (i := 39) (v := ?_) rfl (by kernel_rfl) (by kernel_rfl) (by kernel_rfl) (fun _ _ _ h => h) (Or.inl ⟨by rfl, ?_⟩) hS ?_
              rotate_left
              · intro wz hSw; (try dsimp only at hSw); obtain ⟨z1, z2, z3, z4, z5, z6, z7, z8, z9⟩ := hSw; go_simp; (try with_reducible rfl)
              try simp only [List.getElem_toArray, List.getElem_cons_zero, List.getElem_cons_succ, Act.put, List.setIfInBounds_toArray, List.set_cons_zero, List.set_cons_succ]
              refine wpAnyH_take (i := 40) (v := ?_) rfl (by kernel_rfl) (by kernel_rfl) (by kernel_rfl) (fun _ _ _ h => h) (Or.inl ⟨by rfl, ?_⟩) hS ?_
              rotate_left
              · intro wz hSw; (try dsimp only at hSw); obtain ⟨z1, z2, z3, z4, z5, z6, z7, z8, z9⟩ := hSw; go_simp; (try with_reducible rfl)
              try simp only [List.getElem_toArray, List.getElem_cons_zero, List.getElem_cons_succ, Act.put, List.setIfInBounds_toArray, List.set_cons_zero, List.set_cons_succ]
              refine wpAnyH_take (i := 41) (v := ?_) rfl (by kernel_rfl) (by kernel_rfl) (by kernel_rfl) (fun _ _ _ h => h) (Or.inl ⟨by rfl, ?_⟩) hS ?_
              rotate_left
              · intro wz hSw; (try dsimp only at hSw); obtain ⟨z1, z2, z3, z4, z5, z6, z7, z8, z9⟩ := hSw; go_simp; (try with_reducible rfl)
              try simp only [List.getElem_toArray, List.getElem_cons_zero, List.getElem_cons_succ, Act.put, List.setIfInBounds_toArray, List.set_cons_zero, List.set_cons_succ]
              refine wpAnyH_take (i := 42) (v := ?_) rfl (by kernel_rfl) (by kernel_rfl) (by kernel_rfl) (fun _ _ _ h => h) (Or.inl ⟨by rfl, ?_⟩) hS ?_
              rotate_left
              · intro wz hSw; (try dsimp only at hSw); obtain ⟨z1, z2, z3, z4, z5, z6, z7, z8, z9⟩ := hSw; go_simp; (try with_reducible rfl)
              try simp only [List.getElem_toArray, List.getElem_cons_zero, List.getElem_cons_succ, Act.put, List.setIfInBounds_toArray, List.set_cons_zero, List.set_cons_succ]
              refine wpAnyH_take (i := 43) (v := ?_) rfl (by kernel_rfl) (by kernel_rfl) (by kernel_rfl) (fun _ _ _ h => h) (Or.inl ⟨by rfl, ?_⟩) hS ?_
              rotate_left
              · intro wz hSw; (try dsimp only at hSw); obtain ⟨z1, z2, z3, z4, z5, z6, z7, z8, z9⟩ := hSw; go_simp; (try with_reducible rfl)
              try simp only [List.getElem_toArray, List.getElem_cons_zero, List.getElem_cons_succ, Act.put, List.setIfInBounds_toArray, List.set_cons_zero, List.set_cons_succ]
              refine wpAnyH_take (i := 44) (v := ?_) rfl (by kernel_rfl) (by kernel_rfl) (by kernel_rfl) (fun _ _ _ h => h) (Or.inl ⟨by rfl, ?_⟩) hS ?_
              rotate_left
              · intro wz hSw; (try dsimp only at hSw); obtain ⟨z1, z2, z3, z4, z5, z6, z7, z8, z9⟩ := hSw; go_simp; (try with_reducible rfl)
              try simp only [List.getElem_toArray, List.getElem_cons_zero, List.getElem_cons_succ, Act.put, List.setIfInBounds_toArray, List.set_cons_zero, List.set_cons_succ]
              refine wpAnyH_take (i := 45) (v := ?_) rfl (by kernel_rfl) (by kernel_rfl) (by kernel_rfl) (fun _ _ _ h => h) (Or.inl ⟨by rfl, ?_⟩) hS ?_
              rotate_left
              · intro wz hSw; (try dsimp only at hSw); obtain ⟨z1, z2, z3, z4, z5, z6, z7, z8, z9⟩ := hSw; go_simp; (try with_reducible rfl)
              try simp only [List.getElem_toArray, List.getElem_cons_zero, List.getElem_cons_succ, Act.put, List.setIfInBounds_toArray, List.set_cons_zero, List.set_cons_succ]
              refine wpAnyH_take (i := 46) (v := ?_) rfl (by kernel_rfl) (by kernel_rfl) (by kernel_rfl) (fun _ _ _ h => h) (Or.inl ⟨by rfl, ?_⟩) hS ?_
              rotate_left
              · intro wz hSw; (try dsimp only at hSw); obtain ⟨z1, z2, z3, z4, z5, z6, z7, z8, z9⟩ := hSw; go_simp; (try with_reducible rfl)
              try simp only [List.getElem_toArray, List.getElem_cons_zero, List.getElem_cons_succ, Act.put, List.setIfInBounds_toArray, List.set_cons_zero, List.set_cons_succ]
              refine wpAnyH_take (i := 47) (v := ?_) rfl (by kernel_rfl) (by kernel_rfl) (by kernel_rfl) (fun _ _ _ h => h) (Or.inl ⟨by rfl, ?_⟩) hS ?_
              rotate_left
              · intro wz hSw; (try dsimp only at hSw); obtain ⟨z1, z2, z3, z4, z5, z6, z7, z8, z9⟩ := hSw; go_simp; (try with_reducible rfl)
              try simp only [List.getElem_toArray, List.getElem_cons_zero, List.getElem_cons_succ, Act.put, List.setIfInBounds_toArray, List.set_cons_zero, List.set_cons_succ]
              refine wpAnyH_take (i := 48) (v := ?_) rfl (by kernel_rfl) (by kernel_rfl) (by kernel_rfl) (fun _ _ _ h => h) (Or.inl ⟨by rfl, ?_⟩) hS ?_
              rotate_left
              · intro wz hSw; (try dsimp only at hSw); obtain ⟨z1, z2, z3, z4, z5, z6, z7, z8, z9⟩ := hSw; go_simp; (try with_reducible rfl)
              try simp only [List.getElem_toArray, List.getElem_cons_zero, List.getElem_cons_succ, Act.put, List.setIfInBounds_toArray, List.set_cons_zero, List.set_cons_succ]
              refine wpAnyH_take (i := 49) (v := ?_) rfl (by kernel_rfl) (by kernel_rfl) (by kernel_rfl) (fun _ _ _ h => h) (Or.inl ⟨by rfl, ?_⟩) hS ?_
              rotate_left
              · intro wz hSw; (try dsimp only at hSw); obtain ⟨z1, z2, z3, z4, z5, z6, z7, z8, z9⟩ := hSw; go_simp; (try with_reducible rfl)
              try simp only [List.getElem_toArray, List.getElem_cons_zero, List.getElem_cons_succ, Act.put, List.setIfInBounds_toArray, List.set_cons_zero, List.set_cons_succ]
              refine wpAnyH_take (i := 50) (v := ?_) rfl (by kernel_rfl) (by kernel_rfl) (by kernel_rfl) (fun _ _ _ h => h) (Or.inl ⟨by rfl, ?_⟩) hS ?_
              rotate_left
              · intro wz hSw; (try dsimp only at hSw); obtain ⟨z1, z2, z3, z4, z5, z6, z7, z8, z9⟩ := hSw; go_simp; (try with_reducible rfl)
              try simp only [List.getElem_toArray, List.getElem_cons_zero, List.getElem_cons_succ, Act.put, List.setIfInBounds_toArray, List.set_cons_zero, List.set_cons_succ]
              refine wpAnyH_take (i := 51) (v := ?_) rfl (by kernel_rfl) (by kernel_rfl) (by kernel_rfl) (fun _ _ _ h => h) (Or.inl ⟨by rfl, ?_⟩) hS ?_
              rotate_left
              · intro wz hSw; (try dsimp only at hSw); obtain ⟨z1, z2, z3, z4, z5, z6, z7, z8, z9⟩ := hSw; go_simp; (try with_reducible rfl)
              try simp only [List.getElem_toArray, List.getElem_cons_zero, List.getElem_cons_succ, Act.put, List.setIfInBounds_toArray, List.set_cons_zero, List.set_cons_succ]
              refine wpAnyH_take (i := 52) (v := ?_) rfl (by kernel_rfl) (by kernel_rfl) (by kernel_rfl) (fun _ _ _ h => h) (Or.inl ⟨by rfl, ?_⟩) hS ?_
              rotate_left
              · intro wz hSw; (try dsimp only at hSw); obtain ⟨z1, z2, z3, z4, z5, z6, z7, z8, z9⟩ := hSw; go_simp; (try with_reducible rfl)
              try simp only [List.getElem_toArray, List.getElem_cons_zero, List.getElem_cons_succ, Act.put, List.setIfInBounds_toArray, List.set_cons_zero, List.set_cons_succ]
              refine wpAnyH_take (i := 53) (v := ?_) rfl (by kernel_rfl) (by kernel_rfl) (by kernel_rfl) (fun _ _ _ h => h) (Or.inl ⟨by rfl, ?_⟩) hS ?_
              rotate_left
              · intro wz hSw; (try dsimp only at hSw); obtain ⟨z1, z2, z3, z4, z5, z6, z7, z8, z9⟩ := hSw; go_simp; (try with_reducible rfl)
              try simp only [List.getElem_toArray, List.getElem_cons_zero, List.getElem_cons_succ, Act.put, List.setIfInBounds_toArray, List.set_cons_zero, List.set_cons_succ]
              refine wpAnyH_take (i := 54) (v := ?_) rfl (by kernel_rfl) (by kernel_rfl) (by kernel_rfl) (fun _ _ _ h => h) (Or.inl ⟨by rfl, ?_⟩) hS ?_
              rotate_left
              · intro wz hSw; (try dsimp only at hSw); obtain ⟨z1, z2, z3, z4, z5, z6, z7, z8, z9⟩ := hSw; go_simp; (try with_reducible rfl)
              try simp only [List.getElem_toArray, List.getElem_cons_zero, List.getElem_cons_succ, Act.put, List.setIfInBounds_toArray, List.set_cons_zero, List.set_cons_succ]
              refine wpAnyH_take (i := 55) (v := ?_) rfl (by kernel_rfl) (by kernel_rfl) (by kernel_rfl) (fun _ _ _ h => h) (Or.inl ⟨by rfl, ?_⟩) hS ?_
              rotate_left
              · intro wz hSw; (try dsimp only at hSw); obtain ⟨z1, z2, z3, z4, z5, z6, z7, z8, z9⟩ := hSw; go_simp; (try with_reducible rfl)
              try simp only [List.getElem_toArray, List.getElem_cons_zero, List.getElem_cons_succ, Act.put, List.setIfInBounds_toArray, List.set_cons_zero, List.set_cons_succ]
              refine wpAnyH_take (i := 56) (v := ?_) rfl (by kernel_rfl) (by kernel_rfl) (by kernel_rfl) (fun _ _ _ h => h) (Or.inl ⟨by rfl, ?_⟩) hS ?_
              rotate_left
              · intro wz hSw; (try dsimp only at hSw); obtain ⟨z1, z2, z3, z4, z5, z6, z7, z8, z9⟩ := hSw; go_simp; (try with_reducible rfl)
              try simp only [List.getElem_toArray, List.getElem_cons_zero, List.getElem_cons_succ, Act.put, List.setIfInBounds_toArray, List.set_cons_zero, List.set_cons_succ]
              refine wpAnyH_take (i := 57) (v := ?_) rfl (by kernel_rfl) (by kernel_rfl) (by kernel_rfl) (fun _ _ _ h => h) (Or.inl ⟨by rfl, ?_⟩) hS ?_
              rotate_left
              · intro wz hSw; (try dsimp only at hSw); obtain ⟨z1, z2, z3, z4, z5, z6, z7, z8, z9⟩ := hSw; go_simp; (try with_reducible rfl)
              try simp only [List.getElem_toArray, List.getElem_cons_zero, List.getElem_cons_succ, Act.put, List.setIfInBounds_toArray, List.set_cons_zero, List.set_cons_succ]
              refine wpAnyH_take (i := 58) (v := ?_) rfl (by kernel_rfl) (by kernel_rfl) (by kernel_rfl) (fun _ _ _ h => h) (Or.inl ⟨by rfl, ?_⟩) hS ?_
              rotate_left
              · intro wz hSw; (try dsimp only at hSw); obtain ⟨z1, z2, z3, z4, z5, z6, z7, z8, z9⟩ := hSw; go_simp; (try with_reducible rfl)
              try simp only [List.getElem_toArray, List.getElem_cons_zero, List.getElem_cons_succ, Act.put, List.setIfInBounds_toArray, List.set_cons_zero, List.set_cons_succ]
              refine wpAnyH_take (i := 59) (v := ?_) rfl (by kernel_rfl) (by kernel_rfl) (by kernel_rfl) (fun _ _ _ h => h) (Or.inl ⟨by rfl, ?_⟩) hS ?_
              rotate_left
              · intro wz hSw; (try dsimp only at hSw); obtain ⟨z1, z2, z3, z4, z5, z6, z7, z8, z9⟩ := hSw; go_simp; (try with_reducible rfl)
              try simp only [List.getElem_toArray, List.getElem_cons_zero, List.getElem_cons_succ, Act.put, List.setIfInBounds_toArray, List.set_cons_zero, List.set_cons_succ]
              refine wpAnyH_take (i := 60) (v := ?_) rfl (by kernel_rfl) (by kernel_rfl) (by kernel_rfl) (fun _ _ _ h => h) (Or.inl ⟨by rfl, ?_⟩) hS ?_
              rotate_left
              · intro wz hSw; (try dsimp only at hSw); obtain ⟨z1, z2, z3, z4, z5, z6, z7, z8, z9⟩ := hSw; go_simp; (try with_reducible rfl)
              try simp only [List.getElem_toArray, List.getElem_cons_zero, List.getElem_cons_succ, Act.put, List.setIfInBounds_toArray, List.set_cons_zero, List.set_cons_succ]
              refine wpAnyH_take (i := 61) (v := ?_) rfl (by kernel_rfl) (by kernel_rfl) (by kernel_rfl) (fun _ _ _ h => h) (Or.inl ⟨by rfl, ?_⟩) hS ?_
              rotate_left
              · intro wz hSw; (try dsimp only at hSw); obtain ⟨z1, z2, z3, z4, z5, z6, z7, z8, z9⟩ := hSw; go_simp; (try with_reducible rfl)
              try simp only [List.getElem_toArray, List.getElem_cons_zero, List.getElem_cons_succ, Act.put, List.setIfInBounds_toArray, List.set_cons_zero, List.set_cons_succ]
              refine wpAnyH_take (i := 62) (v := ?_) rfl (by kernel_rfl) (by kernel_rfl) (by kernel_rfl) (fun _ _ _ h => h) (Or.inl ⟨by rfl, ?_⟩) hS ?_
              rotate_left
              · intro wz hSw; (try dsimp only at hSw); obtain ⟨z1, z2, z3, z4, z5, z6, z7, z8, z9⟩ := hSw; go_simp; (try with_reducible rfl)
              try simp only [List.getElem_toArray, List.getElem_cons_zero, List.getElem_cons_succ, Act.put, List.setIfInBounds_toArray, List.set_cons_zero, List.set_cons_succ]
              refine wpAnyH_take (i := 63) (v := ?_) rfl (by kernel_rfl) (by kernel_rfl) (by kernel_rfl) (fun _ _ _ h => h) (Or.inl ⟨by rfl, ?_⟩) hS ?_
              rotate_left
              · intro wz hSw; (try dsimp only at hSw); obtain ⟨z1, z2, z3, z4, z5, z6, z7, z8, z9⟩ := hSw; go_simp; (try with_reducible rfl)
              try simp only [List.getElem_toArray, List.getElem_cons_zero, List.getElem_cons_succ, Act.put, List.setIfInBounds_toArray, List.set_cons_zero, List.set_cons_succ]
              refine wpAnyH_take (i := 64) (v := ?_) rfl (by kernel_rfl) (by kernel_rfl) (by kernel_rfl) (fun _ _ _ h => h) (Or.inl ⟨by rfl, ?_⟩) hS ?_
              rotate_left
              · intro wz hSw; (try dsimp only at hSw); obtain ⟨z1, z2, z3, z4, z5, z6, z7, z8, z9⟩ := hSw; go_simp; (try with_reducible rfl)
              try simp only [List.getElem_toArray, List.getElem_cons_zero, List.getElem_cons_succ, Act.put, List.setIfInBounds_toArray, List.set_cons_zero, List.set_cons_succ]
              refine wpAnyH_done (by kernel_rfl) ?_ _
              have hb9 := hS.2.2.2.2.2.2.2.2
              go_wp2_with fail
              go_meet
              exact ⟨rfl, hb9⟩
        case rest => as_aux_lemma =>
          obtain ⟨rfl, hb5⟩ := hcut
          have HB5 := Lib.hid (next_below (next_below HBY.out HBP.out) hb5.out)
          obtain ⟨j0, _⟩ := HJ.out (wc.alloc (.cells #[.int .i64 0, .slice none 0 0] 24)) (next_below (next_below HB4.out HB5.out) ((Below.refl _ _).alloc (Nat.le_refl _) _))
          have hfr : wc.heap[pf]? = some (.cells #[.slice B1 lg x1, .slice B2 lf x2] 43 (0, 0)) := blk_below HEB.out (next_below HBP.out hb5.out)
          have hei5 := HEY.out.below (next_below HBP.out hb5.out)
          have hz5 : pf < wc.heap.size := lt_of_block hfr
          have HFR := Lib.hid hfr
          have HEI5 := Lib.hid hei5
          clear r0P s0 s1 hsP HRP HHD hfr hei5
          go_upto_region 18 with fail
          clear j0
          obtain ⟨Z, hZ⟩ : ∃ Z, Z = wc.alloc (.cells #[.int .i64 (Nn : Nat), .slice none 0 0] 24) := ⟨_, rfl⟩
          have hbZ : Below wc.heap.size wc Z := by rw [hZ]; exact (Below.refl _ _).alloc (Nat.le_refl _) _
          obtain ⟨fx, hfx⟩ : ∃ fx : Array Value, fx = #[.slice B1 lg x1, .slice B2 lf x2] := ⟨_, rfl⟩
          have HFX := Lib.hid hfx
          have HEB0 : Hid (EB (fragsF Nn E V) V w4 pf wc.heap.size fx Nn none 0 0 (innP V G 0) (soFar (fragsF Nn E V) i G 0) (2 * (soFar (fragsF Nn E V) i G 0).length) Z) := by
            refine ⟨⟨HPF0.out, hz5⟩, by rw [hfx]; exact blk_below HFR.out hbZ, by rw [hZ]; exact heap_alloc_new wc _, World.ownsRow_nil _ _ _ _, ?_, next_below HB5.out hbZ⟩
            rw [show soFar (fragsF Nn E V) i G 0 = soFar (fragsF Nn E V) i [] 0 by simp [soFar]]
            exact HEI5.out.below hbZ
          have hbox := HEB0.out.frag
          rw [hfx] at hbox
          obtain ⟨r0, r1, _, _⟩ := cells_two hbox
          rw [← hZ]
          obtain ⟨z, hz⟩ : ∃ z, wc.heap.size = z := ⟨_, rfl⟩
          rw [hz] at HEB0 ⊢
          clear hfx hbox hZ hbZ hz5 hz HFR HEI5 HB5 hb5 HBP HEB HPF0 HEY HBY hpl
          go_wp2_with fail
          clear r0 r1
          go_loopw [127] (fun s127 wn => ∃ (t lh ch : Nat) (Bh : Option Addr), t ≤ lg ∧ lh ≤ t ∧ s127 = .int .i64 t ∧ Hid (EB (fragsF Nn E V) V w4 pf z fx Nn Bh lh ch (innP V G t) (soFar (fragsF Nn E V) i G t) (2 * (soFar (fragsF Nn E V) i G t).length) wn)) (fun s127 _ => lg - (intOf s127).toNat)
          case atStart => exact ⟨0, 0, 0, none, Nat.zero_le _, Nat.le_refl _, rfl, HEB0⟩
          case round =>
            clear HEB0
            obtain ⟨t, lh, ch, Bh, ht, hlt, rfl, hEB⟩ := hrel
            have hbY := hEB.out.bel
            by_cases h4 : t < lg
            · have t4 : decide ((t : Int) < (lg : Int)) = true := by simp; omega
              have hT0 : (0 : Int) ≤ (t : Int) := by omega
              have hT1 : (t : Int) < (lg : Nat) := by omega
              obtain ⟨e, he⟩ : ∃ e, G[t]? = some e := ⟨_, List.getElem?_eq_getElem (by rw [HLG.out]; exact h4)⟩
              have hst := innP_step (W := V) he
              have hsf := soFar_step (D := fragsF Nn E V) (i := i) he
              have hnew := soFar_new HG.out HWEB.out.1 HX0.out he
              have hmm := List.mem_of_getElem? he
              obtain ⟨heE, heV⟩ := frag_sub HG.out HWEB.out.1 (List.mem_of_getElem? HX0.out) hmm
              have hin := (rest_of HG.out HWEB.out.1).inn e heE
              have halone : onZ V e.1 = true → onZ V e.2 = true → lg ≤ 1 := fun h1 h2 => by have h : G.length ≤ 1 := frag_alone HG.out HWEB.out.1 HFI.out hmm h1 h2; have := HLG.out; omega
              have hsl : (soFar (fragsF Nn E V) i G t).length ≤ E.length := soFar_le HG.out HWEB.out.1 (Nat.le_of_lt (List.getElem?_eq_some_iff.1 HX0.out).1) (.inr ⟨_, HX0.out, rfl⟩)
              obtain ⟨gd1, rfl, _, p0, p1⟩ := (HG1.out.below hbY) t e he
              have hI := hin
              obtain ⟨ex, ey⟩ := e
              simp only at hin p0 p1 hst hsf hnew halone
              obtain ⟨x, rfl⟩ := Int.eq_ofNat_of_zero_le hin.1
              obtain ⟨y, rfl⟩ := Int.eq_ofNat_of_zero_le (show 0 ≤ ey by omega)
              obtain ⟨px, hpx⟩ : ∃ p, onW V x = p := ⟨_, rfl⟩
              obtain ⟨py, hpy⟩ : ∃ p, onW V y = p := ⟨_, rfl⟩
              rw [show onZ V (x : Int) = px from hpx, show onZ V (y : Int) = py from hpy] at hst halone
              have HST := Lib.hid hst
              have HSF := Lib.hid hsf
              have HNEW := Lib.hid hnew
              have HMM := Lib.hid hmm
              have HHE := Lib.hid heE
              have HHV := Lib.hid heV
              have HPX := Lib.hid hpx
              have HPY := Lib.hid hpy
              have HSL := Lib.hid hsl
              have hxn : x < Nn := by omega
              have hyn : y < Nn := by omega
              have hxy : x < y := by omega
              have hinP : inP ((x : Int), (y : Int)) := ⟨⟨show (0 : Int) ≤ (x : Int) by omega, show (x : Int) < 200 by omega⟩, show (0 : Int) ≤ (y : Int) by omega, show (y : Int) < 200 by omega⟩
              have HINP := Lib.hid hinP
              obtain ⟨S, hS⟩ : ∃ S, soFar (fragsF Nn E V) i G t = S := ⟨_, rfl⟩
              rw [hS] at hEB
              have HS := Lib.hid hS
              obtain ⟨U, hU⟩ : ∃ U, U = wr.alloc (.cells #[.int .i64 (x : Nat), .int .i64 (y : Nat)] 44) := ⟨_, rfl⟩
              have hbU : Below wr.heap.size wr U := by rw [hU]; exact (Below.refl _ _).alloc (Nat.le_refl _) _
              have HPE : Hid (U.heap[wr.heap.size]? = some (.cells #[.int .i64 (x : Nat), .int .i64 (y : Nat)] 44 (0, 0))) := by show _ = _; rw [hU]; exact heap_alloc_new wr _
              have hzw := hEB.out.zlt
              have HEU := Lib.hid (hEB.out.below hbU)
              have HUU := Lib.hid hU
              obtain ⟨z0, z1⟩ : (0 : Int) ≤ (x : Int) ∧ (x : Int) < (Nn : Nat) := by omega
              obtain ⟨z2, z3⟩ : (0 : Int) ≤ (y : Int) ∧ (y : Int) < (Nn : Nat) := by omega
              clear he hst hsf hnew hmm heE heV hin hI hpx hpy hinP hS hsl hU hbU hbY hEB
              go_upto_region 21 with fail
              rw [← HUU.out]
              obtain ⟨pe, hpe⟩ : ∃ pe, wr.heap.size = pe := ⟨_, rfl⟩
              rw [hpe] at HPE hzw ⊢
              clear HUU hpe p0 p1
              have hlkS := HEU.out.ei.of_.look_ok HINP.out
              rw [show decide (((x : Int), (y : Int)) ∈ S) = false by have h := HNEW.out; rw [HS.out] at h; simpa using h] at hlkS
              obtain ⟨c0, hlk⟩ := hlkS
              simp only at hlk
              obtain ⟨r0, r1, _, _⟩ := cells_two HPE.out
              go_upto_region 22 with fail
              clear hlk r0 r1
              go_cut [171] from 128 to 227 (fun s171 wx => s171 = .bool false ∧ Hid (EB (fragsF Nn E V) V w4 pf z fx Nn Bh lh ch (innP V G t) S (2 * S.length) wx) ∧ Hid (wx.heap[pe]? = some (.cells #[.int .i64 (x : Nat), .int .i64 (y : Nat)] 44 (0, 0))))
              case first => as_aux_lemma =>
                obtain ⟨j0, j1⟩ := HJ.out U (next_below HB4.out HEU.out.bel)
                obtain ⟨r0, r1, _, _⟩ := cells_two HPE.out
                have hHAS := has_any A c n Nn E (x : Int) (y : Int) U (HE.out.below (next_below HB4.out HEU.out.bel)) HN.out HG.out
                rw [show hasG E (x : Int) (y : Int) = true by unfold hasG; rw [Int.min_eq_left (by omega), Int.max_eq_right (by omega)]; simpa using HHE.out] at hHAS
                have HHAS := Lib.hid hHAS
                clear hHAS
                go_wp2_with fail
                refine HHAS.out.mono ?_
                rintro e w5 ⟨rfl, hb5⟩
                have HEU := Lib.hid (HEU.out.below hb5)
                have HPE := Lib.hid (blk_below HPE.out hb5)
                clear hb5 HHAS j0 j1 r0 r1
                obtain ⟨r0, r1, _, _⟩ := cells_two HPE.out
                have hCON := containsP_any Bw cw lw V (x : Int) (y : Int) w5 (RW.out.below HEU.out.bel) HLW.out (by omega)
                rw [show decide (((x : Int), (y : Int)) ∈ V) = false by simpa using HHV.out] at hCON
                have HCON := Lib.hid hCON
                clear hCON
                go_wp2_with fail
                refine HCON.out.mono ?_
                rintro e w6 ⟨rfl, hb6⟩
                have HEU := Lib.hid (HEU.out.below hb6)
                have HPE := Lib.hid (blk_below HPE.out hb6)
                clear hb6 HCON r0 r1
                obtain ⟨r0, r1, _, _⟩ := cells_two HPE.out
                have hfr := HEU.out.frag
                rw [HFX.out] at hfr
                obtain ⟨f0, f1, _, _⟩ := cells_two hfr
                obtain ⟨b3, e3, _, o0⟩ := (HIS.out.below HEU.out.bel) x hxn
                injection e3 with e3
                subst e3
                obtain ⟨b3, e3, _, o1⟩ := (HIS.out.below HEU.out.bel) y hyn
                injection e3 with e3
                subst e3
                rw [HPX.out] at o0
                rw [HPY.out] at o1
                rw [add_off] at o0 o1
                clear hfr
                cases px with
                | false =>
                  go_wp2_with fail
                  go_meet
                  exact ⟨rfl, HEU, HPE⟩
                | true =>
                  cases py with
                  | false =>
                    go_wp2_with fail
                    go_meet
                    exact ⟨rfl, HEU, HPE⟩
                  | true =>
                    have g1 : decide ((1 : Int) < (lg : Int)) = false := by have := halone rfl rfl; simp; omega
                    have g2 : decide (1 < lg) = false := by have := halone rfl rfl; simp; omega
                    go_wp2_with fail
                    go_meet
                    exact ⟨rfl, HEU, HPE⟩
              case rest => as_aux_lemma =>
                obtain ⟨rfl, hEU, hPE⟩ := hcut
                clear HEU HPE
                have hpz := hEU.out.lt
                have HIK : Hid (inI (i : Int)) := by show inI _; unfold inI; omega
                have hsl := HSL.out
                rw [HS.out] at hsl
                have hnn := HN.out
                have hnew := HNEW.out
                rw [HS.out] at hnew
                have HNW := Lib.hid hnew
                have HSN : Hid (S ++ [((x : Int), (y : Int))] = soFar (fragsF Nn E V) i G (t + 1)) := by show _ = _; rw [HSF.out, HS.out]
                have hsb : S.length < 1000000000 := by omega
                have hsb2 : S.length ≤ 1000 := by omega
                have HMP := Lib.hid hEU.out.ei.of_
                obtain ⟨r0, r1, _, _⟩ := cells_two hPE.out
                have hpw := lt_of_block hPE.out
                have HPZ : Hid (w4.heap.size + 1 < z ∧ z < pe) := by show _ ∧ _; omega
                clear hsl hnew hnn hzw hpz
                go_wp2_with (at_mapUpdate; refine wpList_putMP _ rfl _ _ _ rfl w4.heap.size S.length S rfl HMP.out hsb ((x : Int), (y : Int)) (i : Int) rfl rfl HINP.out HNW.out HIK.out ?_; intro w7 hM7 hg7; have hPE7 := blk_gb hPE.out hg7 (by have := HPZ.out; omega); have hEB7 := hEU.out.ofPut (S' := S ++ [((x : Int), (y : Int))]) hg7 (by rw [List.length_append]; exact hM7); clear r0 r1; obtain ⟨r0, r1, _, _⟩ := cells_two hPE7)
                have HE7 : Hid (EB (fragsF Nn E V) V w4 pf z fx Nn Bh lh ch (innP V G t) (S ++ [((x : Int), (y : Int))]) (2 * S.length + 0) w7) := hEB7
                have HPE7 := Lib.hid hPE7
                have HSB := Lib.hid hsb2
                have k0 := idx0 (x : Int) (y : Int)
                have k1 := idx1 (x : Int) (y : Int)
                clear r0 r1 hM7 hg7 hPE7 hEB7 hEU hPE HMP hsb hsb2 hpw
                go_loopw [176, 20, 21, 22] (fun s176 s20 s21 s22 wn => ∃ j : Nat, j ≤ 2 ∧ s176 = .int .i64 j ∧ Hid (EB (fragsF Nn E V) V w4 pf z fx Nn Bh lh ch (innP V G t) (S ++ [((x : Int), (y : Int))]) (2 * S.length + j) wn) ∧ Hid (wn.heap[pe]? = some (.cells #[.int .i64 (x : Nat), .int .i64 (y : Nat)] 44 (0, 0)))) (fun s176 _ _ _ _ => 2 - (intOf s176).toNat)
                case atStart => exact ⟨0, by omega, rfl, HE7, HPE7⟩
                case round =>
                  clear HE7 HPE7
                  obtain ⟨j, hj, rfl, hEBn, hPEn⟩ := hrel
                  rcases (show j = 0 ∨ j = 1 ∨ j = 2 by omega) with rfl | rfl | rfl
                  · obtain ⟨b3, e3, _, q0⟩ := (HIS.out.below hEBn.out.bel) x hxn
                    injection e3 with e3
                    subst e3
                    rw [HPX.out] at q0
                    rw [add_off] at q0
                    obtain ⟨n2, k2, f, hn2, hMZ, hAT⟩ := hEBn.out.ei.at_
                    have hXI : inI (x : Int) := by unfold inI; omega
                    have hlk := hMZ.look_ok hXI
                    cases px with
                    | true =>
                      obtain ⟨bs0, hbs0⟩ : ∃ q, (f (x : Int)).isSome = q := ⟨_, rfl⟩
                      obtain ⟨v0, hv0⟩ : ∃ q, (f (x : Int)).getD 0 = q := ⟨_, rfl⟩
                      rw [hbs0, hv0] at hlk
                      have HN7 := Lib.hid (hEBn.out.le (show 2 * S.length + 0 ≤ 2 * S.length + 1 by omega))
                      clear hMZ hAT hbs0 hv0 hXI hn2
                      go_wp2_with fail
                      go_roundw
                      case rel => exact ⟨1, by omega, by go_num, HN7, hPEn⟩
                      case measure => simp [intOf]
                    | false =>
                      have hoff : onZ V (x : Int) = false := HPX.out
                      have hAN := hAT.put HX0.out HMM.out (.inl rfl) hoff
                      have HN6 : Hid (∀ (w6 : World), MapZ w6 (w4.heap.size + 1) (n2 + 1) (upd f (x : Int) (i : Int)) (if (f (x : Int)).isSome then k2 else k2 + 1) → wr.grownBy w6 (some (w4.heap.size + 1)) → Hid (EB (fragsF Nn E V) V w4 pf z fx Nn Bh lh ch (innP V G t) (S ++ [((x : Int), (y : Int))]) (2 * S.length + 1) w6) ∧ Hid (w6.heap[pe]? = some (.cells #[.int .i64 (x : Nat), .int .i64 (y : Nat)] 44 (0, 0)))) := fun w6 hM6 hg6 =>
                        ⟨hEBn.out.atPut hg6 (by omega) hM6 hAN, blk_gb hPEn.out hg6 (by have := HPZ.out; omega)⟩
                      have HMZ := Lib.hid hMZ
                      have HXI := Lib.hid hXI
                      have hnb : n2 < 1000000000 := by have := HSB.out; omega
                      have hsame : ∀ k, f (x : Int) = some k → k = (i : Int) := fun k hk => hAT.same HG.out HWEB.out.1 HX0.out HMM.out (.inl rfl) hk
                      cases hfv : f (x : Int) with
                      | none =>
                        rw [hfv] at hlk
                        simp only [Option.getD_none, Option.isSome_none] at hlk
                        clear hMZ hAT hXI hn2 hsame hfv hAN hoff
                        go_wp2_with (at_mapUpdate; refine wpList_putZ _ rfl _ _ _ rfl (w4.heap.size + 1) n2 k2 f rfl HMZ.out hnb (x : Int) (i : Int) rfl rfl HXI.out HIK.out ?_; intro w6 hM6 hg6; obtain ⟨HE6, HP6⟩ := HN6.out w6 hM6 hg6; clear hM6 hg6)
                        go_roundw
                        case rel => exact ⟨1, by omega, by go_num, HE6, HP6⟩
                        case measure => simp [intOf]
                      | some k =>
                        have hki := hsame k hfv
                        subst hki
                        rw [hfv] at hlk
                        simp only [Option.getD_some, Option.isSome_some] at hlk
                        clear hMZ hAT hXI hn2 hsame hfv hAN hoff
                        go_wp2_with (at_mapUpdate; refine wpList_putZ _ rfl _ _ _ rfl (w4.heap.size + 1) n2 k2 f rfl HMZ.out hnb (x : Int) (i : Int) rfl rfl HXI.out HIK.out ?_; intro w6 hM6 hg6; obtain ⟨HE6, HP6⟩ := HN6.out w6 hM6 hg6; clear hM6 hg6)
                        go_roundw
                        case rel => exact ⟨1, by omega, by go_num, HE6, HP6⟩
                        case measure => simp [intOf]
                  · obtain ⟨b3, e3, _, q0⟩ := (HIS.out.below hEBn.out.bel) y hyn
                    injection e3 with e3
                    subst e3
                    rw [HPY.out] at q0
                    rw [add_off] at q0
                    obtain ⟨n2, k2, f, hn2, hMZ, hAT⟩ := hEBn.out.ei.at_
                    have hXI : inI (y : Int) := by unfold inI; omega
                    have hlk := hMZ.look_ok hXI
                    cases py with
                    | true =>
                      obtain ⟨bs0, hbs0⟩ : ∃ q, (f (y : Int)).isSome = q := ⟨_, rfl⟩
                      obtain ⟨v0, hv0⟩ : ∃ q, (f (y : Int)).getD 0 = q := ⟨_, rfl⟩
                      rw [hbs0, hv0] at hlk
                      have HN7 := Lib.hid (hEBn.out.le (show 2 * S.length + 1 ≤ 2 * S.length + 2 by omega))
                      clear hMZ hAT hbs0 hv0 hXI hn2
                      go_wp2_with fail
                      go_roundw
                      case rel => exact ⟨2, by omega, by go_num, HN7, hPEn⟩
                      case measure => simp [intOf]
                    | false =>
                      have hoff : onZ V (y : Int) = false := HPY.out
                      have hAN := hAT.put HX0.out HMM.out (.inr rfl) hoff
                      have HN6 : Hid (∀ (w6 : World), MapZ w6 (w4.heap.size + 1) (n2 + 1) (upd f (y : Int) (i : Int)) (if (f (y : Int)).isSome then k2 else k2 + 1) → wr.grownBy w6 (some (w4.heap.size + 1)) → Hid (EB (fragsF Nn E V) V w4 pf z fx Nn Bh lh ch (innP V G t) (S ++ [((x : Int), (y : Int))]) (2 * S.length + 2) w6) ∧ Hid (w6.heap[pe]? = some (.cells #[.int .i64 (x : Nat), .int .i64 (y : Nat)] 44 (0, 0)))) := fun w6 hM6 hg6 =>
                        ⟨hEBn.out.atPut hg6 (by omega) hM6 hAN, blk_gb hPEn.out hg6 (by have := HPZ.out; omega)⟩
                      have HMZ := Lib.hid hMZ
                      have HXI := Lib.hid hXI
                      have hnb : n2 < 1000000000 := by have := HSB.out; omega
                      have hsame : ∀ k, f (y : Int) = some k → k = (i : Int) := fun k hk => hAT.same HG.out HWEB.out.1 HX0.out HMM.out (.inr rfl) hk
                      cases hfv : f (y : Int) with
                      | none =>
                        rw [hfv] at hlk
                        simp only [Option.getD_none, Option.isSome_none] at hlk
                        clear hMZ hAT hXI hn2 hsame hfv hAN hoff
                        go_wp2_with (at_mapUpdate; refine wpList_putZ _ rfl _ _ _ rfl (w4.heap.size + 1) n2 k2 f rfl HMZ.out hnb (y : Int) (i : Int) rfl rfl HXI.out HIK.out ?_; intro w6 hM6 hg6; obtain ⟨HE6, HP6⟩ := HN6.out w6 hM6 hg6; clear hM6 hg6)
                        go_roundw
                        case rel => exact ⟨2, by omega, by go_num, HE6, HP6⟩
                        case measure => simp [intOf]
                      | some k =>
                        have hki := hsame k hfv
                        subst hki
                        rw [hfv] at hlk
                        simp only [Option.getD_some, Option.isSome_some] at hlk
                        clear hMZ hAT hXI hn2 hsame hfv hAN hoff
                        go_wp2_with (at_mapUpdate; refine wpList_putZ _ rfl _ _ _ rfl (w4.heap.size + 1) n2 k2 f rfl HMZ.out hnb (y : Int) (i : Int) rfl rfl HXI.out HIK.out ?_; intro w6 hM6 hg6; obtain ⟨HE6, HP6⟩ := HN6.out w6 hM6 hg6; clear hM6 hg6)
                        go_roundw
                        case rel => exact ⟨2, by omega, by go_num, HE6, HP6⟩
                        case measure => simp [intOf]
                  · have HE9 : Hid (EB (fragsF Nn E V) V w4 pf z fx Nn Bh lh ch (innP V G t) (soFar (fragsF Nn E V) i G (t + 1)) (2 * (soFar (fragsF Nn E V) i G (t + 1)).length) wr) := by
                      show EB _ _ _ _ _ _ _ _ _ _ _ _ _ _
                      rw [← HSN.out, List.length_append]
                      exact hEBn.out.le (by simp; omega)
                    obtain ⟨b3, e3, _, o0⟩ := (HIS.out.below hEBn.out.bel) x hxn
                    injection e3 with e3
                    subst e3
                    obtain ⟨b3, e3, _, o1⟩ := (HIS.out.below hEBn.out.bel) y hyn
                    injection e3 with e3
                    subst e3
                    rw [HPX.out] at o0
                    rw [HPY.out] at o1
                    rw [add_off] at o0 o1
                    obtain ⟨r0, r1, _, _⟩ := cells_two hPEn.out
                    have hskip : (!px && !py) = false → Hid (EB (fragsF Nn E V) V w4 pf z fx Nn Bh lh ch (innP V G (t + 1)) (soFar (fragsF Nn E V) i G (t + 1)) (2 * (soFar (fragsF Nn E V) i G (t + 1)).length) wr) := fun hh => by
                      rw [show innP V G (t + 1) = innP V G t by rw [HST.out, if_neg (by rw [hh]; simp)]]
                      exact HE9
                    cases px with
                    | true =>
                      have HE10 := hskip rfl
                      clear hskip hEBn HE9
                      go_wp2_with fail
                      go_roundw
                      case rel => exact ⟨t + 1, lh, ch, Bh, by omega, by omega, by go_num, HE10⟩
                      case measure => simp [intOf]; omega
                    | false =>
                      cases py with
                      | true =>
                        have HE10 := hskip rfl
                        clear hskip hEBn HE9
                        go_wp2_with fail
                        go_roundw
                        case rel => exact ⟨t + 1, lh, ch, Bh, by omega, by omega, by go_num, HE10⟩
                        case measure => simp [intOf]; omega
                      | false =>
                        have hIN : innP V G (t + 1) = innP V G t ++ [((x : Int), (y : Int))] := by rw [HST.out]; simp
                        have HINN := Lib.hid hIN
                        have hbox := HE9.out.box
                        obtain ⟨m0, m1, _, _⟩ := cells_two hbox
                        have hzl := HE9.out.zlt
                        have hrow := HE9.out.row
                        have hnz : (Value.slice Bh lh ch).ownBlock ≠ some z := own_ne8 hrow hbox (by decide)
                        have hWA : ∃ WA, WA = wr.alloc (.cells #[.int .i64 (x : Nat), .int .i64 (y : Nat)] 44) := ⟨_, rfl⟩
                        have hge : ∀ q, (Value.slice Bh lh ch).ownBlock = some q → z < q := fun q hq => by
                          have h1 := (hrow.lt q hq).1
                          rcases Nat.lt_or_eq_of_le h1 with h2 | h2
                          · exact h2
                          · exact absurd (by rw [hq, h2]) hnz
                        have HFA := Lib.hid (hrow.alloc (.cells #[.int .i64 (x : Nat), .int .i64 (y : Nat)] 44))
                        have HLT : Hid (∀ (i : Nat) (u : Value), [Value.int .i64 (x : Nat), .int .i64 (y : Nat)][i]? = some u → (wr.alloc (.cells #[.int .i64 (x : Nat), .int .i64 (y : Nat)] 44)).cell? ((⟨wr.heap.size, 0, none⟩ : Addr).add i) = some u) := fun i u hi => by
                          rw [← hi, add_off, World.cell?_alloc_at _ _ _ _ rfl]
                          simp
                        have HLO : Hid (∀ w', (wr.alloc (.cells #[.int .i64 (x : Nat), .int .i64 (y : Nat)] 44)).grownBy w' (Value.slice Bh lh ch).ownBlock → ∀ b, b ≤ z → w'.heap[b]? = wr.heap[b]?) := fun w' hg' b hb => by
                          rw [hg'.block b (by simp; omega) (fun e => by have := hge b e.symm; omega)]
                          exact ((Below.refl wr.heap.size wr).alloc (Nat.le_refl _) _).block b (by omega)
                        have HBL := Lib.hid HE9.out.bel
                        have hszw := HE9.out.bel.size
                        have HGE := Lib.hid hge
                        have HBOX := Lib.hid hbox
                        have hPZ := HE9.out.lt
                        have HPZ2 := Lib.hid hPZ
                        clear hskip hEBn hIN hbox hrow hnz hWA hge hPZ
                        go_upto_region 35 with fail
                        clear o0 o1
                        go_wp2_with (at_builtin; refine wpList_append_lies _ rfl (.tmp 222) (.tmp 224) 22 rfl z 44 i4 (.agg #[.int .i64 0, .int .i64 0]) 2 16 Try.underlying22 hi4 hz0 hz1 hz2 rfl (by decide) _ lh (pcells (innP V G t)) rfl HFA.out ⟨wr.heap.size, 0, none⟩ 1 1 [.int .i64 (x : Nat), .int .i64 (y : Nat)] (by simp [Act.eval]) rfl HLT.out (by simp [Value.oneCell']) (by omega) (by simp [maxLen]; omega) (by omega) (by simp; omega) (wr.heap.size + 1) (by simp) ?_; intro g7 c7 w7 hr7 hg7 ho7 hlt7; have hz7 := (HLO.out w7 hg7 z (Nat.le_refl _)).trans HBOX.out; obtain ⟨s0, s1, s2, s3⟩ := cells_two hz7)
                        have hg7z : g7 ≠ z := fun e => own_ne8 hr7 hz7 (by decide) (by rw [e]; rfl)
                        have HE11 : Hid (EB (fragsF Nn E V) V w4 pf z fx Nn (some ⟨g7, 0, none⟩) (lh + 1) c7 (innP V G (t + 1)) (soFar (fragsF Nn E V) i G (t + 1)) (2 * (soFar (fragsF Nn E V) i G (t + 1)).length) (w7.setCell ⟨z, 1, none⟩ (.slice (some ⟨g7, 0, none⟩) (lh + 1) c7))) := by
                          refine HE9.out.more (fun b hb => ?_) ?_ ?_ ?_
                          · rw [heap_setCell_other _ _ _ _ (by show b ≠ z; omega)]
                            exact HLO.out w7 hg7 b (by omega)
                          · rw [Go.Joins.block_setCell hz7]
                            rfl
                          · rw [HINN.out, pcells_snoc]
                            exact row_far hr7 (p := ⟨z, 1, none⟩) hg7z _
                          · exact ((HBL.out.alloc (by omega) _).grown hg7 (by simp; omega) (fun q e => by have := HGE.out q e; have := HPZ2.out; omega)).setCell (p := ⟨z, 1, none⟩) (by have := HPZ2.out; show _ ≤ z; omega) _
                        clear hr7 hg7 hz7 ho7 s0 s1 s2 s3 m0 m1 r0 r1
                        go_wp2_with fail
                        go_roundw
                        case rel => exact ⟨t + 1, lh + 1, c7, _, by omega, by omega, by go_num, HE11⟩
                        case measure => simp [intOf]; omega
            · obtain rfl : t = lg := by omega
              have t4 : decide ((t : Int) < (t : Int)) = false := by simp
              have hinn : innP V G t = innE V G := by unfold innP; rw [← HLG.out, List.take_length]
              have hrow2 := hEB.out.row
              rw [hinn] at hrow2
              obtain ⟨hlh, hrdh⟩ := pcells_len hrow2
              have hrH : rightG (Nn : Nat) (innE V G) = true := sub_right HG.out (by unfold innE; exact List.filter_sublist.trans (frag_sublist HFI.out))
              have hGin : ∀ e ∈ G, 0 ≤ e.1 ∧ e.1 < Nn ∧ 0 ≤ e.2 ∧ e.2 < Nn := fun e he => by
                have := (rest_of HG.out HWEB.out.1).inn e (frag_sub HG.out HWEB.out.1 (List.mem_of_getElem? HX0.out) he).1
                omega
              have HTG := Lib.hid (together_any Bh B1 B2 (some ⟨w3.heap.size, 0, none⟩) ch lh t x1 lf x2 Nn Nn (innE V G) G V F wr hrdh hlh hrH (HG1.out.below hbY) HLG.out.symm (by omega) (HG2.out.below hbY) HLF.out.symm (HIS.out.below hbY) hGin HFI.out.feet (by omega) (fun u v hu hv ou ov => frag_hangs HG.out HWEB.out.1 HFI.out hu hv ou ov))
              have hfr := hEB.out.frag
              rw [HFX.out] at hfr
              obtain ⟨f0, f1, _, _⟩ := cells_two hfr
              obtain ⟨m0, m1, _, _⟩ := cells_two hEB.out.box
              have HEE := Lib.hid hEB.out.ei
              have HBW := Lib.hid hbY
              have HXN : Hid (soFar (fragsF Nn E V) i G t = soFar (fragsF Nn E V) (i + 1) [] 0) := by
                have h := soFar_next HX0.out []
                show _ = _
                rw [← h, ← HLG.out]
              clear hinn hrow2 hlh hrdh hrH hGin hfr hEB hbY
              go_wp2_with fail
              refine HTG.out.mono ?_
              rintro e w9 ⟨rfl, hb9⟩
              have HEE := Lib.hid (HEE.out.below hb9)
              have HBW := Lib.hid (next_below HBW.out hb9)
              rw [HXN.out] at HEE
              clear hb9 HTG f0 f1 m0 m1
              go_wp2_with fail
              go_roundw
              case rel => exact ⟨i + 1, by omega, by go_num, HEE, HBW⟩
              case measure => simp [intOf]; omega
      · obtain rfl : i = l4 := by omega
        have t1 : decide ((i : Int) < (i : Int)) = false := by simp
        have hi := HL4.out
        have hall := soFar_all HG.out HWEB.out.1 []
        obtain ⟨j0, j1⟩ := HJ.out wr (next_below HB4.out hbel.out)
        have hS4 : (soFar (fragsF Nn E V) i [] 0).length + lw = n := by
          rw [HL4.out, HLW.out, HN.out]
          exact hall
        have hMP := hei.out.of_
        obtain ⟨sl, hsl⟩ : ∃ sl, (soFar (fragsF Nn E V) i [] 0).length = sl := ⟨_, rfl⟩
        have hln := hMP.len 3
        rw [hsl] at hln hS4
        have q1 : ((sl : Int) + (lw : Int) == (n : Int)) = true := by simp; omega
        have q2 : (sl + lw == n) = true := by simp; omega
        clear hi hall hMP hsl hei
        go_upto_region 40 with fail
        go_wp2_with fail
        refine (awake_any wr).mono ?_
        rintro e w9 ⟨rfl, hb⟩
        have HB9 := Lib.hid (next_below HB4.out (next_below hbel.out hb))
        clear hb
        go_wp2_with fail
        go_ret
        exact ⟨rfl, HB.out.trans (HB9.out.mono (Nat.le_of_lt HXS.out))⟩
theorem edges_walk (v0 v1 : Value) (w : World) (h0 : OkGraph w v0) (h1 : OkBools w v1) : Calls Try.prog 4 #[v0, v1] w fun e w' => e = .returned (.bool true) ∧ Below w.heap.size w w' := by
  obtain ⟨N, A, c, E, rfl, _, _, hr, _, _, _⟩ := h0
  obtain ⟨B, d, bs, rfl, hb, _, _⟩ := h1
  exact edges_walk_g A B c d E.length bs.length N E bs w hr hb rfl rfl
end Go.Proofs.Ytlkfpphahfendaa
