/- Who was met when, and from whom: low.numbered (layer 5). -/
import Derived.Test.YtlkddjpjhchjfaaD4
import Derived.Test.YtlkddjpjhchjfaaD9
import Derived.Test.YtlkddjpjhchjfaaW10
namespace Go.Proofs.Ytlkddjpjhchjfaa
set_option maxRecDepth 100000
open Go.RowKit

theorem lowinfo : (Try.prog.info? 57).map (fun i => (i.zero, i.size, i.bytes)) = some (some (.agg #[.int .i64 0, .int .i64 0, .int .i64 0]), 3, 24) := by kernel_rfl
theorem make_lows (n : Nat) (hn : n ≤ 1000000) (w : World) : (Instr.makeSlice 27 (.int .i64 n) (.int .i64 n)).run Try.prog w = .ok (.slice (some ⟨w.heap.size, 0, none⟩) n n) (w.alloc (.cells (tcells (List.replicate n (0, 0, 0))).toArray 57)) := by
  obtain ⟨i2, hi2, hx0, hx1, hx2⟩ := info_partsI lowinfo
  have hr := run_make (P := Try.prog) w 27 57 i2 (.agg #[.int .i64 0, .int .i64 0, .int .i64 0]) Try.underlying27 hi2 hx0 .i64 .i64 n n (by omega) (by omega) (by rw [hx2]; omega) (by omega)
  rw [hx1] at hr
  rw [hr]
  congr 3
  apply Array.ext'
  apply List.ext_getElem?
  intro i
  have hz : ∀ q, (#[Value.int .i64 0, Value.int .i64 0, Value.int .i64 0] : Array Value)[q % 3]! = .int .i64 0 := fun q => by
    rcases (show q % 3 = 0 ∨ q % 3 = 1 ∨ q % 3 = 2 by omega) with h | h | h <;> rw [h] <;> rfl
  by_cases hi : i < n * 3
  · have h1 : (madeCells #[Value.int .i64 0, Value.int .i64 0, Value.int .i64 0] (n * 3)).toList[i]? = some (.int .i64 0) := by
      rw [Array.getElem?_toList]
      unfold madeCells
      rw [Array.getElem?_map, Array.getElem?_range, if_pos hi]
      show some _ = _
      exact congrArg some (hz i)
    have h2 : (tcells (List.replicate n (0, 0, 0)))[i]? = some (.int .i64 0) := by
      have hk : (List.replicate n ((0 : Int), (0 : Int), (0 : Int)))[i / 3]? = some (0, 0, 0) := by
        rw [List.getElem?_replicate, if_pos (by omega)]
      obtain ⟨a, b, c⟩ := tcells_at _ _ _ hk
      rcases (show i = i / 3 * 3 ∨ i = i / 3 * 3 + 1 ∨ i = i / 3 * 3 + 2 by omega) with h | h | h
      · rw [h]; exact a
      · rw [h]; exact b
      · rw [h]; exact c
    exact h1.trans h2.symm
  · rw [List.getElem?_eq_none (by rw [Array.length_toList, size_madeCells]; omega)]
    show none = (tcells (List.replicate n (0, 0, 0)))[i]?
    rw [List.getElem?_eq_none (by rw [tcells_length, List.length_replicate]; omega)]
/-- What is told of all that are met so far. -/
def numL (N : Nat) (A : List Nat) (U : Nat → Option Nat) : List (Int × Int × Int) := (List.range N).map fun v => if v ∈ A then (((numF A v : Nat) : Int), upZ U v, ((numF A v : Nat) : Int)) else (0, 0, 0)
theorem numL_length (N : Nat) (A : List Nat) (U : Nat → Option Nat) : (numL N A U).length = N := by simp [numL]
theorem numL_zero (N : Nat) (U : Nat → Option Nat) : numL N [] U = List.replicate N (0, 0, 0) := by
  apply List.ext_getElem?
  intro i
  by_cases h : i < N
  · simp [numL, h]
  · rw [List.getElem?_eq_none (by rw [numL_length]; omega), List.getElem?_eq_none (by simp; omega)]
theorem numL_at {N v : Nat} (A : List Nat) (U : Nat → Option Nat) (h : v < N) : (numL N A U)[v]? = some (if v ∈ A then (((numF A v : Nat) : Int), upZ U v, ((numF A v : Nat) : Int)) else (0, 0, 0)) := by simp [numL, h]
theorem numL_congr {N : Nat} {A : List Nat} {U U' : Nat → Option Nat} (h : ∀ v ∈ A, U' v = U v) : numL N A U' = numL N A U := by
  unfold numL
  apply List.map_congr_left
  intro v _
  by_cases hv : v ∈ A
  · rw [if_pos hv, if_pos hv]
    unfold upZ
    rw [h v hv]
  · rw [if_neg hv, if_neg hv]
theorem numL_snoc {N v : Nat} {A : List Nat} {U : Nat → Option Nat} (hv : v < N) (hn : v ∉ A) : (numL N A U).set v (((A.length + 1 : Nat) : Int), upZ U v, ((A.length + 1 : Nat) : Int)) = numL N (A ++ [v]) U := by
  apply List.ext_getElem?
  intro i
  have hid : ∀ x, x ∈ A → numF (A ++ [v]) x = numF A x := fun x hx => by
    unfold numF
    rw [List.idxOf_append, if_pos hx]
  by_cases hi : i < N
  · by_cases e : v = i
    · subst e
      rw [List.getElem?_set_self (by rw [numL_length]; exact hi), numL_at _ _ hi, if_pos (by simp)]
      have : numF (A ++ [v]) v = A.length + 1 := by
        unfold numF
        rw [List.idxOf_append, if_neg hn]
        simp
      rw [this]
    · rw [List.getElem?_set_ne e, numL_at _ _ hi, numL_at _ _ hi]
      by_cases hA : i ∈ A
      · rw [if_pos hA, if_pos (by simp [hA]), hid i hA]
      · rw [if_neg hA, if_neg (by simp [hA]; exact fun e2 => e e2.symm)]
  · rw [List.getElem?_eq_none (by rw [List.length_set, numL_length]; omega), List.getElem?_eq_none (by rw [numL_length]; omega)]
/-- What lies in memory when some are met. -/
structure NB (w0 : World) (B N : Nat) (A : List Nat) (U : Nat → Option Nat) (V : Value) (w : World) : Prop where
  out : OwnT w B (numL N A U)
  row : w.ownsRow B 3 1 V A.length (zn A)
  bel : Below w0.heap.size w0 w
theorem NB.below {w0 : World} {B N : Nat} {A : List Nat} {U : Nat → Option Nat} {V : Value} {w w' : World} (h : NB w0 B N A U V w) (hb : Below w.heap.size w w') : NB w0 B N A U V w' := ⟨h.out.below hb, row_below h.row hb, next_below h.bel hb⟩
theorem NB.apart {w0 : World} {B N : Nat} {A : List Nat} {U : Nat → Option Nat} {V : Value} {w : World} (h : NB w0 B N A U V w) : V.ownBlock ≠ some B := own_ne h.row h.out (by decide)
theorem row_low {w : World} {base size n : Nat} {e : TypeId} {V : Value} {xs : List Value} (h : w.ownsRow base e size V n xs) {q : Nat} (hq : V.ownBlock = some q) : q < w.heap.size := (h.lt q hq).2
set_option maxHeartbeats 32000000 in
theorem numbered_any (A0 : Option Addr) (c n N : Nat) (E : List (Int × Int)) (w : World) (hr : RdP w A0 E) (hn : n = E.length) (hg : rightG (N : Nat) E = true) (sym : ∀ a b, adj (tabG N E) a b → adj (tabG N E) b a) :
    Calls Try.prog 45 #[.agg #[.int .i64 (N : Nat), .slice A0 n c]] w fun e w' => ∃ (B : Nat) (V : Value) (A : List Nat) (U : Nat → Option Nat), e = .returned (.tuple #[.slice (some ⟨B, 0, none⟩) N N, V]) ∧ NB w B N A U V w' ∧ NR (tabG N E) N N A U ∧ w.heap.size ≤ B := by
  have hN2 : N ≤ 200 := by have := (rightG_bounds hg).2.1; omega
  obtain ⟨X, hX⟩ : ∃ X, X = w.alloc (.cells #[.int .i64 (N : Nat), .slice A0 n c] 24) := ⟨_, rfl⟩
  have hb : Below w.heap.size w X := by rw [hX]; exact (Below.refl _ _).alloc (Nat.le_refl _) _
  have hXS : w.heap.size < X.heap.size := by rw [hX]; simp
  have hXE : w.heap.size + 1 = X.heap.size := by rw [hX]; simp
  obtain ⟨j0, j1, _, _⟩ := cells_two (w := X) (by rw [hX]; exact heap_alloc_new w _)
  have HJ : Hid (∀ w', Below X.heap.size X w' → w'.cell? ⟨w.heap.size, 0, none⟩ = some (.int .i64 (N : Nat)) ∧ w'.cell? ⟨w.heap.size, 1, none⟩ = some (.slice A0 n c)) := fun w' hb =>
    ⟨by rw [hb.cell (by show w.heap.size < _; omega)]; exact j0, by rw [hb.cell (by show w.heap.size < _; omega)]; exact j1⟩
  have hmk := make_lows N (by omega) X
  obtain ⟨M, hM⟩ : ∃ M, M = X.alloc (.cells (tcells (List.replicate N (0, 0, 0))).toArray 57 (0, 0)) := ⟨_, rfl⟩
  have HBM : Hid (Below X.heap.size X M) := by show Below _ _ _; rw [hM]; exact (Below.refl _ _).alloc (Nat.le_refl _) _
  have HN0 : Hid (NB X X.heap.size N [] (fun _ => none) (.slice none 0 0) M) := ⟨by show _ = _; rw [numL_zero, hM]; exact heap_alloc_new X _, World.ownsRow_nil _ _ _ _, HBM.out⟩
  have HI0 := Lib.hid (NR.start (tabG N E) N)
  have HE := Lib.hid (hr.below hb)
  have HN := Lib.hid hn
  have HG := Lib.hid hg
  have HSY := Lib.hid sym
  have HX := Lib.hid hX
  have HB := Lib.hid hb
  have HXS := Lib.hid hXS
  have HM := Lib.hid hM
  obtain ⟨i4, hi4, hz0, hz1, hz2⟩ := info_partsI i64info
  rw [hX] at j0 j1 hmk
  clear hr hn hg sym hX hb hXS hM
  go_enter Try.func45, Try.ntmps45
  go_upto_region 3 with fail
  rw [← HX.out, ← HM.out]
  obtain ⟨B, hB⟩ : ∃ B, X.heap.size = B := ⟨_, rfl⟩
  rw [hB] at HN0 ⊢
  have HBQ := Lib.hid hB
  clear j0 j1 hmk hB hXE
  obtain ⟨j0, j1⟩ := HJ.out M HBM.out
  go_wp2_with fail
  clear j0 j1
  go_loopw [17, 5] (fun s17 s5 wr => ∃ (k : Nat) (A : List Nat) (U : Nat → Option Nat) (V : Value), k ≤ N ∧ s17 = .int .i64 k ∧ s5 = V ∧ Hid (NR (tabG N E) N k A U) ∧ Hid (NB X B N A U V wr)) (fun s17 _ _ => N - (intOf s17).toNat)
  case atStart => exact ⟨0, [], _, _, Nat.zero_le _, rfl, rfl, HI0, HN0⟩
  case round =>
    clear HI0 HN0 HBM HM
    obtain ⟨k, A, U, V, hk, rfl, rfl, hI, hNB⟩ := hrel
    by_cases h1 : k < N
    · have t1 : decide ((k : Int) < (N : Int)) = true := by simp; omega
      have hK0 : (0 : Int) ≤ (k : Int) := by omega
      have hK1 : (k : Int) < (N : Nat) := by omega
      obtain ⟨a0, _, _⟩ := hNB.out.out.at_ (numL_at A U h1)
      by_cases hkA : k ∈ A
      · rw [if_pos hkA] at a0
        obtain ⟨nk, hnk⟩ : ∃ nk, numF A k = nk := ⟨_, rfl⟩
        have hp : decide ((0 : Int) < (nk : Int)) = true := by unfold numF at hnk; simp; omega
        have hp2 : decide (0 < nk) = true := by unfold numF at hnk; simp; omega
        have hp3 : 0 < nk := by unfold numF at hnk; omega
        simp only [hnk] at a0
        have HI2 := Lib.hid (hI.out.skip hkA)
        clear hnk hkA
        go_wp2_with fail
        go_roundw
        case rel => exact ⟨k + 1, A, U, _, by omega, by go_num, rfl, HI2, hNB⟩
        case measure => simp [intOf]; omega
      · rw [if_neg hkA] at a0
        simp only at a0
        obtain ⟨j0, j1⟩ := HJ.out wr hNB.out.bel
        have HWK := Lib.hid (walk_any A0 c n N k E wr (HE.out.below hNB.out.bel) HN.out HG.out h1)
        have HKA := Lib.hid hkA
        clear hkA
        go_wp2_with fail
        refine HWK.out.mono ?_
        rintro e w1 ⟨kk, go, co, Bu, s, rfl, hOL, hOZ, hgb, hBu, hs, hsl, hgood, hb1⟩
        have hd : Dfs (tabG N E) N k s := by rw [hs]; exact dfs_run (tab_is HG.out) HSY.out h1 kk
        have HD := Lib.hid hd
        have HI2 := Lib.hid (hI.out.step HSY.out HKA.out hd hsl hs)
        obtain ⟨hg1, hg2⟩ := hOL.lt_
        have hbu2 := lt_of_block hOZ
        have hUs : ∀ v ∈ A, stepU s U v = U v := fun v hv => by
          unfold stepU
          rw [if_neg (fun hh => ?_)]
          have hnd := HI2.out.nod
          rw [List.nodup_append] at hnd
          exact hnd.2.2 v hv v hh rfl
        have HNB1 : Hid (NB X B N (A ++ s.order.take 0) (stepU s U) u5 w1) := by
          have h := hNB.out.below hb1
          rw [List.take_zero, List.append_nil]
          exact ⟨by rw [numL_congr hUs]; exact h.out, h.row, h.bel⟩
        have HV0 : Hid (∀ q, (u5 : Value).ownBlock = some q → q < wr.heap.size ∨ w1.heap.size ≤ q) := fun q hq => .inl (row_low hNB.out.row hq)
        have HOL := Lib.hid hOL
        have HOZ := Lib.hid hOZ
        obtain ⟨lo, hlo⟩ : ∃ lo, s.order.length = lo := ⟨_, rfl⟩
        have HLO := Lib.hid hlo
        have hlob : lo ≤ 200 := by have h := nod_le N s.order HD.out.nod HD.out.good.inO; omega
        obtain ⟨ws, hws⟩ : ∃ ws, wr.heap.size = ws := ⟨_, rfl⟩
        have HBW : Hid (B < ws) := by show B < ws; rw [← hws]; exact lt_of_block hNB.out.out
        rw [hws] at hg1 hBu HV0
        obtain ⟨w1s, hw1s⟩ : ∃ ws, w1.heap.size = ws := ⟨_, rfl⟩
        rw [hw1s] at hg2 hbu2 HV0
        have HG1 : Hid (ws ≤ go ∧ go < w1s ∧ ws ≤ Bu ∧ Bu < w1s) := ⟨hg1, hg2, hBu, hbu2⟩
        rw [hlo]
        clear hs hsl hgood hb1 hd hOL hOZ hg1 hg2 hBu hbu2 hUs hlo hws hI hNB HWK a0 j0 j1
        go_wp2_with fail
        go_loopw [35, 5] (fun s35 s5 wn => ∃ (j : Nat) (V : Value), j ≤ lo ∧ s35 = .int .i64 j ∧ s5 = V ∧ Hid (NB X B N (A ++ s.order.take j) (stepU s U) V wn) ∧ Hid (∀ q, V.ownBlock = some q → q < ws ∨ w1s ≤ q) ∧ Hid (wn.heap[go]? = w1.heap[go]? ∧ wn.heap[Bu]? = w1.heap[Bu]?) ∧ w1s ≤ wn.heap.size) (fun s35 _ _ => lo - (intOf s35).toNat)
        case atStart => exact ⟨0, _, Nat.zero_le _, rfl, rfl, HNB1, HV0, ⟨rfl, rfl⟩, by rw [hw1s]; exact Nat.le_refl _⟩
        case round => as_aux_lemma =>
          clear HNB1 HV0
          obtain ⟨j, V, hj, rfl, rfl, hNB, hV, hG, hsz⟩ := hrel
          by_cases h2 : j < lo
          · have t2 : decide ((j : Int) < (lo : Int)) = true := by simp; omega
            have hJ0 : (0 : Int) ≤ (j : Int) := by omega
            have hJ1 : (j : Int) < (lo : Nat) := by omega
            have HJ2 := Lib.hid h2
            obtain ⟨v, hv⟩ : ∃ v, s.order[j]? = some v := ⟨_, List.getElem?_eq_getElem (by rw [HLO.out]; exact h2)⟩
            have c0 : wr.cell? ⟨go, j, none⟩ = some (.int .i64 (v : Nat)) := by
              rw [World.cell?_of_block (show wr.heap[(⟨go, j, none⟩ : Addr).block]? = w1.heap[(⟨go, j, none⟩ : Addr).block]? from hG.out.1)]
              exact HOL.out.at_ hv
            have hvo := List.mem_of_getElem? hv
            have hvN : v < N := HD.out.good.inO v hvo
            have hup := upZ_step (U := U) HD.out hvo hvN
            have hsn : A ++ s.order.take (j + 1) = (A ++ s.order.take j) ++ [v] := by rw [List.take_add_one, hv, List.append_assoc]; rfl
            have hvn : v ∉ A ++ s.order.take j := by
              have hnd := HI2.out.nod
              rw [← List.take_append_drop (j + 1) s.order, ← List.append_assoc, hsn, List.nodup_append] at hnd
              have h3 := hnd.1
              rw [List.nodup_append] at h3
              exact fun hm => h3.2.2 v hm v (by simp) rfl
            obtain ⟨uz, huz⟩ : ∃ uz, gd s.up v = uz := ⟨_, rfl⟩
            rw [huz] at hup
            have hul : s.up.length = N := HD.out.good.len
            obtain ⟨C, hC⟩ : ∃ C, A ++ s.order.take j = C := ⟨_, rfl⟩
            rw [hC] at hNB hsn hvn
            obtain ⟨lc, hlc⟩ : ∃ lc, C.length = lc := ⟨_, rfl⟩
            have hset := numL_snoc (U := stepU s U) hvN hvn
            rw [hup, hlc] at hset
            have HSET := Lib.hid hset
            have HSN := Lib.hid hsn
            have hrow := hNB.out.row
            rw [hlc] at hrow
            have hlcb : lc ≤ 100000 := by
              have h3 := hNB.out.row.1
              have h4 : C.Nodup := by
                have hnd := HI2.out.nod
                rw [← List.take_append_drop j s.order, ← List.append_assoc, hC, List.nodup_append] at hnd
                exact hnd.1
              have h5 := nod_le N C h4 (fun x hx => HI2.out.lt x (by
                rw [← List.take_append_drop j s.order, ← List.append_assoc, hC]
                exact List.mem_append.2 (.inl hx)))
              omega
            have HFA := Lib.hid (hrow.alloc (.cells #[.int .i64 (v : Nat)] 3))
            have HLT : Hid (∀ (i : Nat) (u : Value), [Value.int .i64 (v : Nat)][i]? = some u → (wr.alloc (.cells #[.int .i64 (v : Nat)] 3)).cell? ((⟨wr.heap.size, 0, none⟩ : Addr).add i) = some u) := fun i u hi => by
              rw [← hi, add_off, World.cell?_alloc_at _ _ _ _ rfl]
              simp
            have hap := hNB.out.apart
            have hBl := lt_of_block hNB.out.out
            have HKB : Hid (∀ w', (wr.alloc (.cells #[.int .i64 (v : Nat)] 3)).grownBy w' (u5 : Value).ownBlock → w'.heap[B]? = wr.heap[B]? ∧ w'.heap[go]? = w1.heap[go]? ∧ w'.heap[Bu]? = w1.heap[Bu]?) := fun w' hg' => by
              obtain ⟨e1, e2, e3, e4⟩ := HG1.out
              have key : ∀ b, b < wr.heap.size → some b ≠ (u5 : Value).ownBlock → w'.heap[b]? = wr.heap[b]? := fun b hb hne => by
                rw [hg'.block b (by simp; omega) hne]
                exact ((Below.refl wr.heap.size wr).alloc (Nat.le_refl _) _).block b hb
              refine ⟨key B hBl (fun e => hap e.symm), ?_, ?_⟩
              · rw [key go (by omega) (fun e => by have := hV.out go e.symm; omega)]; exact hG.out.1
              · rw [key Bu (by omega) (fun e => by have := hV.out Bu e.symm; omega)]; exact hG.out.2
            have hBw : B ≤ wr.heap.size := Nat.le_of_lt hBl
            have HFACT : Hid (∀ w', (wr.alloc (.cells #[.int .i64 (v : Nat)] 3)).grownBy w' (u5 : Value).ownBlock → w'.cell? ⟨Bu, v, none⟩ = some (.int .i64 uz) ∧ OwnT w' B (numL N C (stepU s U))) := fun w' hg' => by
              obtain ⟨e1, _, e3⟩ := HKB.out w' hg'
              refine ⟨?_, e1.trans hNB.out.out⟩
              rw [World.cell?_of_block (show w'.heap[(⟨Bu, v, none⟩ : Addr).block]? = w1.heap[(⟨Bu, v, none⟩ : Addr).block]? from e3), ← huz]
              exact OwnZ.at_ HOZ.out (gd_at s.up v (by rw [hul]; exact hvN))
            obtain ⟨hv0, hv1⟩ : (0 : Int) ≤ (v : Int) ∧ (v : Int) < (N : Nat) := by omega
            have HNBH := Lib.hid hNB.out
            have hszw := hNB.out.bel.size
            have HHV := Lib.hid hV.out
            have HHC := Lib.hid hC
            have HLC := Lib.hid hlc
            have HVN := Lib.hid hvN
            have HSZ := Lib.hid hsz
            have HSZW := Lib.hid hszw
            have HUZ := Lib.hid huz
            have HUL := Lib.hid hul
            clear hv hvo hup hsn hvn huz hul hset hrow hap hBl hNB hV hG hC hlc hsz
            go_upto_region 11 with fail
            clear c0
            go_wp2_with (at_builtin; refine wpList_append_lies _ rfl (.tmp 39) (.tmp 41) 35 rfl B 3 i4 (.int .i64 0) 1 8 Try.underlying35 hi4 hz0 hz1 hz2 rfl (by decide) _ lc (zn C) rfl HFA.out ⟨wr.heap.size, 0, none⟩ 1 1 [.int .i64 (v : Nat)] (by simp [Act.eval]) rfl HLT.out (by simp [Value.oneCell']) (by omega) (by simp [maxLen]; omega) (by omega) (by simp; omega) (wr.heap.size + 1) (by simp) ?_; intro g7 c7 w7 hr7 hg7 ho7 hlt7; have HR7 := Lib.hid hr7; have HG7 := Lib.hid hg7; have HO7 := Lib.hid ho7; have HLT7 := Lib.hid hlt7; obtain ⟨c1, hT7⟩ := HFACT.out w7 hg7; obtain ⟨x0, x1, x2⟩ := hT7.at_ (lw_at (show v < (numL N C (stepU s U)).length by rw [numL_length]; exact HVN.out)); have y0 := free_of hT7 (v * 3); have y1 := free_of hT7 (v * 3 + 1); have y2 := free_of hT7 (v * 3 + 2); clear hr7 hg7 ho7 hlt7 hT7)
            have hT7 := (HFACT.out w7 HG7.out).2
            have hkb := HKB.out w7 HG7.out
            have e1 : (lc : Int) + 1 = ((lc + 1 : Nat) : Int) := by omega
            obtain ⟨Z, hZ⟩ : ∃ Z, Z = ((w7.setCell ⟨B, v * 3, none⟩ (.int .i64 ((lc : Int) + 1))).setCell ⟨B, v * 3 + 1, none⟩ (.int .i64 uz)).setCell ⟨B, v * 3 + 2, none⟩ (.int .i64 ((lc : Int) + 1)) := ⟨_, rfl⟩
            have hTZ : OwnT Z B (numL N (A ++ s.order.take (j + 1)) (stepU s U)) := by
              have h := hT7.set3 (k := v) (by rw [numL_length]; exact HVN.out) (((lc + 1 : Nat) : Int), uz, ((lc + 1 : Nat) : Int))
              rw [HSET.out, ← HSN.out] at h
              rw [hZ, e1]
              exact h
            have hgB : g7 ≠ B := fun e => own_ne HR7.out hT7 (by decide) (by rw [e]; rfl)
            have hRZ : Z.ownsRow B 3 1 (.slice (some ⟨g7, 0, none⟩) (lc + 1) c7) (lc + 1) (zn (C ++ [v])) := by
              rw [hZ, show zn (C ++ [v]) = zn C ++ [.int .i64 (v : Nat)] by simp [zn]]
              exact row_far (row_far (row_far HR7.out (p := ⟨B, v * 3, none⟩) hgB _) (p := ⟨B, v * 3 + 1, none⟩) hgB _) (p := ⟨B, v * 3 + 2, none⟩) hgB _
            have hlen : (A ++ s.order.take (j + 1)).length = lc + 1 := by rw [HSN.out, List.length_append, HLC.out]; rfl
            have hBX : X.heap.size ≤ B := by rw [HBQ.out]; exact Nat.le_refl _
            have hB7 : Below X.heap.size X w7 := (HNBH.out.bel.alloc HSZW.out _).grown HG7.out (by simp; have := HSZW.out; omega) (fun q e => by have := (HFA.out.lt q e).1; omega)
            have HN9 : Hid (NB X B N (A ++ s.order.take (j + 1)) (stepU s U) (.slice (some ⟨g7, 0, none⟩) (lc + 1) c7) Z) := by
              refine ⟨hTZ, by rw [hlen, HSN.out]; exact hRZ, ?_⟩
              rw [hZ]
              exact ((hB7.setCell (p := ⟨B, v * 3, none⟩) hBX _).setCell (p := ⟨B, v * 3 + 1, none⟩) hBX _).setCell (p := ⟨B, v * 3 + 2, none⟩) hBX _
            have hZo : ∀ b, b ≠ B → Z.heap[b]? = w7.heap[b]? := fun b hb => by
              rw [hZ, heap_setCell_other _ _ _ _ hb, heap_setCell_other _ _ _ _ hb, heap_setCell_other _ _ _ _ hb]
            have hgoB : go ≠ B ∧ Bu ≠ B := by
              obtain ⟨a, b, c, d⟩ := HG1.out
              have := HBW.out
              exact ⟨by omega, by omega⟩
            have HG9 : Hid (Z.heap[go]? = w1.heap[go]? ∧ Z.heap[Bu]? = w1.heap[Bu]?) := ⟨(hZo go hgoB.1).trans hkb.2.1, (hZo Bu hgoB.2).trans hkb.2.2⟩
            have HV9 : Hid (∀ q, (Value.slice (some ⟨g7, 0, none⟩) (lc + 1) c7).ownBlock = some q → q < ws ∨ w1s ≤ q) := fun q hq => by
              have hq : g7 = q := by simpa [Value.ownBlock] using hq
              subst hq
              rcases HO7.out with h3 | h3
              · exact HHV.out _ h3
              · right; have := HSZ.out; omega
            have hsz9 : w1s ≤ Z.heap.size := by
              have h3 : Z.heap.size = w7.heap.size := by rw [hZ]; simp
              have h4 : wr.heap.size ≤ w7.heap.size := by have h5 := HG7.out.size; rw [World.size_alloc] at h5; omega
              have := HSZ.out
              omega
            rw [← hZ]
            go_roundw
            case rel => exact ⟨j + 1, _, by have := HJ2.out; omega, by go_num, rfl, HN9, HV9, HG9, hsz9⟩
            case measure => have := HJ2.out; simp [intOf]; omega
          · obtain rfl : j = lo := by omega
            have t2 : decide ((j : Int) < (j : Int)) = false := by simp
            have hall : s.order.take j = s.order := by rw [← HLO.out]; exact List.take_length
            rw [hall] at hNB
            have HI3 := Lib.hid HI2.out
            clear hall
            go_wp2_with fail
            go_roundw
            case rel => exact ⟨k + 1, _, _, _, by omega, by go_num, rfl, HI3, hNB⟩
            case measure => simp [intOf]; omega
    · obtain rfl : N = k := by omega
      have t1 : decide ((N : Int) < (N : Int)) = false := by simp
      go_wp2_with fail
      go_ret2
      exact ⟨B, _, A, U, rfl, ⟨hNB.out.out, hNB.out.row, HB.out.trans (hNB.out.bel.mono (Nat.le_of_lt HXS.out))⟩, hI.out, by have := HBQ.out; have := HXS.out; omega⟩
end Go.Proofs.Ytlkddjpjhchjfaa
