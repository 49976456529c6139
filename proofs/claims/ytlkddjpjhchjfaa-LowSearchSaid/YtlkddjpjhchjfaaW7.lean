/- A search, step by step. -/
import Derived.Test.YtlkddjpjhchjfaaW5
import Derived.Test.YtlkddjpjhchjfaaW6
import Derived.ArgAppend
namespace Go.Proofs.Ytlkddjpjhchjfaa
set_option maxRecDepth 100000
open Go.RowKit

/-- A list that is taken from in front, and put to behind: in block g, from off on. -/
def QB (w : World) (g off cap : Nat) (q : List Nat) : Prop := ∃ cur : Array Value, w.heap[g]? = some (.cells cur 3 (0, 0)) ∧ off + cap ≤ cur.size ∧ q.length ≤ cap ∧ ∀ (j x : Nat), q[j]? = some x → cur[off + j]? = some (.int .i64 (x : Int))
theorem QB.keep {w w' : World} {g off cap : Nat} {q : List Nat} (h : QB w g off cap q) (hg : w'.heap[g]? = w.heap[g]?) : QB w' g off cap q := by
  obtain ⟨cur, h1, h2⟩ := h
  exact ⟨cur, hg.trans h1, h2⟩
theorem QB.room {w : World} {g off cap v : Nat} {q : List Nat} (h : QB w g off cap q) (hr : q.length + 1 ≤ cap) : QB (w.setCell ⟨g, off + q.length, none⟩ (.int .i64 (v : Int))) g off cap (q ++ [v]) := by
  obtain ⟨cur, h1, h2, h3, h4⟩ := h
  refine ⟨_, Go.Joins.block_setCell h1 _, by simpa using h2, by simpa using hr, fun j x hj => ?_⟩
  have hjl := (List.getElem?_eq_some_iff.1 hj).1
  simp only [List.length_append, List.length_singleton] at hjl
  by_cases e : j = q.length
  · subst e
    rw [List.getElem?_append_right (Nat.le_refl _), Nat.sub_self] at hj
    simp at hj
    subst hj
    rw [Array.getElem?_setIfInBounds_self_of_lt (by omega)]
  · rw [List.getElem?_append_left (by omega)] at hj
    rw [Array.getElem?_setIfInBounds_ne (by omega)]
    exact h4 j x hj
theorem QB.grow {w : World} {base v : Nat} {q : List Nat} {V : Value} (h : w.ownsRow base 3 1 V (q.length + 1) ((q.map fun x : Nat => Value.int .i64 (x : Int)) ++ [.int .i64 (v : Int)])) :
    ∃ g cap, V = .slice (some ⟨g, 0, none⟩) (q.length + 1) cap ∧ base ≤ g ∧ QB w g 0 cap (q ++ [v]) := by
  obtain ⟨hl, h0 | ⟨g, cap, cur, ev, hb, h2, hn, hm, hs, ht⟩⟩ := h
  · exact absurd h0.2 (by omega)
  · refine ⟨g, cap, ev, hb, cur, h2, by omega, by simpa using hn, fun j x hj => ?_⟩
    have hjl := (List.getElem?_eq_some_iff.1 hj).1
    simp only [List.length_append, List.length_singleton] at hjl
    have e : ((q.map fun x : Nat => Value.int .i64 (x : Int)) ++ [.int .i64 (v : Int)])[j]? = some (.int .i64 (x : Int)) := by
      have : ((q ++ [v]).map fun x : Nat => Value.int .i64 (x : Int))[j]? = some (.int .i64 (x : Int)) := by rw [List.getElem?_map, hj]; rfl
      simpa using this
    rw [← ht, List.getElem?_take, if_pos (by omega)] at e
    rw [Nat.zero_add]
    simpa using e
theorem QB.old {w : World} {g off cap : Nat} {q : List Nat} (h : QB w g off cap q) : ∀ (j : Nat) (u : Value), (q.map fun x : Nat => Value.int .i64 (x : Int))[j]? = some u → w.cell? ⟨g, off + j, none⟩ = some u := by
  obtain ⟨cur, h1, h2, h3, h4⟩ := h
  intro j u hj
  rw [List.getElem?_map, Option.map_eq_some_iff] at hj
  obtain ⟨x, hx, rfl⟩ := hj
  rw [cell_of h1]
  exact h4 j x hx
theorem QB.spare {w : World} {g off cap : Nat} {q : List Nat} (h : QB w g off cap q) (hr : q.length + 1 ≤ cap) : (w.cell? ⟨g, off + q.length, none⟩).isSome = true ∧ w.frozen? ⟨g, off + q.length, none⟩ = false := by
  obtain ⟨cur, h1, h2, h3, h4⟩ := h
  refine ⟨?_, free_of h1 _⟩
  rw [cell_of h1, Array.getElem?_eq_getElem (by omega)]
  rfl
def negV : Value → Bool
  | .int _ x => decide (x < 0)
  | _ => false
/-- How many of a block are below nought. -/
def negW (w : World) (g : Nat) : Nat := match w.heap[g]? with
  | some (.cells cur _ _) => (cur.toList.filter negV).length
  | _ => 0
theorem negW_eq {w : World} {g : Nat} {ds : List Int} {t : TypeId} {f : Nat × Nat} (h : w.heap[g]? = some (.cells (zs ds).toArray t f)) : negW w g = neg ds := by
  unfold negW neg
  rw [h]
  simp only [zs, List.filter_map, List.length_map]
  rfl
def Bd (N : Nat) (out : List Int) : Prop := ∀ v, v < N → gd out v + neg out < N
theorem neg_rep : ∀ n, neg (List.replicate n (-1)) = n
  | 0 => rfl
  | n + 1 => by
    have := neg_rep n
    unfold neg at this ⊢
    simp [List.replicate_succ] at this ⊢
theorem bd_start {N fr : Nat} (hf : fr < N) : Bd N ((List.replicate N (-1)).set fr 0) ∧ neg ((List.replicate N (-1)).set fr 0) + 1 = N := by
  have hn := neg_set (List.replicate N (-1)) fr 0 (by simpa using hf) (by simp [gd, List.getD, hf]) (Int.le_refl _)
  rw [neg_rep] at hn
  refine ⟨fun v hv => ?_, hn⟩
  rw [gd_set (by simpa using hf)]
  have : gd (List.replicate N (-1)) v = -1 := by simp [gd, List.getD, hv]
  split <;> omega
theorem Bd.push {N x v : Nat} {out : List Int} (h : Bd N out) (hl : v < out.length) (hx : x < N) (h0 : gd out v < 0) (hx0 : 0 ≤ gd out x) : Bd N (out.set v (gd out x + 1)) ∧ neg (out.set v (gd out x + 1)) + 1 = neg out := by
  have hn := neg_set out v (gd out x + 1) hl h0 (by omega)
  refine ⟨fun u hu => ?_, hn⟩
  rw [gd_set hl]
  have h1 := h u hu
  have h2 := h x hx
  split <;> omega
def lenV : Value → Nat
  | .slice _ n _ => n
  | _ => 0

set_option maxHeartbeats 8000000 in
theorem steps_any (A : Option Addr) (c N fr : Nat) (T : List (List Int)) (w : World) (hr : RdR w A T) (hT : OkT N T) (hI : ∀ u x, x ∈ T.getD u [] → ∃ v : Nat, x = (v : Int)) (hL : ∀ u, (T.getD u []).length ≤ 1000) (hf : fr < N) (hN : N ≤ 1000) :
    Calls Try.prog 60 #[.slice A N c, .int .i64 (fr : Nat)] w fun e w' => ∃ (B : Nat) (ds : List Int), e = .returned (.slice (some ⟨B, 0, none⟩) N N) ∧ w'.heap[B]? = some (.cells (zs ds).toArray 3 (0, 0)) ∧ (Dist T N fr ds ∧ ∀ v, v < N → gd ds v < N) ∧ w.heap.size ≤ B ∧ Below w.heap.size w w' := by
  obtain ⟨i0, hi0, hz0, hz1, hz2⟩ := info_partsI i64info
  have hF0 : (0 : Int) ≤ (fr : Int) := by omega
  have hF1 : (fr : Int) < (N : Nat) := by omega
  have HR := Lib.hid hr
  have HT := Lib.hid hT
  have HI := Lib.hid hI
  have HL := Lib.hid hL
  have HC0 : Hid ((w.alloc (.cells #[.int .i64 (-1)] 3)).cell? ⟨w.heap.size, 0, none⟩ = some (.int .i64 (-1))) := by show _ = _; simp
  clear hr hT hI hL
  go_enter Try.func60, Try.ntmps60
  go_wp2_with fail
  refine (repeat_any w.heap.size N (-1) _ HC0.out (by omega)).mono ?_
  rintro e w1 ⟨Bo, rfl, hBo, hBl, hb1⟩
  have hBw : w.heap.size + 1 ≤ Bo := by simpa using hBl
  have hBs : Bo < w1.heap.size := lt_of_block hBo
  have hb0 : Below w.heap.size w w1 := ((Below.refl _ _).alloc (Nat.le_refl _) _).trans (hb1.mono (by simp))
  have hq1 : w1.cell? ⟨Bo, fr, none⟩ = some (.int .i64 (-1)) := by rw [cell_of hBo]; simp [hf]
  have hq2 : w1.frozen? ⟨Bo, fr, none⟩ = false := free_of hBo fr
  have hst : (w1.setCell ⟨Bo, fr, none⟩ (.int .i64 0)).heap[Bo]? = some (.cells (zs ((List.replicate N (-1)).set fr 0)).toArray 3 (0, 0)) := by
    rw [Go.Joins.block_setCell hBo]
    simp [zs, zv, List.map_set]
    apply Array.ext'
    simp
  have hbs : Below w.heap.size w (w1.setCell ⟨Bo, fr, none⟩ (.int .i64 0)) := hb0.setCell (by show w.heap.size ≤ Bo; omega) _
  have hsz : (w1.setCell ⟨Bo, fr, none⟩ (.int .i64 0)).heap.size = w1.heap.size := by simp [World.setCell]
  have HST := Lib.hid (blk_below hst ((Below.refl _ _).alloc (Nat.le_refl _) (.cells #[.int .i64 (fr : Int)] 3)))
  have HQB : Hid (QB ((w1.setCell ⟨Bo, fr, none⟩ (.int .i64 0)).alloc (.cells #[.int .i64 (fr : Int)] 3)) w1.heap.size 0 1 [fr]) := by
    refine ⟨#[.int .i64 (fr : Int)], ?_, by simp, by simp, fun j x hj => ?_⟩
    · have := heap_alloc_new (w1.setCell ⟨Bo, fr, none⟩ (.int .i64 0)) (.cells #[.int .i64 (fr : Int)] 3)
      rw [hsz] at this
      exact this
    · have hjl := (List.getElem?_eq_some_iff.1 hj).1
      simp at hjl
      subst hjl
      simp at hj
      subst hj
      simp
  have HBS := Lib.hid (hbs.alloc hbs.size (.cells #[.int .i64 (fr : Int)] 3))
  clear hst hbs hBl hb1 hBo hsz hb0
  go_wp2_with fail
  go_loopw [6] (fun s wr => ∃ (out : List Int) (q : List Nat) (g off cap : Nat), s = .slice (some ⟨g, off, none⟩) q.length cap ∧ Hid (QB wr g off cap q) ∧ g ≠ Bo ∧ w.heap.size ≤ g ∧ Hid (wr.heap[Bo]? = some (.cells (zs out).toArray 3 (0, 0))) ∧ Hid (Outer T N fr out q) ∧ Hid (Bd N out) ∧ 2 * neg out + q.length ≤ 2 * N ∧ Hid (Below w.heap.size w wr)) (fun s wr => 2 * negW wr Bo + lenV s)
  case atStart => exact ⟨_, [fr], w1.heap.size, 0, 1, by simp, HQB, by omega, by omega, HST, Lib.hid (outer_start T hf), Lib.hid (bd_start hf).1, by have := (bd_start hf).2; simp; omega, HBS⟩
  case round =>
    obtain ⟨out, q, g, off, cap, rfl, hqb, hgB, hgw, hout, hO, hBd, hM, hb⟩ := hrel
    match q with
    | [] =>
      go_wp2_with fail
      go_ret
      exact ⟨Bo, out, rfl, hout.out, ⟨hO.out.dist, fun v hv => by have := hBd.out v hv; omega⟩, by omega, hb.out⟩
    | x :: r =>
      obtain ⟨cur, hg, hcc, hql, hqc⟩ := hqb.out
      obtain ⟨hxN, hx0⟩ := hO.out.base.met x (by simp)
      have c0 : wr.cell? ⟨g, off, none⟩ = some (.int .i64 (x : Int)) := by
        rw [cell_of hg]
        exact hqc 0 x rfl
      have hX0 : (0 : Int) ≤ (x : Int) := by omega
      have hX1 : (x : Int) < (N : Nat) := by omega
      have hql2 : r.length + 1 ≤ cap := by simpa using hql
      have hQ2 : Hid (∃ off2 cap2, (cap = 1 → off2 = off ∧ cap2 = 0) ∧ (cap ≠ 1 → off2 = off + 1 ∧ cap2 = cap - 1) ∧ QB wr g off2 cap2 r) := by
        by_cases h1 : cap = 1
        · refine ⟨off, 0, fun _ => ⟨rfl, rfl⟩, fun h => absurd h1 h, cur, hg, by omega, by omega, fun j y hj => ?_⟩
          have := (List.getElem?_eq_some_iff.1 hj).1
          omega
        · refine ⟨off + 1, cap - 1, fun h => absurd h h1, fun _ => ⟨rfl, rfl⟩, cur, hg, by omega, by omega, fun j y hj => ?_⟩
          have := hqc (j + 1) y (by simpa using hj)
          rw [show off + 1 + j = off + (j + 1) by omega]
          exact this
      have hI1 : (1 : Int) ≤ ((r.length + 1 : Nat) : Int) := by omega
      clear hqc hqb hql
      go_upto_region 6 with fail
      go_cut [6] from 19 to 53 (fun s6 wx => ∃ off2 cap2, s6 = .slice (some ⟨g, off2, none⟩) r.length cap2 ∧ wx = wr ∧ Hid (QB wr g off2 cap2 r))
      case first =>
        by_cases h1 : cap = 1
        · subst h1
          obtain ⟨off2, cap2, e1, _, hQ⟩ := hQ2.out
          obtain ⟨rfl, rfl⟩ := e1 rfl
          have hr0 : r.length = 0 := by omega
          go_wp2_with fail
          go_meet
          exact ⟨off2, 0, by rw [hr0], rfl, hQ⟩
        · obtain ⟨off2, cap2, _, e2, hQ⟩ := hQ2.out
          obtain ⟨rfl, rfl⟩ := e2 h1
          have h1' : ¬ (1 = cap) := fun e => h1 e.symm
          have hc1 : (1 : Int) < (cap : Int) := by omega
          go_wp2_with fail
          go_meet
          exact ⟨off + 1, cap - 1, rfl, rfl, hQ⟩
      case rest =>
        obtain ⟨off2, cap2, rfl, rfl, hQ⟩ := hcut
        obtain ⟨xs, hxs⟩ : ∃ xs, T[x]? = some xs := ⟨_, List.getElem?_eq_getElem (by rw [HT.out.1]; exact hxN)⟩
        have hTx : T.getD x [] = xs := by simp [List.getD, hxs]
        obtain ⟨ad, Bx, cx, hA, hadl, hadc0, hrow⟩ := HR.out x xs hxs
        subst hA
        have hadc : wc.cell? (ad.add x) = some (.slice Bx xs.length cx) := by rw [hb.out.cell (by rw [block_add]; exact hadl)]; exact hadc0
        have HTX := Lib.hid hTx
        have hxl : xs.length ≤ 1000 := by rw [← hTx]; exact HL.out x
        have HRW := Lib.hid hrow
        have HO2 := Lib.hid (hO.out.open_)
        have HM0 : Hid (negW wc Bo = neg out) := negW_eq hout.out
        have hM2 : 2 * neg out + r.length + 1 ≤ 2 * N := by simpa [Nat.add_assoc] using hM
        have hwr : w.heap.size ≤ wc.heap.size := hb.out.size
        clear hrow hTx hxs c0 hg hcc hQ2 hql2 hadc0 hM
        go_wp2_with fail
        clear hadc
        obtain ⟨N0, hN0⟩ : ∃ N0, N0 = neg out := ⟨_, rfl⟩
        rw [← hN0] at hM2
        go_loopw [6, 32] (fun s6 s32 wn => ∃ (i : Nat) (o2 : List Int) (q2 : List Nat) (g2 off3 cap3 : Nat), s6 = .slice (some ⟨g2, off3, none⟩) q2.length cap3 ∧ s32 = .int .i64 i ∧ i ≤ xs.length ∧ Hid (QB wn g2 off3 cap3 q2) ∧ g2 ≠ Bo ∧ w.heap.size ≤ g2 ∧
          Hid (wn.heap[Bo]? = some (.cells (zs o2).toArray 3 (0, 0))) ∧ Hid (Inner T N fr x o2 q2 i) ∧ Hid (Bd N o2) ∧ 2 * neg o2 + q2.length ≤ 2 * N0 + r.length ∧ Hid (Below w.heap.size w wn)) (fun _ s32 _ => xs.length - (intOf s32).toNat)
        case atStart => exact ⟨0, out, r, g, off2, cap2, rfl, rfl, Nat.zero_le _, hQ, hgB, hgw, hout, HO2, hBd, by omega, hb⟩
        case round =>
          obtain ⟨i, o2, q2, g2, off3, cap3, rfl, rfl, hi, hQ3, hgB2, hgw2, hout2, hIn, hBd2, hM3, hb2⟩ := hrel
          by_cases hlt : i < xs.length
          · obtain ⟨y, hy⟩ : ∃ y, xs[i]? = some y := ⟨_, List.getElem?_eq_getElem hlt⟩
            obtain ⟨v, rfl⟩ := HI.out x y (by rw [HTX.out]; exact List.mem_of_getElem? hy)
            have hvN : v < N := HT.out.2 x v (by rw [HTX.out, List.contains_iff_mem]; exact List.mem_of_getElem? hy)
            obtain ⟨ad2, rfl, hal2, d0⟩ := (HRW.out.below hb2.out) i _ hy
            have hlen : o2.length = N := hIn.out.base.len
            have e0 : wr.cell? ⟨Bo, v, none⟩ = some (.int .i64 (gd o2 v)) := by
              rw [cell_of hout2.out]
              simp [zs, zv, gd, List.getD, List.getElem?_eq_getElem (show v < o2.length by omega)]
            have e1 : wr.cell? ⟨Bo, x, none⟩ = some (.int .i64 (gd o2 x)) := by
              rw [cell_of hout2.out]
              simp [zs, zv, gd, List.getD, List.getElem?_eq_getElem (show x < o2.length by omega)]
            have e2 : wr.frozen? ⟨Bo, v, none⟩ = false := free_of hout2.out v
            have hI0 : (0 : Int) ≤ (i : Int) := by omega
            have hI1 : (i : Int) < (xs.length : Nat) := by omega
            have hV0 : (0 : Int) ≤ (v : Int) := by omega
            have hV1 : (v : Int) < (N : Nat) := by omega
            have HY : Hid ((T.getD x [])[i]? = some (v : Int)) := by show _ = _; rw [HTX.out]; exact hy
            by_cases hneg : gd o2 v < 0
            · have dn : decide (gd o2 v < 0) = true := by simpa using hneg
              have hx1 := hIn.out.here.2
              obtain ⟨hbd1, hbd2⟩ := hBd2.out.push (x := x) (v := v) (by omega) hxN hneg hx1
              have hgx : gd o2 x + 1 ≤ 1000 := by have := hBd2.out x hxN; omega
              have HPU := Lib.hid (hIn.out.push HY.out hvN hneg)
              have HBP := Lib.hid hbd1
              have HNP : Hid (neg (o2.set v (gd o2 x + 1)) + 1 = neg o2) := hbd2
              have hBoS : Bo < wr.heap.size := lt_of_block hout2.out
              have hst : (wr.setCell ⟨Bo, v, none⟩ (.int .i64 (gd o2 x + 1))).heap[Bo]? = some (.cells (zs (o2.set v (gd o2 x + 1))).toArray 3 (0, 0)) := by
                rw [Go.Joins.block_setCell hout2.out]
                simp [zs, zv, List.map_set]
              have hqk : QB (wr.setCell ⟨Bo, v, none⟩ (.int .i64 (gd o2 x + 1))) g2 off3 cap3 q2 := hQ3.out.keep (Below.heap_setCell _ _ _ _ hgB2)
              have hbk : Below w.heap.size w (wr.setCell ⟨Bo, v, none⟩ (.int .i64 (gd o2 x + 1))) := hb2.out.setCell (by show w.heap.size ≤ Bo; omega) _
              have hzz : (wr.setCell ⟨Bo, v, none⟩ (.int .i64 (gd o2 x + 1))).heap.size = wr.heap.size := by simp [World.setCell]
              have hgs : g2 < wr.heap.size := by obtain ⟨_, h1, _⟩ := hQ3.out; exact lt_of_block h1
              have hww : IntKind.i64.wrap (gd o2 x + 1) = gd o2 x + 1 := IntWalk.i64_in _ (by omega)
              generalize gd o2 v = gv at *
              generalize gd o2 x = gx at *
              obtain ⟨o3, ho3⟩ : ∃ o3, o3 = o2.set v (gx + 1) := ⟨_, rfl⟩
              rw [← ho3] at HPU HBP HNP hst
              obtain ⟨Y, hY⟩ : ∃ Y, Y = wr.setCell ⟨Bo, v, none⟩ (.int .i64 (gx + 1)) := ⟨_, rfl⟩
              rw [← hY] at hst hqk hbk hzz
              have hyb : Below Y.heap.size Y (Y.alloc (.cells #[.int .i64 (v : Int)] 3)) := (Below.refl _ _).alloc (Nat.le_refl _) _
              have HQX : Hid (QB (Y.alloc (.cells #[.int .i64 (v : Int)] 3)) g2 off3 cap3 q2) := hqk.keep (hyb.block _ (by omega))
              have HOX : Hid ((Y.alloc (.cells #[.int .i64 (v : Int)] 3)).heap[Bo]? = some (.cells (zs o3).toArray 3 (0, 0))) := (hyb.block _ (by omega)).trans hst
              have HBX := Lib.hid (hbk.alloc hbk.size (.cells #[.int .i64 (v : Int)] 3))
              have HNW : Hid (∀ (j : Nat) (u : Value), [Value.int .i64 (v : Int)][j]? = some u → (Y.alloc (.cells #[.int .i64 (v : Int)] 3)).cell? ((⟨Y.heap.size, 0, none⟩ : Addr).add j) = some u) := by
                intro j u hj
                have hj0 : j = 0 := by have := (List.getElem?_eq_some_iff.1 hj).1; simp at this; omega
                subst hj0
                rw [← hj, add_off]
                exact World.cell?_alloc_at _ _ _ _ rfl
              have HOL := Lib.hid HQX.out.old
              have HSP : Hid (q2.length + 1 ≤ cap3 → ∀ j, j < [Value.int .i64 (v : Int)].length → ((Y.alloc (.cells #[.int .i64 (v : Int)] 3)).cell? ⟨g2, off3 + q2.length * 1 + j, none⟩).isSome = true ∧ (Y.alloc (.cells #[.int .i64 (v : Int)] 3)).frozen? ⟨g2, off3 + q2.length * 1 + j, none⟩ = false) := by
                intro h j hj
                obtain rfl : j = 0 := by simpa using hj
                have := HQX.out.spare h
                simpa using this
              have hsY : Y.heap.size = wr.heap.size := hzz
              have hq2l : q2.length ≤ 2000 := by omega
              obtain ⟨olds, holds⟩ : ∃ olds, olds = q2.map (fun x : Nat => Value.int .i64 (x : Int)) := ⟨_, rfl⟩
              rw [← holds] at HOL
              have HLO : Hid (olds.length = q2.length * 1) := by show _ = _; rw [holds]; simp
              have HOE := Lib.hid holds
              have HY2 := Lib.hid hY
              clear hst hqk hbk hyb hY holds hbd1 hbd2 ho3
              by_cases hroom : q2.length + 1 ≤ cap3
              · go_wp2_with (first
                  | (at_builtin; refine wpList_append_arg _ rfl _ _ 35 rfl 3 i0 (.int .i64 0) 1 8 Try.underlying35 hi0 hz0 hz1 hz2 rfl (by decide) g2 off3 q2.length cap3 olds rfl HLO.out (by rw [← HY2.out]; exact HOL.out) ⟨Y.heap.size, 0, none⟩ 1 1 [.int .i64 (v : Int)] (by rw [hsY]; rfl) rfl (by rw [← HY2.out]; exact HNW.out) (by simp [Value.oneCell']) (by rw [← HY2.out]; exact HSP.out) (by simp [maxLen]; omega) (by omega) (fun _ => ?_) (fun h => absurd h (by omega))))
                go_roundw
                case rel =>
                  have h1 := HQX.out.room (v := v) hroom
                  have h2 : ((Y.alloc (.cells #[.int .i64 (v : Int)] 3)).setCell ⟨g2, off3 + q2.length, none⟩ (.int .i64 (v : Int))).heap[Bo]? = some (.cells (zs o3).toArray 3 (0, 0)) := by
                    rw [Below.heap_setCell _ _ _ _ (by exact fun e => hgB2 e.symm)]
                    exact HOX.out
                  have h3 := HBX.out.setCell (p := ⟨g2, off3 + q2.length, none⟩) hgw2 (.int .i64 (v : Int))
                  have h4 := HNP.out
                  rw [HY2.out] at h1 h2 h3
                  exact ⟨i + 1, o3, q2 ++ [v], g2, off3, cap3, by simp, by go_num, by omega, Lib.hid h1, hgB2, hgw2, Lib.hid h2, HPU, HBP, by simp; omega, Lib.hid h3⟩
                case measure => simp [intOf]; omega
              · go_wp2_with (first
                  | (at_builtin; refine wpList_append_arg _ rfl _ _ 35 rfl 3 i0 (.int .i64 0) 1 8 Try.underlying35 hi0 hz0 hz1 hz2 rfl (by decide) g2 off3 q2.length cap3 olds rfl HLO.out (by rw [← HY2.out]; exact HOL.out) ⟨Y.heap.size, 0, none⟩ 1 1 [.int .i64 (v : Int)] (by rw [hsY]; rfl) rfl (by rw [← HY2.out]; exact HNW.out) (by simp [Value.oneCell']) (by rw [← HY2.out]; exact HSP.out) (by simp [maxLen]; omega) (by omega) (fun h => absurd h (by omega)) (fun _ V w5 hown hgr => ?_)
                     rw [HOE.out] at hown
                     obtain ⟨g', cap', rfl, hge, hqn⟩ := QB.grow hown
                     rw [← HY2.out] at hge hgr))
                go_roundw
                case rel =>
                  have hge2 : Y.heap.size + 1 ≤ g' := by simpa using hge
                  have h2 : w5.heap[Bo]? = some (.cells (zs o3).toArray 3 (0, 0)) := by
                    rw [hgr.block Bo (by simp only [World.size_alloc]; omega) (by simp)]
                    exact HOX.out
                  have h3 := HBX.out.grown hgr (by simp only [World.size_alloc]; omega) (fun k e => by cases e)
                  have h4 := HNP.out
                  exact ⟨i + 1, o3, q2 ++ [v], g', 0, cap', by simp, by go_num, by omega, Lib.hid hqn, by omega, by omega, Lib.hid h2, HPU, HBP, by simp; omega, Lib.hid h3⟩
                case measure => simp [intOf]; omega
            · have dn : decide (gd o2 v < 0) = false := by simpa using hneg
              have HSK := Lib.hid (hIn.out.skip HY.out hvN (by omega))
              generalize gd o2 v = gv at *
              generalize gd o2 x = gx at *
              go_wp2_with fail
              go_roundw
              case rel => exact ⟨i + 1, o2, q2, g2, off3, cap3, rfl, by go_num, by omega, hQ3, hgB2, hgw2, hout2, HSK, hBd2, hM3, hb2⟩
              case measure => simp [intOf]; omega
          · obtain rfl : i = xs.length := by omega
            go_wp2_with fail
            go_roundw
            case rel => exact ⟨o2, q2, g2, off3, cap3, rfl, hQ3, hgB2, hgw2, hout2, Lib.hid (hIn.out.close (by rw [HTX.out]; exact Nat.le_refl _)), hBd2, by omega, hb2⟩
            case measure =>
              rw [negW_eq hout2.out, HM0.out, ← hN0]
              simp [lenV]
              omega
end Go.Proofs.Ytlkddjpjhchjfaa
