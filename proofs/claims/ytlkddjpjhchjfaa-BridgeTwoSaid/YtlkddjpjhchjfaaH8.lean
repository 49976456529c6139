/- bridge.gathered (layer 8). -/
import Derived.Test.YtlkddjpjhchjfaaU3
import Derived.Test.YtlkddjpjhchjfaaWM
import Derived.Test.YtlkddjpjhchjfaaH2
import Derived.Deep.AppendLies
import Derived.Maps.AppendAt
namespace Go.Proofs.Ytlkddjpjhchjfaa
set_option maxRecDepth 100000
open Go.RowKit Go.Maps

theorem MapZ.same {w w' : World} {b n k : Nat} {f : Int → Option Int} (h : MapZ w b n f k) (hs : w'.heap[b]? = w.heap[b]?) : MapZ w' b n f k := by
  obtain ⟨D, ⟨es, clock, h1, F, hs2, e⟩, h2⟩ := h
  exact ⟨D, ⟨es, clock, hs.trans h1, F, hs2, e⟩, h2⟩
theorem own_ne8 {w : World} {base size n g : Nat} {e e' : TypeId} {v : Value} {xs : List Value} {cs : Array Value} {f : Nat × Nat} (h : w.ownsRow base e size v n xs) (hg : w.heap[g]? = some (.cells cs e' f)) (hne : e ≠ e') : v.ownBlock ≠ some g := by
  obtain ⟨_, h0 | ⟨g', cap, cur, ev, _, h2, _⟩⟩ := h
  · rw [h0.1]; simp [Value.ownBlock]
  · rw [ev]
    intro e1
    have e2 : g' = g := by simpa [Value.ownBlock] using e1
    subst e2
    rw [h2] at hg
    injection hg with hg
    injection hg with _ h3 _
    exact hne h3
theorem own_block {w : World} {base size n m c g : Nat} {e : TypeId} {cs : List Value} (h : w.ownsRow base e size (.slice (some ⟨g, 0, none⟩) m c) n cs) : ∃ cur, w.heap[g]? = some (.cells cur e (0, 0)) := by
  obtain ⟨_, h0 | ⟨g', cap, cur, ev, _, h2, _⟩⟩ := h
  · cases h0.1
  · have : g = g' := by injection ev with a; injection a with a; injection a
    subst this
    exact ⟨cur, h2⟩
theorem own_pos {w : World} {base size n : Nat} {e : TypeId} {v : Value} {cs : List Value} (h : w.ownsRow base e size v n cs) {k : Nat} (hk : v.ownBlock = some k) : base ≤ k ∧ k < w.heap.size := h.lt k hk
/-- What lies between two rounds. -/
structure GI (n Bh : Nat) (r d : Nat → Nat) (w0 : World) (own : Nat → Nat) (k : Nat) (F : List (List (Int × Int) × List Int)) (V : Value) (fr : List (Value × Value)) (wr : World) : Prop where
  fr : Frags wr (w0.heap.size + 1) V fr F
  mp : ∃ (nn kk : Nat) (f : Int → Option Int), nn ≤ k ∧ MapZ wr w0.heap.size nn f kk ∧ ∀ z, f z = placeZ own k z
  uf : ∃ H, UF n H r d ∧ OwnH wr Bh H
  on : Only Bh w0 wr
  sz : w0.heap.size + 1 ≤ wr.heap.size
  lt : Bh < w0.heap.size
theorem GI.next {n Bh : Nat} {r d : Nat → Nat} {w0 : World} {own : Nat → Nat} {k : Nat} {F F' : List (List (Int × Int) × List Int)} {V V' : Value} {fr fr' : List (Value × Value)} {wr wr' : World} (h : GI n Bh r d w0 own k F V fr wr) (hb : Below (w0.heap.size + 1) wr wr') (hF : Frags wr' (w0.heap.size + 1) V' fr' F') : GI n Bh r d w0 own k F' V' fr' wr' := by
  obtain ⟨h1, ⟨nn, kk, f, m1, m2, m3⟩, ⟨H, u1, u2⟩, h4, h5, h6⟩ := h
  exact ⟨hF, ⟨nn, kk, f, m1, m2.same (hb.block _ (by omega)), m3⟩, ⟨H, u1, (hb.block _ (by omega)).trans u2⟩,
    ⟨hb.os.trans h4.os, hb.tape.trans h4.tape, hb.output.trans h4.output, Nat.le_trans h4.size hb.size, fun i hi hn => (hb.block i (by omega)).trans (h4.same i hi hn)⟩, Nat.le_trans h5 hb.size, h6⟩
theorem GI.below {n Bh : Nat} {r d : Nat → Nat} {w0 : World} {own : Nat → Nat} {k : Nat} {F : List (List (Int × Int) × List Int)} {V : Value} {fr : List (Value × Value)} {wr wr' : World} (h : GI n Bh r d w0 own k F V fr wr) (hb : Below wr.heap.size wr wr') : GI n Bh r d w0 own k F V fr wr' := h.next (hb.mono h.sz) (h.fr.below hb)
theorem GI.heads {n Bh : Nat} {r d : Nat → Nat} {w0 : World} {own : Nat → Nat} {k : Nat} {F : List (List (Int × Int) × List Int)} {V : Value} {fr : List (Value × Value)} {wr wr' : World} (h : GI n Bh r d w0 own k F V fr wr) (hb : Only Bh wr wr') (hu : ∃ H, UF n H r d ∧ OwnH wr' Bh H) : GI n Bh r d w0 own k F V fr wr' := by
  obtain ⟨h1, ⟨nn, kk, f, m1, m2, m3⟩, _, h4, h5, h6⟩ := h
  exact ⟨h1.only hb (by omega), ⟨nn, kk, f, m1, m2.same (hb.same _ (by omega) (by omega)), m3⟩, hu, h4.trans hb, Nat.le_trans h5 hb.size, h6⟩
/-- The map holds one place more. -/
theorem GI.mapped {n Bh : Nat} {r d : Nat → Nat} {w0 : World} {own : Nat → Nat} {k : Nat} {F : List (List (Int × Int) × List Int)} {V : Value} {fr : List (Value × Value)} {wr w6 : World} (h : GI n Bh r d w0 own k F V fr wr) (hn : place own k (own k) = none) {nn kk : Nat} {f : Int → Option Int} (hnn : nn ≤ k) (hf : ∀ z, f z = placeZ own k z)
    (hM : MapZ w6 w0.heap.size (nn + 1) (upd f ((own k : Nat) : Int) (((firsts own k).length : Nat) : Int)) kk) (hg : wr.grownBy w6 (some w0.heap.size)) : GI n Bh r d w0 own (k + 1) F V fr w6 := by
  obtain ⟨h1, _, ⟨H, u1, u2⟩, h4, h5, h6⟩ := h
  have hsame : ∀ i, i < wr.heap.size → i ≠ w0.heap.size → w6.heap[i]? = wr.heap[i]? := fun i hi hne => hg.block i hi (by simpa using hne)
  refine ⟨h1.same fun q hq hl => hsame q hl (by omega), ⟨nn + 1, kk, _, by omega, hM, fun z => ?_⟩, ⟨H, u1, (hsame Bh (by omega) (by omega)).trans u2⟩,
    ⟨hg.os.trans h4.os, hg.tape.trans h4.tape, hg.output.trans h4.output, Nat.le_trans h4.size hg.size, fun i hi hne => (hsame i (by omega) (by omega)).trans (h4.same i hi hne)⟩, Nat.le_trans h5 hg.size, h6⟩
  rw [placeZ_new hn]
  unfold upd
  rw [hf z]
/-- An owner that is met again. -/
theorem GI.again {n Bh : Nat} {r d : Nat → Nat} {w0 : World} {own : Nat → Nat} {k a : Nat} {F : List (List (Int × Int) × List Int)} {V : Value} {fr : List (Value × Value)} {wr : World} (h : GI n Bh r d w0 own k F V fr wr) (hn : place own k (own k) = some a) : GI n Bh r d w0 own (k + 1) F V fr wr := by
  obtain ⟨h1, ⟨nn, kk, f, m1, m2, m3⟩, h3, h4, h5, h6⟩ := h
  exact ⟨h1, ⟨nn, kk, f, by omega, m2, fun z => by rw [placeZ_old hn]; exact m3 z⟩, h3, h4, h5, h6⟩
theorem below_set {b : Nat} {w w' : World} (h : Below b w w') {p : Addr} (hp : b ≤ p.block) (u : Value) : Below b w (w'.setCell p u) := h.setCell hp u
set_option maxHeartbeats 32000000 in
theorem gathered_any (n m pr po pf pb Bh : Nat) (A B : Option Addr) (c dc : Nat) (L : List (Int × Int)) (on : Nat → Bool) (r d : Nat → Nat) (w : World) (hm : m = L.length) (hms : m ≤ 1000000) (hn : n ≤ 1000000) (hJ : ∃ H, UF n H r d ∧ OwnH w Bh H)
    (hcl : ∀ w', Only Bh w w' → w'.cell? ⟨pr, 0, none⟩ = some (.slice A m c) ∧ w'.cell? ⟨po, 0, none⟩ = some (.slice B n dc) ∧ w'.cell? ⟨pf, 0, none⟩ = some (.func (.func 81) #[] #[.pointer (some ⟨pb, 0, none⟩)]) ∧ w'.cell? ⟨pb, 0, none⟩ = some (.slice (some ⟨Bh, 0, none⟩) n n))
    (hL : ∀ w', Only Bh w w' → RdP w' A L) (hO : ∀ w', Only Bh w w' → RdO w' B n on) (hpb : pb < w.heap.size) (hne : pb ≠ Bh) (hBh : Bh < w.heap.size) (hin : ∀ e ∈ L, 0 ≤ e.1 ∧ e.1 < n ∧ 0 ≤ e.2 ∧ e.2 < n) :
    Calls Try.prog 67 #[.slice A m c, .slice B n dc, .func (.func 82) #[] #[.pointer (some ⟨pr, 0, none⟩), .pointer (some ⟨po, 0, none⟩), .pointer (some ⟨pf, 0, none⟩)]] w fun e w' =>
      ∃ V fr, e = .returned V ∧ Frags w' w.heap.size V fr ((fragsO on L (ownF n on r L) m).map fin1) ∧ Only Bh w w' := by
  obtain ⟨own, hown⟩ : ∃ own, own = ownF n on r L := ⟨_, rfl⟩
  rw [← hown]
  have HOWN := Lib.hid hown
  obtain ⟨W, hW⟩ : ∃ W, W = w.alloc (.map #[] 0) := ⟨_, rfl⟩
  have hbW : Below w.heap.size w W := by rw [hW]; exact (Below.refl _ _).alloc (Nat.le_refl _) _
  have hG0 : GI n Bh r d w own 0 (fragsO on L own 0) (.slice none 0 0) [] W := by
    obtain ⟨H, u1, u2⟩ := hJ
    refine ⟨?_, ⟨0, 0, fun _ => none, Nat.le_refl _, ?_, fun z => by rw [placeZ_zero]⟩, ⟨H, u1, (hbW.block _ hBh).trans u2⟩, Only.of hbW, by rw [hW]; simp, hBh⟩
    · exact Frags.nil _ _
    · rw [hW]; exact MapZ.made w
  have HG0 := Lib.hid hG0
  have HR : Hid (∀ i, i < m → own i ≤ n + m ∧ ∀ e, L[i]? = some e → own i < n + m + 1) := by
    obtain ⟨H, u1, _⟩ := hJ
    intro i hi
    obtain ⟨e, he⟩ : ∃ e, L[i]? = some e := ⟨_, List.getElem?_eq_getElem (by omega)⟩
    have h4 := hin e (List.mem_of_getElem? he)
    have hg : L.getD i (0, 0) = e := by rw [List.getD_eq_getElem?_getD, he]; rfl
    have hle : own i ≤ n + m := by
      rw [hown]
      unfold ownF
      rw [hg]
      have h5 := u1.rlt e.1.toNat (by omega)
      have h6 := u1.rlt e.2.toNat (by omega)
      split
      · omega
      · split <;> omega
    exact ⟨hle, fun _ _ => by omega⟩
  have HCL := Lib.hid hcl
  have HL := Lib.hid hL
  have HO := Lib.hid hO
  have HIN := Lib.hid hin
  have HM := Lib.hid hm
  have HW := Lib.hid hW
  have HBH := Lib.hid hBh
  obtain ⟨i0, hi0, hz0, hz1, hz2⟩ := info_partsI i64info
  obtain ⟨i1, hi1, hy0, hy1, hy2⟩ := info_partsI pairinfo
  obtain ⟨i2, hi2, hx0, hx1, hx2⟩ := info_partsI fraginfo
  have hmm := @run_makeMap Try.prog
  clear hm hJ hcl hL hO hin hBh hW hG0 hbW hown
  go_enter Try.func67, Try.ntmps67
  go_wp2_with fail
  rw [← HW.out]
  go_loopw [21, 8] (fun s21 s8 wr => ∃ (k : Nat) (V : Value) (fr : List (Value × Value)), k ≤ m ∧ s21 = .int .i64 k ∧ s8 = V ∧ Hid (GI n Bh r d w own k (fragsO on L own k) V fr wr)) (fun s21 _ _ => m - (intOf s21).toNat)
  case atStart => exact ⟨0, _, [], Nat.zero_le _, rfl, rfl, HG0⟩
  case round =>
    obtain ⟨k, V, fr, hk, rfl, rfl, hG⟩ := hrel
    by_cases h1 : k < m
    · have t1 : decide ((k : Int) < (m : Int)) = true := by simp; omega
      have hK0 : (0 : Int) ≤ (k : Int) := by omega
      have hK1 : (k : Int) < (m : Nat) := by omega
      obtain ⟨e, he⟩ : ∃ e, L[k]? = some e := ⟨_, List.getElem?_eq_getElem (by rw [← HM.out]; exact h1)⟩
      obtain ⟨x0, x1, y0, y1⟩ := HIN.out e (List.mem_of_getElem? he)
      obtain ⟨ad, rfl, _, p0, p1⟩ := (HL.out wr hG.out.on) k e he
      obtain ⟨ex, ey⟩ := e
      simp only at x0 x1 y0 y1 p0 p1
      obtain ⟨x, rfl⟩ := Int.eq_ofNat_of_zero_le x0
      obtain ⟨y, rfl⟩ := Int.eq_ofNat_of_zero_le y0
      have HE := Lib.hid he
      have hbY : Below wr.heap.size wr (wr.alloc (.cells #[.int .i64 (x : Nat), .int .i64 (y : Nat)] 51)) := (Below.refl _ _).alloc (Nat.le_refl _) _
      have hEB : (wr.alloc (.cells #[.int .i64 (x : Nat), .int .i64 (y : Nat)] 51)).heap[wr.heap.size]? = some (.cells #[.int .i64 (x : Nat), .int .i64 (y : Nat)] 51 (0, 0)) := heap_alloc_new wr _
      have HGY := Lib.hid (hG.out.below hbY)
      have HNP : Hid (∀ p ∈ fr, p.1.ownBlock ≠ some wr.heap.size) := by
        intro p hp e
        obtain ⟨j, hj⟩ := List.getElem?_of_mem hp
        obtain ⟨z, hz⟩ : ∃ z, (fragsO on L own k)[j]? = some z := ⟨_, List.getElem?_eq_getElem (by have := (List.getElem?_eq_some_iff.1 hj).1; have := hG.out.fr.len; omega)⟩
        have := ((hG.out.fr.edges j p z hj hz).lt _ e).2
        omega
      have hpe0 : w.heap.size + 1 ≤ wr.heap.size := hG.out.sz
      clear he hbY hG
      go_upto_region 6 with fail
      obtain ⟨pe, hpe⟩ : ∃ pe, wr.heap.size = pe := ⟨_, rfl⟩
      generalize wr.alloc (.cells #[.int .i64 (x : Nat), .int .i64 (y : Nat)] 51) = Y at *
      rw [hpe] at hEB HNP hpe0 ⊢
      clear p0 p1 hpe
      have hon : Only Bh w Y := HGY.out.on
      obtain ⟨H, u1, u2⟩ := HGY.out.uf
      obtain ⟨c1, c2, c3, c4⟩ := HCL.out Y hon
      have HQ : Hid (Calls Try.prog 82 #[.int .i64 (k : Int), .pointer (some ⟨pr, 0, none⟩), .pointer (some ⟨po, 0, none⟩), .pointer (some ⟨pf, 0, none⟩)] Y fun e w' => e = .returned (.int .i64 ((own k : Nat) : Int)) ∧ ∃ H', UF n H' r d ∧ OwnH w' Bh H' ∧ Only Bh Y w') := by
        show Calls _ _ _ _ _
        rw [HOWN.out]
        exact owner2_any n m pr po pb pf Bh k (some ad) B c dc L on H r d Y h1 HM.out hms hn u1 u2 c1 c2 c3 c4 (Nat.lt_of_lt_of_le hpb hon.size) hne (HL.out Y hon) (HO.out Y hon) HIN.out
      have hHR := (HR.out k h1).1
      have HEB := Lib.hid hEB
      clear hon u1 u2 c1 c2 c3 c4 hEB
      obtain ⟨wo, hwo⟩ : ∃ wo, own k = wo := ⟨_, rfl⟩
      rw [hwo] at HQ hHR
      have HWO := Lib.hid hwo
      clear hwo
      go_wp2_with fail
      refine HQ.out.mono ?_
      rintro e Y2 ⟨rfl, H2, hu2, hh2, ho2⟩
      have HG2 := Lib.hid (HGY.out.heads ho2 ⟨H2, hu2, hh2⟩)
      have HE2 : Hid (Y2.heap[pe]? = some (.cells #[.int .i64 (x : Nat), .int .i64 (y : Nat)] 51 (0, 0))) := by
        show _ = _
        rw [ho2.same pe (lt_of_block HEB.out) (by have := HGY.out.lt; omega)]
        exact HEB.out
      clear hu2 hh2 ho2 HQ
      clear HGY HEB
      obtain ⟨nn, kk, f, hnn, hM, hf⟩ := HG2.out.mp
      have hlk := hM.look_ok (x := (wo : Int)) (by unfold inI; omega)
      have hfp : f (wo : Int) = (place own k wo).map fun (a : Nat) => (a : Int) := by rw [hf, placeZ_nat]
      rw [hfp] at hlk
      have HMM := Lib.hid hM
      have HFF := Lib.hid hf
      have HFP := Lib.hid hfp
      clear hM hf hfp
      obtain ⟨gd, hgd⟩ : ∃ gd, ((place own k wo).map fun (a : Nat) => (a : Int)).getD 0 = gd := ⟨_, rfl⟩
      obtain ⟨sm, hsm⟩ : ∃ sm, ((place own k wo).map fun (a : Nat) => (a : Int)).isSome = sm := ⟨_, rfl⟩
      rw [hgd, hsm] at hlk
      have HGD := Lib.hid hgd
      have HSM := Lib.hid hsm
      clear hgd hsm
      obtain ⟨lk, hlkk⟩ : ∃ lk, (fragsO on L own k).length = lk := ⟨_, rfl⟩
      obtain ⟨Av, cv, rfl⟩ : ∃ Av cv, u8 = .slice Av lk cv := by
        rcases Joins.ownsRow_forms HG2.out.fr.row with ⟨e, h0⟩ | ⟨g, cap, e⟩
        · exact ⟨none, 0, by rw [e, ← hlkk, h0]⟩
        · exact ⟨_, cap, by rw [e, ← hlkk]⟩
      have hlkb : lk ≤ k := by rw [← hlkk]; exact fragsO_le _ _ _ _
      have HLK := Lib.hid hlkk
      clear hlkk
      go_upto_if 36 with fail
      clear hlk
      go_cut [8, 12, 13] from 22 to 78 (fun s8 s12 s13 wx => ∃ (V1 : Value) (fr1 : List (Value × Value)) (F1 : List (List (Int × Int) × List Int)) (at1 : Nat) (x1 : List (Int × Int) × List Int), s8 = V1 ∧ s12 = .int .i64 at1 ∧ Hid (GI n Bh r d w own (k + 1) F1 V1 fr1 wx) ∧ Hid (wx.heap[pe]? = some (.cells #[.int .i64 (x : Nat), .int .i64 (y : Nat)] 51 (0, 0))) ∧ Hid (∀ p ∈ fr1, p.1.ownBlock ≠ some pe) ∧
        Hid (F1[at1]? = some x1) ∧ Hid (F1.set at1 (x1.1 ++ [((x : Int), (y : Int))], x1.2 ++ feetOf on ((x : Int), (y : Int))) = fragsO on L own (k + 1)) ∧ x1.1.length ≤ m ∧ x1.2.length ≤ 2 * m)
      case first =>
        cases hpl : place own k wo with
        | none =>
          have hg0 := HGD.out
          have hs0 := HSM.out
          rw [hpl] at hg0 hs0
          simp only [Option.map_none, Option.getD_none, Option.isSome_none] at hg0 hs0
          subst hg0
          subst hs0
          have HPL : Hid (place own k (own k) = none) := by show _ = _; rw [HWO.out]; exact hpl
          have HXI : Hid (inI (wo : Int)) := by show inI _; unfold inI; omega
          have HII : Hid (inI (lk : Int)) := by show inI _; unfold inI; omega
          clear hpl
          have HN6 : Hid (∀ (w6 : World) (kk2 : Nat), MapZ w6 w.heap.size (nn + 1) (upd f (wo : Int) (lk : Int)) kk2 → Y2.grownBy w6 (some w.heap.size) →
              Hid (GI n Bh r d w own (k + 1) (fragsO on L own k) (.slice Av lk cv) fr w6) ∧ Hid (w6.heap[pe]? = some (.cells #[.int .i64 (x : Nat), .int .i64 (y : Nat)] 51 (0, 0))) ∧
              Hid ((w6.alloc (.cells #[.slice none 0 0, .slice none 0 0] 71)).ownsRow (w.heap.size + 1) 71 2 (.slice Av lk cv) lk (fcells fr)) ∧
              Hid (∀ (i : Nat) (u : Value), [Value.slice none 0 0, .slice none 0 0][i]? = some u → (w6.alloc (.cells #[.slice none 0 0, .slice none 0 0] 71)).cell? ((⟨w6.heap.size, 0, none⟩ : Addr).add i) = some u) ∧ w.heap.size + 1 ≤ w6.heap.size) := by
            intro w6 kk2 hM6 hg6
            rw [← HLK.out, fragsO_length on L, ← HWO.out] at hM6
            have h6 := HG2.out.mapped HPL.out hnn HFF.out hM6 hg6
            have h7 := h6.fr.row.alloc (.cells #[.slice none 0 0, .slice none 0 0] 71)
            rw [HLK.out] at h7
            refine ⟨h6, ?_, h7, fun i u hi => ?_, h6.sz⟩
            · show _ = _
              rw [hg6.block pe (lt_of_block HE2.out) (by simp; omega)]
              exact HE2.out
            · rw [← hi, add_off, World.cell?_alloc_at _ _ _ _ rfl]
              simp
          go_wp2_with (first
            | (at_mapUpdate; refine wpList_putZ _ rfl _ _ _ rfl w.heap.size nn kk f rfl HMM.out (by omega) (wo : Int) (lk : Int) rfl rfl HXI.out HII.out ?_; intro w6 hM6 hg6; obtain ⟨HG6, HE6, HFR, HLT, hsz6⟩ := HN6.out w6 _ hM6 hg6; clear hM6 hg6)
            | (at_builtin; refine wpList_append_lies _ rfl (.tmp 42) (.tmp 44) 67 rfl (w.heap.size + 1) 71 i2 (.agg #[.slice none 0 0, .slice none 0 0]) 2 48 Try.underlying67 hi2 hx0 hx1 hx2 rfl (by decide) _ lk (fcells fr) rfl HFR.out ⟨w6.heap.size, 0, none⟩ 1 1 [.slice none 0 0, .slice none 0 0] (by simp [Act.eval]) rfl HLT.out (by simp [Value.oneCell']) (by omega) (by simp [maxLen]; omega) (by omega) (by simp; omega) (w6.heap.size + 1) (by simp) ?_; intro g7 c7 w7 hr7 hg7 _ _))
          clear HN6
          go_meet
          have hb6 : Below w6.heap.size w6 (w6.alloc (.cells #[.slice none 0 0, .slice none 0 0] 71)) := (Below.refl _ _).alloc (Nat.le_refl _) _
          have hadd := HG6.out.fr.add (k := lk) HLK.out.symm hb6 hg7 hr7
          have hown6 := HG6.out.fr.row
          have hb7 : Below (w.heap.size + 1) w6 w7 := (hb6.mono hsz6).grown hg7 (by simp; omega) (fun q e => (hown6.lt q e).1)
          have hE7 : w7.heap[pe]? = some (.cells #[.int .i64 (x : Nat), .int .i64 (y : Nat)] 51 (0, 0)) := by
            rw [hg7.block pe (by simp; exact Nat.lt_succ_of_lt (lt_of_block HE6.out)) (fun e => own_ne8 hown6 HE6.out (by decide) e.symm), blk_below HE6.out hb6]
          refine ⟨_, _, _, lk, ([], []), rfl, rfl, Lib.hid (HG6.out.next hb7 hadd), hE7, ?_, ?_, ?_, by simp, by simp⟩
          · intro p hp
            rcases List.mem_append.1 hp with h | h
            · exact HNP.out p h
            · simp at h
              subst h
              simp [Value.ownBlock]
          · show _ = _
            rw [List.getElem?_append_right (by rw [HLK.out]; exact Nat.le_refl _), HLK.out, Nat.sub_self]
            rfl
          · show _ = _
            have := fragsO_new (on := on) HE.out HPL.out
            rw [HLK.out] at this
            exact this
        | some a =>
          have hg0 := HGD.out
          have hs0 := HSM.out
          rw [hpl] at hg0 hs0
          simp only [Option.map_some, Option.getD_some, Option.isSome_some] at hg0 hs0
          subst hg0
          subst hs0
          have HPL : Hid (place own k (own k) = some a) := by show _ = _; rw [HWO.out]; exact hpl
          clear hpl
          go_wp2_with fail
          go_meet
          obtain ⟨z, hz1, hz2⟩ := fragsO_old (on := on) HE.out HPL.out
          have hzs := fragsO_sz hz1
          exact ⟨_, fr, _, a, z, rfl, rfl, Lib.hid (HG2.out.again HPL.out), HE2, HNP, Lib.hid hz1, Lib.hid hz2, by omega, by omega⟩
      case rest =>
        obtain ⟨V1, fr1, F1, at1, x1, rfl, rfl, HG3, HE3, HN3, HX1, HXF, hl1, hl2⟩ := hcut
        obtain ⟨p, hp⟩ : ∃ p, fr1[at1]? = some p := ⟨_, List.getElem?_eq_getElem (by have h2 := (List.getElem?_eq_some_iff.1 HX1.out).1; have h3 := HG3.out.fr.len; omega)⟩
        obtain ⟨l1, hl1'⟩ : ∃ l1, F1.length = l1 := ⟨_, rfl⟩
        have hat : at1 < l1 := by rw [← hl1']; exact (List.getElem?_eq_some_iff.1 HX1.out).1
        obtain ⟨G, cap1, hv⟩ := HG3.out.fr.form (by rw [hl1']; omega)
        rw [hl1'] at hv
        subst hv
        have HL1 := Lib.hid hl1'
        have HP := Lib.hid hp
        have hatI : (at1 : Int) < (l1 : Nat) := by omega
        have hatJ : (0 : Int) ≤ (at1 : Int) := by omega
        have hnp := HN3.out p (List.mem_of_getElem? hp)
        have hrow := HG3.out.fr.row
        rw [hl1'] at hrow
        have hGlt := hrow.lt G rfl
        have hpelt := lt_of_block HE3.out
        have hGpe : G ≠ pe := fun e => own_ne8 hrow HE3.out (by decide) (by rw [← e]; rfl)
        clear hl1' hp
        go_upto_region 13 with fail
        go_cut [] from 22 to 78 (fun wx => ∃ (u2 : Value) (fu2 : Value), fu2 = p.2 ∧ Hid (GI n Bh r d w own (k + 1) (F1.set at1 (x1.1 ++ [((x : Int), (y : Int))], x1.2)) (.slice (some ⟨G, 0, none⟩) l1 cap1) (fr1.set at1 (u2, fu2)) wx) ∧ Hid (wx.heap[pe]? = some (.cells #[.int .i64 (x : Nat), .int .i64 (y : Nat)] 51 (0, 0))))
        case first =>
          obtain ⟨eu, fu⟩ := p
          simp only at hnp
          have hou := HG3.out.fr.edges at1 _ x1 HP.out HX1.out
          simp only at hou
          have hbu : eu.ownBlock ≠ some G := fun e => own_typ hou hrow (by decide) e rfl
          have r2 : wc.cell? ⟨G, at1 * 2, none⟩ = some eu := by
            have := hrow.cells rfl (at1 * 2) _ (fcells_at fr1 at1 _ HP.out).1
            rwa [add_off] at this
          obtain ⟨r0, r1, _, _⟩ := cells_two HE3.out
          have HOW := Lib.hid (World.ownsRow.alloc (World.ownsRow.drew hou) (.cells #[.int .i64 (x : Nat), .int .i64 (y : Nat)] 51))
          have hXA : Below wc.heap.size wc (wc.drew.alloc (.cells #[.int .i64 (x : Nat), .int .i64 (y : Nat)] 51)) := (Below.refl _ _).drew.alloc (by simp only [World.size_drew]; omega) _
          have hrlt : ∀ q, eu.ownBlock = some q → w.heap.size + 1 ≤ q := fun q e => (hou.lt q e).1
          have HNB : Hid (∀ (w' : World), (wc.drew.alloc (.cells #[.int .i64 (x : Nat), .int .i64 (y : Nat)] 51)).grownBy w' eu.ownBlock → w'.cell? ⟨G, at1 * 2, none⟩ = some eu ∧ w'.frozen? ⟨G, at1 * 2, none⟩ = false ∧ w'.cell? ⟨pe, 0, none⟩ = some (.int .i64 (x : Nat)) ∧ w'.cell? ⟨pe, 1, none⟩ = some (.int .i64 (y : Nat)) ∧ pe < w'.heap.size ∧ Below (w.heap.size + 1) wc w' ∧ w'.heap[pe]? = some (.cells #[.int .i64 (x : Nat), .int .i64 (y : Nat)] 51 (0, 0))) := by
            intro w' hg
            have he : w'.heap[pe]? = some (.cells #[.int .i64 (x : Nat), .int .i64 (y : Nat)] 51 (0, 0)) := by
              rw [hg.block _ (by simp only [World.size_alloc, World.size_drew]; omega) (fun e => hnp e.symm)]
              exact blk_below HE3.out hXA
            obtain ⟨cur, hcur⟩ := own_block hrow
            have hh : w'.heap[G]? = wc.heap[G]? := by
              rw [hg.block _ (by simp only [World.size_alloc, World.size_drew]; omega) (fun e => hbu e.symm)]
              exact hXA.block G hGlt.2
            obtain ⟨e1, e2, _, _⟩ := cells_two he
            have hz := hg.size
            simp only [World.size_alloc, World.size_drew] at hz
            refine ⟨(World.cell?_of_block hh).trans r2, free_of (hh.trans hcur) _, e1, e2, by omega, (hXA.mono HG3.out.sz).grown hg (by simp only [World.size_alloc, World.size_drew]; have := HG3.out.sz; omega) hrlt, he⟩
          have hfin : Hid (∀ (w7 : World) (g' cap' : Nat), w7.ownsRow (w.heap.size + 1) 51 2 (.slice (some ⟨g', 0, none⟩) (x1.1.length + 1) cap') (x1.1.length + 1) (pcells x1.1 ++ [.int .i64 (x : Nat), .int .i64 (y : Nat)]) → (wc.drew.alloc (.cells #[.int .i64 (x : Nat), .int .i64 (y : Nat)] 51)).grownBy w7 eu.ownBlock → (eu.ownBlock = some g' ∨ g' = wc.heap.size + 1) →
              GI n Bh r d w own (k + 1) (F1.set at1 (x1.1 ++ [((x : Int), (y : Int))], x1.2)) (.slice (some ⟨G, 0, none⟩) l1 cap1) (fr1.set at1 (.slice (some ⟨g', 0, none⟩) (x1.1.length + 1) cap', fu)) (w7.setCell ⟨G, at1 * 2, none⟩ (.slice (some ⟨g', 0, none⟩) (x1.1.length + 1) cap')) ∧
              (w7.setCell ⟨G, at1 * 2, none⟩ (.slice (some ⟨g', 0, none⟩) (x1.1.length + 1) cap')).heap[pe]? = some (.cells #[.int .i64 (x : Nat), .int .i64 (y : Nat)] 51 (0, 0))) := by
            intro w7 g' cap' ho hg hor
            obtain ⟨_, _, _, _, _, hb7, he7⟩ := HNB w7 hg
            refine ⟨HG3.out.next (hb7.setCell (by show w.heap.size + 1 ≤ G; omega) _) ?_, ?_⟩
            · refine HG3.out.fr.setE HL1.out.symm HP.out HX1.out hXA hg ?_ ?_
              · rw [pcells_snoc, List.length_append]
                exact ho
              · rcases hor with h | h
                · exact .inl (by rw [h]; rfl)
                · exact .inr ⟨g', rfl, by omega⟩
            · rw [Below.heap_setCell _ _ _ _ (by show pe ≠ G; exact fun e => hGpe e.symm)]
              exact he7
          obtain ⟨xl, hxl⟩ : ∃ xl, x1.1.length = xl := ⟨_, rfl⟩
          rw [hxl] at HOW hfin hl1
          have HXLL := Lib.hid hxl
          have hGL : G < wc.heap.size := hGlt.2
          clear hou hbu hXA hrlt hxl hGlt
          refine wp_region_held_drew (S := fun w' => w'.cell? ⟨pe, 0, none⟩ = some (.int .i64 (x : Nat)) ∧ w'.cell? ⟨pe, 1, none⟩ = some (.int .i64 (y : Nat))) (by kernel_rfl) ⟨r0, r1⟩ (fun hS => ?_)
          refine wpAnyH_take (i := 0) (v := ?_) rfl (by kernel_rfl) (by kernel_rfl) (by kernel_rfl) (fun _ _ _ h => h) (Or.inl ⟨by rfl, ?_⟩) hS ?_
          rotate_left
          · intro wz hSw; obtain ⟨hz1, hz2⟩ := hSw; go_simp; (try with_reducible rfl)
          try simp only [List.getElem_toArray, List.getElem_cons_zero, List.getElem_cons_succ, Act.put, List.setIfInBounds_toArray, List.set_cons_zero, List.set_cons_succ]
          refine wpAnyH_take (i := 1) (v := ?_) rfl (by kernel_rfl) (by kernel_rfl) (by kernel_rfl) (fun _ _ _ h => h) (Or.inl ⟨by rfl, ?_⟩) hS ?_
          rotate_left
          · intro wz hSw; obtain ⟨hz1, hz2⟩ := hSw; go_simp; (try with_reducible rfl)
          try simp only [List.getElem_toArray, List.getElem_cons_zero, List.getElem_cons_succ, Act.put, List.setIfInBounds_toArray, List.set_cons_zero, List.set_cons_succ]
          refine wpAnyH_take (i := 2) (v := ?_) rfl (by kernel_rfl) (by kernel_rfl) (by kernel_rfl) (fun _ _ _ h => h) (Or.inl ⟨by rfl, ?_⟩) hS ?_
          rotate_left
          · intro wz hSw; obtain ⟨hz1, hz2⟩ := hSw; go_simp; (try with_reducible rfl)
          try simp only [List.getElem_toArray, List.getElem_cons_zero, List.getElem_cons_succ, Act.put, List.setIfInBounds_toArray, List.set_cons_zero, List.set_cons_succ]
          refine wpAnyH_take (i := 3) (v := ?_) rfl (by kernel_rfl) (by kernel_rfl) (by kernel_rfl) (fun _ _ _ h => h) (Or.inl ⟨by rfl, ?_⟩) hS ?_
          rotate_left
          · intro wz hSw; obtain ⟨hz1, hz2⟩ := hSw; go_simp; (try with_reducible rfl)
          try simp only [List.getElem_toArray, List.getElem_cons_zero, List.getElem_cons_succ, Act.put, List.setIfInBounds_toArray, List.set_cons_zero, List.set_cons_succ]
          refine wpAnyH_take (i := 5) (v := ?_) rfl (by kernel_rfl) (by kernel_rfl) (by kernel_rfl) (fun _ _ _ h => h) (Or.inl ⟨by rfl, ?_⟩) hS ?_
          rotate_left
          · intro wz hSw; obtain ⟨hz1, hz2⟩ := hSw; go_simp; (try with_reducible rfl)
          try simp only [List.getElem_toArray, List.getElem_cons_zero, List.getElem_cons_succ, Act.put, List.setIfInBounds_toArray, List.set_cons_zero, List.set_cons_succ]
          refine wpAnyH_ready (rs := [4, 6]) (by kernel_rfl) (by simp) (AllReadyH.cons rfl (fun K hK => ?_) (AllReadyH.cons rfl (fun K hK => ?_) AllReadyH.nil))
          · skip
            go_simp
            refine hK.out _ _ hS (fun _ => ?_)
            clear hK K
            try simp only [List.getElem_toArray, List.getElem_cons_zero, List.getElem_cons_succ, Act.put, List.setIfInBounds_toArray, List.set_cons_zero, List.set_cons_succ]
            refine wpAnyH_ready (rs := [6]) (by kernel_rfl) (by simp) (AllReadyH.cons rfl (fun K hK => ?_) AllReadyH.nil)
            go_simp
            have hS := (show _ ∧ _ from ⟨(World.cell?_alloc_lt wc.drew (.cells #[.int .i64 (x : Nat), .int .i64 (y : Nat)] 51) _ hpelt).trans hS.1, (World.cell?_alloc_lt wc.drew (.cells #[.int .i64 (x : Nat), .int .i64 (y : Nat)] 51) _ hpelt).trans hS.2⟩)
            refine hK.out _ _ hS (fun _ => ?_)
            clear hK K
            try simp only [List.getElem_toArray, List.getElem_cons_zero, List.getElem_cons_succ, Act.put, List.setIfInBounds_toArray, List.set_cons_zero, List.set_cons_succ]
            refine wpAnyH_ready (rs := [7]) (by kernel_rfl) (by simp) (AllReadyH.cons rfl (fun K hK => ?_) AllReadyH.nil)
            refine step_append_lies _ rfl (.tmp 53) (.tmp 55) 22 rfl (w.heap.size + 1) 51 i1 (.agg #[.int .i64 0, .int .i64 0]) 2 16 Try.underlying22 hi1 hy0 hy1 hy2 rfl (by decide) eu xl (pcells x1.1) (by simp [Act.eval]) HOW.out ⟨wc.heap.size, 0, none⟩ 1 1 [.int .i64 (x : Nat), .int .i64 (y : Nat)] (by simp [Act.eval]) rfl (by intro j u hj; rw [← hj, add_off]; exact (show (wc.alloc (.cells #[.int .i64 (x : Nat), .int .i64 (y : Nat)] 51)).cell? ⟨wc.heap.size, j, none⟩ = _ from (by rw [World.cell?_alloc_at _ _ _ _ rfl]; simp))) (by simp [Value.oneCell']) (by omega) (by simp [maxLen]; omega) (by omega) (by simp only [World.size_alloc, World.size_drew]; have := HG3.out.sz; omega) (wc.heap.size + 1) (by simp only [World.size_alloc, World.size_drew]) ?_
            intro g' cap' w7 hrow7 hgr7 hor7 hlt7
            obtain ⟨s1, s2, s3, s4, _, _, _⟩ := HNB.out w7 hgr7
            have hS := (show _ ∧ _ from ⟨s3, s4⟩)
            refine hK.out _ _ hS (fun _ => ?_)
            clear hK K
            try simp only [List.getElem_toArray, List.getElem_cons_zero, List.getElem_cons_succ, Act.put, List.setIfInBounds_toArray, List.set_cons_zero, List.set_cons_succ]
            refine wpAnyH_ready (rs := [8]) (by kernel_rfl) (by simp) (AllReadyH.cons rfl (fun K hK => ?_) AllReadyH.nil)
            go_simp
            refine hK.out _ _ hS (fun _ => ?_)
            clear hK K
            try simp only [List.getElem_toArray, List.getElem_cons_zero, List.getElem_cons_succ, Act.put, List.setIfInBounds_toArray, List.set_cons_zero, List.set_cons_succ]
            refine wpAnyH_ready (rs := [9]) (by kernel_rfl) (by simp) (AllReadyH.cons rfl (fun K hK => ?_) AllReadyH.nil)
            go_simp
            refine hK.out _ _ hS (fun _ => ?_)
            clear hK K
            try simp only [List.getElem_toArray, List.getElem_cons_zero, List.getElem_cons_succ, Act.put, List.setIfInBounds_toArray, List.set_cons_zero, List.set_cons_succ]
            refine wpAnyH_ready (rs := [10]) (by kernel_rfl) (by simp) (AllReadyH.cons rfl (fun K hK => ?_) AllReadyH.nil)
            go_simp
            obtain ⟨_, fe⟩ := hfin.out w7 g' cap' hrow7 hgr7 hor7
            obtain ⟨f0, f1, _, _⟩ := cells_two fe
            have hS := (show _ ∧ _ from ⟨f0, f1⟩)
            refine hK.out _ _ hS (fun _ => ?_)
            clear hK K
            try simp only [List.getElem_toArray, List.getElem_cons_zero, List.getElem_cons_succ, Act.put, List.setIfInBounds_toArray, List.set_cons_zero, List.set_cons_succ]
            refine wpAnyH_done (by kernel_rfl) ?_ _
            go_wp2_with fail
            go_meet
            obtain ⟨f1, f2⟩ := hfin.out w7 g' cap' hrow7 hgr7 hor7
            exact ⟨_, fu, rfl, f1, f2⟩
          · skip
            go_simp
            have hS := (show _ ∧ _ from ⟨(World.cell?_alloc_lt wc.drew (.cells #[.int .i64 (x : Nat), .int .i64 (y : Nat)] 51) _ hpelt).trans hS.1, (World.cell?_alloc_lt wc.drew (.cells #[.int .i64 (x : Nat), .int .i64 (y : Nat)] 51) _ hpelt).trans hS.2⟩)
            refine hK.out _ _ hS (fun _ => ?_)
            clear hK K
            try simp only [List.getElem_toArray, List.getElem_cons_zero, List.getElem_cons_succ, Act.put, List.setIfInBounds_toArray, List.set_cons_zero, List.set_cons_succ]
            refine wpAnyH_ready (rs := [4]) (by kernel_rfl) (by simp) (AllReadyH.cons rfl (fun K hK => ?_) AllReadyH.nil)
            go_simp
            refine hK.out _ _ hS (fun _ => ?_)
            clear hK K
            try simp only [List.getElem_toArray, List.getElem_cons_zero, List.getElem_cons_succ, Act.put, List.setIfInBounds_toArray, List.set_cons_zero, List.set_cons_succ]
            refine wpAnyH_ready (rs := [7]) (by kernel_rfl) (by simp) (AllReadyH.cons rfl (fun K hK => ?_) AllReadyH.nil)
            refine step_append_lies _ rfl (.tmp 53) (.tmp 55) 22 rfl (w.heap.size + 1) 51 i1 (.agg #[.int .i64 0, .int .i64 0]) 2 16 Try.underlying22 hi1 hy0 hy1 hy2 rfl (by decide) eu xl (pcells x1.1) (by simp [Act.eval]) HOW.out ⟨wc.heap.size, 0, none⟩ 1 1 [.int .i64 (x : Nat), .int .i64 (y : Nat)] (by simp [Act.eval]) rfl (by intro j u hj; rw [← hj, add_off]; exact (show (wc.alloc (.cells #[.int .i64 (x : Nat), .int .i64 (y : Nat)] 51)).cell? ⟨wc.heap.size, j, none⟩ = _ from (by rw [World.cell?_alloc_at _ _ _ _ rfl]; simp))) (by simp [Value.oneCell']) (by omega) (by simp [maxLen]; omega) (by omega) (by simp only [World.size_alloc, World.size_drew]; have := HG3.out.sz; omega) (wc.heap.size + 1) (by simp only [World.size_alloc, World.size_drew]) ?_
            intro g' cap' w7 hrow7 hgr7 hor7 hlt7
            obtain ⟨s1, s2, s3, s4, _, _, _⟩ := HNB.out w7 hgr7
            have hS := (show _ ∧ _ from ⟨s3, s4⟩)
            refine hK.out _ _ hS (fun _ => ?_)
            clear hK K
            try simp only [List.getElem_toArray, List.getElem_cons_zero, List.getElem_cons_succ, Act.put, List.setIfInBounds_toArray, List.set_cons_zero, List.set_cons_succ]
            refine wpAnyH_ready (rs := [8]) (by kernel_rfl) (by simp) (AllReadyH.cons rfl (fun K hK => ?_) AllReadyH.nil)
            go_simp
            refine hK.out _ _ hS (fun _ => ?_)
            clear hK K
            try simp only [List.getElem_toArray, List.getElem_cons_zero, List.getElem_cons_succ, Act.put, List.setIfInBounds_toArray, List.set_cons_zero, List.set_cons_succ]
            refine wpAnyH_ready (rs := [9]) (by kernel_rfl) (by simp) (AllReadyH.cons rfl (fun K hK => ?_) AllReadyH.nil)
            go_simp
            refine hK.out _ _ hS (fun _ => ?_)
            clear hK K
            try simp only [List.getElem_toArray, List.getElem_cons_zero, List.getElem_cons_succ, Act.put, List.setIfInBounds_toArray, List.set_cons_zero, List.set_cons_succ]
            refine wpAnyH_ready (rs := [10]) (by kernel_rfl) (by simp) (AllReadyH.cons rfl (fun K hK => ?_) AllReadyH.nil)
            go_simp
            obtain ⟨_, fe⟩ := hfin.out w7 g' cap' hrow7 hgr7 hor7
            obtain ⟨f0, f1, _, _⟩ := cells_two fe
            have hS := (show _ ∧ _ from ⟨f0, f1⟩)
            refine hK.out _ _ hS (fun _ => ?_)
            clear hK K
            try simp only [List.getElem_toArray, List.getElem_cons_zero, List.getElem_cons_succ, Act.put, List.setIfInBounds_toArray, List.set_cons_zero, List.set_cons_succ]
            refine wpAnyH_done (by kernel_rfl) ?_ _
            go_wp2_with fail
            go_meet
            obtain ⟨f1, f2⟩ := hfin.out w7 g' cap' hrow7 hgr7 hor7
            exact ⟨_, fu, rfl, f1, f2⟩
        case rest =>
          obtain ⟨u2, fu2, hfu, HG4, HE4⟩ := hcut
          clear hfu hrow hGlt hnp hpelt hGpe HG3 HE3 HN3 HP
          obtain ⟨r0, r1, _, _⟩ := cells_two HE4.out
          obtain ⟨bd, hB, _, _⟩ := HO.out wc HG4.out.on x (by omega)
          subst hB
          obtain ⟨ft, hft⟩ : ∃ ft : Nat → List Int, ft = fun j => x1.2 ++ ((if 1 ≤ j then (if on x then [(x : Int)] else []) else []) ++ (if 2 ≤ j then (if on y then [(y : Int)] else []) else [])) := ⟨_, rfl⟩
          have f0 : ft 0 = x1.2 := by rw [hft]; simp
          have f1 : ft 1 = ft 0 ++ (if on x then [(x : Int)] else []) := by rw [hft]; simp
          have f2 : ft 2 = ft 1 ++ (if on y then [(y : Int)] else []) := by rw [hft]; simp
          have HF2 : Hid (F1.set at1 (x1.1 ++ [((x : Int), (y : Int))], ft 2) = fragsO on L own (k + 1)) := by
            show _ = _
            rw [← HXF.out, feetOf_two, hft]
            simp
          have HFL : Hid ((ft 0).length ≤ 2 * m ∧ (ft 1).length ≤ 2 * m + 1) := by
            refine ⟨by rw [f0]; exact hl2, ?_⟩
            rw [f1, List.length_append, f0]
            split <;> simp <;> omega
          have HF0 := Lib.hid f0
          have HF1 := Lib.hid f1
          have HFF2 := Lib.hid f2
          have HG5 : Hid (GI n Bh r d w own (k + 1) (F1.set at1 (x1.1 ++ [((x : Int), (y : Int))], ft 0)) (.slice (some ⟨G, 0, none⟩) l1 cap1) (fr1.set at1 (u2, fu2)) wc) := by
            show GI _ _ _ _ _ _ _ _ _ _ _
            rw [f0]
            exact HG4.out
          have HD : Hid (∀ fs : List Int, (F1.set at1 (x1.1 ++ [((x : Int), (y : Int))], fs))[at1]? = some (x1.1 ++ [((x : Int), (y : Int))], fs) ∧ (F1.set at1 (x1.1 ++ [((x : Int), (y : Int))], fs)).length = l1 ∧ ∀ fs', (F1.set at1 (x1.1 ++ [((x : Int), (y : Int))], fs)).set at1 (x1.1 ++ [((x : Int), (y : Int))], fs') = F1.set at1 (x1.1 ++ [((x : Int), (y : Int))], fs')) := fun fs =>
            ⟨List.getElem?_set_self (by rw [HL1.out]; exact hat), by rw [List.length_set]; exact HL1.out, fun fs' => List.set_set _⟩
          have k0 := idx0 (x : Int) (y : Int)
          have k1 := idx1 (x : Int) (y : Int)
          obtain ⟨hXx, hXy⟩ : (0 : Int) ≤ (x : Int) ∧ (x : Int) < (n : Nat) := by omega
          obtain ⟨hYx, hYy⟩ : (0 : Int) ≤ (y : Int) ∧ (y : Int) < (n : Nat) := by omega
          clear hft f0 f1 f2 HG4 HXF HX1
          go_wp2_with fail
          clear r0 r1
          go_loopw [60] (fun s60 wn => ∃ (j : Nat) (fr5 : List (Value × Value)), j ≤ 2 ∧ s60 = .int .i64 j ∧ Hid (GI n Bh r d w own (k + 1) (F1.set at1 (x1.1 ++ [((x : Int), (y : Int))], ft j)) (.slice (some ⟨G, 0, none⟩) l1 cap1) fr5 wn)) (fun s60 _ => 2 - (intOf s60).toNat)
          case atStart => exact ⟨0, _, by omega, rfl, HG5⟩
          case round =>
            obtain ⟨j, fr5, hj, rfl, hG⟩ := hrel
            rcases (show j = 0 ∨ j = 1 ∨ j = 2 by omega) with rfl | rfl | rfl
            · obtain ⟨bd', hB, _, q0⟩ := HO.out wr hG.out.on x (by omega)
              injection hB with hB
              subst hB
              have hFL := HFL.out.1
              cases hbx : on x with
              | false =>
                rw [hbx] at q0
                have hfe : ft 1 = ft 0 := by rw [HF1.out, hbx]; simp
                clear hbx
                go_wp2_with fail
                go_roundw
                case rel => exact ⟨1, fr5, by omega, by go_num, by rw [hfe]; exact hG⟩
                case measure => simp [intOf]
              | true =>
                rw [hbx] at q0
                have hfe : Hid (ft 1 = ft 0 ++ [(x : Int)]) := by show _ = _; rw [HF1.out, hbx]; simp
                clear hbx
                obtain ⟨hd1, hd2, hd3⟩ := HD.out (ft 0)
                obtain ⟨q, hq⟩ : ∃ q, fr5[at1]? = some q := ⟨_, List.getElem?_eq_getElem (by have h3 := hG.out.fr.len; omega)⟩
                have hrw := hG.out.fr.row
                rw [hd2] at hrw
                have hft := hG.out.fr.feet at1 q _ hq hd1
                simp only at hft
                have r2 : wr.cell? ⟨G, at1 * 2 + 1, none⟩ = some q.2 := by
                  have := hrw.cells rfl (at1 * 2 + 1) _ (fcells_at fr5 at1 _ hq).2
                  rwa [add_off] at this
                have hbq : q.2.ownBlock ≠ some G := fun e => own_typ hft hrw (by decide) e rfl
                have hGl := hrw.lt G rfl
                have hsz := hG.out.sz
                obtain ⟨cur, hcur⟩ := own_block hrw
                have HFA := Lib.hid (hft.alloc (.cells #[.int .i64 (x : Nat)] 3))
                have hXA : Below wr.heap.size wr (wr.alloc (.cells #[.int .i64 (x : Nat)] 3)) := (Below.refl _ _).alloc (Nat.le_refl _) _
                have HNB : Hid (∀ w', (wr.alloc (.cells #[.int .i64 (x : Nat)] 3)).grownBy w' q.2.ownBlock → w'.cell? ⟨G, at1 * 2 + 1, none⟩ = some q.2 ∧ w'.frozen? ⟨G, at1 * 2 + 1, none⟩ = false) := by
                  intro w' hg
                  have hh : w'.heap[G]? = wr.heap[G]? := by
                    rw [hg.block _ (by simp; omega) (fun e => hbq e.symm)]
                    exact hXA.block G hGl.2
                  exact ⟨(World.cell?_of_block hh).trans r2, free_of (hh.trans hcur) _⟩
                have HFIN : Hid (∀ (w7 : World) (g' cap' : Nat), w7.ownsRow (w.heap.size + 1) 3 1 (.slice (some ⟨g', 0, none⟩) ((ft 0).length + 1) cap') ((ft 0).length + 1) (zs (ft 0) ++ [.int .i64 (x : Nat)]) → (wr.alloc (.cells #[.int .i64 (x : Nat)] 3)).grownBy w7 q.2.ownBlock → (q.2.ownBlock = some g' ∨ g' = wr.heap.size + 1) →
                    ∃ fr6, Hid (GI n Bh r d w own (k + 1) (F1.set at1 (x1.1 ++ [((x : Int), (y : Int))], ft 1)) (.slice (some ⟨G, 0, none⟩) l1 cap1) fr6 (w7.setCell ⟨G, at1 * 2 + 1, none⟩ (.slice (some ⟨g', 0, none⟩) ((ft 0).length + 1) cap')))) := by
                  intro w7 g' cap' ho hg hor
                  have h7 := hG.out.fr.setF hd2.symm hq hd1 hXA hg (x' := ft 1) (u' := .slice (some ⟨g', 0, none⟩) ((ft 0).length + 1) cap') (by
                    rw [hfe.out, List.length_append, show zs (ft 0 ++ [(x : Int)]) = zs (ft 0) ++ [.int .i64 (x : Nat)] by simp [zs, zv]]
                    exact ho) (by
                    rcases hor with h | h
                    · exact .inl (by rw [h]; rfl)
                    · exact .inr ⟨g', rfl, by omega⟩)
                  simp only at h7
                  rw [hd3] at h7
                  refine ⟨_, hG.out.next ?_ h7⟩
                  exact ((hXA.mono hsz).grown hg (by simp; omega) (fun q e => (hft.lt q e).1)).setCell (by show w.heap.size + 1 ≤ G; omega) _
                have HLT : Hid (∀ (i : Nat) (u : Value), [Value.int .i64 (x : Nat)][i]? = some u → (wr.alloc (.cells #[.int .i64 (x : Nat)] 3)).cell? ((⟨wr.heap.size, 0, none⟩ : Addr).add i) = some u) := fun i u hi => by
                  rw [← hi, add_off, World.cell?_alloc_at _ _ _ _ rfl]
                  simp
                obtain ⟨lf, hlf⟩ : ∃ lf, (ft 0).length = lf := ⟨_, rfl⟩
                rw [hlf] at HFA HFIN hFL
                obtain ⟨qe, qf⟩ := q
                have hGl2 : G < wr.heap.size := hGl.2
                clear hrw hft hbq hGl hcur hXA hd1 hd2 hd3 hq hlf hfe
                simp only at r2 HFA HNB HFIN
                go_wp2_with (at_builtin; refine wpList_append_lies _ rfl (.tmp 71) (.tmp 73) 35 rfl (w.heap.size + 1) 3 i0 (.int .i64 0) 1 8 Try.underlying35 hi0 hz0 hz1 hz2 rfl (by decide) _ lf (zs (ft 0)) rfl HFA.out ⟨wr.heap.size, 0, none⟩ 1 1 [.int .i64 (x : Nat)] (by simp [Act.eval]) rfl HLT.out (by simp [Value.oneCell']) (by omega) (by simp [maxLen]; omega) (by omega) (by simp; omega) (wr.heap.size + 1) (by simp) ?_; intro g7 c7 w7 hr7 hg7 ho7 _; obtain ⟨s1, s2⟩ := HNB.out w7 hg7)
                clear r2 s1 s2
                obtain ⟨fr6, h6⟩ := HFIN.out w7 g7 c7 hr7 hg7 ho7
                go_roundw
                case rel => exact ⟨1, fr6, by omega, by go_num, h6⟩
                case measure => simp [intOf]
            · obtain ⟨bd', hB, _, q0⟩ := HO.out wr hG.out.on y (by omega)
              injection hB with hB
              subst hB
              have hFL := HFL.out.2
              cases hbx : on y with
              | false =>
                rw [hbx] at q0
                have hfe : ft 2 = ft 1 := by rw [HFF2.out, hbx]; simp
                clear hbx
                go_wp2_with fail
                go_roundw
                case rel => exact ⟨2, fr5, by omega, by go_num, by rw [hfe]; exact hG⟩
                case measure => simp [intOf]
              | true =>
                rw [hbx] at q0
                have hfe : Hid (ft 2 = ft 1 ++ [(y : Int)]) := by show _ = _; rw [HFF2.out, hbx]; simp
                clear hbx
                obtain ⟨hd1, hd2, hd3⟩ := HD.out (ft 1)
                obtain ⟨q, hq⟩ : ∃ q, fr5[at1]? = some q := ⟨_, List.getElem?_eq_getElem (by have h3 := hG.out.fr.len; omega)⟩
                have hrw := hG.out.fr.row
                rw [hd2] at hrw
                have hft := hG.out.fr.feet at1 q _ hq hd1
                simp only at hft
                have r2 : wr.cell? ⟨G, at1 * 2 + 1, none⟩ = some q.2 := by
                  have := hrw.cells rfl (at1 * 2 + 1) _ (fcells_at fr5 at1 _ hq).2
                  rwa [add_off] at this
                have hbq : q.2.ownBlock ≠ some G := fun e => own_typ hft hrw (by decide) e rfl
                have hGl := hrw.lt G rfl
                have hsz := hG.out.sz
                obtain ⟨cur, hcur⟩ := own_block hrw
                have HFA := Lib.hid (hft.alloc (.cells #[.int .i64 (y : Nat)] 3))
                have hXA : Below wr.heap.size wr (wr.alloc (.cells #[.int .i64 (y : Nat)] 3)) := (Below.refl _ _).alloc (Nat.le_refl _) _
                have HNB : Hid (∀ w', (wr.alloc (.cells #[.int .i64 (y : Nat)] 3)).grownBy w' q.2.ownBlock → w'.cell? ⟨G, at1 * 2 + 1, none⟩ = some q.2 ∧ w'.frozen? ⟨G, at1 * 2 + 1, none⟩ = false) := by
                  intro w' hg
                  have hh : w'.heap[G]? = wr.heap[G]? := by
                    rw [hg.block _ (by simp; omega) (fun e => hbq e.symm)]
                    exact hXA.block G hGl.2
                  exact ⟨(World.cell?_of_block hh).trans r2, free_of (hh.trans hcur) _⟩
                have HFIN : Hid (∀ (w7 : World) (g' cap' : Nat), w7.ownsRow (w.heap.size + 1) 3 1 (.slice (some ⟨g', 0, none⟩) ((ft 1).length + 1) cap') ((ft 1).length + 1) (zs (ft 1) ++ [.int .i64 (y : Nat)]) → (wr.alloc (.cells #[.int .i64 (y : Nat)] 3)).grownBy w7 q.2.ownBlock → (q.2.ownBlock = some g' ∨ g' = wr.heap.size + 1) →
                    ∃ fr6, Hid (GI n Bh r d w own (k + 1) (F1.set at1 (x1.1 ++ [((x : Int), (y : Int))], ft 2)) (.slice (some ⟨G, 0, none⟩) l1 cap1) fr6 (w7.setCell ⟨G, at1 * 2 + 1, none⟩ (.slice (some ⟨g', 0, none⟩) ((ft 1).length + 1) cap')))) := by
                  intro w7 g' cap' ho hg hor
                  have h7 := hG.out.fr.setF hd2.symm hq hd1 hXA hg (x' := ft 2) (u' := .slice (some ⟨g', 0, none⟩) ((ft 1).length + 1) cap') (by
                    rw [hfe.out, List.length_append, show zs (ft 1 ++ [(y : Int)]) = zs (ft 1) ++ [.int .i64 (y : Nat)] by simp [zs, zv]]
                    exact ho) (by
                    rcases hor with h | h
                    · exact .inl (by rw [h]; rfl)
                    · exact .inr ⟨g', rfl, by omega⟩)
                  simp only at h7
                  rw [hd3] at h7
                  refine ⟨_, hG.out.next ?_ h7⟩
                  exact ((hXA.mono hsz).grown hg (by simp; omega) (fun q e => (hft.lt q e).1)).setCell (by show w.heap.size + 1 ≤ G; omega) _
                have HLT : Hid (∀ (i : Nat) (u : Value), [Value.int .i64 (y : Nat)][i]? = some u → (wr.alloc (.cells #[.int .i64 (y : Nat)] 3)).cell? ((⟨wr.heap.size, 0, none⟩ : Addr).add i) = some u) := fun i u hi => by
                  rw [← hi, add_off, World.cell?_alloc_at _ _ _ _ rfl]
                  simp
                obtain ⟨lf, hlf⟩ : ∃ lf, (ft 1).length = lf := ⟨_, rfl⟩
                rw [hlf] at HFA HFIN hFL
                obtain ⟨qe, qf⟩ := q
                have hGl2 : G < wr.heap.size := hGl.2
                clear hrw hft hbq hGl hcur hXA hd1 hd2 hd3 hq hlf hfe
                simp only at r2 HFA HNB HFIN
                go_wp2_with (at_builtin; refine wpList_append_lies _ rfl (.tmp 71) (.tmp 73) 35 rfl (w.heap.size + 1) 3 i0 (.int .i64 0) 1 8 Try.underlying35 hi0 hz0 hz1 hz2 rfl (by decide) _ lf (zs (ft 1)) rfl HFA.out ⟨wr.heap.size, 0, none⟩ 1 1 [.int .i64 (y : Nat)] (by simp [Act.eval]) rfl HLT.out (by simp [Value.oneCell']) (by omega) (by simp [maxLen]; omega) (by omega) (by simp; omega) (wr.heap.size + 1) (by simp) ?_; intro g7 c7 w7 hr7 hg7 ho7 _; obtain ⟨s1, s2⟩ := HNB.out w7 hg7)
                clear r2 s1 s2
                obtain ⟨fr6, h6⟩ := HFIN.out w7 g7 c7 hr7 hg7 ho7
                go_roundw
                case rel => exact ⟨2, fr6, by omega, by go_num, h6⟩
                case measure => simp [intOf]
            · go_wp2_with fail
              go_roundw
              case rel => exact ⟨k + 1, _, fr5, by omega, by go_num, rfl, by rw [← HF2.out]; exact hG⟩
              case measure => simp [intOf]; omega
    · obtain rfl : m = k := by omega
      have t1 : decide ((m : Int) < (m : Int)) = false := by simp
      obtain ⟨F, hF⟩ : ∃ F, fragsO on L own m = F := ⟨_, rfl⟩
      rw [hF] at hG
      have HFQ := Lib.hid hF
      have HSZ : Hid (∀ (j : Nat) (x : List (Int × Int) × List Int), F[j]? = some x → x.2.length ≤ 2 * m) := by
        intro j x hx
        rw [← hF] at hx
        exact (fragsO_sz hx).2
      obtain ⟨lm, hlm⟩ : ∃ lm, F.length = lm := ⟨_, rfl⟩
      obtain ⟨Av, cv, rfl⟩ : ∃ Av cv, u8 = .slice Av lm cv := by
        rcases Joins.ownsRow_forms hG.out.fr.row with ⟨e, h0⟩ | ⟨g, cap, e⟩
        · exact ⟨none, 0, by rw [e, ← hlm, h0]⟩
        · exact ⟨_, cap, by rw [e, ← hlm]⟩
      have hlmb : lm ≤ m := by rw [← hlm, ← hF]; exact fragsO_le _ _ _ _
      have HLM := Lib.hid hlm
      have HG7 : Hid (GI n Bh r d w own m (stp F 0) (.slice Av lm cv) fr wr) := by
        show GI _ _ _ _ _ _ _ _ _ _ _
        rw [stp_zero]
        exact hG
      clear hF hlm hG
      go_wp2_with fail
      go_loopw [81] (fun s81 wn => ∃ (i : Nat) (fr6 : List (Value × Value)), i ≤ lm ∧ s81 = .int .i64 i ∧ Hid (GI n Bh r d w own m (stp F i) (.slice Av lm cv) fr6 wn)) (fun s81 _ => lm - (intOf s81).toNat)
      case atStart => exact ⟨0, fr, Nat.zero_le _, rfl, HG7⟩
      case round =>
        obtain ⟨i, fr6, hi, rfl, hG⟩ := hrel
        by_cases h2 : i < lm
        · have t2 : decide ((i : Int) < (lm : Int)) = true := by simp; omega
          have hI0 : (0 : Int) ≤ (i : Int) := by omega
          have hI1 : (i : Int) < (lm : Nat) := by omega
          obtain ⟨x, hx⟩ : ∃ x : List (Int × Int) × List Int, F[i]? = some x := ⟨_, List.getElem?_eq_getElem (by rw [HLM.out]; exact h2)⟩
          have hxs := stp_at hx
          have hxl := HSZ.out i x hx
          have HSP := Lib.hid (stp_step hx)
          obtain ⟨q, hq⟩ : ∃ q, fr6[i]? = some q := ⟨_, List.getElem?_eq_getElem (by have h3 := hG.out.fr.len; rw [stp_length, HLM.out] at h3; omega)⟩
          have hrw := hG.out.fr.row
          rw [stp_length, HLM.out] at hrw
          obtain ⟨G, rfl⟩ : ∃ G, Av = some ⟨G, 0, none⟩ := by
            rcases Joins.ownsRow_form hrw (by omega) with ⟨g, cap, e⟩
            injection e with e
            exact ⟨g, e⟩
          have hft := hG.out.fr.feet i q _ hq hxs
          have r2 : wr.cell? ⟨G, i * 2 + 1, none⟩ = some q.2 := by
            have := hrw.cells rfl (i * 2 + 1) _ (fcells_at fr6 i _ hq).2
            rwa [add_off] at this
          have hbq : q.2.ownBlock ≠ some G := fun e => own_typ hft hrw (by decide) e rfl
          have hGl := hrw.lt G rfl
          have hsz := hG.out.sz
          obtain ⟨cur, hcur⟩ := own_block hrw
          have HS := Lib.hid (sortI_any _ _ q.2 x.2 wr hft (by omega))
          have HNB : Hid (∀ w', wr.grownBy w' q.2.ownBlock → w'.cell? ⟨G, i * 2 + 1, none⟩ = some q.2 ∧ w'.frozen? ⟨G, i * 2 + 1, none⟩ = false) := by
            intro w' hg
            have hh : w'.heap[G]? = wr.heap[G]? := hg.block _ hGl.2 (fun e => hbq e.symm)
            exact ⟨(World.cell?_of_block hh).trans r2, free_of (hh.trans hcur) _⟩
          have HFIN : Hid (∀ (w7 : World) (u' : Value), w7.ownsRow (w.heap.size + 1) 3 1 u' (Lib.compact (srtZ x.2)).length (zs (Lib.compact (srtZ x.2))) → wr.grownBy w7 q.2.ownBlock → u'.ownBlock = q.2.ownBlock →
              ∃ fr7, Hid (GI n Bh r d w own m (stp F (i + 1)) (.slice (some ⟨G, 0, none⟩) lm cv) fr7 (w7.setCell ⟨G, i * 2 + 1, none⟩ u'))) := by
            intro w7 u' ho hg hor
            have h7 := hG.out.fr.setF (by rw [stp_length]; exact HLM.out.symm) hq hxs (Below.refl _ _) hg ho (.inl hor)
            rw [show (stp F i).set i (x.1, Lib.compact (srtZ x.2)) = stp F (i + 1) from HSP.out] at h7
            refine ⟨_, hG.out.next ?_ h7⟩
            exact ((Below.refl _ _).grown hg hsz (fun q e => (hft.lt q e).1)).setCell (by show w.heap.size + 1 ≤ G; omega) _
          obtain ⟨qe, qf⟩ := q
          have hGl2 : G < wr.heap.size := hGl.2
          clear hrw hft hbq hGl hcur hxs hq hx
          simp only at r2 HNB HFIN HS
          go_wp2_with fail
          refine HS.out.mono ?_
          rintro e w1 ⟨rfl, hr1, hg1⟩
          obtain ⟨s1, s2⟩ := HNB.out w1 hg1
          have HC := Lib.hid (compI_any _ _ qf _ w1 hr1 (by omega))
          have HG1 := Lib.hid hg1
          clear hr1 hg1 r2
          go_wp2_with fail
          refine HC.out.mono ?_
          rintro e w2 ⟨u', rfl, hr2, hg2, hub⟩
          have hg12 := HG1.out.trans hg2
          obtain ⟨s3, s4⟩ := HNB.out w2 hg12
          obtain ⟨fr7, h7⟩ := HFIN.out w2 u' hr2 hg12 hub
          obtain ⟨Ua, un, uc, rfl⟩ : ∃ Ua un uc, u' = .slice Ua un uc := by
            rcases Joins.ownsRow_forms hr2 with ⟨e, _⟩ | ⟨g, cap, e⟩
            · exact ⟨_, _, _, e⟩
            · exact ⟨_, _, _, e⟩
          clear hr2 hg2 hub hg12 s1 s2
          go_wp2_with fail
          go_roundw
          case rel => exact ⟨i + 1, fr7, by omega, by go_num, h7⟩
          case measure => simp [intOf]; omega
        · obtain rfl : lm = i := by omega
          have t2 : decide ((lm : Int) < (lm : Int)) = false := by simp
          go_wp2_with fail
          go_ret
          refine ⟨_, fr6, rfl, ?_, hG.out.on⟩
          have h8 := hG.out.fr
          rw [← HLM.out, stp_all] at h8
          rw [HFQ.out]
          rw [HLM.out] at h8
          exact h8.less (by omega)
end Go.Proofs.Ytlkddjpjhchjfaa
