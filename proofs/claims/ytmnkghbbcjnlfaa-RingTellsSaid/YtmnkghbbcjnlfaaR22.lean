/- The reference's least turn. -/
import Derived.Test.YtmnkghbbcjnlfaaR21
namespace Go.Proofs.Ytmnkghbbcjnlfaa
open Go.RowKit

theorem place_iff {p s k J : Nat} (hp : p < s) (h1 : k ≤ p + s * J) (h2 : ∀ q, q < J → p + s * q < k) : k % s = p ↔ k = p + s * J := by
  constructor
  · intro h
    have hd := Nat.div_add_mod k s
    have e : k = p + s * (k / s) := by omega
    have h3 : s * (k / s) ≤ s * J := by omega
    have h4 : k / s ≤ J := Nat.le_of_mul_le_mul_left h3 (by omega)
    rcases Nat.lt_or_eq_of_le h4 with h5 | h5
    · have := h2 _ h5
      omega
    · rw [e, h5]
  · intro h
    rw [h, Nat.add_mul_mod_self_left, Nat.mod_eq_of_lt hp]
theorem least_of {L : List (List Nat)} {x n : Nat} (hn : n = L.length) (h0 : 0 < n) (h : ∀ y, y < n → cmpW (turnN L x) (turnN L y) ≤ 0) : Least L x := fun y => by
  rw [← turn_mod L y]
  exact h _ (by rw [hn]; exact Nat.mod_lt _ (by omega))

set_option maxHeartbeats 400000 in
theorem refLeast_nil (A : Option Addr) (c : Nat) (w : World) : Calls Try.prog 10 #[.slice A 0 c] w fun e w' => e = .returned (.tuple #[.slice none 0 0, .slice none 0 0]) ∧ w = w' := by
  go_enter Try.func10, Try.ntmps10
  go_wp2_with fail
  exact bodyPost_ret (v := .tuple #[.slice none 0 0, .slice none 0 0]) (by simp [results, Try.results10, go_sem]) rfl ⟨rfl, rfl⟩

set_option maxRecDepth 100000 in
set_option maxHeartbeats 2000000 in
theorem refLeast_any (A : Option Addr) (c n p s : Nat) (L : List (List Nat)) (w : World) (hl : RdW w A L) (hw : ∀ xs ∈ L, xs.length ≤ 1000000) (hn : n = L.length) (hL : n ≤ 1000000) (h0 : 0 < n) (hg : Good L p s) :
    Calls Try.prog 10 #[.slice A n c] w fun e w' => ∃ (v : Value) (J : Nat) (A' : Option Addr) (c' : Nat), e = .returned (.tuple #[v, .slice A' n c']) ∧
      w'.ownsRow w.heap.size 3 1 v J (placesN p s J) ∧ n ≤ p + s * J ∧ (∀ q, q < J → p + s * q < n) ∧ RdW w' A' (turnN L p) ∧ Below w.heap.size w w' := by
  obtain ⟨i0, hi0, hz0, hz1, hz2⟩ := info_partsI i64info
  have HT : Hid (∀ (w' : World) (k : Nat), k < n → Below w.heap.size w w' → Calls Try.prog 13 #[.slice A n c, .int .i64 k] w' fun e w'' => ∃ A' c', e = .returned (.slice A' n c') ∧ RdW w'' A' (turnN L k) ∧ Below w'.heap.size w' w'') := by
    intro w' k hk h
    have := refTurn_any A c n (k : Nat) L w' (hl.below h) hw hn hL
    unfold turnOf at this
    rw [← hn, off_self hk] at this
    exact this
  have HC : Hid (∀ (w' : World) (A1 A2 : Option Addr) (c1 c2 x y : Nat), RdW w' A1 (turnN L x) → RdW w' A2 (turnN L y) → Calls Try.prog 17 #[.slice A1 n c1, .slice A2 n c2] w' fun e w'' => e = .returned (.int .i64 (cmpW (turnN L x) (turnN L y))) ∧ Below w'.heap.size w' w'') :=
    fun w' A1 A2 c1 c2 x y h1 h2 => refCompare_any A1 A2 c1 c2 n n _ _ w' h1 h2 (fun xs h => hw xs (turnN_mem h)) (fun xs h => hw xs (turnN_mem h)) hL hL (by rw [turnN_length]; exact hn) (by rw [turnN_length]; exact hn)
  have HN := Lib.hid hn
  have HG := Lib.hid hg
  have hps := hg.1
  have hne : ((n : Int) == 0) = false := by simp; omega
  clear hl hw hn hg
  go_enter Try.func10, Try.ntmps10
  go_wp2_with fail
  refine (HT.out w 0 h0 (Below.refl _ _)).mono ?_
  rintro e w1 ⟨A1, c1, rfl, hr1, hb1⟩
  have HR1 := Lib.hid hr1
  have HB1 := Lib.hid hb1
  clear hr1 hb1
  go_wp2_with fail
  go_loopw [4, 5] (fun s4 s5 wr => ∃ (k x : Nat) (A' : Option Addr) (c' : Nat), k ≤ n ∧ s5 = .int .i64 k ∧ s4 = .slice A' n c' ∧ Hid (RdW wr A' (turnN L x)) ∧ Hid (∀ y, y < k → cmpW (turnN L x) (turnN L y) ≤ 0) ∧ Hid (Below w.heap.size w wr)) (fun _ s5 _ => n - (intOf s5).toNat)
  case atStart => exact ⟨1, 0, A1, c1, by omega, rfl, rfl, HR1, fun y hy => by obtain rfl : y = 0 := (by omega); exact Int.le_of_eq (cmpW_stands.same _), HB1⟩
  case round =>
    obtain ⟨k, x, A2, c2, hk, rfl, rfl, hr, hmin, hbel⟩ := hrel
    by_cases hlt : k < n
    · have CT := Lib.hid (HT.out wr k hlt hbel.out)
      go_wp2_with fail
      refine CT.out.mono ?_
      rintro e w2 ⟨A3, c3, rfl, hr3, hb3⟩
      have CC := Lib.hid (HC.out w2 A3 A2 c3 c2 k x hr3 (hr.out.below hb3))
      have HB3 := Lib.hid (next_below hbel.out hb3)
      have HR2 := Lib.hid (hr.out.below hb3)
      obtain ⟨q, hq⟩ : ∃ q, q = cmpW (turnN L k) (turnN L x) := ⟨_, rfl⟩
      rw [← hq] at CC
      have HQ := Lib.hid hq
      clear hr3 hb3 CT hq
      go_wp2_with fail
      refine CC.out.mono ?_
      rintro e w3 ⟨rfl, hb4⟩
      have HB4 := Lib.hid (next_below HB3.out hb4)
      have HR4 := Lib.hid (HR2.out.below hb4)
      clear hb4 CC
      by_cases hneg : q < 0
      · have CT := Lib.hid (HT.out w3 k hlt HB4.out)
        go_wp2_with fail
        refine CT.out.mono ?_
        rintro e w4 ⟨A5, c5, rfl, hr5, hb5⟩
        have HB5 := Lib.hid (next_below HB4.out hb5)
        have HR5 := Lib.hid hr5
        clear hr5 hb5 CT
        go_wp2_with fail
        go_roundw
        case rel =>
          refine ⟨k + 1, k, A5, c5, by omega, by go_num, rfl, HR5, fun y hy => ?_, HB5⟩
          by_cases hyk : y = k
          · subst hyk; exact Int.le_of_eq (cmpW_stands.same _)
          · exact cmpW_stands.trans _ _ _ (by rw [← HQ.out]; omega) (hmin.out y (by omega))
        case measure => simp [intOf]; omega
      · have hnn : 0 ≤ q := by omega
        go_wp2_with fail
        go_roundw
        case rel =>
          refine ⟨k + 1, x, A2, c2, by omega, by go_num, rfl, HR4, fun y hy => ?_, HB4⟩
          by_cases hyk : y = k
          · subst hyk
            have h1 := cmpW_stands.flip (turnN L y) (turnN L x)
            have h2 := HQ.out
            omega
          · exact hmin.out y (by omega)
        case measure => simp [intOf]; omega
    · obtain rfl : k = n := by omega
      have hlx : Least L x := least_of HN.out h0 hmin.out
      have hlp : Least L p := (HG.out.2.2 p).2 (Nat.mod_eq_of_lt hps)
      have hrp := hr.out
      rw [least_same hlx hlp] at hrp
      obtain ⟨wo, hwo⟩ : ∃ wo : World, wo = wr := ⟨_, rfl⟩
      rw [← hwo]
      have HRP : Hid (RdW wo A2 (turnN L p)) := by rw [hwo]; exact hrp
      have HBO : Hid (Below w.heap.size w wo) := by rw [hwo]; exact hbel
      have hwz : w.heap.size ≤ wo.heap.size := HBO.out.size
      have HLP := Lib.hid hlp
      have HO0 : Hid (wo.ownsRow wo.heap.size 3 1 (.slice none 0 0) 0 (placesN p s 0)) := ⟨rfl, .inl ⟨rfl, rfl⟩⟩
      clear hr hmin hbel hrp hwo hlx hlp HR1 HB1
      go_wp2_with fail
      go_loopw [6, 7] (fun v s7 wr => ∃ (j J : Nat), j ≤ k ∧ s7 = .int .i64 j ∧ Hid (wr.ownsRow wo.heap.size 3 1 v J (placesN p s J)) ∧ J ≤ j ∧ Hid (j ≤ p + s * J) ∧ Hid (∀ q, q < J → p + s * q < j) ∧ Hid (Below wo.heap.size wo wr)) (fun _ s7 _ => k - (intOf s7).toNat)
      case atStart => exact ⟨0, 0, Nat.zero_le _, rfl, HO0, Nat.le_refl _, by show 0 ≤ _; omega, fun q h => absurd h (by omega), Lib.hid (Below.refl _ _)⟩
      case round =>
        obtain ⟨j, J, hj, rfl, hown, hJj, hJ1, hJ2, hbo⟩ := hrel
        have hbel := Lib.hid (next_below HBO.out hbo.out)
        have hrp := Lib.hid (HRP.out.below hbo.out)
        have HLOW := Lib.hid hown.out.lt
        by_cases hlj : j < k
        · have CT := Lib.hid (HT.out wr j hlj hbel.out)
          go_wp2_with fail
          refine CT.out.mono ?_
          rintro e w2 ⟨A3, c3, rfl, hr3, hb3⟩
          have CC := Lib.hid (HC.out w2 A3 A2 c3 c2 j p hr3 (hrp.out.below hb3))
          have HB3 := Lib.hid (next_below hbo.out hb3)
          have HO2 := Lib.hid (row_below hown.out hb3)
          obtain ⟨q, hq⟩ : ∃ q, q = cmpW (turnN L j) (turnN L p) := ⟨_, rfl⟩
          rw [← hq] at CC
          have HQ := Lib.hid hq
          clear hr3 hb3 CT hq hrp hown hbel hbo
          go_wp2_with fail
          refine CC.out.mono ?_
          rintro e w3 ⟨rfl, hb4⟩
          have HB4 := Lib.hid (next_below HB3.out hb4)
          have HO4 := Lib.hid (row_below HO2.out hb4)
          have hwz3 : wo.heap.size ≤ w3.heap.size := HB4.out.size
          have HLOW4 := Lib.hid HO4.out.lt
          clear hb4 CC HB3 HO2
          have hpi := place_iff hps hJ1.out hJ2.out
          by_cases hq0 : q = 0
          · have hjp : j = p + s * J := hpi.1 ((HG.out.2.2 j).1 ((least_congr (cmpW_stands.only _ _ (HQ.out.symm.trans hq0))).2 HLP.out))
            have HJP := Lib.hid hjp
            subst hq0
            clear hpi hjp
            have HO5 := Lib.hid (World.ownsRow.alloc HO4.out (.cells #[.int .i64 (j : Nat)] 3))
            have HNW := Lib.hid (heap_alloc_new w3 (.cells #[.int .i64 (j : Nat)] 3))
            have HB5 := Lib.hid (HB4.out.alloc hwz3 (.cells #[.int .i64 (j : Nat)] 3))
            go_wp2_with (at_builtin; refine wpList_append_lies _ rfl _ _ 25 rfl wo.heap.size 3 i0 (.int .i64 0) 1 8 Try.underlying25 hi0 hz0 hz1 hz2 rfl (by decide) u6 J (placesN p s J) rfl HO5.out ⟨w3.heap.size, 0, none⟩ 1 1 [iv j] rfl rfl (by intro j u hj; have hj0 : j = 0 := (by have := (List.getElem?_eq_some_iff.1 hj).1; simp at this; omega); subst hj0; rw [← hj, add_off]; exact cell_of HNW.out 0) (by simp [Value.oneCell']) (by omega) (by simp [maxLen]; omega) (by omega) (by simp; omega) _ rfl ?_; intro g' cap' w7 hrow7 hgr7 hor hlt7)
            go_roundw
            case rel =>
              refine ⟨j + 1, J + 1, by omega, by go_num, Lib.hid (by rw [placesN_succ, ← HJP.out]; exact hrow7), by omega, Lib.hid (by rw [HJP.out, Nat.mul_succ]; omega), Lib.hid (fun z hz => ?_), Lib.hid (HB5.out.grown hgr7 (by simp; omega) (fun j hj => (HLOW4.out j hj).1))⟩
              by_cases hzJ : z = J
              · subst hzJ; rw [← HJP.out]; omega
              · have := hJ2.out z (by omega); omega
            case measure => simp [intOf]; omega
          · have hjp : ¬ j = p + s * J := fun e => hq0 (by rw [HQ.out, least_same ((HG.out.2.2 j).2 (hpi.2 e)) HLP.out]; exact cmpW_stands.same _)
            have HJP : Hid (j + 1 ≤ p + s * J) := by have := hJ1.out; show _ ≤ _; omega
            have hqb : (q == 0) = false := by simpa using hq0
            clear hpi hjp
            go_wp2_with fail
            go_roundw
            case rel => exact ⟨j + 1, J, by omega, by go_num, HO4, by omega, HJP, Lib.hid (fun z hz => by have := hJ2.out z hz; omega), HB4⟩
            case measure => simp [intOf]; omega
        · obtain rfl : j = k := by omega
          have HO5 := Lib.hid (Joins.ownsRow_le hown.out hwz)
          go_wp2_with fail
          exact bodyPost_ret (v := .tuple #[u6, .slice A2 j c2]) (by simp [results, Try.results10, go_sem]) rfl ⟨u6, J, A2, c2, rfl, HO5.out, hJ1.out, hJ2.out, hrp.out, hbel.out⟩
end Go.Proofs.Ytmnkghbbcjnlfaa
