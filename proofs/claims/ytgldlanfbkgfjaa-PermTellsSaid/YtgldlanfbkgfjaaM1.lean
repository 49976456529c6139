/- The reference of layer 3: Right, Identity, Compose, Invert, Same. -/
import Derived.Test.YtgldlanfbkgfjaaL3
namespace Go.Proofs.Ytgldlanfbkgfjaa
open Go.RowKit

set_option maxRecDepth 100000 in
set_option maxHeartbeats 8000000 in
theorem refRt_any (A : Option Addr) (c n : Nat) (xs : List Int) (w : World) (hr : RdZ w A xs) (hn : n = xs.length) (hs : n ≤ 200) :
    Calls Try.prog 17 #[.slice A n c] w fun e w' => e = .returned (.bool (rightP xs)) ∧ Below w.heap.size w w' := by
  obtain ⟨r, hrr⟩ : ∃ r, rightP xs = r := ⟨_, rfl⟩
  have HRR := Lib.hid hrr
  rw [hrr]
  have HR := Lib.hid hr
  have HN := Lib.hid hn
  have HC0 : Hid (∀ (k : Nat) (x : Int), k < 0 → xs[k]? = some x → 0 ≤ x ∧ x < xs.length ∧ x ∉ xs.take k) := fun k x h => by omega
  have HB0 := Lib.hid (Below.refl w.heap.size w)
  have hc2 : decide ((n : Int) ≤ 200) = true := by rw [decide_eq_true_iff]; omega
  have hc3 : decide (n ≤ 200) = true := by rw [decide_eq_true_iff]; omega
  clear hrr hr hn
  go_enter Try.func17, Try.ntmps17
  go_wp2_with fail
  go_loopw [3] (fun s wr => ∃ k : Nat, k ≤ n ∧ s = .int .i64 k ∧ Hid (∀ (j : Nat) (x : Int), j < k → xs[j]? = some x → 0 ≤ x ∧ x < xs.length ∧ x ∉ xs.take j) ∧ Hid (Below w.heap.size w wr)) (fun s _ => n - (intOf s).toNat)
  case atStart => exact ⟨0, Nat.zero_le _, rfl, HC0, HB0⟩
  case round =>
    obtain ⟨k, hk, rfl, hC, hb⟩ := hrel
    by_cases h1 : k < n
    · have t1 : decide ((k : Int) < (n : Int)) = true := by simp; omega
      have hI0 : (0 : Int) ≤ (k : Int) := by omega
      have hI1 : (k : Int) < (n : Nat) := by omega
      obtain ⟨x, hx⟩ : ∃ x, xs[k]? = some x := ⟨_, List.getElem?_eq_getElem (by rw [← HN.out]; exact h1)⟩
      obtain ⟨ad, rfl, hal, c0⟩ := (HR.out.below hb.out) k x hx
      have HX := Lib.hid hx
      have hxm := List.mem_of_getElem? hx
      have hnl := HN.out
      by_cases hx0 : x < 0
      · have HF : Hid (r = false) := by show _ = _; rw [← HRR.out]; exact rightP_out hxm (by omega)
        have d2 : decide (x < 0) = true := by simpa using hx0
        clear hx hxm hnl
        go_wp2_with fail
        go_ret
        exact ⟨(by rw [HF.out]; rfl), hb.out⟩
      · have d2 : decide (x < 0) = false := by simpa using hx0
        by_cases hx1 : (n : Int) ≤ x
        · have HF : Hid (r = false) := by show _ = _; rw [← HRR.out]; exact rightP_out hxm (by omega)
          have d3 : decide ((n : Int) ≤ x) = true := by simpa using hx1
          clear hx hxm hnl
          go_wp2_with fail
          go_ret
          exact ⟨(by rw [HF.out]; rfl), hb.out⟩
        · have d3 : decide ((n : Int) ≤ x) = false := by rw [decide_eq_false_iff_not]; exact hx1
          have hx0' : 0 ≤ x := by omega
          have hx1' : x < n := by omega
          have HX0 : Hid (0 ≤ x ∧ x < xs.length) := ⟨hx0', by omega⟩
          have HE0 : Hid (∀ j : Nat, j < 0 → xs[j]? ≠ some x) := fun j h => by omega
          obtain ⟨wo, rfl⟩ : ∃ wo, wo = wr := ⟨_, rfl⟩
          clear hx hxm hnl
          go_wp2_with fail
          go_loopw [4] (fun s wr => ∃ j : Nat, j ≤ k ∧ s = .int .i64 j ∧ Hid (∀ i : Nat, i < j → xs[i]? ≠ some x) ∧ Hid (Below w.heap.size w wr)) (fun s _ => k - (intOf s).toNat)
          case atStart => exact ⟨0, Nat.zero_le _, rfl, HE0, hb⟩
          case round =>
            clear c0
            obtain ⟨j, hj, rfl, hE, hb2⟩ := hrel
            by_cases h2 : j < k
            · have t2 : decide ((j : Int) < (k : Int)) = true := by simp; omega
              have hJ0 : (0 : Int) ≤ (j : Int) := by omega
              have hJ1 : (j : Int) < (n : Nat) := by omega
              obtain ⟨y, hy⟩ : ∃ y, xs[j]? = some y := ⟨_, List.getElem?_eq_getElem (by rw [← HN.out]; omega)⟩
              obtain ⟨ad1, e1, _, k0⟩ := (HR.out.below hb2.out) k x HX.out
              injection e1 with e1
              subst e1
              obtain ⟨ad2, e2, _, k1⟩ := (HR.out.below hb2.out) j y hy
              injection e2 with e2
              subst e2
              by_cases h3 : y = x
              · subst h3
                have u1 : (y == y) = true := by simp
                have HF : Hid (r = false) := by
                  show _ = _
                  rw [← HRR.out]
                  refine rightP_twice HX.out (List.mem_of_getElem? (i := j) ?_)
                  rw [List.getElem?_take_of_lt h2]
                  exact hy
                clear hy
                go_wp2_with fail
                go_region
                go_wp2_with fail
                go_ret
                exact ⟨(by rw [HF.out]; rfl), hb2.out.trans ⟨rfl, rfl, rfl, Nat.le_refl _, fun _ _ => rfl⟩⟩
              · have u1 : (y == x) = false := by simpa using h3
                have HE1 : Hid (∀ i : Nat, i < j + 1 → xs[i]? ≠ some x) := fun i hi h => by
                  by_cases e : i = j
                  · subst e
                    rw [hy] at h
                    injection h with h
                    exact h3 h
                  · exact hE.out i (by omega) h
                have HBB := Lib.hid (hb2.out.trans (⟨rfl, rfl, rfl, Nat.le_refl _, fun _ _ => rfl⟩ : Below w.heap.size wr wr.drew))
                clear hy hE
                go_wp2_with fail
                go_region
                go_wp2_with fail
                go_roundw
                case rel => exact ⟨j + 1, by omega, by go_num, HE1, HBB⟩
                case measure => simp [intOf]; omega
            · obtain rfl : j = k := by omega
              have t2 : decide ((j : Int) < (j : Int)) = false := by simp
              have HC1 : Hid (∀ (i : Nat) (z : Int), i < j + 1 → xs[i]? = some z → 0 ≤ z ∧ z < xs.length ∧ z ∉ xs.take i) := fun i z hi hz => by
                by_cases e : i = j
                · subst e
                  have hX := HX.out
                  rw [hX] at hz
                  injection hz with hz
                  subst hz
                  refine ⟨HX0.out.1, HX0.out.2, fun hm => ?_⟩
                  obtain ⟨q, hq⟩ := List.getElem?_of_mem hm
                  have hql := (List.getElem?_eq_some_iff.1 hq).1
                  rw [List.length_take] at hql
                  rw [List.getElem?_take_of_lt (by omega)] at hq
                  exact hE.out q (by omega) hq
                · exact hC.out i z (by omega) hz
              go_wp2_with fail
              go_roundw
              case rel => exact ⟨j + 1, by omega, by go_num, HC1, hb2⟩
              case measure => simp [intOf]; omega
    · obtain rfl : k = n := by omega
      have t1 : decide ((k : Int) < (k : Int)) = false := by simp
      have HF : Hid (r = true) := by
        show _ = _
        rw [← HRR.out]
        have hnl := HN.out
        exact rightP_all (by omega) (fun j x hj => hC.out j x (by have := (List.getElem?_eq_some_iff.1 hj).1; omega) hj)
      go_wp2_with fail
      go_ret
      exact ⟨(by rw [HF.out]; rfl), hb.out⟩

/-- A row that says f of the first numbers, growing. -/
abbrev RowF (w : World) (base : Nat) (B : Option Addr) (cap : Nat) (f : Nat → Nat) (k : Nat) : Prop := w.ownsRow base 3 1 (.slice B k cap) k (zs (iz ((List.range k).map f)))
theorem RowF.push {w : World} {base g cap k : Nat} {f : Nat → Nat} {y : Nat} (hy : y = f k) (h : w.ownsRow base 3 1 (.slice (some ⟨g, 0, none⟩) (k + 1) cap) (k + 1) (zs (iz ((List.range k).map f)) ++ [.int .i64 ((y : Nat) : Int)])) : RowF w base (some ⟨g, 0, none⟩) cap f (k + 1) := by
  subst hy
  have e : zs (iz ((List.range (k + 1)).map f)) = zs (iz ((List.range k).map f)) ++ [.int .i64 ((f k : Nat) : Int)] := by
    rw [List.range_succ, List.map_append]
    simp [zs, zv, iz]
  show World.ownsRow _ _ _ _ _ _ _
  rw [e]
  exact h
theorem lit1 (W : World) (x : Int) : ∀ (j : Nat) (u : Value), [Value.int .i64 x][j]? = some u → (W.alloc (.cells #[.int .i64 x] 3)).cell? ((⟨W.heap.size, 0, none⟩ : Addr).add j) = some u := fun j u hj => by
  have hj0 : j = 0 := by have := (List.getElem?_eq_some_iff.1 hj).1; simp at this; omega
  subst hj0
  rw [← hj, add_off]
  exact World.cell?_alloc_at _ _ _ _ rfl
/-- What the identity of k things is. -/
def idL (k : Int) : List Int := if 0 ≤ k ∧ k ≤ 200 then iz (List.range k.toNat) else []

set_option maxRecDepth 100000 in
set_option maxHeartbeats 8000000 in
theorem refId_any (k : Int) (w : World) :
    Calls Try.prog 20 #[.int .i64 k] w fun e w' => ∃ (B : Option Addr) (c : Nat), e = .returned (.slice B (idL k).length c) ∧ RdZ w' B (idL k) ∧ Below w.heap.size w w' := by
  obtain ⟨i0, hi0, hz0, hz1, hz2⟩ := info_partsI i64info
  have HB0 := Lib.hid (Below.refl w.heap.size w)
  by_cases hk : 0 < k ∧ k ≤ 200
  · obtain ⟨n, rfl⟩ := Int.eq_ofNat_of_zero_le (show 0 ≤ k by omega)
    have hn : n ≤ 200 := by omega
    have he : idL (n : Int) = iz ((List.range n).map id) := by unfold idL; rw [if_pos (by omega), List.map_id]; rfl
    rw [he]
    have d1 : decide ((n : Int) ≤ 200) = true := by rw [decide_eq_true_iff]; omega
    have d2 : decide (n ≤ 200) = true := by rw [decide_eq_true_iff]; omega
    have hl : (iz ((List.range n).map id)).length = n := by rw [iz_length]; simp
    have HL := Lib.hid hl
    clear he hk hl
    go_enter Try.func20, Try.ntmps20
    go_wp2_with fail
    go_loopw [3, 4] (fun s3 s4 wr => ∃ (i cap : Nat) (Bo : Option Addr), i ≤ n ∧ s3 = .slice Bo i cap ∧ s4 = .int .i64 i ∧ Hid (RowF wr w.heap.size Bo cap id i) ∧ Hid (Below w.heap.size w wr)) (fun _ s4 _ => n - (intOf s4).toNat)
    case atStart => exact ⟨0, 0, none, Nat.zero_le _, rfl, rfl, ⟨rfl, .inl ⟨rfl, rfl⟩⟩, HB0⟩
    case round =>
      obtain ⟨i, cap, Bo, hi, rfl, rfl, hO, hb⟩ := hrel
      by_cases h1 : i < n
      · have t1 : decide ((i : Int) < (n : Int)) = true := by simp; omega
        have hsz := hb.out.size
        go_wp2_with (at_builtin; refine wpList_append_lies _ rfl (.tmp 14) (.tmp 16) 22 rfl w.heap.size 3 i0 (.int .i64 0) 1 8 Try.underlying22 hi0 hz0 hz1 hz2 rfl (by decide) (.slice Bo i cap) i (zs (iz ((List.range i).map id))) rfl (hO.out.alloc _) ⟨wr.heap.size, 0, none⟩ 1 1 [.int .i64 ((i : Nat))] (by simp [Act.eval]) rfl (lit1 wr _) (by simp [Value.oneCell']) (by omega) (by simp [maxLen]; omega) (by omega) (by simp; omega) (wr.heap.size + 1) (by simp) ?_; intro g7 c7 w7 hr7 hg7 _ _)
        have hb7 : Below w.heap.size w w7 := (hb.out.alloc hb.out.size _).grown hg7 (by have := hb.out.size; simp; omega) (fun m e => (hO.out.lt m e).1)
        have HO7 : Hid (RowF w7 w.heap.size (some ⟨g7, 0, none⟩) c7 id (i + 1)) := RowF.push rfl hr7
        go_roundw
        case rel => exact ⟨i + 1, c7, some ⟨g7, 0, none⟩, by omega, rfl, by go_num, HO7, Lib.hid hb7⟩
        case measure => simp [intOf]; omega
      · obtain rfl : i = n := by omega
        have t1 : decide ((i : Int) < (i : Int)) = false := by simp
        go_wp2_with fail
        go_ret
        exact ⟨Bo, cap, (by rw [HL.out]; rfl), owns_rd hO.out, hb.out⟩
  · have he : idL k = [] := by
      unfold idL
      split
      · have : k = 0 := by omega
        subst this
        rfl
      · rfl
    rw [he]
    by_cases h0 : 0 < k
    · have d0 : decide ((0 : Int) < k) = true := by simpa using h0
      have d1 : decide (k ≤ 200) = false := by rw [decide_eq_false_iff_not]; omega
      clear he hk
      go_enter Try.func20, Try.ntmps20
      go_wp2_with fail
      go_loopw [3, 4] (fun s3 s4 wr => s3 = .slice none 0 0 ∧ s4 = .int .i64 0 ∧ wr = w) (fun _ _ _ => 0)
      case atStart => exact ⟨rfl, rfl, rfl⟩
      case round =>
        obtain ⟨rfl, rfl, rfl⟩ := hrel
        go_wp2_with fail
        go_ret
        exact ⟨none, 0, by rfl, (by intro q x hq; simp at hq), Below.refl _ _⟩
    · have d0 : decide ((0 : Int) < k) = false := by simpa using h0
      clear he hk
      go_enter Try.func20, Try.ntmps20
      go_wp2_with fail
      go_loopw [3, 4] (fun s3 s4 wr => s3 = .slice none 0 0 ∧ s4 = .int .i64 0 ∧ wr = w) (fun _ _ _ => 0)
      case atStart => exact ⟨rfl, rfl, rfl⟩
      case round =>
        obtain ⟨rfl, rfl, rfl⟩ := hrel
        go_wp2_with fail
        go_ret
        exact ⟨none, 0, by rfl, (by intro q x hq; simp at hq), Below.refl _ _⟩

set_option maxRecDepth 100000 in
set_option maxHeartbeats 8000000 in
theorem refComp_yes (A B : Option Addr) (c d n : Nat) (p q : List Nat) (w : World) (hA : RdZ w A (iz p)) (hB : RdZ w B (iz q)) (hp : Perm n p) (hq : Perm n q) (hn : n ≤ 200) :
    Calls Try.prog 13 #[.slice A n c, .slice B n d] w fun e w' => ∃ (K : Option Addr) (ck : Nat), e = .returned (.tuple #[.slice K n ck, .int .i64 0]) ∧ RdZ w' K (iz (compP p q)) ∧ Below w.heap.size w w' := by
  obtain ⟨i0, hi0, hz0, hz1, hz2⟩ := info_partsI i64info
  have HA := Lib.hid hA
  have HQB := Lib.hid hB
  have HP := Lib.hid hp
  have HQ := Lib.hid hq
  have HP1 := Lib.hid (perm_right hp hn)
  have HQ1 := Lib.hid (perm_right hq hn)
  have g1 : ((n : Int) != (n : Int)) = false := by simp
  obtain ⟨f, hf⟩ : ∃ f : Nat → Nat, f = fun i => gn q (gn p i) := ⟨_, rfl⟩
  have HF := Lib.hid hf
  clear hA hB hp hq hf
  go_enter Try.func13, Try.ntmps13
  go_wp2_with fail
  refine (refRt_any A c n (iz p) w HA.out (izl HP.out) hn).mono ?_
  rintro e w1 ⟨rfl, hb1⟩
  rw [HP1.out]
  have HB1 := Lib.hid hb1
  clear hb1
  go_wp2_with fail
  refine (refRt_any B d n (iz q) w1 (HQB.out.below HB1.out) (izl HQ.out) hn).mono ?_
  rintro e w2 ⟨rfl, hb2⟩
  rw [HQ1.out]
  have HB2 := Lib.hid (next_below HB1.out hb2)
  clear hb2
  have HB0 := Lib.hid (Below.refl w2.heap.size w2)
  go_wp2_with fail
  go_loopw [6, 7] (fun s6 s7 wr => ∃ (i cap : Nat) (Bo : Option Addr), i ≤ n ∧ s6 = .slice Bo i cap ∧ s7 = .int .i64 i ∧ Hid (RowF wr w2.heap.size Bo cap f i) ∧ Hid (Below w2.heap.size w2 wr)) (fun _ s7 _ => n - (intOf s7).toNat)
  case atStart => exact ⟨0, 0, none, Nat.zero_le _, rfl, rfl, ⟨rfl, .inl ⟨rfl, rfl⟩⟩, HB0⟩
  case round =>
    obtain ⟨i, cap, Bo, hi, rfl, rfl, hO, hb⟩ := hrel
    by_cases h1 : i < n
    · have t1 : decide ((i : Int) < (n : Int)) = true := by simp; omega
      have hI0 : (0 : Int) ≤ (i : Int) := by omega
      have hI1 : (i : Int) < (n : Nat) := by omega
      have hsz := hb.out.size
      have HBW := Lib.hid (next_below HB2.out hb.out)
      obtain ⟨a1, rfl, _, e0⟩ := (HA.out.below HBW.out) i _ (iz_at (by rw [HP.out.len]; exact h1))
      have hg := HP.out.gn_lt h1
      obtain ⟨a2, rfl, _, e1⟩ := (HQB.out.below HBW.out) (gn p i) _ (iz_at (by rw [HQ.out.len]; exact hg))
      obtain ⟨y, hy⟩ : ∃ y, y = gn q (gn p i) := ⟨_, rfl⟩
      obtain ⟨x, hx⟩ : ∃ x, x = gn p i := ⟨_, rfl⟩
      have HY : Hid (y = f i) := by show _ = _; rw [hy, HF.out]
      rw [← hy] at e1
      rw [← hx] at e0 e1 hg
      have hX0 : (0 : Int) ≤ (x : Int) := by omega
      have hX1 : (x : Int) < (n : Nat) := by omega
      clear hy hx
      go_wp2_with (at_builtin; refine wpList_append_lies _ rfl (.tmp 29) (.tmp 37) 22 rfl w2.heap.size 3 i0 (.int .i64 0) 1 8 Try.underlying22 hi0 hz0 hz1 hz2 rfl (by decide) (.slice Bo i cap) i (zs (iz ((List.range i).map f))) rfl (hO.out.alloc _) ⟨wr.heap.size, 0, none⟩ 1 1 [.int .i64 ((y : Nat))] (by simp [Act.eval]) rfl (lit1 wr _) (by simp [Value.oneCell']) (by omega) (by simp [maxLen]; omega) (by omega) (by simp; omega) (wr.heap.size + 1) (by simp) ?_; intro g7 c7 w7 hr7 hg7 _ _)
      have hb7 : Below w2.heap.size w2 w7 := (hb.out.alloc hb.out.size _).grown hg7 (by have := hb.out.size; simp; omega) (fun m e => (hO.out.lt m e).1)
      have HO7 : Hid (RowF w7 w2.heap.size (some ⟨g7, 0, none⟩) c7 f (i + 1)) := RowF.push HY.out hr7
      go_roundw
      case rel => exact ⟨i + 1, c7, some ⟨g7, 0, none⟩, by omega, rfl, by go_num, HO7, Lib.hid hb7⟩
      case measure => simp [intOf]; omega
    · obtain rfl : i = n := by omega
      have t1 : decide ((i : Int) < (i : Int)) = false := by simp
      have HZ : Hid (RdZ wr Bo (iz (compP p q))) := by
        have h := owns_rd hO.out
        rw [HF.out] at h
        unfold compP
        rw [HP.out.len]
        exact h
      go_wp2_with fail
      go_ret2
      exact ⟨Bo, cap, rfl, HZ.out, next_below HB2.out hb.out⟩

set_option maxRecDepth 100000 in
set_option maxHeartbeats 8000000 in
theorem refSame_any (A B : Option Addr) (c d n : Nat) (L M : List Int) (w : World) (hA : RdZ w A L) (hB : RdZ w B M) (hl : n = L.length) (hm : n = M.length) (hn : n ≤ 200) :
    Calls Try.prog 39 #[.slice A n c, .slice B n d] w fun e w' => e = .returned (.bool (decide (L = M))) ∧ Below w.heap.size w w' := by
  obtain ⟨r, hrr⟩ : ∃ r, decide (L = M) = r := ⟨_, rfl⟩
  rw [hrr]
  have HRR := Lib.hid hrr
  have HA := Lib.hid hA
  have HBB := Lib.hid hB
  have HL := Lib.hid hl
  have HM := Lib.hid hm
  have g1 : ((n : Int) != (n : Int)) = false := by simp
  have HB0 := Lib.hid (Below.refl w.heap.size w)
  have HE0 : Hid (∀ j : Nat, j < 0 → L[j]? = M[j]?) := fun j h => by omega
  clear hA hB hl hm hrr
  go_enter Try.func39, Try.ntmps39
  go_wp2_with fail
  go_loopw [5] (fun s wr => ∃ k : Nat, k ≤ n ∧ s = .int .i64 k ∧ Hid (∀ j : Nat, j < k → L[j]? = M[j]?) ∧ Hid (Below w.heap.size w wr)) (fun s _ => n - (intOf s).toNat)
  case atStart => exact ⟨0, Nat.zero_le _, rfl, HE0, HB0⟩
  case round =>
    obtain ⟨k, hk, rfl, hE, hb⟩ := hrel
    by_cases h1 : k < n
    · have t1 : decide ((k : Int) < (n : Int)) = true := by simp; omega
      have hI0 : (0 : Int) ≤ (k : Int) := by omega
      have hI1 : (k : Int) < (n : Nat) := by omega
      obtain ⟨x, hx⟩ : ∃ x, L[k]? = some x := ⟨_, List.getElem?_eq_getElem (by rw [← HL.out]; exact h1)⟩
      obtain ⟨y, hy⟩ : ∃ y, M[k]? = some y := ⟨_, List.getElem?_eq_getElem (by rw [← HM.out]; exact h1)⟩
      obtain ⟨a1, rfl, _, c0⟩ := (HA.out.below hb.out) k x hx
      obtain ⟨a2, rfl, _, c1⟩ := (HBB.out.below hb.out) k y hy
      by_cases h3 : x = y
      · have u1 : (x != y) = false := by simp [h3]
        have HE1 : Hid (∀ j : Nat, j < k + 1 → L[j]? = M[j]?) := fun j hj => by
          by_cases e : j = k
          · subst e; rw [hx, hy, h3]
          · exact hE.out j (by omega)
        have HB1 := Lib.hid (hb.out.trans (⟨rfl, rfl, rfl, Nat.le_refl _, fun _ _ => rfl⟩ : Below w.heap.size wr wr.drew))
        clear hx hy h3 hE
        go_wp2_with fail
        go_region
        go_wp2_with fail
        go_roundw
        case rel => exact ⟨k + 1, by omega, by go_num, HE1, HB1⟩
        case measure => simp [intOf]; omega
      · have u1 : (x != y) = true := by simpa using h3
        have HF : Hid (r = false) := by
          show _ = _
          rw [← HRR.out, decide_eq_false_iff_not]
          intro e
          rw [e, hy] at hx
          injection hx with hx
          exact h3 hx.symm
        clear hx hy h3 hE
        go_wp2_with fail
        go_region
        go_wp2_with fail
        go_ret
        exact ⟨(by rw [HF.out]; rfl), hb.out.trans ⟨rfl, rfl, rfl, Nat.le_refl _, fun _ _ => rfl⟩⟩
    · obtain rfl : k = n := by omega
      have t1 : decide ((k : Int) < (k : Int)) = false := by simp
      have HF : Hid (r = true) := by
        show _ = _
        rw [← HRR.out, decide_eq_true_iff]
        apply List.ext_getElem?
        intro j
        by_cases hj : j < k
        · exact hE.out j hj
        · have a1 := HL.out
          have a2 := HM.out
          rw [List.getElem?_eq_none (by omega), List.getElem?_eq_none (by omega)]
      go_wp2_with fail
      go_ret
      exact ⟨(by rw [HF.out]; rfl), hb.out⟩
end Go.Proofs.Ytgldlanfbkgfjaa
