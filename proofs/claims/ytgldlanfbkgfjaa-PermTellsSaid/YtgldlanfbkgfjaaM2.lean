/- Compose and Invert of both sides, in one form. -/
import Derived.Test.YtgldlanfbkgfjaaM1
namespace Go.Proofs.Ytgldlanfbkgfjaa
open Go.RowKit

/-- Ints as numbers. -/
def tn (xs : List Int) : List Nat := xs.map Int.toNat
theorem tn_iz (p : List Nat) : tn (iz p) = p := by
  unfold tn iz
  rw [List.map_map, show (Int.toNat ∘ fun (x : Nat) => (x : Int)) = id from funext fun x => Int.toNat_natCast x, List.map_id]
def InvK (k x i : Nat) (p : List Nat) : Prop := (k = x ∧ i ≤ p.idxOf x) ∨ (k = x + 1 ∧ p.idxOf x < i)
/-- An answer, or none with its error. -/
def lsA (b : Bool) (l : List Int) : List Int := if b then l else []
def erA (b : Bool) : Int := if b then 0 else 30
def okC (xs ys : List Int) : Bool := rightP xs && (rightP ys && decide (xs.length = ys.length))
def LAns (e : Ending) (w' : World) (l : List Int) (er : Int) : Prop := ∃ (K : Option Addr) (ck : Nat), e = .returned (.tuple #[.slice K l.length ck, .int .i64 er]) ∧ RdZ w' K l
theorem ans_no (w : World) : LAns (.returned (.tuple #[.slice none 0 0, .int .i64 30])) w (lsA false []) (erA false) := ⟨none, 0, rfl, by intro q x hq; simp [lsA] at hq⟩
set_option maxRecDepth 100000 in
set_option maxHeartbeats 4000000 in
theorem compose_no (A B : Option Addr) (c d n m : Nat) (xs ys : List Int) (w : World) (hA : RdZ w A xs) (hB : RdZ w B ys) (hn : n = xs.length) (hm : m = ys.length) (hs : n ≤ 200) (ht : m ≤ 200) (hx : okC xs ys = false) :
    Calls Try.prog 12 #[.slice A n c, .slice B m d] w fun e w' => e = .returned (.tuple #[.slice none 0 0, .int .i64 30]) ∧ Below w.heap.size w w' := by
  have HA := Lib.hid hA
  have HQ := Lib.hid hB
  have HN := Lib.hid hn
  have HM := Lib.hid hm
  have HX := Lib.hid hx
  clear hA hB hn hm hx
  go_enter Try.func12, Try.ntmps12
  go_wp2_with fail
  refine (rightP_any A c n xs w HA.out HN.out (by omega)).mono ?_
  rintro e w2 ⟨rfl, hb1⟩
  have HB1 := Lib.hid hb1
  clear hb1
  by_cases h1 : rightP xs = true
  · rw [h1]
    have H1 := Lib.hid h1
    clear h1
    go_wp2_with fail
    refine (rightP_any B d m ys w2 (HQ.out.below HB1.out) HM.out (by omega)).mono ?_
    rintro e w3 ⟨rfl, hb2⟩
    have HB2 := Lib.hid (next_below HB1.out hb2)
    clear hb2
    by_cases h2 : rightP ys = true
    · rw [h2]
      have hne : ((n : Int) != (m : Int)) = true := by
        have h3 := HX.out
        have h4 := HN.out
        have h5 := HM.out
        have h6 := H1.out
        simp [okC, h2, h6] at h3
        simp
        omega
      clear h2
      go_wp2_with fail
      go_ret2
      exact ⟨rfl, HB2.out⟩
    · have h2' : rightP ys = false := by simpa using h2
      rw [h2']
      clear h2 h2'
      go_wp2_with fail
      go_ret2
      exact ⟨rfl, HB2.out⟩
  · have h1' : rightP xs = false := by simpa using h1
    rw [h1']
    clear h1 h1'
    go_wp2_with fail
    go_ret2
    exact ⟨rfl, HB1.out⟩
set_option maxRecDepth 100000 in
set_option maxHeartbeats 4000000 in
theorem refComp_no (A B : Option Addr) (c d n m : Nat) (xs ys : List Int) (w : World) (hA : RdZ w A xs) (hB : RdZ w B ys) (hn : n = xs.length) (hm : m = ys.length) (hs : n ≤ 200) (ht : m ≤ 200) (hx : okC xs ys = false) :
    Calls Try.prog 13 #[.slice A n c, .slice B m d] w fun e w' => e = .returned (.tuple #[.slice none 0 0, .int .i64 30]) ∧ Below w.heap.size w w' := by
  have HA := Lib.hid hA
  have HQ := Lib.hid hB
  have HN := Lib.hid hn
  have HM := Lib.hid hm
  have HX := Lib.hid hx
  clear hA hB hn hm hx
  go_enter Try.func13, Try.ntmps13
  go_wp2_with fail
  refine (refRt_any A c n xs w HA.out HN.out (by omega)).mono ?_
  rintro e w2 ⟨rfl, hb1⟩
  have HB1 := Lib.hid hb1
  clear hb1
  by_cases h1 : rightP xs = true
  · rw [h1]
    have H1 := Lib.hid h1
    clear h1
    go_wp2_with fail
    refine (refRt_any B d m ys w2 (HQ.out.below HB1.out) HM.out (by omega)).mono ?_
    rintro e w3 ⟨rfl, hb2⟩
    have HB2 := Lib.hid (next_below HB1.out hb2)
    clear hb2
    by_cases h2 : rightP ys = true
    · rw [h2]
      have hne : ((n : Int) != (m : Int)) = true := by
        have h3 := HX.out
        have h4 := HN.out
        have h5 := HM.out
        have h6 := H1.out
        simp [okC, h2, h6] at h3
        simp
        omega
      clear h2
      go_wp2_with fail
      go_ret2
      exact ⟨rfl, HB2.out⟩
    · have h2' : rightP ys = false := by simpa using h2
      rw [h2']
      clear h2 h2'
      go_wp2_with fail
      go_ret2
      exact ⟨rfl, HB2.out⟩
  · have h1' : rightP xs = false := by simpa using h1
    rw [h1']
    clear h1 h1'
    go_wp2_with fail
    go_ret2
    exact ⟨rfl, HB1.out⟩
theorem compT (A B : Option Addr) (c d n m : Nat) (xs ys : List Int) (w : World) (hA : RdZ w A xs) (hB : RdZ w B ys) (hn : n = xs.length) (hm : m = ys.length) (hs : n ≤ 200) (ht : m ≤ 200) :
    Calls Try.prog 12 #[.slice A n c, .slice B m d] w fun e w' => LAns e w' (lsA (okC xs ys) (iz (compP (tn xs) (tn ys)))) (erA (okC xs ys)) ∧ Below w.heap.size w w' := by
  by_cases hx : okC xs ys = true
  · have h := hx
    simp only [okC, Bool.and_eq_true, decide_eq_true_iff] at h
    obtain ⟨p, rfl, hp, _⟩ := rightP_iff.1 h.1
    obtain ⟨q, rfl, hq, _⟩ := rightP_iff.1 h.2.1
    have hl : p.length = q.length := by have := h.2.2; rw [iz_length, iz_length] at this; exact this
    rw [iz_length] at hn hm
    have hmn : m = n := by omega
    subst hmn
    rw [← hn] at hp
    rw [← hm] at hq
    refine (compose_yes A B c d m p q w hA hB hp hq hs).mono ?_
    rintro e w2 ⟨K, rfl, hr, _, hb⟩
    refine ⟨?_, hb⟩
    rw [hx, tn_iz, tn_iz]
    have e1 : (lsA true (iz (compP p q))) = iz (compP p q) := rfl
    rw [e1]
    have e2 : (iz (compP p q)).length = m := by rw [iz_length]; simp [compP, hp.len]
    exact ⟨some ⟨K, 0, none⟩, m, by rw [e2]; rfl, hr.rd⟩
  · have hx' : okC xs ys = false := by simpa using hx
    refine (compose_no A B c d n m xs ys w hA hB hn hm hs ht hx').mono ?_
    rintro e w2 ⟨rfl, hb⟩
    rw [hx']
    exact ⟨ans_no w2, hb⟩
theorem refCompT (A B : Option Addr) (c d n m : Nat) (xs ys : List Int) (w : World) (hA : RdZ w A xs) (hB : RdZ w B ys) (hn : n = xs.length) (hm : m = ys.length) (hs : n ≤ 200) (ht : m ≤ 200) :
    Calls Try.prog 13 #[.slice A n c, .slice B m d] w fun e w' => LAns e w' (lsA (okC xs ys) (iz (compP (tn xs) (tn ys)))) (erA (okC xs ys)) ∧ Below w.heap.size w w' := by
  by_cases hx : okC xs ys = true
  · have h := hx
    simp only [okC, Bool.and_eq_true, decide_eq_true_iff] at h
    obtain ⟨p, rfl, hp, _⟩ := rightP_iff.1 h.1
    obtain ⟨q, rfl, hq, _⟩ := rightP_iff.1 h.2.1
    have hl : p.length = q.length := by have := h.2.2; rw [iz_length, iz_length] at this; exact this
    rw [iz_length] at hn hm
    have hmn : m = n := by omega
    subst hmn
    rw [← hn] at hp
    rw [← hm] at hq
    refine (refComp_yes A B c d m p q w hA hB hp hq hs).mono ?_
    rintro e w2 ⟨K, ck, rfl, hr, hb⟩
    refine ⟨?_, hb⟩
    rw [hx, tn_iz, tn_iz]
    have e1 : (lsA true (iz (compP p q))) = iz (compP p q) := rfl
    rw [e1]
    have e2 : (iz (compP p q)).length = m := by rw [iz_length]; simp [compP, hp.len]
    exact ⟨K, ck, by rw [e2]; rfl, hr⟩
  · have hx' : okC xs ys = false := by simpa using hx
    refine (refComp_no A B c d n m xs ys w hA hB hn hm hs ht hx').mono ?_
    rintro e w2 ⟨rfl, hb⟩
    rw [hx']
    exact ⟨ans_no w2, hb⟩

theorem at_idx {n i x : Nat} {p : List Nat} (hp : Perm n p) (hi : i < n) : gn p i = x ↔ i = p.idxOf x ∧ x < n := by
  have h1 := gn_inv hp hi
  have h2 := hp.gn_lt hi
  have hI : ∀ y, y < n → gn (invP p) y = p.idxOf y := fun y hy => gn_map (by rw [hp.len]; exact hy)
  constructor
  · intro e
    subst e
    rw [hI _ h2] at h1
    exact ⟨h1.symm, h2⟩
  · rintro ⟨e, hx⟩
    have h3 := gn_inv2 hp hx
    rw [hI _ hx, ← e] at h3
    exact h3.1
set_option maxRecDepth 100000 in
set_option maxHeartbeats 8000000 in
theorem refInv_yes (A : Option Addr) (c n : Nat) (p : List Nat) (w : World) (hA : RdZ w A (iz p)) (hp : Perm n p) (hn : n ≤ 200) :
    Calls Try.prog 15 #[.slice A n c] w fun e w' => ∃ (K : Option Addr) (ck : Nat), e = .returned (.tuple #[.slice K n ck, .int .i64 0]) ∧ RdZ w' K (iz (invP p)) ∧ Below w.heap.size w w' := by
  obtain ⟨i0, hi0, hz0, hz1, hz2⟩ := info_partsI i64info
  have HA := Lib.hid hA
  have HP := Lib.hid hp
  have HP1 := Lib.hid (perm_right hp hn)
  obtain ⟨f, hf⟩ : ∃ f : Nat → Nat, f = fun v => p.idxOf v := ⟨_, rfl⟩
  have HF := Lib.hid hf
  clear hA hp hf
  go_enter Try.func15, Try.ntmps15
  go_wp2_with fail
  refine (refRt_any A c n (iz p) w HA.out (izl HP.out) hn).mono ?_
  rintro e w2 ⟨rfl, hb1⟩
  rw [HP1.out]
  have HB2 := Lib.hid hb1
  clear hb1
  have HB0 := Lib.hid (Below.refl w2.heap.size w2)
  go_wp2_with fail
  go_loopw [4, 5] (fun s4 s5 wr => ∃ (x cap : Nat) (Bo : Option Addr), x ≤ n ∧ s4 = .slice Bo x cap ∧ s5 = .int .i64 x ∧ Hid (RowF wr w2.heap.size Bo cap f x) ∧ Hid (Below w2.heap.size w2 wr)) (fun _ s5 _ => n - (intOf s5).toNat)
  case atStart => exact ⟨0, 0, none, Nat.zero_le _, rfl, rfl, ⟨rfl, .inl ⟨rfl, rfl⟩⟩, HB0⟩
  case round =>
    obtain ⟨x, cap, Bo, hx, rfl, rfl, hO, hb⟩ := hrel
    by_cases h1 : x < n
    · have t1 : decide ((x : Int) < (n : Int)) = true := by simp; omega
      obtain ⟨wo, rfl⟩ : ∃ wo, wo = wr := ⟨_, rfl⟩
      have HX := Lib.hid h1
      have HK0 : Hid (InvK x x 0 p) := Or.inl ⟨rfl, Nat.zero_le _⟩
      go_wp2_with fail
      go_loopw [4, 6] (fun s4 s6 wr => ∃ (i k cap : Nat) (Bo : Option Addr), i ≤ n ∧ Hid (InvK k x i p) ∧ s4 = .slice Bo k cap ∧ s6 = .int .i64 i ∧ Hid (RowF wr w2.heap.size Bo cap f k) ∧ Hid (Below w2.heap.size w2 wr)) (fun _ s6 _ => n - (intOf s6).toNat)
      case atStart => exact ⟨0, x, cap, Bo, Nat.zero_le _, HK0, rfl, rfl, hO, hb⟩
      case round =>
        clear hO hb HK0
        obtain ⟨i, k, cap, Bo, hi, hK, rfl, rfl, hO, hb⟩ := hrel
        by_cases h2 : i < n
        · have t2 : decide ((i : Int) < (n : Int)) = true := by simp; omega
          have hI0 : (0 : Int) ≤ (i : Int) := by omega
          have hI1 : (i : Int) < (n : Nat) := by omega
          have hsz := hb.out.size
          have HBW := Lib.hid (next_below HB2.out hb.out)
          obtain ⟨a1, rfl, _, e0⟩ := (HA.out.below HBW.out) i _ (iz_at (by rw [HP.out.len]; exact h2))
          have hat := @at_idx n i x p HP.out h2
          obtain ⟨y, hy⟩ : ∃ y, y = gn p i := ⟨_, rfl⟩
          rw [← hy] at e0 hat
          by_cases h3 : y = x
          · have u1 : ((y : Int) == (x : Int)) = true := by simp [h3]
            have u2 : (y == x) = true := by simp [h3]
            have hix := (hat.1 h3).1
            rcases hK.out with ⟨hk, hle⟩ | ⟨hk, hle⟩
            · subst hk
              have HY : Hid (i = f k) := by show _ = _; rw [HF.out]; exact hix
              have HK1 : Hid (InvK (k + 1) k (i + 1) p) := Or.inr ⟨rfl, by omega⟩
              clear hy hat h3 hix hle hK
              go_wp2_with (at_builtin; refine wpList_append_lies _ rfl (.tmp 28) (.tmp 30) 22 rfl w2.heap.size 3 i0 (.int .i64 0) 1 8 Try.underlying22 hi0 hz0 hz1 hz2 rfl (by decide) (.slice Bo k cap) k (zs (iz ((List.range k).map f))) rfl (hO.out.alloc _) ⟨wr.heap.size, 0, none⟩ 1 1 [.int .i64 ((i : Nat))] (by simp [Act.eval]) rfl (lit1 wr _) (by simp [Value.oneCell']) (by omega) (by simp [maxLen]; omega) (by omega) (by simp; omega) (wr.heap.size + 1) (by simp) ?_; intro g7 c7 w7 hr7 hg7 _ _)
              have hb7 : Below w2.heap.size w2 w7 := (hb.out.alloc hb.out.size _).grown hg7 (by have := hb.out.size; simp; omega) (fun m e => (hO.out.lt m e).1)
              have HO7 : Hid (RowF w7 w2.heap.size (some ⟨g7, 0, none⟩) c7 f (k + 1)) := RowF.push HY.out hr7
              go_roundw
              case rel => exact ⟨i + 1, k + 1, c7, some ⟨g7, 0, none⟩, by omega, HK1, rfl, by go_num, HO7, Lib.hid hb7⟩
              case measure => simp [intOf]; omega
            · exact absurd hle (by omega)
          · have u1 : ((y : Int) == (x : Int)) = false := by rw [beq_eq_false_iff_ne]; omega
            have u2 : (y == x) = false := by simpa using h3
            have HK1 : Hid (InvK k x (i + 1) p) := by
              rcases hK.out with ⟨hk, hle⟩ | ⟨hk, hle⟩
              · refine Or.inl ⟨hk, ?_⟩
                by_cases e : i = p.idxOf x
                · exact absurd (hat.2 ⟨e, HX.out⟩) h3
                · omega
              · exact Or.inr ⟨hk, by omega⟩
            clear hy hat h3 hK
            go_wp2_with fail
            go_roundw
            case rel => exact ⟨i + 1, k, cap, Bo, by omega, HK1, rfl, by go_num, hO, hb⟩
            case measure => simp [intOf]; omega
        · obtain rfl : i = n := by omega
          have t2 : decide ((i : Int) < (i : Int)) = false := by simp
          obtain rfl : k = x + 1 := by
            rcases hK.out with ⟨hk, hle⟩ | ⟨hk, hle⟩
            · have h5 : p.idxOf x < p.length := List.idxOf_lt_length_of_mem (HP.out.mem HX.out)
              rw [HP.out.len] at h5
              omega
            · exact hk
          go_wp2_with fail
          go_roundw
          case rel => exact ⟨x + 1, cap, Bo, by omega, rfl, by go_num, hO, hb⟩
          case measure => simp [intOf]; omega
    · obtain rfl : x = n := by omega
      have t1 : decide ((x : Int) < (x : Int)) = false := by simp
      have HZ : Hid (RdZ wr Bo (iz (invP p))) := by
        have h := owns_rd hO.out
        rw [HF.out] at h
        unfold invP
        rw [HP.out.len]
        exact h
      go_wp2_with fail
      go_ret2
      exact ⟨Bo, cap, rfl, HZ.out, next_below HB2.out hb.out⟩
set_option maxHeartbeats 4000000 in
theorem refInv_no (A : Option Addr) (c n : Nat) (xs : List Int) (w : World) (hA : RdZ w A xs) (hn : n = xs.length) (hs : n ≤ 200) (hx : rightP xs = false) :
    Calls Try.prog 15 #[.slice A n c] w fun e w' => e = .returned (.tuple #[.slice none 0 0, .int .i64 30]) ∧ Below w.heap.size w w' := by
  have HA := Lib.hid hA
  have HN := Lib.hid hn
  have HX := Lib.hid hx
  clear hA hn hx
  go_enter Try.func15, Try.ntmps15
  go_wp2_with fail
  refine (refRt_any A c n xs w HA.out HN.out (by omega)).mono ?_
  rintro e w2 ⟨rfl, hb1⟩
  rw [HX.out]
  go_wp2_with fail
  go_ret2
  exact ⟨rfl, hb1⟩
theorem invT (A : Option Addr) (c n : Nat) (xs : List Int) (w : World) (hA : RdZ w A xs) (hn : n = xs.length) (hs : n ≤ 200) :
    Calls Try.prog 14 #[.slice A n c] w fun e w' => LAns e w' (lsA (rightP xs) (iz (invP (tn xs)))) (erA (rightP xs)) ∧ Below w.heap.size w w' := by
  by_cases hx : rightP xs = true
  · obtain ⟨p, rfl, hp, _⟩ := rightP_iff.1 hx
    rw [iz_length] at hn
    rw [← hn] at hp
    refine (invert_yes A c n p w hA hp hs).mono ?_
    rintro e w2 ⟨K, rfl, hr, _, hb⟩
    refine ⟨?_, hb⟩
    rw [hx, tn_iz]
    have e1 : (lsA true (iz (invP p))) = iz (invP p) := rfl
    rw [e1]
    have e2 : (iz (invP p)).length = n := by rw [iz_length]; simp [invP, hp.len]
    exact ⟨some ⟨K, 0, none⟩, n, by rw [e2]; rfl, hr.rd⟩
  · have hx' : rightP xs = false := by simpa using hx
    refine (invert_no A c n xs w hA hn (by omega) hx').mono ?_
    rintro e w2 ⟨rfl, hb⟩
    rw [hx']
    exact ⟨ans_no w2, hb⟩
theorem refInvT (A : Option Addr) (c n : Nat) (xs : List Int) (w : World) (hA : RdZ w A xs) (hn : n = xs.length) (hs : n ≤ 200) :
    Calls Try.prog 15 #[.slice A n c] w fun e w' => LAns e w' (lsA (rightP xs) (iz (invP (tn xs)))) (erA (rightP xs)) ∧ Below w.heap.size w w' := by
  by_cases hx : rightP xs = true
  · obtain ⟨p, rfl, hp, _⟩ := rightP_iff.1 hx
    rw [iz_length] at hn
    rw [← hn] at hp
    refine (refInv_yes A c n p w hA hp hs).mono ?_
    rintro e w2 ⟨K, ck, rfl, hr, hb⟩
    refine ⟨?_, hb⟩
    rw [hx, tn_iz]
    have e1 : (lsA true (iz (invP p))) = iz (invP p) := rfl
    rw [e1]
    have e2 : (iz (invP p)).length = n := by rw [iz_length]; simp [invP, hp.len]
    exact ⟨K, ck, by rw [e2]; rfl, hr⟩
  · have hx' : rightP xs = false := by simpa using hx
    refine (refInv_no A c n xs w hA hn hs hx').mono ?_
    rintro e w2 ⟨rfl, hb⟩
    rw [hx']
    exact ⟨ans_no w2, hb⟩
end Go.Proofs.Ytgldlanfbkgfjaa
