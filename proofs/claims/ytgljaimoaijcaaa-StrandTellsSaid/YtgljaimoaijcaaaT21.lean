/- Two functions answer the same: what that means; and what a strand, right or not, is to each side. -/
import Derived.Test.YtgljaimoaijcaaaT20
import Derived.Test.YtgljaimoaijcaaaPack
import Derived.Test.YtgljaimoaijcaaaB3
namespace Go.Proofs.Ytgljaimoaijcaaa
open Go.RowKit

/-- An answer that is a strand and an error, by what it says. -/
def Uni (xs : List Nat) (L κ : Int) (w : World) (e : Ending) (w' : World) : Prop := ∃ (A : Option Addr) (c : Nat), e = .returned (.tuple #[.agg #[.slice A xs.length c, .int .i64 L], .int .i64 κ]) ∧ RdN w' A xs ∧ (∀ ad, A = some ad → w.heap.size ≤ ad.block) ∧ Below w.heap.size w w'
def UniB (xs : List Nat) (κ : Int) (w : World) (e : Ending) (w' : World) : Prop := ∃ (A : Option Addr) (c : Nat), e = .returned (.tuple #[.slice A xs.length c, .int .i64 κ]) ∧ RdN w' A xs ∧ Below w.heap.size w w'
def UniN (a b κ : Int) (w : World) (e : Ending) (w' : World) : Prop := e = .returned (.tuple #[.int .u64 a, .int .i64 b, .int .i64 κ]) ∧ Below w.heap.size w w'
def All (W : World) (f : FuncId) (xa : Array Value) (R : World → Ending → World → Prop) : Prop := ∀ w', Below W.heap.size W w' → Calls Try.prog f xa w' (R w')
theorem RdN.nil {w : World} : RdN w none [] := fun q x h => by simp at h
theorem Uni.of_new {l : List Bool} {w w' : World} {e : Ending} (h : NewSt l w e w') : Uni (bytesN l) (l.length : Nat) 0 w e w' := by
  obtain ⟨g, v, rfl, ⟨rfl, ho⟩, hg, hb⟩ := h
  refine ⟨some ⟨g, 0, none⟩, nB l, ?_, ho.rd.n, (fun ad e => by injection e with e; subst e; exact hg), hb⟩
  rw [bytesN_length]
theorem Uni.of_err {k : Int} {w w' : World} {e : Ending} (h : ErrSt k w e w') : Uni [] 0 k w e w' := ⟨none, 0, h.1, RdN.nil, (fun ad e => by cases e), h.2⟩

def Two (W : World) (f g : FuncId) (xa xb : Array Value) : Prop := ∃ (xs : List Nat) (L κ : Int), (∀ x ∈ xs, x < 256) ∧ All W f xa (Uni xs L κ) ∧ All W g xb (Uni xs L κ)
def TwoB (W : World) (f g : FuncId) (xa xb : Array Value) : Prop := ∃ (xs : List Nat) (κ : Int), (∀ x ∈ xs, x < 256) ∧ All W f xa (UniB xs κ) ∧ All W g xb (UniB xs κ)
def TwoN (W : World) (f g : FuncId) (xa xb : Array Value) : Prop := ∃ (a b κ : Int), All W f xa (UniN a b κ) ∧ All W g xb (UniN a b κ)
theorem Two.new {W : World} {f g : FuncId} {xa xb : Array Value} (l : List Bool) (h1 : All W f xa (NewSt l)) (h2 : All W g xb (NewSt l)) : Two W f g xa xb :=
  ⟨bytesN l, (l.length : Nat), 0, bytesN_lt l, fun w' h => (h1 w' h).mono fun _ _ k => Uni.of_new k, fun w' h => (h2 w' h).mono fun _ _ k => Uni.of_new k⟩
theorem Two.err {W : World} {f g : FuncId} {xa xb : Array Value} (k : Int) (h1 : All W f xa (ErrSt k)) (h2 : All W g xb (ErrSt k)) : Two W f g xa xb :=
  ⟨[], 0, k, (fun x h => by simp at h), fun w' h => (h1 w' h).mono fun _ _ k => Uni.of_err k, fun w' h => (h2 w' h).mono fun _ _ k => Uni.of_err k⟩

def RightIs (W : World) (v : Value) (b : Bool) : Prop := ∀ w', Below W.heap.size W w' → Calls Try.prog 16 #[v] w' fun e w'' => e = .returned (.bool b) ∧ Below w'.heap.size w' w''
theorem RightIs.below {W w : World} {v : Value} {b : Bool} (h : RightIs W v b) (hb : Below W.heap.size W w) : RightIs w v b := fun w' k => h w' (next_below hb k)
/-- A strand, or none, as the program is handed it. -/
def PSide (W : World) (v : Value) : Option (List Bool) → Prop
  | none => RightIs W v false ∧ ∃ p0 p1, v = .agg #[p0, p1]
  | some l => RightIs W v true ∧ St W v l ∧ l.length ≤ 2000 ∧ ∃ p0, v = .agg #[p0, .int .i64 (l.length : Nat)]
/-- Likewise, as the document's answer is. -/
def RSide (W : World) (v : Value) (o : Option (List Bool)) : Prop := TextIs W v o ∧ ∃ p0 p1, v = .agg #[p0, p1]

theorem last_true (f : Nat → Bool) : ∀ N, ∃ M, M ≤ N ∧ (∀ i, M ≤ i → i < N → f i = false) ∧ ∀ j, M = j + 1 → f j = true
  | 0 => ⟨0, Nat.le_refl _, fun i _ h => absurd h (by omega), fun j h => by cases h⟩
  | N + 1 => by
    by_cases h : f N = true
    · exact ⟨N + 1, Nat.le_refl _, fun i h1 h2 => absurd h2 (by omega), fun j e => by
        obtain rfl : N = j := by omega
        exact h⟩
    · obtain ⟨M, h1, h2, h3⟩ := last_true f N
      refine ⟨M, by omega, fun i h4 h5 => ?_, h3⟩
      by_cases e : i = N
      · subst e; simpa using h
      · exact h2 i h4 (by omega)

theorem blen_lt (n wd : Nat) (hn : n < 18446744073709551616) (h : n < 2 ^ wd) : blen n ≤ wd := by
  apply Nat.le_of_not_lt
  intro hc
  exact (blen_ok n hn).2.2 wd hc (Nat.div_eq_of_lt h)
theorem blen_ge (n wd : Nat) (hn : n < 18446744073709551616) (h : 2 ^ wd ≤ n) : wd < blen n := by
  apply Nat.lt_of_not_le
  intro hc
  have h1 := (blen_ok n hn).1
  have h2 := Nat.pow_le_pow_right (n := 2) (by omega) hc
  omega

theorem pairCut {W : World} {v u : Value} {o : Option (List Bool)} (hp : PSide W v o) (hr : RSide W u o) (fr tt : Int) :
    Two W 18 19 #[v, .int .i64 fr, .int .i64 tt] #[u, .int .i64 fr, .int .i64 tt] := by
  obtain ⟨ht, q0, q1, rfl⟩ := hr
  match o, hp, ht with
  | none, ⟨hr, p0, p1, e⟩, ht =>
    subst e
    exact Two.err 11 (fun w' k => notCut_any p0 p1 fr tt w' (hr.below k)) (fun w' k => refCut_no q0 q1 fr tt w' (ht.below k))
  | some l, ⟨hr, hs, hl, p0, e⟩, ht =>
    subst e
    by_cases h : fr < 0 ∨ tt < fr ∨ ((l.length : Nat) : Int) < tt
    · exact Two.err 2 (fun w' k => argCut_any p0 l.length fr tt h w' (hr.below k)) (fun w' k => refCut_arg q0 q1 fr tt (txt l) l.length (txt_size l) h w' (ht.below k))
    · obtain ⟨a, rfl⟩ := Int.eq_ofNat_of_zero_le (show 0 ≤ fr by omega)
      obtain ⟨b, rfl⟩ := Int.eq_ofNat_of_zero_le (show 0 ≤ tt by omega)
      exact Two.new _ (fun w' k => cut_any _ l a b w' (hs.below k) (by omega) (by omega)) (fun w' k => refCut_yes q0 q1 a b l (by omega) (by omega) (by omega) w' (ht.below k))

theorem pairField {W : World} {v u : Value} {o : Option (List Bool)} (hp : PSide W v o) (hr : RSide W u o) (n : Nat) (wd : Int) (hn : n < 18446744073709551616) :
    Two W 20 21 #[v, .int .u64 n, .int .i64 wd] #[u, .int .u64 n, .int .i64 wd] := by
  obtain ⟨ht, q0, q1, rfl⟩ := hr
  match o, hp, ht with
  | none, ⟨hr, p0, p1, e⟩, ht =>
    subst e
    exact Two.err 11 (fun w' k => notField_any p0 p1 n wd w' (hr.below k)) (fun w' k => refField_no q0 q1 n wd w' (ht.below k))
  | some l, ⟨hr, hs, hl, p0, e⟩, ht =>
    subst e
    by_cases h : wd < 0 ∨ 64 < wd
    · exact Two.err 2 (fun w' k => argField_any p0 l.length n wd h w' (hr.below k)) (fun w' k => refField_arg q0 q1 n wd (txt l) h w' (ht.below k))
    · obtain ⟨a, rfl⟩ := Int.eq_ofNat_of_zero_le (show 0 ≤ wd by omega)
      by_cases h2 : 2 ^ a ≤ n
      · exact Two.err 2 (fun w' k => bigField_any p0 l.length n a (by omega) h2 hn w' (hr.below k)) (fun w' k => refField_long q0 q1 n a (txt l) hn (by omega) (blen_ge n a hn h2) w' (ht.below k))
      · exact Two.new _ (fun w' k => field_any _ l n a w' (hs.below k) (by omega) (by omega) (by omega)) (fun w' k => refField_yes q0 q1 n a l (by omega) hn (by omega) (blen_lt n a hn (by omega)) w' (ht.below k))

theorem pairKnot {W : World} {v u : Value} {o : Option (List Bool)} (hp : PSide W v o) (hr : RSide W u o) (n : Nat) (hn : n < 18446744073709551616) :
    Two W 22 23 #[v, .int .u64 n] #[u, .int .u64 n] := by
  obtain ⟨ht, q0, q1, rfl⟩ := hr
  match o, hp, ht with
  | none, ⟨hr, p0, p1, e⟩, ht =>
    subst e
    exact Two.err 11 (fun w' k => notKnot_any p0 p1 n w' (hr.below k)) (fun w' k => refKnot_no q0 q1 n w' (ht.below k))
  | some l, ⟨hr, hs, hl, p0, e⟩, ht =>
    subst e
    by_cases h : n = 18446744073709551615
    · subst h
      exact Two.err 2 (fun w' k => argKnot_any p0 l.length w' (hr.below k)) (fun w' k => refKnot_arg q0 q1 (txt l) w' (ht.below k))
    · exact Two.new _ (fun w' k => knot_any _ l n w' (hs.below k) (by omega) (by omega)) (fun w' k => refKnot_yes q0 q1 n l w' (by omega) (by omega) (ht.below k))

theorem pairGetField {W : World} {v u : Value} {o : Option (List Bool)} (hp : PSide W v o) (hr : RSide W u o) (at' wd : Int) :
    TwoN W 26 27 #[v, .int .i64 at', .int .i64 wd] #[u, .int .i64 at', .int .i64 wd] := by
  obtain ⟨ht, q0, q1, rfl⟩ := hr
  match o, hp, ht with
  | none, ⟨hr, p0, p1, e⟩, ht =>
    subst e
    exact ⟨0, 0, 11, fun w' k => notGetField_any p0 p1 at' wd w' (hr.below k), fun w' k => refGetField_no q0 q1 at' wd w' (ht.below k)⟩
  | some l, ⟨hr, hs, hl, p0, e⟩, ht =>
    subst e
    by_cases h : wd < 0 ∨ 64 < wd ∨ at' < 0 ∨ ((l.length : Nat) : Int) < at'
    · exact ⟨0, 0, 2, fun w' k => argGetField_any p0 l.length at' wd h w' (hr.below k), fun w' k => refGetField_arg q0 q1 at' wd (txt l) l.length (txt_size l) h w' (ht.below k)⟩
    · obtain ⟨a, rfl⟩ := Int.eq_ofNat_of_zero_le (show 0 ≤ at' by omega)
      obtain ⟨b, rfl⟩ := Int.eq_ofNat_of_zero_le (show 0 ≤ wd by omega)
      by_cases h2 : l.length < a + b
      · exact ⟨0, 0, 10, fun w' k => shortGetField_any p0 l.length a b (by omega) (by omega) h2 w' (hr.below k), fun w' k => refGetField_short q0 q1 a b (txt l) l.length (txt_size l) (by omega) (by omega) (by omega) w' (ht.below k)⟩
      · exact ⟨_, _, 0, fun w' k => getField_ok _ l a b w' (hs.below k) (by omega) (by omega), fun w' k => refGetField_yes q0 q1 a b l (by omega) (by omega) (by omega) w' (ht.below k)⟩

theorem pairGetKnot {W : World} {v u : Value} {o : Option (List Bool)} (hp : PSide W v o) (hr : RSide W u o) (at' : Int) :
    TwoN W 28 29 #[v, .int .i64 at'] #[u, .int .i64 at'] := by
  obtain ⟨ht, q0, q1, rfl⟩ := hr
  match o, hp, ht with
  | none, ⟨hr, p0, p1, e⟩, ht =>
    subst e
    exact ⟨0, 0, 11, fun w' k => notGetKnot_any p0 p1 at' w' (hr.below k), fun w' k => refGetKnot_no q0 q1 at' w' (ht.below k)⟩
  | some l, ⟨hr, hs, hl, p0, e⟩, ht =>
    subst e
    by_cases h : at' < 0 ∨ ((l.length : Nat) : Int) < at'
    · exact ⟨0, 0, 2, fun w' k => argGetKnot_any p0 l.length at' h w' (hr.below k), fun w' k => refGetKnot_arg q0 q1 at' (txt l) l.length (txt_size l) h w' (ht.below k)⟩
    · obtain ⟨a, rfl⟩ := Int.eq_ofNat_of_zero_le (show 0 ≤ at' by omega)
      obtain ⟨K, k1, k2, k3, k4⟩ : ∃ K, a ≤ K ∧ K ≤ l.length ∧ (∀ i, a ≤ i → i < K → l.getD i false = false) ∧ (K < l.length → l.getD K false = true) := by
        rcases first_true (fun i => l.getD i false) a (l.length - a) with hz | ⟨K, h1, h2, h3, h4⟩
        · exact ⟨l.length, by omega, by omega, fun i h1 h2 => hz i h1 (by omega), fun h => absurd h (by omega)⟩
        · exact ⟨K, h1, by omega, h4, fun _ => h3⟩
      by_cases h64 : 64 + a ≤ K
      · exact ⟨0, 0, 12, fun w' k => farGetKnot_any _ l a w' (hs.below k) (by omega) (fun i hi => k3 (a + i) (by omega) (by omega)), fun w' k => refGetKnot_far q0 q1 a K l (by omega) k1 k2 k3 k4 h64 w' (ht.below k)⟩
      · by_cases h3 : l.length < 2 * K - a + 1
        · refine ⟨0, 0, 10, fun w' k => getKnot_short _ l a (K - a) w' (hs.below k) (by omega) (by omega) (by omega) (fun i hi => k3 (a + i) (by omega) (by omega)) ?_, fun w' k => refGetKnot_short q0 q1 a K l (by omega) k1 k2 k3 k4 (by omega) h3 w' (ht.below k)⟩
          rw [show a + (K - a) = K by omega]
          by_cases e : K = l.length
          · exact .inl e
          · exact .inr (k4 (by omega))
        · refine ⟨_, _, 0, fun w' k => ?_, fun w' k => refGetKnot_yes q0 q1 a K l (by omega) k1 k2 k3 k4 (by omega) (by omega) w' (ht.below k)⟩
          have hh := getKnot_ok _ l a (K - a) w' (hs.below k) (by omega) (by omega) (fun i hi => k3 (a + i) (by omega) (by omega)) (by rw [show a + (K - a) = K by omega]; exact k4 (by omega))
          rw [show a + (K - a) = K by omega, show a + 2 * (K - a) + 1 = 2 * K - a + 1 by omega] at hh
          exact hh

theorem pairPack {W : World} {v u : Value} {o : Option (List Bool)} (hp : PSide W v o) (hr : RSide W u o) :
    TwoB W 30 31 #[v] #[u] := by
  obtain ⟨ht, q0, q1, rfl⟩ := hr
  match o, hp, ht with
  | none, ⟨hr, p0, p1, e⟩, ht =>
    subst e
    exact ⟨[], 11, (fun x h => by simp at h), fun w' k => (notPack_any p0 p1 w' (hr.below k)).mono fun _ _ h => ⟨none, 0, h.1, RdN.nil, h.2⟩, fun w' k => (refPack_no q0 q1 w' (ht.below k)).mono fun _ _ h => ⟨none, 0, h.1, RdN.nil, h.2⟩⟩
  | some l, ⟨hr, hs, hl, p0, e⟩, ht =>
    subst e
    refine ⟨bytesN (l ++ [true]), 0, bytesN_lt _, fun w' k => (pack_any _ l w' (hs.below k)).mono ?_, fun w' k => (refPack_yes q0 q1 l w' (by omega) (ht.below k)).mono ?_⟩
    · rintro e w2 ⟨g, rfl, ho, _, hb⟩
      exact ⟨some ⟨g, 0, none⟩, nB (l ++ [true]), by rw [bytesN_length], ho.rd.n, hb⟩
    · rintro e w2 ⟨g, rfl, ho, _, hb⟩
      exact ⟨some ⟨g, 0, none⟩, nB (l ++ [true]), by rw [bytesN_length], ho.rd.n, hb⟩

theorem pairJoin {W : World} {v u v2 u2 : Value} {o o2 : Option (List Bool)} (hp : PSide W v o) (hr : RSide W u o) (hp2 : PSide W v2 o2) (hr2 : RSide W u2 o2) :
    Two W 14 15 #[v, v2] #[u, u2] := by
  obtain ⟨ht, q0, q1, rfl⟩ := hr
  obtain ⟨ht2, s0, s1, rfl⟩ := hr2
  match o, hp, ht, o2, hp2, ht2 with
  | none, ⟨hr, p0, p1, e⟩, ht, none, ⟨_, r0, r1, e2⟩, ht2 =>
    subst e; subst e2
    exact Two.err 11 (fun w' k => notJoin1_any p0 p1 r0 r1 w' (hr.below k)) (fun w' k => refJoin_any q0 q1 s0 s1 none none w' (ht.below k) (ht2.below k) (fun _ h => by cases h) (fun _ h => by cases h))
  | none, ⟨hr, p0, p1, e⟩, ht, some l2, ⟨_, _, hl2, r0, e2⟩, ht2 =>
    subst e; subst e2
    exact Two.err 11 (fun w' k => notJoin1_any p0 p1 r0 _ w' (hr.below k)) (fun w' k => refJoin_any q0 q1 s0 s1 none (some l2) w' (ht.below k) (ht2.below k) (fun _ h => by cases h) (fun _ h => by injection h with h; subst h; omega))
  | some l, ⟨hr, hs, hl, p0, e⟩, ht, none, ⟨hr2, r0, r1, e2⟩, ht2 =>
    subst e; subst e2
    exact Two.err 11 (fun w' k => notJoin2_any p0 _ r0 r1 w' (hr.below k) (hr2.below k)) (fun w' k => refJoin_any q0 q1 s0 s1 (some l) none w' (ht.below k) (ht2.below k) (fun _ h => by injection h with h; subst h; omega) (fun _ h => by cases h))
  | some l, ⟨hr, hs, hl, p0, e⟩, ht, some l2, ⟨hr2, hs2, hl2, r0, e2⟩, ht2 =>
    subst e; subst e2
    exact Two.new (l ++ l2) (fun w' k => join_any _ _ l l2 w' (hs.below k) (hs2.below k) (by omega)) (fun w' k => refJoin_any q0 q1 s0 s1 (some l) (some l2) w' (ht.below k) (ht2.below k) (fun _ h => by injection h with h; subst h; omega) (fun _ h => by injection h with h; subst h; omega))

theorem pairUnpack {W : World} {A : Option Addr} {c : Nat} {xs : List Int} (hx : isBytes xs) (hr : RdB W A xs) (hl : xs.length ≤ 250) :
    Two W 24 25 #[.slice A xs.length c] #[.slice A xs.length c] := by
  by_cases hne : xs = []
  · subst hne
    exact Two.err 13 (fun w' k => unpack_none A c w') (fun w' k => refUnpack_bad A c 0 0 [] w' (hr.below k) hx rfl (by omega) (by omega) (fun i h1 h2 => absurd h2 (by omega)) (fun j h => by cases h) (.inl rfl))
  · have hpos : 0 < xs.length := List.length_pos_iff.2 hne
    by_cases h0 : xs.getD (xs.length - 1) 0 = 0
    · have hq : xs[xs.length - 1]? = some 0 := by
        rw [List.getElem?_eq_getElem (by omega)]
        simp [List.getD, List.getElem?_eq_getElem (show xs.length - 1 < xs.length by omega)] at h0
        rw [h0]
      obtain ⟨M, m1, m2, m3⟩ := last_true (fun i => (bitsOf xs (8 * xs.length)).getD i false) (8 * xs.length)
      have hM : M + 7 < 8 * xs.length := by
        apply Nat.lt_of_not_le
        intro hc
        obtain ⟨j, rfl⟩ : ∃ j, M = j + 1 := ⟨M - 1, by omega⟩
        have h := m3 j rfl
        rw [bitsOf_get xs _ j (by omega), show j / 8 = xs.length - 1 by omega, h0] at h
        simp at h
      refine Two.err 13 (fun w' k => ?_) (fun w' k => refUnpack_bad A c xs.length M xs w' (hr.below k) hx rfl (by omega) m1 m2 m3 (.inr hM))
      obtain ⟨ad, rfl, hb, hc⟩ := hr.below k _ _ hq
      exact unpack_zero ad xs.length c w' (by omega) (by omega) hb hc
    · obtain ⟨l, h1, h2, h3⟩ := bytes_strand xs hx hne h0
      have hxs : xs = rowB (l ++ [true]) := by
        apply List.ext_getElem?
        intro q
        by_cases hq : q < nB (l ++ [true])
        · rw [h3 q hq]; simp [rowB, hq]
        · rw [List.getElem?_eq_none (by omega), List.getElem?_eq_none (by rw [rowB_length]; omega)]
      have hrd : Rd W A (l ++ [true]) := fun q hq => by
        obtain ⟨ad, e, hb, hc⟩ := hr q _ (h3 q hq)
        exact ⟨ad, e, hb, hc⟩
      have ht : (bitsOf xs (8 * xs.length)).take (l.length + 1 - 1) = l := by
        have := row_take (l ++ [true])
        rw [← hxs, ← h1] at this
        have h4 := congrArg (List.take l.length) this
        rw [List.take_take] at h4
        simpa using h4
      have hnb := nB_bounds (l ++ [true])
      rw [← h1] at hnb
      simp only [List.length_append, List.length_singleton] at hnb
      refine Two.new l (fun w' k => unpack_any A l xs.length c w' (hrd.below k) h1 (by omega)) (fun w' k => ?_)
      have hget : ∀ i, i < 8 * xs.length → (bitsOf xs (8 * xs.length)).getD i false = (l ++ [true]).getD i false := by
        intro i hi
        have h5 := bits_row (l ++ [true]) i (by rw [← h1]; exact hi)
        rw [← hxs, ← h1] at h5
        exact h5
      have := refUnpack_good A c xs.length (l.length + 1) xs w' (hr.below k) hx rfl hl (by omega) (fun i h4 h5 => by rw [hget i h5]; simp [List.getD, List.getElem?_eq_none (show (l ++ [true]).length ≤ i by simp; omega)])
        (fun j hj => by
          obtain rfl : l.length = j := by omega
          rw [hget _ (by omega)]; simp [List.getD]) (by omega) (by omega)
      rw [ht] at this
      exact this
end Go.Proofs.Ytgljaimoaijcaaa
