/- Walks: bytes are held against one another; how great a strand is; one knot by itself. -/
import Derived.Test.YtgljaimoaijcaaaB1
import Derived.Laws.BytesArg
namespace Go.Proofs.Ytgljaimoaijcaaa
open Go.RowKit

def strN (xs : List Nat) : ByteArray := ⟨(xs.map UInt8.ofNat).toArray⟩
/-- What stands at A reads as these bytes. -/
def RdN (w : World) (A : Option Addr) (xs : List Nat) : Prop := ∀ q x, xs[q]? = some x → ∃ ad, A = some ad ∧ ad.block < w.heap.size ∧ w.cell? (ad.add q) = some (by8 x)
theorem RdN.below {w w' : World} {A : Option Addr} {xs : List Nat} (h : RdN w A xs) (hb : Below w.heap.size w w') : RdN w' A xs := fun q x hq => by
  obtain ⟨ad, e, hl, hc⟩ := h q x hq
  exact ⟨ad, e, Nat.lt_of_lt_of_le hl hb.size, (hb.cell (by rw [block_add]; exact hl)).trans hc⟩
def bytesN (l : List Bool) : List Nat := (List.range (nB l)).map (byteOf l)
theorem bytesN_length (l : List Bool) : (bytesN l).length = nB l := by simp [bytesN]
theorem Rd.n {w : World} {A : Option Addr} {l : List Bool} (h : Rd w A l) : RdN w A (bytesN l) := by
  intro q x hq
  have hlt : q < nB l := by have := (List.getElem?_eq_some_iff.1 hq).1; simpa [bytesN] using this
  obtain ⟨ad, e, hb, hc⟩ := h q hlt
  refine ⟨ad, e, hb, ?_⟩
  rw [hc]
  simp [bytesN, hlt] at hq
  rw [← hq]
theorem conv_rd {P : Program} (w : World) (src e : TypeId) (hs : P.underlying src = some (.slice e)) (he : P.underlying e = some (.int .u8)) (A : Option Addr) (c n : Nat) (xs : List Nat) (hn : n = xs.length) (hx : RdN w A xs) :
    ∀ dst, P.underlying dst = some .string → (convert src dst (.slice A n c)).run P w = .ok (.string (strN xs)) w := by
  intro dst hd
  subst hn
  match A, hx with
  | none, hx =>
    have : xs = [] := by
      match xs, hx with
      | [], _ => rfl
      | x :: r, hx =>
        obtain ⟨ad, e, _⟩ := hx 0 x rfl
        cases e
    subst this
    rw [run_convert_bytes_nil w src e hs he _ c dst hd]
    rfl
  | some ad, hx =>
    have hl : (loadCells ad xs.length).run P w = .ok ((xs.map fun (x : Nat) => (x : Int)).map (Value.int .u8)).toArray w := by
      have := run_loadCells_list (P := P) w ad ((xs.map fun (x : Nat) => (x : Int)).map (Value.int .u8)) (fun j v hj => by
        have hjl : j < xs.length := by
          have := (List.getElem?_eq_some_iff.1 hj).1
          simpa using this
        obtain ⟨ad', e', _, hc⟩ := hx j xs[j] (List.getElem?_eq_getElem hjl)
        injection e' with e'
        subst e'
        rw [hc]
        simp [List.getElem?_eq_getElem hjl] at hj
        rw [← hj]; rfl)
      simpa using this
    rw [run_convert_bytes_string w src dst e _ _ c hs he hd, run_bytesToString w _ _ c _ hl, foldl_push_bytes]
    simp [strN, ByteArray.empty, ByteArray.emptyWithCapacity]
    congr 1
theorem ofNat_inj {a b : Nat} (ha : a < 256) (hb : b < 256) (h : UInt8.ofNat a = UInt8.ofNat b) : a = b := by
  have := congrArg UInt8.toNat h
  simp [UInt8.toNat_ofNat'] at this
  omega
theorem map_inj : ∀ {xs ys : List Nat}, (∀ x ∈ xs, x < 256) → (∀ y ∈ ys, y < 256) → xs.map UInt8.ofNat = ys.map UInt8.ofNat → xs = ys
  | [], [], _, _, _ => rfl
  | [], _ :: _, _, _, h => by cases h
  | _ :: _, [], _, _, h => by cases h
  | x :: xs, y :: ys, hx, hy, h => by
    simp only [List.map_cons, List.cons.injEq] at h
    rw [ofNat_inj (hx x (by simp)) (hy y (by simp)) h.1, map_inj (fun z hz => hx z (by simp [hz])) (fun z hz => hy z (by simp [hz])) h.2]
theorem strN_toList (xs : List Nat) : (strN xs).toList = xs.map UInt8.ofNat := ByteArray.toList_mk _
theorem strN_beq {xs ys : List Nat} (hx : ∀ x ∈ xs, x < 256) (hy : ∀ y ∈ ys, y < 256) : ((strN xs).toList == (strN ys).toList) = decide (xs = ys) := by
  rw [strN_toList, strN_toList]
  by_cases h : xs = ys
  · subst h; simp
  · have : ¬ xs.map UInt8.ofNat = ys.map UInt8.ofNat := fun e => h (map_inj hx hy e)
    simp [h, this]
theorem bytesN_lt (l : List Bool) : ∀ x ∈ bytesN l, x < 256 := by
  intro x hx
  simp [bytesN] at hx
  obtain ⟨q, _, rfl⟩ := hx
  exact byteOf_lt l q
theorem byteOf_inj {l m : List Bool} {q : Nat} (h : byteOf l q = byteOf m q) : ∀ r, r < 8 → l.getD (8*q+r) false = m.getD (8*q+r) false := by
  intro r hr
  have h1 := byteOf_bit l q r hr
  have h2 := byteOf_bit m q r hr
  rw [h, h2] at h1
  revert h1
  cases l.getD (8*q+r) false <;> cases m.getD (8*q+r) false <;> simp
theorem bytesN_inj {l m : List Bool} (h : l.length = m.length) (hb : bytesN l = bytesN m) : l = m := by
  apply ext_getD h
  intro j hj
  have hq : j / 8 < nB l := by unfold nB; omega
  have hq' : j / 8 < nB m := by unfold nB; omega
  have h1 : (bytesN l)[j/8]? = (bytesN m)[j/8]? := by rw [hb]
  simp [bytesN, hq, hq'] at h1
  have := byteOf_inj h1 (j % 8) (by omega)
  rwa [show 8 * (j / 8) + j % 8 = j by omega] at this

set_option maxHeartbeats 1000000 in
theorem sameBytes_any (A B : Option Addr) (n m c d : Nat) (xs ys : List Nat) (w : World) (hx : RdN w A xs) (hy : RdN w B ys) (hn : n = xs.length) (hm : m = ys.length) (h1 : ∀ x ∈ xs, x < 256) (h2 : ∀ y ∈ ys, y < 256) :
    Calls Try.prog 32 #[.slice A n c, .slice B m d] w fun e w' => e = .returned (.bool (decide (xs = ys))) ∧ w = w' := by
  have hc1 := conv_rd (P := Try.prog) w 22 5 Try.underlying22 Try.underlying5 A c n xs hn hx 9 Try.underlying9
  have hc2 := conv_rd (P := Try.prog) w 22 5 Try.underlying22 Try.underlying5 B d m ys hm hy 9 Try.underlying9
  have hb := Lib.hid (strN_beq h1 h2)
  clear hx hy hn hm h1 h2
  generalize strN xs = X at *
  generalize strN ys = Y at *
  go_enter Try.func32, Try.ntmps32
  go_wp2_with fail
  go_ret
  rw [← hb.out]
  exact ⟨rfl, rfl⟩

set_option maxHeartbeats 1000000 in
theorem same_any (x y : Value) (a b : List Bool) (w : World) (hx : St w x a) (hy : St w y b) :
    Calls Try.prog 17 #[x, y] w fun e w' => e = .returned (.bool (decide (a = b))) ∧ Below w.heap.size w w' := by
  obtain ⟨A, c, rfl, hr, h1⟩ := hx
  obtain ⟨B, d, rfl, hs, h2⟩ := hy
  have HR := Lib.hid hr
  have HS := Lib.hid hs
  clear hr hs
  by_cases hl : a.length = b.length
  · have hd : ((a.length : Int) == (b.length : Int)) = true := by simp [hl]
    have he : Hid (decide (a = b) = decide (bytesN a = bytesN b)) := by
      show _ = _
      by_cases e : a = b
      · subst e; simp
      · have : ¬ bytesN a = bytesN b := fun h => e (bytesN_inj hl h)
        simp [e, this]
    clear hl
    go_enter Try.func17, Try.ntmps17
    go_wp2_with fail
    refine (sameBytes_any A B _ _ c d (bytesN a) (bytesN b) _ ((HR.out.alloc _).alloc _).n ((HS.out.alloc _).alloc _).n (bytesN_length a).symm (bytesN_length b).symm (bytesN_lt a) (bytesN_lt b)).mono ?_
    rintro e w1 ⟨rfl, rfl⟩
    go_wp2_with fail
    go_ret
    rw [he.out]
    exact ⟨rfl, ((Below.refl _ _).alloc (Nat.le_refl _) _).alloc (by simp) _⟩
  · have hd : ((a.length : Int) == (b.length : Int)) = false := by simp; omega
    have he : Hid (decide (a = b) = false) := by
      show _ = _
      have : ¬ a = b := fun h => hl (by rw [h])
      simp [this]
    clear hl
    go_enter Try.func17, Try.ntmps17
    go_wp2_with fail
    go_ret
    rw [he.out]
    exact ⟨rfl, ((Below.refl _ _).alloc (Nat.le_refl _) _).alloc (by simp) _⟩

set_option maxHeartbeats 1000000 in
theorem great_any (A : Option Addr) (n c : Nat) (L : Int) (w : World) :
    Calls Try.prog 10 #[.agg #[.slice A n c, .int .i64 L]] w fun e w' => e = .returned (.bool (decide (2000 < L) || decide (250 < n))) ∧ Below w.heap.size w w' := by
  by_cases h : 2000 < L
  · have hd : decide (2000 < L) = true := by simpa using h
    go_enter Try.func10, Try.ntmps10
    go_wp2_with fail
    go_ret
    exact ⟨by simp [h], (Below.refl _ _).alloc (Nat.le_refl _) _⟩
  · have hd : decide (2000 < L) = false := by simpa using h
    go_enter Try.func10, Try.ntmps10
    go_wp2_with fail
    go_ret
    refine ⟨?_, (Below.refl _ _).alloc (Nat.le_refl _) _⟩
    have e : decide ((250 : Int) < n) = decide (250 < n) := by congr 1; apply propext; omega
    rw [← e]
    rfl
end Go.Proofs.Ytgljaimoaijcaaa
