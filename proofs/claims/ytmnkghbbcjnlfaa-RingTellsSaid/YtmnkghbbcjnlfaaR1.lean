/- Rows of words; what of them is too great; two words held against one another. -/
import Derived.Test.YtmnkghbbcjnlfaaRG
import Derived.Test.YtmnkghbbcjnlfaaR0
import Derived.Lib.Bytealg
import Derived.Lib.BytesEntry
namespace Go.Proofs.Ytmnkghbbcjnlfaa
open Go.RowKit

/-- Words that stand in a row. -/
def RdW (w : World) (A : Option Addr) (L : List (List Nat)) : Prop := ∀ i xs, L[i]? = some xs → ∃ (ad : Addr) (B : Option Addr) (c : Nat), A = some ad ∧ ad.block < w.heap.size ∧ w.cell? (ad.add i) = some (.slice B xs.length c) ∧ RdN w B xs ∧ xs.length ≤ c ∧ c ≤ 9223372036854775807 ∧ (B = none → c = 0)
theorem RdW.below {w w' : World} {A : Option Addr} {L : List (List Nat)} (h : RdW w A L) (hb : Below w.heap.size w w') : RdW w' A L := fun i xs hi => by
  obtain ⟨ad, B, c, e, hl, hc, hr, h1⟩ := h i xs hi
  exact ⟨ad, B, c, e, Nat.lt_of_lt_of_le hl hb.size, (hb.cell (by rw [block_add]; exact hl)).trans hc, hr.below hb, h1⟩
def OkW (L : List (List Nat)) : Prop := ∀ xs ∈ L, ∀ x ∈ xs, x < 256
/-- A value that came in as a row of words. -/
def OkWords (w : World) (v : Value) : Prop := ∃ (A : Option Addr) (c : Nat) (L : List (List Nat)), v = .slice A L.length c ∧ OkW L ∧ RdW w A L ∧ L.length ≤ c ∧ c ≤ 9223372036854775807 ∧ (A = none → c = 0)
theorem OkWords.below {w w' : World} {v : Value} (h : OkWords w v) (hb : Below w.heap.size w w') : OkWords w' v := by
  obtain ⟨A, c, L, e, h1, h2, h3⟩ := h
  exact ⟨A, c, L, e, h1, h2.below hb, h3⟩
open Go.ChangeShapes Go.WideShapes in
theorem open_words {H : Type} {enc : TypeId × Value → H} {W : World} {r : Reach} {b0 : Nat} {v : Value} {d : DataW H} {p : List MemPlace}
    (hv : Value.okWide Try.prog W r b0 22 v) (h : DataW.Trod enc Try.prog W 0 (fun _ => true) true 22 v d p) : OkWords W v := by
  obtain ⟨a0, len, cap, rfl⟩ := okWide_slice Try.underlying22 hv
  obtain ⟨fuel, hf⟩ := h
  rcases Deep.open_slice1 Try.underlying22 (by kernel_rfl) hf with ⟨hcs, _⟩ | ⟨a, l, c, m, n, V, D, Pl, hcs, _, hl, hm, hmm, _, hx⟩
  · simp [Value.cells] at hcs
    obtain ⟨rfl, rfl, rfl⟩ := hcs
    exact ⟨none, 0, [], rfl, (by intro x hx; cases hx), (by intro q x hq; simp at hq), by simp, by simp, fun _ => rfl⟩
  · simp [Value.cells] at hcs
    obtain ⟨rfl, rfl, rfl⟩ := hcs
    have hmc : m = cap := by simpa using hmm
    have each : ∀ i, i < len → ∃ q : List Nat, (∀ x ∈ q, x < 256) ∧ ∃ (B : Option Addr) (c : Nat), V i = .slice B q.length c ∧ RdN W B q ∧ q.length ≤ c ∧ c ≤ 9223372036854775807 ∧ (B = none → c = 0) := by
      intro i hi
      obtain ⟨_, h0⟩ := hx i (by omega)
      rcases open_ints Try.underlying33 Try.underlying5 (by kernel_rfl) h0 with ⟨hcs, _⟩ | ⟨x, l, c, zs, hcs, _, hl, hm, hz, _, hcell, hwz⟩
      · simp only [List.cons.injEq, and_true] at hcs
        exact ⟨[], (by intro x hx; cases hx), none, 0, hcs, (by intro q x hq; simp at hq), by simp, by simp, fun _ => rfl⟩
      · simp only [List.cons.injEq, and_true] at hcs
        have hzl : zs.length = c := by simpa using hz
        have hw2 : ∀ z ∈ zs, 0 ≤ z ∧ z < 256 := by
          intro b hb
          have hb' := hwz b hb
          simp [Lit.wf, IntKind.min, IntKind.max, IntKind.signed, IntKind.bits] at hb'
          omega
        have hlen : ((zs.take l).map Int.toNat).length = l := by simp; omega
        refine ⟨(zs.take l).map Int.toNat, ?_, some x, c, by rw [hlen]; exact hcs, ?_, by rw [hlen]; exact hl, by unfold maxLen at hm; omega, fun e => by cases e⟩
        · intro b hb
          obtain ⟨z, hz, rfl⟩ := List.mem_map.1 hb
          have := hw2 z (List.mem_of_mem_take hz)
          omega
        · intro q b hq
          simp only [List.getElem?_map, Option.map_eq_some_iff] at hq
          obtain ⟨z, hz, rfl⟩ := hq
          have hql : q < l := by have := (List.getElem?_eq_some_iff.1 hz).1; simp at this; omega
          have hc := hcell q (by omega)
          rw [List.getElem?_take, if_pos hql] at hz
          have : zs.getD q 0 = z := by simp [List.getD, hz]
          rw [this] at hc
          have hlt := World.block_lt_of_cell? W _ hc
          rw [block_add] at hlt
          have hz0 := hw2 z (List.mem_of_getElem? hz)
          exact ⟨x, rfl, hlt, by rw [hc]; unfold by8; rw [Int.toNat_of_nonneg hz0.1]⟩
    obtain ⟨q, hq⟩ := Deep.choose_lt each
    refine ⟨some a, cap, (List.range len).map q, by simp, ?_, ?_, by simp; omega, by unfold maxLen at hm; omega, fun e => by cases e⟩
    · intro p hp
      obtain ⟨i, hi, rfl⟩ := List.mem_map.1 hp
      exact (hq i (List.mem_range.1 hi)).1
    · intro i p hp
      simp only [List.getElem?_map, Option.map_eq_some_iff] at hp
      obtain ⟨j, hj, rfl⟩ := hp
      obtain ⟨hjl, rfl⟩ := List.getElem?_eq_some_iff.1 hj
      simp only [List.length_range] at hjl
      simp only [List.getElem_range]
      obtain ⟨_, B, c, e0, h1⟩ := hq i hjl
      obtain ⟨c0, _⟩ := hx i (by omega)
      rw [e0] at c0
      have hlt := World.block_lt_of_cell? W _ c0
      rw [block_add] at hlt
      exact ⟨a, B, c, rfl, hlt, c0, h1⟩

/-- Has a circle more than is looked at? -/
def gW (L : List (List Nat)) : Bool := L.any (fun xs => decide (60 < xs.length)) || decide (60 < L.length)
set_option maxHeartbeats 400000 in
theorem great_any (A : Option Addr) (c : Nat) (L : List (List Nat)) (w : World) (hr : RdW w A L) (hm : L.length ≤ 9223372036854775807) :
    Calls Try.prog 7 #[.slice A L.length c] w fun e w' => e = .returned (.bool (gW L)) ∧ w = w' := by
  have HR := Lib.hid hr
  have HG := Lib.hid (show gW L = (L.any (fun xs => decide (60 < xs.length)) || decide (60 < L.length)) from rfl)
  obtain ⟨n, hn⟩ : ∃ n, n = L.length := ⟨_, rfl⟩
  have HN := Lib.hid hn
  rw [← hn] at hm ⊢
  generalize gW L = g at *
  clear hr hn
  go_enter Try.func7, Try.ntmps7
  go_wp2_with fail
  go_loop [6] (fun i => ∃ k : Nat, k ≤ n ∧ i = .int .i64 k ∧ Hid (∀ j xs, j < k → L[j]? = some xs → ¬ 60 < xs.length)) (fun i => n - (intOf i).toNat)
  case atStart => exact ⟨0, Nat.zero_le _, rfl, fun j xs h => absurd h (by omega)⟩
  case round =>
    obtain ⟨k, hk, rfl, hK⟩ := hrel
    by_cases hlt : k < n
    · obtain ⟨xs, hxs⟩ : ∃ xs, L[k]? = some xs := ⟨_, List.getElem?_eq_getElem (by rw [← HN.out]; exact hlt)⟩
      obtain ⟨ad, B, c2, rfl, hl, hc, _, h1, h2, _⟩ := HR.out k xs hxs
      have h3 : xs.length ≤ 9223372036854775807 := by omega
      have HX := Lib.hid hxs
      clear hxs
      by_cases hg : 60 < xs.length
      · go_wp2_with fail
        go_ret
        refine ⟨?_, rfl⟩
        rw [HG.out, Bool.or_eq_true_iff.2 (.inl (List.any_eq_true.2 ⟨xs, List.mem_of_getElem? HX.out, decide_eq_true hg⟩))]
        rfl
      · go_wp2_with fail
        go_round
        case rel =>
          refine ⟨k + 1, by omega, by go_num, fun j ys hj hy => ?_⟩
          by_cases hjk : j = k
          · subst hjk
            rw [HX.out] at hy
            injection hy with hy
            subst hy
            exact hg
          · exact hK.out j ys (by omega) hy
        case measure => simp [intOf]; omega
    · obtain rfl : k = n := by omega
      have ha : L.any (fun xs => decide (60 < xs.length)) = false := by
        rw [List.any_eq_false]
        intro xs hx
        obtain ⟨j, hj⟩ := List.getElem?_of_mem hx
        have hjl := (List.getElem?_eq_some_iff.1 hj).1
        have := hK.out j xs (by rw [HN.out]; exact hjl) hj
        simpa using this
      have HA := Lib.hid ha
      clear ha
      go_wp2_with fail
      go_ret
      refine ⟨?_, rfl⟩
      rw [HG.out, HA.out, ← HN.out]
      simp
      omega

theorem cmpU (a b : Nat) (ha : a < 256) (hb : b < 256) : (UInt8.ofNat a < UInt8.ofNat b) ↔ a < b := by
  rw [UInt8.lt_iff_toNat_lt]
  simp [UInt8.toNat_ofNat']
  omega
theorem compare_cmpB : ∀ (xs ys : List Nat), (∀ x ∈ xs, x < 256) → (∀ y ∈ ys, y < 256) → Lib.compareBytes (xs.map UInt8.ofNat) (ys.map UInt8.ofNat) = cmpB xs ys
  | [], [], _, _ => by simp [Lib.compareBytes, cmpB, cmpL]
  | [], _ :: _, _, _ => by simp [Lib.compareBytes, cmpB, cmpL]
  | _ :: _, [], _, _ => by simp [Lib.compareBytes, cmpB, cmpL]
  | x :: xs, y :: ys, hx, hy => by
    have ih := compare_cmpB xs ys (fun z hz => hx z (by simp [hz])) (fun z hz => hy z (by simp [hz]))
    have h1 := cmpU x y (hx x (by simp)) (hy y (by simp))
    have h2 := cmpU y x (hy y (by simp)) (hx x (by simp))
    simp only [List.map_cons, Lib.compareBytes, cmpB, cmpL, h1, h2] at *
    by_cases a : x < y
    · have e : cmpN x y = -1 := if_pos a
      simp [a, e]
    · by_cases b : y < x
      · have e : cmpN x y = 1 := by unfold cmpN; rw [if_neg a, if_neg (by omega)]
        simp [a, b, e]
      · obtain rfl : x = y := by omega
        have e : cmpN x x = 0 := cmpN_stands.same x
        simp [ih, e]
theorem load_words {P : Program} (w : World) (A : Option Addr) (c : Nat) (xs : List Nat) (h : RdN w A xs) : (Extern.Bytes.bytesOf (.slice A xs.length c)).run P w = .ok (strN xs) w := by
  cases A with
  | none =>
    cases xs with
    | nil => rfl
    | cons x xs => obtain ⟨_, e, _⟩ := h 0 x rfl; cases e
  | some ad =>
    have := Lib.run_loadBytesX (P := P) w (xs.map fun (x : Nat) => (x : Int)) ad .empty (fun j x hj => by
      simp only [List.getElem?_map, Option.map_eq_some_iff] at hj
      obtain ⟨y, hy, rfl⟩ := hj
      obtain ⟨ad', e, _, hc⟩ := h j y hy
      injection e with e
      subst e
      exact hc)
    rw [List.length_map] at this
    show (Extern.Bytes.loadBytes ad xs.length .empty).run P w = _
    rw [this]
    congr 1
    apply ByteArray.ext
    simp [strN, Lib.bytesOf]
theorem run_cmp {P : Program} (w : World) (A B : Option Addr) (c d : Nat) (xs ys : List Nat) (hx : RdN w A xs) (hy : RdN w B ys) (h1 : ∀ x ∈ xs, x < 256) (h2 : ∀ y ∈ ys, y < 256) :
    (Extern.BytealgCompare.compare #[.slice A xs.length c, .slice B ys.length d]).run P w = .ok (.int .i64 (cmpB xs ys)) w := by
  change Sem.run P (do pure (goInt (Extern.BytealgCompare.cmp (← Extern.Bytes.bytesOf (.slice A xs.length c)) (← Extern.Bytes.bytesOf (.slice B ys.length d))))) w = _
  simp only [Sem.run_bind, load_words w A c xs hx, load_words w B d ys hy, Result.andThen, Sem.run_pure]
  rw [Lib.cmp_eq]
  simp only [strN]
  rw [compare_cmpB xs ys h1 h2]
  rfl

set_option maxHeartbeats 400000 in
theorem compare_any (A B : Option Addr) (c d : Nat) (xs ys : List Nat) (w : World) (hx : RdN w A xs) (hy : RdN w B ys) (h1 : ∀ x ∈ xs, x < 256) (h2 : ∀ y ∈ ys, y < 256) :
    Calls Try.prog 27 #[.slice A xs.length c, .slice B ys.length d] w fun e w' => e = .returned (.int .i64 (cmpB xs ys)) ∧ w = w' := by
  have hrun := run_cmp (P := Try.prog) w A B c d xs ys hx hy h1 h2
  have HR := Lib.hid hrun
  clear hrun hx hy h1 h2
  generalize cmpB xs ys = r at *
  generalize xs.length = n at *
  generalize ys.length = m at *
  go_enter Try.func27, Try.ntmps27
  go_wp2_with fail
  rw [run_callFunc_extern Try.func32 (by kernel_rfl) (by kernel_rfl) (by kernel_rfl) (e := Extern.BytealgCompare.compare) (by kernel_rfl), HR.out]
  simp only [Result.andThen]
  rw [Oper.upon_value]
  go_wp2_with fail
  go_ret
  exact ⟨rfl, rfl⟩
end Go.Proofs.Ytmnkghbbcjnlfaa
