/- Whose an edge is: the heads that are joined (layer 8). -/
import Derived.Test.YtlkddjpjhchjfaaH1
import Derived.Test.YtlkddjpjhchjfaaW29
namespace Go.Proofs.Ytlkddjpjhchjfaa
set_option maxRecDepth 100000
open Go.RowKit

/-- Which hang together by the first edges that have both ends off. -/
def cnR (on : Nat → Bool) (L : List (Int × Int)) : Nat → Nat → Nat → Prop
  | 0, x, y => x = y
  | k + 1, x, y => match L[k]? with
    | none => cnR on L k x y
    | some e => if on e.1.toNat || on e.2.toNat then cnR on L k x y else cnR on L k x y ∨ (cnR on L k x e.1.toNat ∧ cnR on L k y e.2.toNat) ∨ (cnR on L k x e.2.toNat ∧ cnR on L k y e.1.toNat)
theorem cnR_on {on : Nat → Bool} {L : List (Int × Int)} {k a b : Nat} (he : L[k]? = some ((a : Int), (b : Int))) (h : (on a || on b) = true) (x y : Nat) : cnR on L (k + 1) x y ↔ cnR on L k x y := by
  show (match L[k]? with | none => _ | some e => _) ↔ _
  rw [he]
  simp only [Int.toNat_natCast, h, if_true]
theorem cnR_off {on : Nat → Bool} {L : List (Int × Int)} {k a b : Nat} (he : L[k]? = some ((a : Int), (b : Int))) (h : (on a || on b) = false) (x y : Nat) : cnR on L (k + 1) x y ↔ cnR on L k x y ∨ (cnR on L k x a ∧ cnR on L k y b) ∨ (cnR on L k x b ∧ cnR on L k y a) := by
  show (match L[k]? with | none => _ | some e => _) ↔ _
  rw [he]
  simp [h]
/-- A row of truths. -/
def RdO (w : World) (B : Option Addr) (n : Nat) (on : Nat → Bool) : Prop := ∀ v, v < n → ∃ ad, B = some ad ∧ ad.block < w.heap.size ∧ w.cell? (ad.add v) = some (.bool (on v))
theorem RdO.below {w w' : World} {B : Option Addr} {n : Nat} {on : Nat → Bool} (h : RdO w B n on) (hb : Below w.heap.size w w') : RdO w' B n on := fun v hv => by
  obtain ⟨ad, e, hl, hc⟩ := h v hv
  exact ⟨ad, e, Nat.lt_of_lt_of_le hl hb.size, (hb.cell (by rw [block_add]; exact hl)).trans hc⟩
/-- A row that is filled with its own places. -/
def fillI (n k : Nat) : List Nat := (List.range n).map fun i => if i < k then i else 0
theorem fillI_zero (n : Nat) : fillI n 0 = List.replicate n 0 := by
  apply List.ext_getElem?
  intro i
  by_cases h : i < n
  · simp [fillI, h]
  · rw [List.getElem?_eq_none (by simp [fillI]; omega), List.getElem?_eq_none (by simp; omega)]
theorem fillI_length (n k : Nat) : (fillI n k).length = n := by simp [fillI]
theorem fillI_all (n : Nat) : fillI n n = List.range n := by
  apply List.ext_getElem?
  intro i
  by_cases h : i < n
  · simp [fillI, h]
  · rw [List.getElem?_eq_none (by simp [fillI]; omega), List.getElem?_eq_none (by simp; omega)]
theorem fillI_step {n k : Nat} (h : k < n) : (fillI n k).set k k = fillI n (k + 1) := by
  apply List.ext_getElem?
  intro i
  by_cases hi : i < n
  · by_cases e : k = i
    · subst e
      rw [List.getElem?_set_self (by rw [fillI_length]; exact h)]
      simp [fillI, h]
    · rw [List.getElem?_set_ne e]
      simp [fillI, hi]
      by_cases h2 : i < k
      · rw [if_pos h2, if_pos (by omega)]
      · rw [if_neg h2, if_neg (by omega)]
  · rw [List.getElem?_eq_none (by rw [List.length_set, fillI_length]; omega), List.getElem?_eq_none (by rw [fillI_length]; omega)]
theorem make_heads (n : Nat) (hn : n ≤ 1000000) (w : World) : (Instr.makeSlice 35 (.int .i64 n) (.int .i64 n)).run Try.prog w = .ok (.slice (some ⟨w.heap.size, 0, none⟩) n n) (w.alloc (.cells ((List.replicate n 0).map nv).toArray 3)) := by
  obtain ⟨i2, hi2, hx0, hx1, hx2⟩ := info_partsI i64info
  have hr := run_make (P := Try.prog) w 35 3 i2 (.int .i64 0) Try.underlying35 hi2 hx0 .i64 .i64 n n (by omega) (by omega) (by rw [hx2]; omega) (by omega)
  rw [hx1, Nat.mul_one] at hr
  rw [hr]
  congr 3
  apply Array.ext'
  show (madeCells #[Value.int .i64 0] n).toList = _
  rw [toList_madeCells_one]
  simp [nv]
theorem idx0 (a b : Int) (w : World) : (Instr.index 51 (.agg #[.int .i64 a, .int .i64 b]) (.int .i64 0)).run Try.prog w = .ok (.int .i64 a) w := by kernel_rfl
theorem idx1 (a b : Int) (w : World) : (Instr.index 51 (.agg #[.int .i64 a, .int .i64 b]) (.int .i64 1)).run Try.prog w = .ok (.int .i64 b) w := by kernel_rfl
set_option maxHeartbeats 8000000 in
/-- Whose the i-th edge is. -/
theorem owner2_any (n m pr po pb pf Bh i : Nat) (A B : Option Addr) (c dc : Nat) (L : List (Int × Int)) (on : Nat → Bool) (H : List Nat) (r d : Nat → Nat) (w : World) (hi : i < m) (hm : m = L.length) (hms : m ≤ 1000000) (hn : n ≤ 1000000) (huf : UF n H r d) (hH : OwnH w Bh H)
    (h1 : w.cell? ⟨pr, 0, none⟩ = some (.slice A m c)) (h2 : w.cell? ⟨po, 0, none⟩ = some (.slice B n dc)) (h3 : w.cell? ⟨pf, 0, none⟩ = some (.func (.func 81) #[] #[.pointer (some ⟨pb, 0, none⟩)])) (h4 : w.cell? ⟨pb, 0, none⟩ = some (.slice (some ⟨Bh, 0, none⟩) n n))
    (hpb : pb < w.heap.size) (hne : pb ≠ Bh) (hL : RdP w A L) (hO : RdO w B n on) (hin : ∀ e ∈ L, 0 ≤ e.1 ∧ e.1 < n ∧ 0 ≤ e.2 ∧ e.2 < n) :
    Calls Try.prog 82 #[.int .i64 (i : Int), .pointer (some ⟨pr, 0, none⟩), .pointer (some ⟨po, 0, none⟩), .pointer (some ⟨pf, 0, none⟩)] w fun e w' => e = .returned (.int .i64 (((if on (L.getD i (0, 0)).1.toNat = false then r (L.getD i (0, 0)).1.toNat else if on (L.getD i (0, 0)).2.toNat = false then r (L.getD i (0, 0)).2.toNat else n + i) : Nat) : Int)) ∧ ∃ H', UF n H' r d ∧ OwnH w' Bh H' ∧ Only Bh w w' := by
  obtain ⟨e, he⟩ : ∃ e, L[i]? = some e := ⟨_, List.getElem?_eq_getElem (by omega)⟩
  have hg : L.getD i (0, 0) = e := by rw [List.getD_eq_getElem?_getD, he]; rfl
  rw [hg]
  obtain ⟨x0, x1, y0, y1⟩ := hin e (List.mem_of_getElem? he)
  obtain ⟨ad, rfl, _, p0, p1⟩ := hL i e he
  obtain ⟨ex, ey⟩ := e
  simp only at x0 x1 y0 y1 p0 p1 ⊢
  obtain ⟨x, rfl⟩ := Int.eq_ofNat_of_zero_le x0
  obtain ⟨y, rfl⟩ := Int.eq_ofNat_of_zero_le y0
  rw [Int.toNat_natCast, Int.toNat_natCast]
  obtain ⟨bd, rfl, _, q0⟩ := hO x (by omega)
  obtain ⟨bd2, ebd, _, q1⟩ := hO y (by omega)
  injection ebd with ebd
  subst ebd
  have hI0 : (0 : Int) ≤ (i : Int) := by omega
  have hI1 : (i : Int) < (m : Nat) := by omega
  have HX := Lib.hid (head_any n pb Bh x H r d w (by omega) hn huf h4 hpb hne hH)
  have HY := Lib.hid (head_any n pb Bh y H r d w (by omega) hn huf h4 hpb hne hH)
  have HUF := Lib.hid huf
  have HOH := Lib.hid hH
  clear hL hO hin he hg huf hH h4
  generalize on x = bx at *
  generalize on y = yb at *
  obtain ⟨rx, hrx⟩ : ∃ rx, r x = rx := ⟨_, rfl⟩
  obtain ⟨ry, hry⟩ : ∃ ry, r y = ry := ⟨_, rfl⟩
  rw [hrx] at HX
  rw [hry] at HY
  rw [hrx, hry]
  clear hrx hry
  have hw : IntKind.i64.wrap ((n : Int) + (i : Int)) = ((n + i : Nat) : Int) := (IntWalk.i64_in _ (by omega)).trans (by omega)
  have hXx : (0 : Int) ≤ (x : Int) ∧ (x : Int) < (n : Nat) := by omega
  have hYy : (0 : Int) ≤ (y : Int) ∧ (y : Int) < (n : Nat) := by omega
  obtain ⟨z0, z1⟩ := hXx
  have k0 := idx0 (x : Int) (y : Int)
  have k1 := idx1 (x : Int) (y : Int)
  obtain ⟨z2, z3⟩ := hYy
  go_enter Try.func82, Try.ntmps82
  go_wp2_with fail
  go_loopw [12] (fun s wr => ∃ j : Nat, j ≤ 2 ∧ s = .int .i64 j ∧ (1 ≤ j → bx = true) ∧ (2 ≤ j → yb = true) ∧ wr = w) (fun s _ => 2 - (intOf s).toNat)
  case atStart => exact ⟨0, by omega, rfl, (fun h => by omega), (fun h => by omega), rfl⟩
  case round =>
    obtain ⟨j, hj, rfl, hb1, hb2, hwr⟩ := hrel
    rw [hwr]
    clear hwr
    rcases (show j = 0 ∨ j = 1 ∨ j = 2 by omega) with rfl | rfl | rfl
    · cases bx
      · clear hb1 hb2
        go_wp2_with fail
        refine HX.out.mono ?_
        rintro e w2 ⟨rfl, hh⟩
        have HHH := Lib.hid hh
        clear hh
        go_wp2_with fail
        go_ret
        exact ⟨by rfl, HHH.out⟩
      · clear hb1 hb2
        go_wp2_with fail
        go_roundw
        case rel => exact ⟨1, by omega, by go_num, by simp, by simp, by simp⟩
        case measure => simp [intOf]
    · obtain rfl := hb1 (by omega)
      cases yb
      · clear hb1 hb2
        go_wp2_with fail
        refine HY.out.mono ?_
        rintro e w2 ⟨rfl, hh⟩
        have HHH := Lib.hid hh
        clear hh
        go_wp2_with fail
        go_ret
        exact ⟨by rfl, HHH.out⟩
      · clear hb1 hb2
        go_wp2_with fail
        go_roundw
        case rel => exact ⟨2, by omega, by go_num, by simp, by simp, by simp⟩
        case measure => simp [intOf]
    · obtain rfl := hb1 (by omega)
      obtain rfl := hb2 (by omega)
      clear hb1 hb2
      go_wp2_with fail
      go_ret
      exact ⟨by rfl, H, HUF.out, HOH.out, Only.refl _ _⟩
end Go.Proofs.Ytlkddjpjhchjfaa
