/- Is a way less (fretworkref04.less); the table of ways in memory. -/
import Derived.Test.YtpkiogcedfmodaaW51
import Derived.BigQuiet
namespace Go.Proofs.Ytpkiogcedfmodaa
open Go.RowKit

def cz (p : List Nat) : List Int := p.map fun (x : Nat) => (x : Int)
theorem cz_at {p : List Nat} {k : Nat} (h : k < p.length) : (cz p)[k]? = some ((gx p k : Nat) : Int) := by
  unfold cz
  rw [List.getElem?_map, gx_at h]
  rfl
theorem zn_zs (p : List Nat) : zn p = zs (cz p) := by simp [zn, zs, cz, zv]
set_option maxHeartbeats 4000000 in
theorem less_any (A B : Option Addr) (c d n : Nat) (p q : List Nat) (w : World) (hp : RdZ w A (cz p)) (hq : RdZ w B (cz q)) (hn : n = p.length) (hm : n = q.length) (hs : n ≤ 1000000) :
    Calls Try.prog 35 #[.slice A n c, .slice B n d] w fun e w' => ∃ r : Bool, e = .returned (.bool r) ∧ (r = true ↔ lex p q) ∧ Below w.heap.size w w' := by
  have HP := Lib.hid hp
  have HQ := Lib.hid hq
  have HN := Lib.hid hn
  have HM := Lib.hid hm
  have HB0 := Lib.hid (Below.refl w.heap.size w)
  have HO0 : Hid (∀ j : Nat, j < 0 → gx p j = gx q j) := fun j h => by omega
  clear hp hq hn hm
  go_enter Try.func35, Try.ntmps35
  go_wp2_with fail
  go_loopw [5] (fun s wr => ∃ k : Nat, k ≤ n ∧ s = .int .i64 k ∧ Hid (∀ j : Nat, j < k → gx p j = gx q j) ∧ Hid (Below w.heap.size w wr)) (fun s _ => n - (intOf s).toNat)
  case atStart => exact ⟨0, Nat.zero_le _, rfl, HO0, HB0⟩
  case round =>
    obtain ⟨k, hk, rfl, hO, hb⟩ := hrel
    by_cases h1 : k < n
    · have t1 : decide ((k : Int) < (n : Int)) = true := by simp; omega
      have hI0 : (0 : Int) ≤ (k : Int) := by omega
      have hI1 : (k : Int) < (n : Nat) := by omega
      obtain ⟨ad, hA, hal, c0⟩ := (HP.out.below hb.out) k _ (cz_at (by rw [← HN.out]; exact h1))
      obtain ⟨bd, hB, hbl, d0⟩ := (HQ.out.below hb.out) k _ (cz_at (by rw [← HM.out]; exact h1))
      obtain ⟨x, hx⟩ : ∃ x, gx p k = x := ⟨_, rfl⟩
      obtain ⟨y, hy⟩ : ∃ y, gx q k = y := ⟨_, rfl⟩
      rw [hx] at c0
      rw [hy] at d0
      have HX := Lib.hid hx
      have HY := Lib.hid hy
      have HC : Hid (∀ m : Nat, (wr.drewN m).cell? (ad.add k) = some (.int .i64 (x : Int)) ∧ (wr.drewN m).cell? (bd.add k) = some (.int .i64 (y : Int)) ∧ Below w.heap.size w (wr.drewN m)) := fun m => ⟨c0, d0, below_drewN hb.out m⟩
      subst hA
      subst hB
      clear hx hy
      by_cases hxy : x = y
      · have d1 : ((x : Int) != (y : Int)) = false := by simp; omega
        have HO1 : Hid (∀ j : Nat, j < k + 1 → gx p j = gx q j) := fun j hj => by
          by_cases e : j = k
          · subst e; rw [HX.out, HY.out]; exact hxy
          · exact hO.out j (by omega)
        clear hxy
        go_upto_region 4 with fail
        go_quiet (fail)
        obtain ⟨c1, d2, hb4⟩ := HC.out nq
        generalize wr.drewN nq = w4 at c1 d2 hb4 ⊢
        have HB4 := Lib.hid hb4
        clear c1 d2 hb4 c0 d0
        go_wp2_with fail
        go_roundw
        case rel => exact ⟨k + 1, by omega, by go_num, HO1, HB4⟩
        case measure => simp [intOf]; omega
      · have d1 : ((x : Int) != (y : Int)) = true := by simp; omega
        have HR : Hid (decide (x < y) = true ↔ lex p q) := by
          show decide (x < y) = true ↔ lex p q
          rw [decide_eq_true_iff]
          constructor
          · intro h
            exact ⟨k, by rw [← HN.out]; exact h1, hO.out, by rw [HX.out, HY.out]; exact h⟩
          · rintro ⟨j, e0, e1, e2⟩
            rcases Nat.lt_trichotomy j k with e | e | e
            · have := hO.out j e; omega
            · subst e; rw [HX.out, HY.out] at e2; omega
            · have := e1 k e; rw [HX.out, HY.out] at this; omega
        clear hxy
        go_upto_region 4 with fail
        go_quiet (fail)
        obtain ⟨c1, d2, hb4⟩ := HC.out nq
        have HC4 : Hid (∀ m : Nat, Below w.heap.size w ((wr.drewN nq).drewN m)) := fun m => below_drewN hb4 m
        generalize wr.drewN nq = w4 at c1 d2 hb4 HC4 ⊢
        clear c0 d0
        go_upto_region 5 with fail
        go_quiet (fail)
        have hb5 := HC4.out nq
        generalize w4.drewN nq = w5 at hb5 ⊢
        have HB5 := Lib.hid hb5
        clear c1 d2 hb4 hb5
        go_wp2_with fail
        go_ret
        exact ⟨decide (x < y), rfl, HR.out, HB5.out⟩
    · obtain rfl : k = n := by omega
      have t1 : decide ((k : Int) < (k : Int)) = false := by simp
      go_wp2_with fail
      go_ret
      refine ⟨false, rfl, ⟨fun h => (by cases h), ?_⟩, hb.out⟩
      rintro ⟨j, e0, e1, e2⟩
      have := hO.out j (by have := HN.out; omega)
      omega
/-- A table of ways: each row of its own. -/
def WaysAt (w : World) (base gw : Nat) (us : List Value) (ws : List (List Nat)) : Prop :=
  w.heap[gw]? = some (.cells us.toArray 27 (0, 0)) ∧ us.length = ws.length ∧ ∀ (j : Nat) (u : Value) (xs : List Nat), us[j]? = some u → ws[j]? = some xs → w.ownsRow base 3 1 u xs.length (zn xs)
theorem WaysAt.below {w w' : World} {base gw : Nat} {us : List Value} {ws : List (List Nat)} (h : WaysAt w base gw us ws) (hb : Below w.heap.size w w') : WaysAt w' base gw us ws :=
  ⟨blk_below h.1 hb, h.2.1, fun j u xs a b => row_below (h.2.2 j u xs a b) hb⟩
theorem WaysAt.row {w : World} {base gw j : Nat} {us : List Value} {ws : List (List Nat)} (h : WaysAt w base gw us ws) (hj : j < ws.length) : ∃ (B : Option Addr) (c : Nat), w.cell? ⟨gw, j, none⟩ = some (.slice B (gl ws j).length c) ∧ w.ownsRow base 3 1 (.slice B (gl ws j).length c) (gl ws j).length (zn (gl ws j)) := by
  obtain ⟨u, hu⟩ : ∃ u, us[j]? = some u := ⟨_, List.getElem?_eq_getElem (by rw [h.2.1]; exact hj)⟩
  have hr := h.2.2 j u _ hu (gl_at hj)
  have hc : w.cell? ⟨gw, j, none⟩ = some u := by rw [cell_of h.1]; simpa using hu
  rcases Go.Joins.ownsRow_forms hr with ⟨e1, e2⟩ | ⟨g, c, e⟩
  · subst e1
    refine ⟨none, 0, ?_, ?_⟩
    · rw [hc, e2]
    · rw [e2] at hr ⊢; exact hr
  · subst e
    exact ⟨_, c, hc, hr⟩
theorem WaysAt.set_ {w : World} {base gw j g c n : Nat} {us : List Value} {ws : List (List Nat)} {p : List Nat} (h : WaysAt w base gw us ws) (hn : n = p.length) (hr : w.ownsRow base 3 1 (.slice (some ⟨g, 0, none⟩) n c) n (zn p)) :
    WaysAt (w.setCell ⟨gw, j, none⟩ (.slice (some ⟨g, 0, none⟩) n c)) base gw (us.set j (.slice (some ⟨g, 0, none⟩) n c)) (ws.set j p) := by
  subst hn
  refine ⟨?_, by simp [h.2.1], fun i u xs a b => ?_⟩
  · rw [Go.Joins.block_setCell h.1]
    simp
  · have hk : ∀ {v : Value} {m : Nat} {ys : List Value}, w.ownsRow base 3 1 v m ys → (w.setCell ⟨gw, j, none⟩ (.slice (some ⟨g, 0, none⟩) p.length c)).ownsRow base 3 1 v m ys := fun hv => hv.kept (set_grown w ⟨gw, j, none⟩ _) (.inr (own_ne hv h.1 (by decide)))
    by_cases e : i = j
    · subst e
      have hil := (List.getElem?_eq_some_iff.1 a).1
      have hil2 := (List.getElem?_eq_some_iff.1 b).1
      rw [List.length_set] at hil hil2
      rw [List.getElem?_set_self hil] at a
      rw [List.getElem?_set_self hil2] at b
      injection a with a
      injection b with b
      subst a; subst b
      exact hk hr
    · rw [List.getElem?_set_ne (fun h => e h.symm)] at a b
      exact hk (h.2.2 i u xs a b)
theorem WaysAt.made {w : World} {base gw N : Nat} (h : w.heap[gw]? = some (.cells (List.replicate N (Value.slice none 0 0)).toArray 27 (0, 0))) : WaysAt w base gw (List.replicate N (.slice none 0 0)) (List.replicate N []) :=
  ⟨h, by simp, fun j u xs a b => by
    have e1 := List.eq_of_mem_replicate (List.mem_of_getElem? a)
    have e2 := List.eq_of_mem_replicate (List.mem_of_getElem? b)
    subst e1; subst e2
    exact ⟨rfl, .inl ⟨rfl, rfl⟩⟩⟩
end Go.Proofs.Ytpkiogcedfmodaa
