/- From which place a circle is least. -/
import Derived.Test.YtmnkghbbcjnlfaaR2
namespace Go.Proofs.Ytmnkghbbcjnlfaa
open Go.RowKit

/-- The word at a place of the circle. -/
def at_ (L : List (List Nat)) (i : Nat) : List Nat := L.getD (i % L.length) []
/-- The turns from two places against one another. -/
def ag (L : List (List Nat)) (i j : Nat) : Nat × Int :=
  match (List.range L.length).find? fun k => decide (cmpB (at_ L (i + k)) (at_ L (j + k)) ≠ 0) with
  | some k => (k, cmpB (at_ L (i + k)) (at_ L (j + k)))
  | none => (L.length, 0)
/-- The first least place, and how far it is to the next one; with so many steps left. -/
def lp (L : List (List Nat)) : Nat → Nat → Nat → Nat × Nat
  | 0, b, _ => (b, L.length)
  | f + 1, b, o => if o < L.length then
      (if (ag L b o).2 = 0 then (b, o - b) else if (ag L b o).2 < 0 then lp L f b (o + ((ag L b o).1 + 1)) else lp L f o (max (o + 1) (b + (ag L b o).1 + 1)))
    else (b, L.length)
theorem ag_le (L : List (List Nat)) (i j : Nat) : (ag L i j).1 ≤ L.length := by
  unfold ag
  split
  · rename_i k hk
    have := List.mem_range.1 (List.mem_of_find?_eq_some hk)
    omega
  · exact Nat.le_refl _

theorem ag_found {L : List (List Nat)} {i j k : Nat} (hk : k < L.length) (h : ∀ q, q < k → cmpB (at_ L (i + q)) (at_ L (j + q)) = 0) (h0 : cmpB (at_ L (i + k)) (at_ L (j + k)) ≠ 0) : ag L i j = (k, cmpB (at_ L (i + k)) (at_ L (j + k))) := by
  have : (List.range L.length).find? (fun k => decide (cmpB (at_ L (i + k)) (at_ L (j + k)) ≠ 0)) = some k := by
    rw [List.find?_range_eq_some]
    refine ⟨by simpa using h0, List.mem_range.2 hk, fun q hq => ?_⟩
    simp [h q hq]
  unfold ag
  rw [this]
theorem ag_none {L : List (List Nat)} {i j : Nat} (h : ∀ q, q < L.length → cmpB (at_ L (i + q)) (at_ L (j + q)) = 0) : ag L i j = (L.length, 0) := by
  have : (List.range L.length).find? (fun k => decide (cmpB (at_ L (i + k)) (at_ L (j + k)) ≠ 0)) = none := by
    rw [List.find?_range_eq_none]
    intro q hq
    simp [h q hq]
  unfold ag
  rw [this]

set_option maxRecDepth 100000 in
set_option maxHeartbeats 2000000 in
theorem against_any (A : Option Addr) (c n i j pn pl : Nat) (L : List (List Nat)) (w : World) (hr : RdW w A L) (ol : OkW L) (hn : n = L.length) (hL : n ≤ 1000000) (hi : i ≤ 3000000) (hj : j ≤ 3000000)
    (h1 : w.cell? ⟨pn, 0, none⟩ = some (.int .i64 (n : Nat))) (h2 : w.cell? ⟨pl, 0, none⟩ = some (.slice A n c)) :
    Calls Try.prog 31 #[.int .i64 i, .int .i64 j, .pointer (some ⟨pn, 0, none⟩), .pointer (some ⟨pl, 0, none⟩)] w
      fun e w' => e = .returned (.tuple #[.int .i64 ((ag L i j).1 : Nat), .int .i64 (ag L i j).2]) ∧ Below w.heap.size w w' := by
  have HR := Lib.hid hr
  have HN := Lib.hid hn
  have H1 := Lib.hid h1
  have H2 := Lib.hid h2
  have HA := Lib.hid (fun k hk h h0 => ag_found (L := L) (i := i) (j := j) (k := k) hk h h0)
  have HE := Lib.hid (fun h => ag_none (L := L) (i := i) (j := j) h)
  generalize ag L i j = r at *
  have b1 := World.block_lt_of_cell? w _ h1
  have b2 := World.block_lt_of_cell? w _ h2
  dsimp only at b1 b2
  clear hr hn h2
  go_enter Try.func31, Try.ntmps31
  go_wp2_with fail
  go_loopw [11] (fun s wr => ∃ k : Nat, k ≤ n ∧ s = .int .i64 k ∧ Hid (∀ q, q < k → cmpB (at_ L (i + q)) (at_ L (j + q)) = 0) ∧ Hid (Below w.heap.size w wr)) (fun s _ => n - (intOf s).toNat)
  case atStart => exact ⟨0, Nat.zero_le _, rfl, fun q h => absurd h (by omega), Lib.hid (Below.refl _ _)⟩
  case round =>
    obtain ⟨k, hk, rfl, hK, hbel⟩ := hrel
    by_cases hlt : k < n
    · obtain ⟨q1, hq1⟩ : ∃ q, q = (i + k) % n := ⟨_, rfl⟩
      obtain ⟨q2, hq2⟩ : ∃ q, q = (j + k) % n := ⟨_, rfl⟩
      have l1 : q1 < n := by rw [hq1]; exact Nat.mod_lt _ (by omega)
      have l2 : q2 < n := by rw [hq2]; exact Nat.mod_lt _ (by omega)
      obtain ⟨xs, hxs⟩ : ∃ xs, L[q1]? = some xs := ⟨_, List.getElem?_eq_getElem (by rw [← HN.out]; exact l1)⟩
      obtain ⟨ys, hys⟩ : ∃ ys, L[q2]? = some ys := ⟨_, List.getElem?_eq_getElem (by rw [← HN.out]; exact l2)⟩
      have ax : at_ L (i + k) = xs := by unfold at_; rw [← HN.out, ← hq1]; simp [List.getD, hxs]
      have ay : at_ L (j + k) = ys := by unfold at_; rw [← HN.out, ← hq2]; simp [List.getD, hys]
      obtain ⟨ad, C, c2, e1, hla, hc1, hrx, _, _, _⟩ := HR.out q1 xs hxs
      obtain ⟨ad', D, d2, e2, hlb, hc2, hry, _, _, _⟩ := HR.out q2 ys hys
      subst e1
      injection e2 with e2
      subst e2
      have hox := ol _ (List.mem_of_getElem? hxs)
      have hoy := ol _ (List.mem_of_getElem? hys)
      obtain ⟨s1, hs1⟩ : ∃ s, s = i + k := ⟨_, rfl⟩
      obtain ⟨s2, hs2⟩ : ∃ s, s = j + k := ⟨_, rfl⟩
      have v1 : IntKind.i64.wrap ((i : Int) + (k : Nat)) = (s1 : Nat) := by rw [IntWalk.i64_in _ (by omega)]; omega
      have v2 : IntKind.i64.wrap ((j : Int) + (k : Nat)) = (s2 : Nat) := by rw [IntWalk.i64_in _ (by omega)]; omega
      have v3 : (s1 : Int).tmod (n : Nat) = (q1 : Nat) := by rw [hq1, hs1, Int.tmod_eq_emod_of_nonneg (by omega)]; omega
      have v4 : (s2 : Int).tmod (n : Nat) = (q2 : Nat) := by rw [hq2, hs2, Int.tmod_eq_emod_of_nonneg (by omega)]; omega
      have v12 : ¬ ((n : Int) = 0) := by omega
      have v13 : ¬ (n = 0) := by omega
      have v5 : ((n : Int) == 0) = false := by simp; omega
      have v6 : (0 : Int) ≤ (q1 : Int) := by omega
      have v7 : (q1 : Int) < (n : Int) := by omega
      have v8 : (0 : Int) ≤ (q2 : Int) := by omega
      have v9 : (q2 : Int) < (n : Int) := by omega
      have v10 : IntKind.i64.wrap ((q1 : Nat) : Int) = (q1 : Nat) := IntWalk.i64_in _ (by omega)
      have v11 : IntKind.i64.wrap ((q2 : Nat) : Int) = (q2 : Nat) := IntWalk.i64_in _ (by omega)
      have HS : ∀ w', Below wr.heap.size wr w' → (w'.cell? ⟨pn, 0, none⟩ = some (.int .i64 (n : Nat)) ∧ w'.cell? ⟨pl, 0, none⟩ = some (.slice (some ad) n c) ∧ w'.cell? (ad.add q1) = some (.slice C xs.length c2) ∧ w'.cell? (ad.add q2) = some (.slice D ys.length d2) ∧ Below wr.heap.size wr w') := by
        intro w' h
        have hb := next_below hbel.out h
        exact ⟨(hb.cell b1).trans H1.out, (hb.cell b2).trans H2.out, (hb.cell (by rw [block_add]; exact hla)).trans hc1, (hb.cell (by rw [block_add]; exact hla)).trans hc2, h⟩
      have CC : Hid (∀ w', (w'.cell? ⟨pn, 0, none⟩ = some (.int .i64 (n : Nat)) ∧ w'.cell? ⟨pl, 0, none⟩ = some (.slice (some ad) n c) ∧ w'.cell? (ad.add q1) = some (.slice C xs.length c2) ∧ w'.cell? (ad.add q2) = some (.slice D ys.length d2) ∧ Below wr.heap.size wr w') →
          Calls Try.prog 27 #[.slice C xs.length c2, .slice D ys.length d2] w' fun e w'' => e = .returned (.int .i64 (cmpB xs ys)) ∧ Below wr.heap.size wr w'') := by
        intro w' h
        refine (compare_any C D c2 d2 xs ys w' (hrx.below (next_below hbel.out h.2.2.2.2)) (hry.below (next_below hbel.out h.2.2.2.2)) hox hoy).mono ?_
        rintro e w'' ⟨he, rfl⟩
        exact ⟨he, h.2.2.2.2⟩
      have HSS := Lib.hid HS
      have HS0 := Lib.hid (HS wr.drew (Below.refl _ _).drew)
      have HAX := Lib.hid ax
      have HAY := Lib.hid ay
      obtain ⟨z1, z2, _, _, _⟩ := HS wr (Below.refl _ _)
      clear HS hxs hys ax ay hc1 hc2 hrx hry hox hoy hq1 hq2 hs1 hs2 h1
      generalize hcq : cmpB xs ys = q at *
      have HCQ := Lib.hid hcq
      clear hcq
      go_upto_region 4 with fail
      clear z1 z2
      go_region_held3 (fun w' => w'.cell? ⟨pn, 0, none⟩ = some (.int .i64 (n : Nat)) ∧ w'.cell? ⟨pl, 0, none⟩ = some (.slice (some ad) n c) ∧ w'.cell? (ad.add q1) = some (.slice C xs.length c2) ∧ w'.cell? (ad.add q2) = some (.slice D ys.length d2) ∧ Below wr.heap.size wr w')
        (first | exact hS | exact HS0.out)
        (first | (go_at_call 27; (with_reducible refine (CC.out _ (by assumption)).mono ?_); rintro e w6 ⟨rfl, hB⟩; have hS := HSS.out w6 hB))
      have HB6 := Lib.hid (next_below hbel.out hB)
      clear hB hS HS0 HSS CC v1 v2 v3 v4 v5 v6 v7 v8 v9 v10 v11 v12 v13
      by_cases h0 : q = 0
      · subst h0
        go_wp2_with fail
        go_roundw
        case rel =>
          refine ⟨k + 1, by omega, by go_num, fun p hp => ?_, HB6⟩
          by_cases hpk : p = k
          · subst hpk
            rw [HAX.out, HAY.out]; exact HCQ.out
          · exact hK.out p (by omega)
        case measure => simp [intOf]; omega
      · have hq0 : (q == 0) = false := by simpa using h0
        go_wp2_with fail
        have hfin := HA.out k (by rw [← HN.out]; exact hlt) hK.out (by rw [HAX.out, HAY.out, HCQ.out]; exact h0)
        rw [HAX.out, HAY.out, HCQ.out] at hfin
        subst hfin
        exact bodyPost_ret (v := .tuple #[.int .i64 (k : Nat), .int .i64 q]) (by simp [results, Try.results31, go_sem]) rfl ⟨rfl, HB6.out⟩
    · obtain rfl : k = n := by omega
      have z1 : wr.cell? ⟨pn, 0, none⟩ = some (.int .i64 (k : Nat)) := (hbel.out.cell b1).trans H1.out
      clear h1
      go_wp2_with fail
      have hfin := HE.out (fun q hq => hK.out q (by rw [HN.out]; exact hq))
      rw [← HN.out] at hfin
      subst hfin
      exact bodyPost_ret (v := .tuple #[.int .i64 (k : Nat), .int .i64 0]) (by simp [results, Try.results31, go_sem]) rfl ⟨rfl, hbel.out⟩

theorem lp_end (L : List (List Nat)) : ∀ (f b o : Nat), L.length ≤ o → lp L f b o = (b, L.length)
  | 0, _, _, _ => rfl
  | f + 1, b, o, h => by unfold lp; rw [if_neg (by omega)]
theorem lp_step {L : List (List Nat)} {f b o : Nat} (h : o < L.length) : lp L (f + 1) b o = if (ag L b o).2 = 0 then (b, o - b) else if (ag L b o).2 < 0 then lp L f b (o + ((ag L b o).1 + 1)) else lp L f o (max (o + 1) (b + (ag L b o).1 + 1)) := by
  conv => lhs; unfold lp
  rw [if_pos h]
abbrev boxW (A : Option Addr) (n c : Nat) : Obj := .cells #[.slice A n c] 22 (0, 0)
abbrev boxI (n : Nat) : Obj := .cells #[.int .i64 (n : Nat)] 3 (0, 0)
set_option maxHeartbeats 1000000 in
theorem leastPlaces_any (A : Option Addr) (c n : Nat) (L : List (List Nat)) (w : World) (hl : RdW w A L) (ol : OkW L) (hL : L.length ≤ 1000000) (hn : n = L.length) :
    Calls Try.prog 22 #[.slice A n c] w fun e w' => e = .returned (.tuple #[.int .i64 ((lp L n 0 1).1 : Nat), .int .i64 ((lp L n 0 1).2 : Nat)]) ∧ Below w.heap.size w w' := by
  obtain ⟨W1, hW1⟩ : ∃ W1, (w.alloc (boxW A n c)).alloc (boxI n) = W1 := ⟨_, rfl⟩
  have hB : Below w.heap.size w W1 := by rw [← hW1]; exact ((Below.refl _ _).alloc (Nat.le_refl _) _).alloc (by simp) _
  have b1 : W1.heap[w.heap.size]? = some (boxW A n c) := by rw [← hW1]; exact two_first w _ _
  have b2 : W1.heap[w.heap.size + 1]? = some (boxI n) := by rw [← hW1]; exact two_second w _ _
  have HW := Lib.hid hW1
  have HB := Lib.hid hB
  have H1 := Lib.hid b1
  have H2 := Lib.hid b2
  have HR := Lib.hid (hl.below hB)
  have HN := Lib.hid hn
  rw [← hn] at hL
  obtain ⟨r, hr⟩ : ∃ r, lp L n 0 1 = r := ⟨_, rfl⟩
  have HQ := Lib.hid hr
  rw [hr]
  clear hl hW1 hB b1 b2 hn hr
  go_enter Try.func22, Try.ntmps22
  go_upto_region 3 with fail
  rw [HW.out]
  go_wp2_with fail
  go_loopw [6, 7] (fun s6 s7 wr => ∃ b o f : Nat, s6 = .int .i64 b ∧ s7 = .int .i64 o ∧ b ≤ 3000000 ∧ o ≤ 3000000 ∧ b < o ∧ (b < n ∨ n = 0) ∧ n ≤ f + o ∧ Hid (lp L f b o = r) ∧ Hid (Below W1.heap.size W1 wr)) (fun _ s7 _ => n - (intOf s7).toNat)
  case atStart => exact ⟨0, 1, n, rfl, rfl, by omega, by omega, by omega, by omega, by omega, HQ, Lib.hid (Below.refl _ _)⟩
  case round =>
    obtain ⟨b, o, f, rfl, rfl, hb, ho, hbo, hbn, hf, hlp, hbel⟩ := hrel
    have hlp2 := Lib.hid (show o < n → f ≠ 0 from fun h e => by omega)
    obtain ⟨z1, _, _⟩ : wr.cell? ⟨w.heap.size + 1, 0, none⟩ = some (.int .i64 (n : Nat)) ∧ True ∧ True := ⟨cell_of (blk_below H2.out hbel.out) 0, trivial, trivial⟩
    by_cases hlt : o < n
    · obtain ⟨g, rfl⟩ : ∃ g, f = g + 1 := ⟨f - 1, by omega⟩
      have hst := hlp.out
      rw [lp_step (by rw [← HN.out]; exact hlt)] at hst
      have hkl := ag_le L b o
      rw [← HN.out] at hkl
      have CA : Hid (Calls Try.prog 31 #[.int .i64 b, .int .i64 o, .pointer (some ⟨w.heap.size + 1, 0, none⟩), .pointer (some ⟨w.heap.size, 0, none⟩)] wr
          fun e w' => e = .returned (.tuple #[.int .i64 ((ag L b o).1 : Nat), .int .i64 (ag L b o).2]) ∧ Below wr.heap.size wr w') :=
        against_any A c n b o (w.heap.size + 1) w.heap.size L wr (HR.out.below hbel.out) ol HN.out hL hb ho (cell_of (blk_below H2.out hbel.out) 0) (cell_of (blk_below H1.out hbel.out) 0)
      have HST := Lib.hid hst
      clear hst hlp2 hlp
      generalize ag L b o = kq at *
      obtain ⟨k, q⟩ := kq
      try dsimp only at hkl
      go_wp2_with fail
      refine CA.out.mono ?_
      rintro e w5 ⟨rfl, hb5⟩
      have HB5 := Lib.hid (next_below hbel.out hb5)
      have hst := HST.out
      try dsimp only at hst
      clear hb5 CA HST hbel z1
      by_cases h0 : q = 0
      · subst h0
        rw [if_pos rfl] at hst
        subst hst
        go_wp2_with fail
        exact bodyPost_ret (v := .tuple #[.int .i64 (b : Nat), .int .i64 ((o - b : Nat) : Int)]) (by simp [results, Try.results22, go_sem]; omega) rfl ⟨rfl, next_below HB.out HB5.out⟩
      · rw [if_neg h0] at hst
        have hq0 : (q == 0) = false := by simpa using h0
        by_cases hq : q < 0
        · rw [if_pos hq] at hst
          have HST := Lib.hid hst
          clear hst
          go_wp2_with fail
          go_roundw
          case rel => exact ⟨b, o + (k + 1), g, rfl, by go_num, by omega, by omega, by omega, by omega, by omega, HST, HB5⟩
          case measure => simp [intOf]; omega
        · rw [if_neg hq] at hst
          have HST := Lib.hid hst
          clear hst
          go_wp2_with fail
          go_roundw
          case rel => exact ⟨o, max (o + 1) (b + k + 1), g, rfl, by congr 1; split <;> omega, by omega, by omega, by omega, by omega, by omega, HST, HB5⟩
          case measure => simp only [intOf]; split <;> omega
    · have hend := hlp.out
      rw [lp_end L f b o (by rw [← HN.out]; omega)] at hend
      rw [← HN.out] at hend
      subst hend
      have HBE := Lib.hid hbel.out
      clear hlp hlp2
      go_wp2_with fail
      go_quiet (fail)
      go_wp2_with fail
      exact bodyPost_ret (v := .tuple #[.int .i64 (b : Nat), .int .i64 (n : Nat)]) (by simp [results, Try.results22, go_sem]) rfl ⟨rfl, next_below HB.out (below_drewN HBE.out _)⟩
end Go.Proofs.Ytmnkghbbcjnlfaa
