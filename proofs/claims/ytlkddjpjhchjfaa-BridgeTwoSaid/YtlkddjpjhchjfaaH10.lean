/- Are lists of fragments the same (layer 8)? -/
import Derived.Test.YtlkddjpjhchjfaaH9
import Derived.Test.YtlkddjpjhchjfaaW11
import Derived.StillTailTactics
import Derived.Deep.RegionHeld
namespace Go.Proofs.Ytlkddjpjhchjfaa
set_option maxRecDepth 100000
open Go.RowKit

/-- Fragments that are read. -/
def RdF (w : World) (A : Option Addr) (F : List (List (Int × Int) × List Int)) : Prop := ∀ (j : Nat) (x : List (Int × Int) × List Int), F[j]? = some x → ∃ (ad : Addr) (B C : Option Addr) (c d : Nat), A = some ad ∧ ad.block < w.heap.size ∧ w.cell? (ad.add (j * 2)) = some (.slice B x.1.length c) ∧ w.cell? ⟨(ad.add (j * 2)).block, (ad.add (j * 2)).off + 1, none⟩ = some (.slice C x.2.length d) ∧ RdP w B x.1 ∧ RdZ w C x.2
theorem RdF.below {w w' : World} {A : Option Addr} {F : List (List (Int × Int) × List Int)} (h : RdF w A F) (hb : Below w.heap.size w w') : RdF w' A F := fun j x hj => by
  obtain ⟨ad, B, C, c, d, e, hl, h1, h2, h3, h4⟩ := h j x hj
  exact ⟨ad, B, C, c, d, e, Nat.lt_of_lt_of_le hl hb.size, by rw [hb.cell (by rw [block_add]; exact hl)]; exact h1, by rw [hb.cell (by show (ad.add (j * 2)).block < _; rw [block_add]; exact hl)]; exact h2, h3.below hb, h4.below hb⟩
theorem owns_form {w : World} {base size : Nat} {e : TypeId} {v : Value} {n : Nat} {cs : List Value} (h : w.ownsRow base e size v n cs) : ∃ A c, v = .slice A n c := by
  rcases Joins.ownsRow_forms h with ⟨e, hn⟩ | ⟨g, cap, e⟩
  · exact ⟨none, 0, by rw [e, hn]⟩
  · exact ⟨_, cap, e⟩
theorem Frags.rd {w : World} {base n c : Nat} {A : Option Addr} {fr : List (Value × Value)} {F : List (List (Int × Int) × List Int)} (h : Frags w base (.slice A n c) fr F) : RdF w A F := by
  intro j x hj
  have hjl : j < F.length := (List.getElem?_eq_some_iff.1 hj).1
  obtain ⟨p, hp⟩ : ∃ p, fr[j]? = some p := ⟨_, List.getElem?_eq_getElem (by rw [h.len]; exact hjl)⟩
  obtain ⟨g, cap, ev⟩ := h.form (by omega)
  injection ev with e1 e2 e3
  subst e1; subst e2
  have hE := h.edges j p x hp hj
  have hF := h.feet j p x hp hj
  obtain ⟨B, c1, hB⟩ := owns_form hE
  obtain ⟨C, c2, hC⟩ := owns_form hF
  have a1 := h.row.cells rfl (j * 2) _ (fcells_at fr j p hp).1
  have a2 := h.row.cells rfl (j * 2 + 1) _ (fcells_at fr j p hp).2
  rw [hB] at a1 hE
  rw [hC] at a2 hF
  obtain ⟨B', c', hb', hrd, _, _⟩ := own_rdP hE
  injection hb' with hb1 _ _
  subst hb1
  refine ⟨⟨g, 0, none⟩, B, C, c1, c2, rfl, (h.row.lt g rfl).2, a1, ?_, hrd, owns_rd hF⟩
  rw [add_off] at a2 ⊢
  exact a2

set_option maxHeartbeats 16000000 in
theorem sameF_any (A B : Option Addr) (c d n m : Nat) (L M : List (List (Int × Int) × List Int)) (w : World) (hl : RdF w A L) (hm : RdF w B M) (bl : ∀ x ∈ L, x.1.length ≤ 1000000 ∧ x.2.length ≤ 1000000) (bm : ∀ x ∈ M, x.1.length ≤ 1000000 ∧ x.2.length ≤ 1000000) (hL : n ≤ 1000000) (hM : m ≤ 1000000) (hn : n = L.length) (hmm : m = M.length) :
    Calls Try.prog 65 #[.slice A n c, .slice B m d] w fun e w' => e = .returned (.bool (decide (L = M))) ∧ Below w.heap.size w w' := by
  have HL := Lib.hid hl
  have HM := Lib.hid hm
  have HN := Lib.hid hn
  have HMM := Lib.hid hmm
  have BL := Lib.hid bl
  have BM := Lib.hid bm
  by_cases hnm : n = m
  · subst hnm
    have hd : ((n : Int) == (n : Int)) = true := by simp
    clear hl hm hn hmm bl bm hd
    obtain ⟨r, hr⟩ : ∃ r, decide (L = M) = r := ⟨_, rfl⟩
    have HR := Lib.hid hr
    rw [hr]
    clear hr
    go_enter Try.func65, Try.ntmps65
    go_wp2_with fail
    go_loopw [13] (fun s wr => ∃ k : Nat, k ≤ n ∧ s = .int .i64 k ∧ Hid (∀ q, q < k → L[q]? = M[q]?) ∧ Hid (Below w.heap.size w wr)) (fun s _ => n - (intOf s).toNat)
    case atStart => exact ⟨0, Nat.zero_le _, rfl, fun q h => absurd h (by omega), Lib.hid (Below.refl _ _)⟩
    case round =>
      obtain ⟨k, hk, rfl, hK, hbel⟩ := hrel
      by_cases hlt : k < n
      · obtain ⟨x, hx⟩ : ∃ x, L[k]? = some x := ⟨_, List.getElem?_eq_getElem (by rw [← HN.out]; exact hlt)⟩
        obtain ⟨y, hy⟩ : ∃ y, M[k]? = some y := ⟨_, List.getElem?_eq_getElem (by rw [← HMM.out]; exact hlt)⟩
        obtain ⟨ad, X, X2, cx, cx2, rfl, hal, c1, c2, rx, rx2⟩ := (HL.out.below hbel.out) k x hx
        obtain ⟨bd, Y, Y2, cy, cy2, rfl, hbl, d1, d2, ry, ry2⟩ := (HM.out.below hbel.out) k y hy
        have HX := Lib.hid hx
        have HY := Lib.hid hy
        have hI0 : (0 : Int) ≤ (k : Int) := by omega
        have hI1 : (k : Int) < (n : Nat) := by omega
        obtain ⟨v, hv⟩ : ∃ v, decide (x.1 = y.1) = v := ⟨_, rfl⟩
        obtain ⟨v2, hv2⟩ : ∃ v, decide (x.2 = y.2) = v := ⟨_, rfl⟩
        have HV := Lib.hid hv
        have HV2 := Lib.hid hv2
        have HS : Hid (∀ w', Below wr.heap.size wr w' → Calls Try.prog 19 #[.slice X x.1.length cx, .slice Y y.1.length cy] w' fun e w'' => e = .returned (.bool v) ∧ Below w'.heap.size w' w'') := by
          intro w' hb
          rw [← hv]
          exact samePr_any X Y cx cy x.1.length y.1.length x.1 y.1 w' (rx.below hb) (ry.below hb) (BL.out x (List.mem_of_getElem? hx)).1 (BM.out y (List.mem_of_getElem? hy)).1 rfl rfl
        have HZ : Hid (∀ w', Below wr.heap.size wr w' → Calls Try.prog 24 #[.slice X2 x.2.length cx2, .slice Y2 y.2.length cy2] w' fun e w'' => e = .returned (.bool v2) ∧ Below w'.heap.size w' w'') := by
          intro w' hb
          rw [← hv2]
          exact sameZ_any X2 Y2 cx2 cy2 x.2.length y.2.length x.2 y.2 w' (rx2.below hb) (ry2.below hb) (BL.out x (List.mem_of_getElem? hx)).2 (BM.out y (List.mem_of_getElem? hy)).2 rfl rfl
        have HKP : Hid (∀ w', Below wr.heap.size wr w' → w'.cell? (ad.add (k * 2)) = some (.slice X x.1.length cx) ∧ w'.cell? ⟨(ad.add (k * 2)).block, (ad.add (k * 2)).off + 1, none⟩ = some (.slice X2 x.2.length cx2) ∧ w'.cell? (bd.add (k * 2)) = some (.slice Y y.1.length cy) ∧ w'.cell? ⟨(bd.add (k * 2)).block, (bd.add (k * 2)).off + 1, none⟩ = some (.slice Y2 y.2.length cy2) ∧ Below wr.heap.size wr w') := fun w' hb =>
          ⟨by rw [hb.cell (by rw [block_add]; exact hal)]; exact c1, by rw [hb.cell (by show (ad.add (k * 2)).block < _; rw [block_add]; exact hal)]; exact c2, by rw [hb.cell (by rw [block_add]; exact hbl)]; exact d1, by rw [hb.cell (by show (bd.add (k * 2)).block < _; rw [block_add]; exact hbl)]; exact d2, hb⟩
        have hD := HKP.out wr.drew (Below.refl _ _).drew
        generalize x.1.length = lx at *
        generalize y.1.length = ly at *
        generalize x.2.length = lx2 at *
        generalize y.2.length = ly2 at *
        clear hx hy rx ry rx2 ry2 hv hv2 c1 c2 d1 d2 hal hbl
        go_upto_region 6 with fail
        cases v
        · refine wp_region_held_drew (S := (fun w' => w'.cell? (ad.add (k * 2)) = some (.slice X lx cx) ∧ w'.cell? ⟨(ad.add (k * 2)).block, (ad.add (k * 2)).off + 1, none⟩ = some (.slice X2 lx2 cx2) ∧ w'.cell? (bd.add (k * 2)) = some (.slice Y ly cy) ∧ w'.cell? ⟨(bd.add (k * 2)).block, (bd.add (k * 2)).off + 1, none⟩ = some (.slice Y2 ly2 cy2) ∧ Below wr.heap.size wr w')) (by kernel_rfl) hD (fun hS => ?_)
          refine wpAnyH_take (i := 0) (v := ?_) rfl (by kernel_rfl) (by kernel_rfl) (by kernel_rfl) (fun _ _ _ h => h) (Or.inl ⟨by rfl, ?_⟩) hS ?_
          rotate_left
          · intro wz hSw; (try dsimp only at hSw); obtain ⟨z1, z2, z3, z4, z5⟩ := hSw; go_simp; (try with_reducible rfl)
          try simp only [List.getElem_toArray, List.getElem_cons_zero, List.getElem_cons_succ, Act.put, List.setIfInBounds_toArray, List.set_cons_zero, List.set_cons_succ]
          refine wpAnyH_take (i := 1) (v := ?_) rfl (by kernel_rfl) (by kernel_rfl) (by kernel_rfl) (fun _ _ _ h => h) (Or.inl ⟨by rfl, ?_⟩) hS ?_
          rotate_left
          · intro wz hSw; (try dsimp only at hSw); obtain ⟨z1, z2, z3, z4, z5⟩ := hSw; go_simp; (try with_reducible rfl)
          try simp only [List.getElem_toArray, List.getElem_cons_zero, List.getElem_cons_succ, Act.put, List.setIfInBounds_toArray, List.set_cons_zero, List.set_cons_succ]
          refine wpAnyH_take (i := 2) (v := ?_) rfl (by kernel_rfl) (by kernel_rfl) (by kernel_rfl) (fun _ _ _ h => h) (Or.inl ⟨by rfl, ?_⟩) hS ?_
          rotate_left
          · intro wz hSw; (try dsimp only at hSw); obtain ⟨z1, z2, z3, z4, z5⟩ := hSw; go_simp; (try with_reducible rfl)
          try simp only [List.getElem_toArray, List.getElem_cons_zero, List.getElem_cons_succ, Act.put, List.setIfInBounds_toArray, List.set_cons_zero, List.set_cons_succ]
          refine wpAnyH_take (i := 3) (v := ?_) rfl (by kernel_rfl) (by kernel_rfl) (by kernel_rfl) (fun _ _ _ h => h) (Or.inl ⟨by rfl, ?_⟩) hS ?_
          rotate_left
          · intro wz hSw; (try dsimp only at hSw); obtain ⟨z1, z2, z3, z4, z5⟩ := hSw; go_simp; (try with_reducible rfl)
          try simp only [List.getElem_toArray, List.getElem_cons_zero, List.getElem_cons_succ, Act.put, List.setIfInBounds_toArray, List.set_cons_zero, List.set_cons_succ]
          refine wpAnyH_take (i := 4) (v := ?_) rfl (by kernel_rfl) (by kernel_rfl) (by kernel_rfl) (fun _ _ _ h => h) (Or.inl ⟨by rfl, ?_⟩) hS ?_
          rotate_left
          · intro wz hSw; (try dsimp only at hSw); obtain ⟨z1, z2, z3, z4, z5⟩ := hSw; go_simp; (try with_reducible rfl)
          try simp only [List.getElem_toArray, List.getElem_cons_zero, List.getElem_cons_succ, Act.put, List.setIfInBounds_toArray, List.set_cons_zero, List.set_cons_succ]
          refine wpAnyH_take (i := 5) (v := ?_) rfl (by kernel_rfl) (by kernel_rfl) (by kernel_rfl) (fun _ _ _ h => h) (Or.inl ⟨by rfl, ?_⟩) hS ?_
          rotate_left
          · intro wz hSw; (try dsimp only at hSw); obtain ⟨z1, z2, z3, z4, z5⟩ := hSw; go_simp; (try with_reducible rfl)
          try simp only [List.getElem_toArray, List.getElem_cons_zero, List.getElem_cons_succ, Act.put, List.setIfInBounds_toArray, List.set_cons_zero, List.set_cons_succ]
          refine wpAnyH_take (i := 6) (v := ?_) rfl (by kernel_rfl) (by kernel_rfl) (by kernel_rfl) (fun _ _ _ h => h) (Or.inl ⟨by rfl, ?_⟩) hS ?_
          rotate_left
          · intro wz hSw; (try dsimp only at hSw); obtain ⟨z1, z2, z3, z4, z5⟩ := hSw; go_simp; (try with_reducible rfl)
          try simp only [List.getElem_toArray, List.getElem_cons_zero, List.getElem_cons_succ, Act.put, List.setIfInBounds_toArray, List.set_cons_zero, List.set_cons_succ]
          refine wpAnyH_take (i := 7) (v := ?_) rfl (by kernel_rfl) (by kernel_rfl) (by kernel_rfl) (fun _ _ _ h => h) (Or.inl ⟨by rfl, ?_⟩) hS ?_
          rotate_left
          · intro wz hSw; (try dsimp only at hSw); obtain ⟨z1, z2, z3, z4, z5⟩ := hSw; go_simp; (try with_reducible rfl)
          try simp only [List.getElem_toArray, List.getElem_cons_zero, List.getElem_cons_succ, Act.put, List.setIfInBounds_toArray, List.set_cons_zero, List.set_cons_succ]
          refine wpAnyH_take (i := 8) (v := ?_) rfl (by kernel_rfl) (by kernel_rfl) (by kernel_rfl) (fun _ _ _ h => h) (Or.inl ⟨by rfl, ?_⟩) hS ?_
          rotate_left
          · intro wz hSw; (try dsimp only at hSw); obtain ⟨z1, z2, z3, z4, z5⟩ := hSw; go_simp; (try with_reducible rfl)
          try simp only [List.getElem_toArray, List.getElem_cons_zero, List.getElem_cons_succ, Act.put, List.setIfInBounds_toArray, List.set_cons_zero, List.set_cons_succ]
          refine wpAnyH_take (i := 9) (v := ?_) rfl (by kernel_rfl) (by kernel_rfl) (by kernel_rfl) (fun _ _ _ h => h) (Or.inl ⟨by rfl, ?_⟩) hS ?_
          rotate_left
          · intro wz hSw; (try dsimp only at hSw); obtain ⟨z1, z2, z3, z4, z5⟩ := hSw; go_simp; (try with_reducible rfl)
          try simp only [List.getElem_toArray, List.getElem_cons_zero, List.getElem_cons_succ, Act.put, List.setIfInBounds_toArray, List.set_cons_zero, List.set_cons_succ]
          refine wpAnyH_ready (rs := [10]) (by kernel_rfl) (by simp) (AllReadyH.cons rfl (fun K hK => ?_) AllReadyH.nil)
          go_simp
          go_at_call 19
          refine (HS.out _ hS.2.2.2.2).mono ?_
          rintro e wn ⟨rfl, hb⟩
          go_wp2_with fail
          have hS := HKP.out wn (next_below hS.2.2.2.2 hb)
          refine hK.out _ _ hS (fun _ => ?_)
          clear hK K
          try simp only [List.getElem_toArray, List.getElem_cons_zero, List.getElem_cons_succ, Act.put, List.setIfInBounds_toArray, List.set_cons_zero, List.set_cons_succ]
          refine wpAnyH_take (i := 11) (v := ?_) rfl (by kernel_rfl) (by kernel_rfl) (by kernel_rfl) (fun _ _ _ h => h) (Or.inl ⟨by rfl, ?_⟩) hS ?_
          rotate_left
          · intro wz hSw; (try dsimp only at hSw); go_simp; (try with_reducible rfl)
          try simp only [List.getElem_toArray, List.getElem_cons_zero, List.getElem_cons_succ, Act.put, List.setIfInBounds_toArray, List.set_cons_zero, List.set_cons_succ]
          refine wpAnyH_take (i := 12) (v := ?_) rfl (by kernel_rfl) (by kernel_rfl) (by kernel_rfl) (fun _ _ _ h => h) (Or.inl ⟨by rfl, ?_⟩) hS ?_
          rotate_left
          · intro wz hSw; (try dsimp only at hSw); go_simp; (try with_reducible rfl)
          try simp only [List.getElem_toArray, List.getElem_cons_zero, List.getElem_cons_succ, Act.put, List.setIfInBounds_toArray, List.set_cons_zero, List.set_cons_succ]
          refine wpAnyH_take (i := 13) (v := undef) rfl (by kernel_rfl) (by kernel_rfl) (by kernel_rfl) (fun _ _ _ h => h) (Or.inr ⟨by rfl, rfl⟩) hS ?_
          try simp only [List.getElem_toArray, List.getElem_cons_zero, List.getElem_cons_succ, Act.put, List.setIfInBounds_toArray, List.set_cons_zero, List.set_cons_succ]
          refine wpAnyH_take (i := 14) (v := undef) rfl (by kernel_rfl) (by kernel_rfl) (by kernel_rfl) (fun _ _ _ h => h) (Or.inr ⟨by rfl, rfl⟩) hS ?_
          try simp only [List.getElem_toArray, List.getElem_cons_zero, List.getElem_cons_succ, Act.put, List.setIfInBounds_toArray, List.set_cons_zero, List.set_cons_succ]
          refine wpAnyH_take (i := 15) (v := undef) rfl (by kernel_rfl) (by kernel_rfl) (by kernel_rfl) (fun _ _ _ h => h) (Or.inr ⟨by rfl, rfl⟩) hS ?_
          try simp only [List.getElem_toArray, List.getElem_cons_zero, List.getElem_cons_succ, Act.put, List.setIfInBounds_toArray, List.set_cons_zero, List.set_cons_succ]
          refine wpAnyH_take (i := 16) (v := undef) rfl (by kernel_rfl) (by kernel_rfl) (by kernel_rfl) (fun _ _ _ h => h) (Or.inr ⟨by rfl, rfl⟩) hS ?_
          try simp only [List.getElem_toArray, List.getElem_cons_zero, List.getElem_cons_succ, Act.put, List.setIfInBounds_toArray, List.set_cons_zero, List.set_cons_succ]
          refine wpAnyH_take (i := 17) (v := undef) rfl (by kernel_rfl) (by kernel_rfl) (by kernel_rfl) (fun _ _ _ h => h) (Or.inr ⟨by rfl, rfl⟩) hS ?_
          try simp only [List.getElem_toArray, List.getElem_cons_zero, List.getElem_cons_succ, Act.put, List.setIfInBounds_toArray, List.set_cons_zero, List.set_cons_succ]
          refine wpAnyH_take (i := 18) (v := undef) rfl (by kernel_rfl) (by kernel_rfl) (by kernel_rfl) (fun _ _ _ h => h) (Or.inr ⟨by rfl, rfl⟩) hS ?_
          try simp only [List.getElem_toArray, List.getElem_cons_zero, List.getElem_cons_succ, Act.put, List.setIfInBounds_toArray, List.set_cons_zero, List.set_cons_succ]
          refine wpAnyH_take (i := 19) (v := undef) rfl (by kernel_rfl) (by kernel_rfl) (by kernel_rfl) (fun _ _ _ h => h) (Or.inr ⟨by rfl, rfl⟩) hS ?_
          try simp only [List.getElem_toArray, List.getElem_cons_zero, List.getElem_cons_succ, Act.put, List.setIfInBounds_toArray, List.set_cons_zero, List.set_cons_succ]
          refine wpAnyH_take (i := 20) (v := undef) rfl (by kernel_rfl) (by kernel_rfl) (by kernel_rfl) (fun _ _ _ h => h) (Or.inr ⟨by rfl, rfl⟩) hS ?_
          try simp only [List.getElem_toArray, List.getElem_cons_zero, List.getElem_cons_succ, Act.put, List.setIfInBounds_toArray, List.set_cons_zero, List.set_cons_succ]
          refine wpAnyH_take (i := 21) (v := undef) rfl (by kernel_rfl) (by kernel_rfl) (by kernel_rfl) (fun _ _ _ h => h) (Or.inr ⟨by rfl, rfl⟩) hS ?_
          try simp only [List.getElem_toArray, List.getElem_cons_zero, List.getElem_cons_succ, Act.put, List.setIfInBounds_toArray, List.set_cons_zero, List.set_cons_succ]
          refine wpAnyH_take (i := 22) (v := undef) rfl (by kernel_rfl) (by kernel_rfl) (by kernel_rfl) (fun _ _ _ h => h) (Or.inr ⟨by rfl, rfl⟩) hS ?_
          try simp only [List.getElem_toArray, List.getElem_cons_zero, List.getElem_cons_succ, Act.put, List.setIfInBounds_toArray, List.set_cons_zero, List.set_cons_succ]
          refine wpAnyH_take (i := 23) (v := undef) rfl (by kernel_rfl) (by kernel_rfl) (by kernel_rfl) (fun _ _ _ h => h) (Or.inr ⟨by rfl, rfl⟩) hS ?_
          try simp only [List.getElem_toArray, List.getElem_cons_zero, List.getElem_cons_succ, Act.put, List.setIfInBounds_toArray, List.set_cons_zero, List.set_cons_succ]
          refine wpAnyH_take (i := 24) (v := undef) rfl (by kernel_rfl) (by kernel_rfl) (by kernel_rfl) (fun _ _ _ h => h) (Or.inr ⟨by rfl, rfl⟩) hS ?_
          try simp only [List.getElem_toArray, List.getElem_cons_zero, List.getElem_cons_succ, Act.put, List.setIfInBounds_toArray, List.set_cons_zero, List.set_cons_succ]
          refine wpAnyH_take (i := 25) (v := ?_) rfl (by kernel_rfl) (by kernel_rfl) (by kernel_rfl) (fun _ _ _ h => h) (Or.inl ⟨by rfl, ?_⟩) hS ?_
          rotate_left
          · intro wz hSw; (try dsimp only at hSw); go_simp; (try with_reducible rfl)
          try simp only [List.getElem_toArray, List.getElem_cons_zero, List.getElem_cons_succ, Act.put, List.setIfInBounds_toArray, List.set_cons_zero, List.set_cons_succ]
          refine wpAnyH_done (by kernel_rfl) ?_ _

          all_goals go_wp2_with fail
          all_goals go_ret
          all_goals
            refine ⟨?_, next_below hbel.out hS.2.2.2.2⟩
            have hxy : x ≠ y := fun e => of_decide_eq_false HV.out (by rw [e])
            have hdec : decide (L = M) = false := decide_eq_false (fun e => hxy (by have h1 := HX.out; rw [e, HY.out] at h1; exact (Option.some.inj h1).symm))
            rw [← HR.out, hdec]
            rfl
        · cases v2
          · go_region_held3 (fun w' => w'.cell? (ad.add (k * 2)) = some (.slice X lx cx) ∧ w'.cell? ⟨(ad.add (k * 2)).block, (ad.add (k * 2)).off + 1, none⟩ = some (.slice X2 lx2 cx2) ∧ w'.cell? (bd.add (k * 2)) = some (.slice Y ly cy) ∧ w'.cell? ⟨(bd.add (k * 2)).block, (bd.add (k * 2)).off + 1, none⟩ = some (.slice Y2 ly2 cy2) ∧ Below wr.heap.size wr w')
              (first | exact hS | exact hD)
              (first
                | (go_at_call 19; refine (HS.out _ (‹_ ∧ _ ∧ _ ∧ _ ∧ Below wr.heap.size wr _›).2.2.2.2).mono ?_; rintro e wn ⟨rfl, hb⟩; have hS := HKP.out wn (next_below (‹_ ∧ _ ∧ _ ∧ _ ∧ Below wr.heap.size wr _›).2.2.2.2 hb))
                | (go_at_call 24; refine (HZ.out _ (‹_ ∧ _ ∧ _ ∧ _ ∧ Below wr.heap.size wr _›).2.2.2.2).mono ?_; rintro e wn ⟨rfl, hb⟩; have hS := HKP.out wn (next_below (‹_ ∧ _ ∧ _ ∧ _ ∧ Below wr.heap.size wr _›).2.2.2.2 hb)))
            all_goals go_wp2_with fail
            all_goals go_ret
            all_goals
              refine ⟨?_, next_below hbel.out hS.2.2.2.2⟩
              have hxy : x ≠ y := fun e => of_decide_eq_false HV2.out (by rw [e])
              have hdec : decide (L = M) = false := decide_eq_false (fun e => hxy (by have h1 := HX.out; rw [e, HY.out] at h1; exact (Option.some.inj h1).symm))
              rw [← HR.out, hdec]
              rfl
          · go_region_held3 (fun w' => w'.cell? (ad.add (k * 2)) = some (.slice X lx cx) ∧ w'.cell? ⟨(ad.add (k * 2)).block, (ad.add (k * 2)).off + 1, none⟩ = some (.slice X2 lx2 cx2) ∧ w'.cell? (bd.add (k * 2)) = some (.slice Y ly cy) ∧ w'.cell? ⟨(bd.add (k * 2)).block, (bd.add (k * 2)).off + 1, none⟩ = some (.slice Y2 ly2 cy2) ∧ Below wr.heap.size wr w')
              (first | exact hS | exact hD)
              (first
                | (go_at_call 19; refine (HS.out _ (‹_ ∧ _ ∧ _ ∧ _ ∧ Below wr.heap.size wr _›).2.2.2.2).mono ?_; rintro e wn ⟨rfl, hb⟩; have hS := HKP.out wn (next_below (‹_ ∧ _ ∧ _ ∧ _ ∧ Below wr.heap.size wr _›).2.2.2.2 hb))
                | (go_at_call 24; refine (HZ.out _ (‹_ ∧ _ ∧ _ ∧ _ ∧ Below wr.heap.size wr _›).2.2.2.2).mono ?_; rintro e wn ⟨rfl, hb⟩; have hS := HKP.out wn (next_below (‹_ ∧ _ ∧ _ ∧ _ ∧ Below wr.heap.size wr _›).2.2.2.2 hb)))
            all_goals go_wp2_with fail
            all_goals go_roundw
            case rel =>
              refine ⟨k + 1, by omega, by go_num, fun q hq => ?_, Lib.hid (next_below hbel.out hS.2.2.2.2)⟩
              by_cases hqk : q = k
              · subst hqk
                rw [HX.out, HY.out, Prod.ext (of_decide_eq_true HV.out) (of_decide_eq_true HV2.out)]
              · exact hK.out q (by omega)
            case measure => simp [intOf]; omega
      · obtain rfl : k = n := by omega
        go_wp2_with fail
        go_ret
        refine ⟨?_, hbel.out⟩
        have he : L = M := by
          apply List.ext_getElem?
          intro q
          by_cases hq : q < k
          · exact hK.out q hq
          · rw [List.getElem?_eq_none (by rw [← HN.out]; omega), List.getElem?_eq_none (by rw [← HMM.out]; omega)]
        rw [← HR.out, decide_eq_true he]
        rfl
  · have hd : ((n : Int) == (m : Int)) = false := by simp; omega
    have he : Hid (decide (L = M) = false) := by
      show _ = _
      exact decide_eq_false (fun h => hnm (by rw [hn, hmm, h]))
    clear hl hm hn hmm bl bm
    go_enter Try.func65, Try.ntmps65
    go_wp2_with fail
    go_ret
    rw [he.out]
    exact ⟨rfl, Below.refl _ _⟩
end Go.Proofs.Ytlkddjpjhchjfaa
