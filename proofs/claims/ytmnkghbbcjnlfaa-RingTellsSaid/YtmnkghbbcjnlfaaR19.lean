/- The reference's turns, walked. -/
import Derived.Test.YtmnkghbbcjnlfaaR18
namespace Go.Proofs.Ytmnkghbbcjnlfaa
open Go.RowKit

theorem own_some {w : World} {base n size : Nat} {e : TypeId} {v : Value} {cs : List Value} (h : w.ownsRow base e size v n cs) (hne : ¬ v = .slice none 0 0) : ∃ g cap, v = .slice (some ⟨g, 0, none⟩) n cap := by
  rcases Joins.ownsRow_forms h with ⟨e, _⟩ | h
  · exact absurd e hne
  · exact h

set_option maxRecDepth 100000 in
set_option maxHeartbeats 1000000 in
theorem refTurn_any (A : Option Addr) (c n : Nat) (k : Int) (L : List (List Nat)) (w : World) (hl : RdW w A L) (hw : ∀ xs ∈ L, xs.length ≤ 1000000) (hn : n = L.length) (hL : n ≤ 1000000) :
    Calls Try.prog 13 #[.slice A n c, .int .i64 k] w fun e w' => ∃ A' c', e = .returned (.slice A' n c') ∧ RdW w' A' (turnOf L k) ∧ Below w.heap.size w w' := by
  obtain ⟨i0, hi0, hz0, hz1, hz2⟩ := info_partsI u8info
  obtain ⟨i1, hi1, hy0, hy1, hy2⟩ := info_partsI wordinfo
  have HL := Lib.hid hl
  have HW := Lib.hid hw
  have HN := Lib.hid hn
  have HTN := Lib.hid (show turnOf L k = turnN L (offN n k) by unfold turnOf; rw [hn])
  have hol : 0 < n → offN n k < n := fun h => off_lt k h
  clear hl hw hn
  go_enter Try.func13, Try.ntmps13
  go_wp2_with fail
  go_loopw [5, 6] (fun v s6 wr => ∃ (i : Nat) (vs : List Value), i ≤ n ∧ s6 = .int .i64 i ∧ Hid (wr.ownsRow w.heap.size 33 1 v i vs) ∧ Hid (Words wr w.heap.size v vs ((turnOf L k).take i)) ∧ Hid (Below w.heap.size w wr)) (fun _ s6 _ => n - (intOf s6).toNat)
  case atStart => exact ⟨0, [], Nat.zero_le _, rfl, ⟨rfl, .inl ⟨rfl, rfl⟩⟩, ⟨rfl, fun j xs u h => by simp at h⟩, Lib.hid (Below.refl _ _)⟩
  case round =>
    obtain ⟨i, vs, hi, rfl, hown, hwd, hbel⟩ := hrel
    have HLOW := Lib.hid hown.out.lt
    by_cases hlt : i < n
    · have h0 : 0 < n := by omega
      have hf := hol h0
      obtain ⟨f, hff⟩ : ∃ f, f = offN n k := ⟨_, rfl⟩
      rw [← hff] at hf
      obtain ⟨q, hq⟩ : ∃ q, q = (f + i) % n := ⟨_, rfl⟩
      have hqn : q < n := by rw [hq]; exact Nat.mod_lt _ h0
      have hqI : ((f : Int) + (i : Nat)) % (n : Nat) = (q : Nat) := by rw [hq, Int.natCast_emod, Int.natCast_add]
      obtain ⟨xs, hxs⟩ : ∃ xs, L[q]? = some xs := ⟨_, List.getElem?_eq_getElem (by rw [← HN.out]; exact hqn)⟩
      have hat : at_ L (f + i) = xs := by unfold at_; rw [← HN.out, ← hq]; simp [List.getD, hxs]
      have htk := turnN_take (L := L) (f := f) (i := i) (by rw [← HN.out]; exact hlt)
      rw [hat, hff, ← HTN.out] at htk
      have HTK := Lib.hid htk
      obtain ⟨ad, C, c2, rfl, hla, hcell, hrx, hc1, hc2, hc3⟩ := (HL.out.below hbel.out) q xs hxs
      obtain ⟨m, hm⟩ : ∃ m, m = xs.length := ⟨_, rfl⟩
      have HML := Lib.hid hm
      have hxl := HW.out xs (List.mem_of_getElem? hxs)
      rw [← hm] at hcell hc1 hxl
      have HRX := Lib.hid hrx
      have HX3 := Lib.hid hc3
      have k0 : ∀ o, (wr.alloc o).cell? (ad.add q) = some (.slice C m c2) := fun o => (World.cell?_alloc_lt wr o _ (by rw [block_add]; exact hla)).trans hcell
      have hwz : w.heap.size ≤ wr.heap.size := hbel.out.size
      have HMADE := Lib.hid (World.ownsRow_made (base := wr.heap.size) (e := 5) (size := 1) wr #[] 0 (Nat.le_refl _) (by simp [maxLen]) (by simp))
      have hb1 : Below wr.heap.size wr (wr.alloc (.cells #[] 5)) := (Below.refl _ _).alloc (Nat.le_refl _) _
      have HMOD : Hid (∀ w', Calls Try.prog 24 #[.int .i64 k, .int .i64 n] w' fun e w'' => e = .returned (.int .i64 (f : Nat)) ∧ w' = w'') := fun w' => by rw [hff]; exact mod_any n k w' h0 (by omega)
      clear hxs hat hrx htk hq hm hc3 hcell hol hff
      cases C with
      | none =>
        obtain rfl := HX3.out rfl
        obtain rfl : m = 0 := by omega
        have hxe : xs = [] := List.eq_nil_of_length_eq_zero HML.out.symm
        go_wp2_with (first
          | (go_at_call 24; refine (HMOD.out _).mono ?_; rintro e wz ⟨rfl, rfl⟩)
          | (at_builtin; refine wpList_append_own_none rfl _ _ 33 rfl wr.heap.size 5 i0 1 Try.underlying33 hi0 _ 0 [] rfl HMADE.out rfl ?_)
          | (at_builtin; refine wpList_append_lies _ rfl _ _ 22 rfl w.heap.size 33 i1 (.slice none 0 0) 1 24 Try.underlying22 hi1 hy0 hy1 hy2 rfl (by decide) u5 i vs rfl (World.ownsRow.alloc (row_below hown.out hb1) _) ⟨wr.heap.size + 1, 0, none⟩ 1 1 [.slice (some ⟨wr.heap.size, 0, none⟩) 0 0] rfl rfl (by intro j u hj; have hj0 : j = 0 := (by have := (List.getElem?_eq_some_iff.1 hj).1; simp at this; omega); subst hj0; rw [← hj, add_off]; exact cell_of (two_second wr _ _) 0) (by simp [Value.oneCell']) (by omega) (by simp [maxLen]; omega) (by omega) (by simp; omega) _ rfl ?_; intro g' cap' w7 hrow7 hgr7 hor hlt7))
        have hpush := words_push (c := 0) (cap' := cap') hown.out hwd.out hb1 (D := some ⟨wr.heap.size, 0, none⟩) (xs := xs) (by rw [hxe]; intro q x hq; simp at hq) (by rw [hxe]; rfl) (Nat.le_refl _) (by omega) (fun e => (by cases e)) (fun ad ha => by injection ha with ha; subst ha; simp) hwz hgr7 hor
        rw [← HTK.out] at hpush
        have HP := Lib.hid hpush
        have HB7 := Lib.hid (((hbel.out.trans (hb1.mono hwz)).alloc (by simp; omega) _).grown hgr7 (by simp; omega) (fun j hj => (HLOW.out j hj).1))
        have HR7 := Lib.hid hrow7
        clear hpush hrow7
        go_roundw
        case rel => exact ⟨i + 1, _, by omega, by go_num, HR7, HP, HB7⟩
        case measure => simp [intOf]; omega
      | some cd =>
        have HCC : Hid (∀ j u, (u8s xs)[j]? = some u → (wr.alloc (.cells #[] 5)).cell? (cd.add j) = some u) := by
          intro j u hj
          simp only [u8s, List.getElem?_map, Option.map_eq_some_iff] at hj
          obtain ⟨x, hx, rfl⟩ := hj
          obtain ⟨ad', e, hb, hc⟩ := HRX.out j x hx
          injection e with e
          subst e
          exact (World.cell?_alloc_lt wr _ _ (by rw [block_add]; exact hb)).trans hc
        have H1 : Hid (∀ u ∈ u8s xs, u.oneCell' = true) := by
          intro u hu
          simp only [u8s, List.mem_map] at hu
          obtain ⟨x, _, rfl⟩ := hu
          rfl
        go_wp2_with (first
          | (go_at_call 24; refine (HMOD.out _).mono ?_; rintro e wz ⟨rfl, rfl⟩)
          | (at_builtin; refine wpList_append_own _ rfl _ _ 33 rfl wr.heap.size 5 i0 (.int .u8 0) 1 1 Try.underlying33 hi0 hz0 hz1 hz2 rfl (by decide) (.slice (some ⟨wr.heap.size, 0, none⟩) 0 0) 0 [] rfl HMADE.out cd m c2 (u8s xs) rfl (by rw [u8s_length, Nat.mul_one]; exact HML.out.symm) HCC.out H1.out (by simp [maxLen]; omega) (by omega) (by simp) ?_; intro v' w2 hownw hgrw hiff; rw [Nat.zero_add] at hownw; obtain ⟨gw, cw, rfl⟩ := own_some hownw (fun e => absurd (hiff.1 e).1 (by simp)))
          | (at_builtin; refine wpList_append_lies _ rfl _ _ 22 rfl w.heap.size 33 i1 (.slice none 0 0) 1 24 Try.underlying22 hi1 hy0 hy1 hy2 rfl (by decide) u5 i vs rfl (World.ownsRow.alloc (row_below hown.out (below_of_grown hgrw)) _) ⟨w2.heap.size, 0, none⟩ 1 1 [.slice (some ⟨gw, 0, none⟩) m cw] rfl rfl (by intro j u hj; have hj0 : j = 0 := (by have := (List.getElem?_eq_some_iff.1 hj).1; simp at this; omega); subst hj0; rw [← hj, add_off]; exact cell_of (heap_alloc_new w2 _) 0) (by simp [Value.oneCell']) (by omega) (by simp [maxLen]; omega) (by omega) (by have := (below_of_grown hgrw).size; simp; omega) _ rfl ?_; intro g' cap' w7 hrow7 hgr7 hor hlt7))
        obtain ⟨z1, z2, z3, z4, _⟩ := row_at hownw
        have hcw : cw ≤ 9223372036854775807 := by
          obtain ⟨_, h | ⟨g', c', cur, e, _, _, _, hm, _⟩⟩ := hownw
          · cases h.1
          · injection e with _ _ e3
            unfold maxLen at hm
            omega
        have hpush := words_push (c := cw) (cap' := cap') hown.out hwd.out (below_of_grown hgrw) (D := some ⟨gw, 0, none⟩) (xs := xs) (fun q x hq => ⟨_, rfl, z2, by rw [add_off]; exact z4 q (by8 x) (by simp [u8s, hq])⟩) HML.out z3 hcw (fun e => (by cases e)) (fun ad ha => by injection ha with ha; subst ha; exact ⟨z1, z2⟩) hwz hgr7 hor
        rw [← HTK.out] at hpush
        have HP := Lib.hid hpush
        have hbz := (below_of_grown hgrw).size
        have HB7 := Lib.hid (((hbel.out.trans ((below_of_grown hgrw).mono hwz)).alloc (by omega) _).grown hgr7 (by simp; omega) (fun j hj => (HLOW.out j hj).1))
        have HR7 := Lib.hid hrow7
        clear hpush hrow7 z1 z2 z3 z4
        go_roundw
        case rel => exact ⟨i + 1, _, by omega, by go_num, HR7, HP, HB7⟩
        case measure => simp [intOf]; omega
    · obtain rfl : i = n := by omega
      have hwd2 := hwd.out
      rw [List.take_of_length_le (by rw [turnOf_length, ← HN.out]; omega)] at hwd2
      have HWD := Lib.hid hwd2
      clear hwd2 hwd hol
      go_wp2_with fail
      rcases Joins.ownsRow_forms hown.out with ⟨rfl, hn⟩ | ⟨g, cap, rfl⟩
      · go_ret
        refine ⟨none, 0, by rw [hn]; rfl, ?_, hbel.out⟩
        have := hown.out
        rw [hn] at this
        exact words_rd this HWD.out
      · go_ret
        exact ⟨some ⟨g, 0, none⟩, cap, rfl, words_rd hown.out HWD.out, hbel.out⟩
end Go.Proofs.Ytmnkghbbcjnlfaa
