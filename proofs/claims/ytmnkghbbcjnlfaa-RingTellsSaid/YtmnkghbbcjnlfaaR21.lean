/- The reference's bytes. -/
import Derived.Test.YtmnkghbbcjnlfaaR20
namespace Go.Proofs.Ytmnkghbbcjnlfaa
open Go.RowKit

theorem be4_mod (n : Nat) (hn : n ≤ 1000000000) : (#[Value.int .u8 ((n : Int) / 16777216 % 256), .int .u8 ((n : Int) / 65536 % 256), .int .u8 ((n : Int) / 256 % 256), .int .u8 ((n : Int) % 256)] : Array Value) = (u8s (be4 n)).toArray := by
  have e1 : (n : Int) / 16777216 % 256 = (n : Int) / 16777216 := by omega
  rw [e1]
  exact be4_cells n
set_option maxHeartbeats 1000000 in
theorem four_any (n : Nat) (w : World) (hn : n ≤ 1000000000) :
    Calls Try.prog 30 #[.int .i64 n] w fun e w' => ∃ g, e = .returned (.slice (some ⟨g, 0, none⟩) 4 4) ∧ w'.heap[g]? = some (.cells (u8s (be4 n)).toArray 5 (0, 0)) ∧ w.heap.size ≤ g ∧ Below w.heap.size w w' := by
  have hcs := Lib.hid (be4_mod n hn)
  go_enter Try.func30, Try.ntmps30
  go_wp2_with fail
  go_ret
  refine ⟨w.heap.size, rfl, ?_, Nat.le_refl _, (Below.refl _ _).alloc (Nat.le_refl _) _⟩
  rw [← hcs.out]
  exact heap_alloc_new w _

set_option maxRecDepth 100000 in
set_option maxHeartbeats 2000000 in
theorem refBytes_any (A : Option Addr) (c n : Nat) (L : List (List Nat)) (w : World) (hl : RdW w A L) (hw : ∀ xs ∈ L, xs.length ≤ 60) (hn : n = L.length) (hL : n ≤ 60) :
    Calls Try.prog 20 #[.slice A n c] w fun e w' => ∃ g cap, e = .returned (.slice (some ⟨g, 0, none⟩) (bytesW L).length cap) ∧ RdN w' (some ⟨g, 0, none⟩) (bytesW L) ∧ Below w.heap.size w w' := by
  obtain ⟨i0, hi0, hz0, hz1, hz2⟩ := info_partsI u8info
  have HL := Lib.hid hl
  have HW := Lib.hid hw
  have HN := Lib.hid hn
  clear hl hw hn
  go_enter Try.func20, Try.ntmps20
  go_wp2_with fail
  refine (four_any n w (by omega)).mono ?_
  rintro e w1 ⟨g0, rfl, hblk, hg0, hb0⟩
  have HO1 : Hid (w1.ownsRow w.heap.size 5 1 (.slice (some ⟨g0, 0, none⟩) 4 4) 4 (u8s (be4 n))) := ⟨rfl, .inr ⟨g0, 4, _, rfl, hg0, hblk, Nat.le_refl _, by simp [maxLen], by simp [u8s, be4], by simp [u8s, be4]⟩⟩
  have HB1 := Lib.hid hb0
  clear hblk hb0
  go_wp2_with fail
  go_loopw [3, 4] (fun s3 s4 wr => ∃ (q m g cap : Nat), q ≤ n ∧ s4 = .int .i64 q ∧ s3 = .slice (some ⟨g, 0, none⟩) m cap ∧ Hid (m = (be4 n ++ flatW (L.take q)).length) ∧ m ≤ 4 + 64 * q ∧ Hid (wr.ownsRow w.heap.size 5 1 s3 m (u8s (be4 n ++ flatW (L.take q)))) ∧ Hid (Below w.heap.size w wr)) (fun _ s4 _ => n - (intOf s4).toNat)
  case atStart => exact ⟨0, 4, g0, 4, Nat.zero_le _, rfl, rfl, rfl, by omega, by simpa [flatW] using HO1, HB1⟩
  case round =>
    obtain ⟨q, m, g, cap, hq, rfl, rfl, hm, hm2, hown, hbel⟩ := hrel
    by_cases hlq : q < n
    · obtain ⟨xs, hxs⟩ : ∃ xs, L[q]? = some xs := ⟨_, List.getElem?_eq_getElem (by rw [← HN.out]; exact hlq)⟩
      obtain ⟨ad, C, c2, rfl, hadl, hc0, hrx, hx1, hx2, hx3⟩ := HL.out q xs hxs
      have hc1 := (hbel.out.cell (p := ad.add q) (by rw [block_add]; exact hadl)).trans hc0
      have hx60 := HW.out xs (List.mem_of_getElem? hxs)
      have HF := Lib.hid (flatW_succ hxs)
      have HC0 := Lib.hid hc0
      have HRX := Lib.hid hrx
      have HX3 := Lib.hid hx3
      have hwz : w.heap.size ≤ wr.heap.size := hbel.out.size
      have CN := Lib.hid (four_any xs.length wr (by omega))
      clear hxs hrx hx3 hc0
      go_wp2_with fail
      refine CN.out.mono ?_
      rintro e w2 ⟨g4, rfl, hblk4, hg4, hb2⟩
      have HBL := Lib.hid hblk4
      have HB2 := Lib.hid (hbel.out.trans (hb2.mono hwz))
      have hz2' := hb2.size
      have HO2 := Lib.hid (row_below hown.out hb2)
      have HLW := Lib.hid HO2.out.lt
      have H4 : Hid (∀ j u, (u8s (be4 xs.length))[j]? = some u → w2.cell? ((⟨g4, 0, none⟩ : Addr).add j) = some u) := by
        intro j u hj
        rw [add_off, cell_of HBL.out j]
        simpa using hj
      have H41 : Hid (∀ u ∈ u8s (be4 xs.length), u.oneCell' = true) := by
        intro u hu
        simp only [u8s, List.mem_map] at hu
        obtain ⟨x, _, rfl⟩ := hu
        rfl
      clear hb2 hblk4 CN hown hc1
      have hme := Lib.hid (show m + 4 + xs.length = (be4 n ++ flatW (L.take (q + 1))).length by rw [HF.out, hm.out]; simp [be4]; omega)
      have hre := Lib.hid (show u8s (be4 n ++ flatW (L.take (q + 1))) = u8s (be4 n ++ flatW (List.take q L)) ++ u8s (be4 xs.length) ++ u8s xs by rw [HF.out]; simp [u8s])
      cases C with
      | none =>
        obtain rfl := HX3.out rfl
        obtain rfl : xs = [] := List.eq_nil_of_length_eq_zero (by omega)
        go_wp2_with (first
          | (at_builtin; refine wpList_append_lies _ rfl _ _ 33 rfl w.heap.size 5 i0 (.int .u8 0) 1 1 Try.underlying33 hi0 hz0 hz1 hz2 rfl (by decide) (.slice (some ⟨g, 0, none⟩) m cap) m _ rfl HO2.out ⟨g4, 0, none⟩ 4 4 (u8s (be4 ([] : List Nat).length)) rfl rfl H4.out H41.out (by omega) (by simp [maxLen]; omega) (by omega) (by omega) _ rfl ?_; intro g5 cap5 w5 hrow5 hgr5 hor5 hlt5; have HB5 := Lib.hid (HB2.out.grown hgr5 (by omega) (fun j hj => (HLW.out j hj).1)); have hc5 := (HB5.out.cell (p := ad.add q) (by rw [block_add]; exact hadl)).trans HC0.out; have HR5 := Lib.hid hrow5; have HLW5 := Lib.hid hrow5.lt; have hz5 := hgr5.size; clear hrow5 hgr5 hor5)
          | (at_builtin; refine wpList_append_own_none rfl _ _ 33 rfl w.heap.size 5 i0 1 Try.underlying33 hi0 _ (m + 4) _ rfl HR5.out rfl ?_))
        go_roundw
        case rel => exact ⟨q + 1, m + 4, g5, cap5, by omega, by go_num, rfl, by simpa using hme, by omega, by rw [hre.out]; simpa [u8s] using HR5, HB5⟩
        case measure => simp [intOf]; omega
      | some cd =>
        have HCC : Hid (∀ w', Below w.heap.size w w' → ∀ j u, (u8s xs)[j]? = some u → w'.cell? (cd.add j) = some u) := by
          intro w' hbw j u hj
          simp only [u8s, List.getElem?_map, Option.map_eq_some_iff] at hj
          obtain ⟨x, hx, rfl⟩ := hj
          obtain ⟨ad', e, _, hc⟩ := (HRX.out.below hbw) j x hx
          injection e with e
          subst e
          exact hc
        have H1 : Hid (∀ u ∈ u8s xs, u.oneCell' = true) := by
          intro u hu
          simp only [u8s, List.mem_map] at hu
          obtain ⟨x, _, rfl⟩ := hu
          rfl
        go_wp2_with (first
          | (at_builtin; refine wpList_append_lies _ rfl _ _ 33 rfl w.heap.size 5 i0 (.int .u8 0) 1 1 Try.underlying33 hi0 hz0 hz1 hz2 rfl (by decide) (.slice (some ⟨g, 0, none⟩) m cap) m _ rfl HO2.out ⟨g4, 0, none⟩ 4 4 (u8s (be4 xs.length)) rfl rfl H4.out H41.out (by omega) (by simp [maxLen]; omega) (by omega) (by omega) _ rfl ?_; intro g5 cap5 w5 hrow5 hgr5 hor5 hlt5; have HB5 := Lib.hid (HB2.out.grown hgr5 (by omega) (fun j hj => (HLW.out j hj).1)); have hc5 := (HB5.out.cell (p := ad.add q) (by rw [block_add]; exact hadl)).trans HC0.out; have HR5 := Lib.hid hrow5; have HLW5 := Lib.hid hrow5.lt; have hz5 := hgr5.size; clear hrow5 hgr5 hor5)
          | (at_builtin; refine wpList_append_own _ rfl _ _ 33 rfl w.heap.size 5 i0 (.int .u8 0) 1 1 Try.underlying33 hi0 hz0 hz1 hz2 rfl (by decide) (.slice (some ⟨g5, 0, none⟩) (m + 4) cap5) (m + 4) _ rfl HR5.out cd xs.length c2 (u8s xs) rfl (by simp [u8s]) (HCC.out _ HB5.out) H1.out (by simp [maxLen]; omega) (by omega) (by omega) ?_; intro v' w' hown' hgr hiff; obtain ⟨g3, cap3, rfl, _, _⟩ := hown'.form (by omega)))
        go_roundw
        case rel => exact ⟨q + 1, m + 4 + xs.length, g3, cap3, by omega, by go_num, rfl, hme, by omega, Lib.hid (by rw [hre.out]; exact hown'), Lib.hid (HB5.out.grown hgr (by omega) (fun j hj => (HLW5.out j hj).1))⟩
        case measure => simp [intOf]; omega
    · obtain rfl : q = n := by omega
      obtain ⟨g1, g2, g3, g4, g5⟩ := row_at hown.out
      have hfin := Lib.hid (show be4 q ++ flatW (L.take q) = bytesW L by rw [List.take_of_length_le (by rw [← HN.out]; omega)]; unfold bytesW; rw [← HN.out])
      rw [hfin.out] at g4
      have HM := hm.out
      rw [hfin.out] at HM
      have HM2 := Lib.hid HM
      have HG4 := Lib.hid g4
      clear HM g4 g5 hown hm
      go_wp2_with fail
      go_ret
      rw [HM2.out]
      exact ⟨g, cap, rfl, fun j x hj => ⟨_, rfl, g2, by rw [add_off]; exact HG4.out j (by8 x) (by simp [u8s, hj])⟩, hbel.out⟩
end Go.Proofs.Ytmnkghbbcjnlfaa
