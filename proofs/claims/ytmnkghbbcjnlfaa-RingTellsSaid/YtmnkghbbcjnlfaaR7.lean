/- The bytes of a list of words. -/
import Derived.Test.YtmnkghbbcjnlfaaR6
namespace Go.Proofs.Ytmnkghbbcjnlfaa
open Go.RowKit

def be4 (n : Nat) : List Nat := [n / 16777216, n / 65536 % 256, n / 256 % 256, n % 256]
theorem be4_cells (n : Nat) : (#[Value.int .u8 ((n : Int) / 16777216), .int .u8 ((n : Int) / 65536 % 256), .int .u8 ((n : Int) / 256 % 256), .int .u8 ((n : Int) % 256)] : Array Value) = (u8s (be4 n)).toArray := by
  have e1 : (n : Int) / 16777216 = ((n / 16777216 : Nat) : Int) := by omega
  have e2 : (n : Int) / 65536 % 256 = ((n / 65536 % 256 : Nat) : Int) := by omega
  have e3 : (n : Int) / 256 % 256 = ((n / 256 % 256 : Nat) : Int) := by omega
  have e4 : (n : Int) % 256 = ((n % 256 : Nat) : Int) := by omega
  rw [e1, e2, e3, e4]
  rfl
set_option maxHeartbeats 1000000 in
theorem number_any (base m n : Nat) (v : Value) (xs : List Nat) (w : World) (ho : w.ownsRow base 5 1 v m (u8s xs)) (hb : base ≤ w.heap.size) (hm : m ≤ 100000000) (hn : n ≤ 1000000000) :
    Calls Try.prog 29 #[v, .int .i64 n] w fun e w' => ∃ g cap, e = .returned (.slice (some ⟨g, 0, none⟩) (m + 4) cap) ∧ w'.ownsRow base 5 1 (.slice (some ⟨g, 0, none⟩) (m + 4) cap) (m + 4) (u8s (xs ++ be4 n)) ∧ Below base w w' := by
  obtain ⟨i0, hi0, hz0, hz1, hz2⟩ := info_partsI u8info
  have hlow := ho.lt
  have hcs := be4_cells n
  have HO := Lib.hid (World.ownsRow.alloc ho (.cells #[Value.int .u8 ((n : Int) / 16777216), .int .u8 ((n : Int) / 65536 % 256), .int .u8 ((n : Int) / 256 % 256), .int .u8 ((n : Int) % 256)] 5))
  have HB : Hid (Below base w (w.alloc (.cells #[Value.int .u8 ((n : Int) / 16777216), .int .u8 ((n : Int) / 65536 % 256), .int .u8 ((n : Int) / 256 % 256), .int .u8 ((n : Int) % 256)] 5))) := (Below.refl _ _).alloc hb _
  have hnew := heap_alloc_new w (.cells #[Value.int .u8 ((n : Int) / 16777216), .int .u8 ((n : Int) / 65536 % 256), .int .u8 ((n : Int) / 256 % 256), .int .u8 ((n : Int) % 256)] 5)
  have HC : Hid (∀ j u, (u8s (be4 n))[j]? = some u → (w.alloc (.cells #[Value.int .u8 ((n : Int) / 16777216), .int .u8 ((n : Int) / 65536 % 256), .int .u8 ((n : Int) / 256 % 256), .int .u8 ((n : Int) % 256)] 5)).cell? ((⟨w.heap.size, 0, none⟩ : Addr).add j) = some u) := by
    intro j u hj
    rw [add_off, cell_of hnew j, hcs]
    simpa using hj
  have HL := Lib.hid hlow
  clear ho hcs hnew hlow
  go_enter Try.func29, Try.ntmps29
  go_wp2_with (at_builtin; refine wpList_append_lies _ rfl _ _ 33 rfl base 5 i0 (.int .u8 0) 1 1 Try.underlying33 hi0 hz0 hz1 hz2 rfl (by decide) v m (u8s xs) rfl HO.out ⟨w.heap.size, 0, none⟩ 4 4 (u8s (be4 n)) rfl rfl HC.out (by simp [u8s, be4, by8, Value.oneCell']) (by omega) (by simp [maxLen]; omega) (by omega) (by simp; omega) _ rfl ?_; intro g cap w7 hrow7 hgr7 hor hlt7)
  go_ret
  refine ⟨g, cap, rfl, ?_, HB.out.grown hgr7 (by simp; omega) (fun j hj => (HL.out j hj).1)⟩
  rw [show u8s (xs ++ be4 n) = u8s xs ++ u8s (be4 n) by simp [u8s]]
  exact hrow7

/-- What Bytes answers. -/
def flatW (L : List (List Nat)) : List Nat := (L.map fun xs => be4 xs.length ++ xs).flatten
def bytesW (L : List (List Nat)) : List Nat := be4 L.length ++ flatW L
theorem flatW_succ {L : List (List Nat)} {k : Nat} {xs : List Nat} (h : L[k]? = some xs) : flatW (L.take (k + 1)) = flatW (L.take k) ++ (be4 xs.length ++ xs) := by
  unfold flatW
  rw [List.take_add_one, h]
  simp
theorem flatW_len {L : List (List Nat)} (h : ∀ xs ∈ L, xs.length ≤ 60) : ∀ k, (flatW (L.take k)).length ≤ 64 * k
  | 0 => by simp [flatW]
  | k + 1 => by
    have ih := flatW_len h k
    by_cases hk : k < L.length
    · have h1 : L[k]? = some L[k] := List.getElem?_eq_getElem hk
      have h2 := h _ (List.mem_of_getElem? h1)
      rw [flatW_succ h1]
      simp [be4]
      omega
    · rw [List.take_of_length_le (by omega)] at ih ⊢
      omega

set_option maxRecDepth 100000 in
set_option maxHeartbeats 2000000 in
theorem bytes_any (A : Option Addr) (c n : Nat) (L : List (List Nat)) (w : World) (hl : RdW w A L) (hw : ∀ xs ∈ L, xs.length ≤ 60) (hn : n = L.length) (hL : n ≤ 60) :
    Calls Try.prog 19 #[.slice A n c] w fun e w' => ∃ g cap, e = .returned (.slice (some ⟨g, 0, none⟩) (bytesW L).length cap) ∧ RdN w' (some ⟨g, 0, none⟩) (bytesW L) ∧ Below w.heap.size w w' := by
  obtain ⟨i0, hi0, hz0, hz1, hz2⟩ := info_partsI u8info
  have hmk : ∀ (w' : World) (z : Nat), z ≤ 1000000 → (Instr.makeSlice 33 (.int .i64 0) (.int .i64 z)).run Try.prog w' = .ok (.slice (some ⟨w'.heap.size, 0, none⟩) 0 z) (w'.alloc (.cells (Array.replicate z (Value.int .u8 0)) 5)) := by
    intro w' z hz
    have hr := run_make (P := Try.prog) w' 33 5 i0 (.int .u8 0) Try.underlying33 hi0 hz0 .i64 .i64 0 z (by omega) (by omega) (by rw [hz2]; omega) (by omega)
    rw [hz1, Nat.mul_one] at hr
    rw [hr]
    congr 3
    apply Array.ext'
    show (madeCells #[Value.int .u8 0] z).toList = _
    rw [toList_madeCells_one]
    simp
  have HL := Lib.hid hl
  have HW := Lib.hid hw
  have HN := Lib.hid hn
  have HMK := Lib.hid hmk
  clear hl hw hn hmk
  go_enter Try.func19, Try.ntmps19
  go_wp2_with fail
  go_loop [3, 11] (fun s3 s11 => ∃ k z : Nat, k ≤ n ∧ s11 = .int .i64 k ∧ s3 = .int .i64 z ∧ z ≤ 4 + 64 * k) (fun _ s11 => n - (intOf s11).toNat)
  case atStart => exact ⟨0, 4, Nat.zero_le _, rfl, rfl, by omega⟩
  case round =>
    obtain ⟨k, z, hk, rfl, rfl, hz⟩ := hrel
    by_cases hlt : k < n
    · obtain ⟨xs, hxs⟩ : ∃ xs, L[k]? = some xs := ⟨_, List.getElem?_eq_getElem (by rw [← HN.out]; exact hlt)⟩
      obtain ⟨ad, C, c2, rfl, _, hc1, _, _, _, _⟩ := HL.out k xs hxs
      have hx60 := HW.out xs (List.mem_of_getElem? hxs)
      clear hxs
      go_wp2_with fail
      go_round
      case rel => exact ⟨k + 1, z + (4 + xs.length), by omega, by go_num, by congr 1, by omega⟩
      case measure => simp [intOf]; omega
    · obtain rfl : k = n := by omega
      have hm := HMK.out w z (by omega)
      go_wp2_with fail
      have hrow0 : (w.alloc (.cells (Array.replicate z (Value.int .u8 0)) 5)).ownsRow w.heap.size 5 1 (.slice (some ⟨w.heap.size, 0, none⟩) 0 z) 0 (u8s []) := ⟨rfl, .inr ⟨w.heap.size, z, _, rfl, Nat.le_refl _, heap_alloc_new w _, by omega, by simp [maxLen]; omega, by simp, by simp [u8s]⟩⟩
      refine (number_any w.heap.size 0 k _ [] _ hrow0 (by simp) (by omega) (by omega)).mono ?_
      rintro e w1 ⟨g0, cap0, rfl, ho, hb⟩
      have hB1 : Below w.heap.size w w1 := ((Below.refl _ _).alloc (Nat.le_refl _) _).trans hb
      have HB1 := Lib.hid hB1
      rw [List.nil_append] at ho
      have HO1 := Lib.hid ho
      clear hm hrow0 ho hb hB1 HMK
      go_wp2_with fail
      go_loopw [6, 28] (fun s6 s28 wr => ∃ (q m g cap : Nat), q ≤ k ∧ s28 = .int .i64 q ∧ s6 = .slice (some ⟨g, 0, none⟩) m cap ∧ Hid (m = (be4 k ++ flatW (L.take q)).length) ∧ m ≤ 4 + 64 * q ∧ Hid (wr.ownsRow w.heap.size 5 1 s6 m (u8s (be4 k ++ flatW (L.take q)))) ∧ Hid (Below w.heap.size w wr)) (fun _ s28 _ => k - (intOf s28).toNat)
      case atStart => exact ⟨0, 4, g0, cap0, Nat.zero_le _, rfl, rfl, rfl, by omega, by simpa [flatW] using HO1, HB1⟩
      case round =>
        obtain ⟨q, m, g, cap, hq, rfl, rfl, hm, hm2, hown, hbel⟩ := hrel
        by_cases hlq : q < k
        · obtain ⟨xs, hxs⟩ : ∃ xs, L[q]? = some xs := ⟨_, List.getElem?_eq_getElem (by rw [← HN.out]; exact hlq)⟩
          obtain ⟨ad, C, c2, rfl, hadl, hc0, hrx, hx1, hx2, hx3⟩ := HL.out q xs hxs
          have hc1 := (hbel.out.cell (p := ad.add q) (by rw [block_add]; exact hadl)).trans hc0
          clear hc0
          have hx60 := HW.out xs (List.mem_of_getElem? hxs)
          have HF := Lib.hid (flatW_succ hxs)
          have HRX := Lib.hid hrx
          have HX3 := Lib.hid hx3
          have hwz : w.heap.size ≤ wr.heap.size := hbel.out.size
          have CN := Lib.hid (number_any w.heap.size m xs.length _ _ wr hown.out hwz (by omega) (by omega))
          clear hxs hrx hx3
          go_wp2_with fail
          refine CN.out.mono ?_
          rintro e w2 ⟨g2, cap2, rfl, ho2, hb2⟩
          have HB2 := Lib.hid (hbel.out.trans hb2)
          have hz2' := hb2.size
          have HRX2 := Lib.hid (HRX.out.below (hbel.out.trans hb2))
          have hlow := ho2.lt
          have HO2 := Lib.hid ho2
          have HLW := Lib.hid hlow
          have hme := Lib.hid (show m + 4 + xs.length = (be4 k ++ flatW (L.take (q + 1))).length by rw [HF.out, hm.out]; simp [be4]; omega)
          have hre := Lib.hid (show u8s (be4 k ++ flatW (L.take (q + 1))) = u8s (be4 k ++ flatW (List.take q L) ++ be4 xs.length) ++ u8s xs by rw [HF.out]; simp [u8s])
          clear hb2 ho2 hlow CN HRX hm hown
          cases C with
          | none =>
            obtain rfl := HX3.out rfl
            obtain rfl : xs = [] := List.eq_nil_of_length_eq_zero (by omega)
            go_wp2_with (at_builtin; refine wpList_append_own_none rfl _ _ 33 rfl w.heap.size 5 i0 1 Try.underlying33 hi0 _ (m + 4) _ rfl HO2.out rfl ?_)
            go_roundw
            case rel => exact ⟨q + 1, m + 4, g2, cap2, by omega, by go_num, rfl, by simpa using hme, by omega, by rw [hre.out]; simpa [u8s] using HO2, HB2⟩
            case measure => simp [intOf]; omega
          | some cd =>
            have HCC : Hid (∀ j u, (u8s xs)[j]? = some u → w2.cell? (cd.add j) = some u) := by
              intro j u hj
              simp only [u8s, List.getElem?_map, Option.map_eq_some_iff] at hj
              obtain ⟨x, hx, rfl⟩ := hj
              obtain ⟨ad', e, _, hc⟩ := HRX2.out j x hx
              injection e with e
              subst e
              exact hc
            have H1 : Hid (∀ u ∈ u8s xs, u.oneCell' = true) := by
              intro u hu
              simp only [u8s, List.mem_map] at hu
              obtain ⟨x, _, rfl⟩ := hu
              rfl
            go_wp2_with (at_builtin; refine wpList_append_own _ rfl _ _ 33 rfl w.heap.size 5 i0 (.int .u8 0) 1 1 Try.underlying33 hi0 hz0 hz1 hz2 rfl (by decide) (.slice (some ⟨g2, 0, none⟩) (m + 4) cap2) (m + 4) _ rfl HO2.out cd xs.length c2 (u8s xs) rfl (by simp [u8s]) HCC.out H1.out (by simp [maxLen]; omega) (by omega) (by omega) ?_; intro v' w' hown hgr hiff; obtain ⟨g3, cap3, rfl, _, _⟩ := hown.form (by omega))
            go_roundw
            case rel => exact ⟨q + 1, m + 4 + xs.length, g3, cap3, by omega, by go_num, rfl, hme, by omega, Lib.hid (by rw [hre.out]; exact hown), Lib.hid (HB2.out.grown hgr (by omega) (fun j hj => (HLW.out j hj).1))⟩
            case measure => simp [intOf]; omega
        · obtain rfl : q = k := by omega
          obtain ⟨g1, g2, g3, g4, g5⟩ := row_at hown.out
          have hfin := Lib.hid (show be4 q ++ flatW (L.take q) = bytesW L by rw [List.take_of_length_le (by rw [← HN.out]; omega)]; unfold bytesW; rw [← HN.out])
          rw [hfin.out] at g4
          have HM := hm.out
          rw [hfin.out] at HM
          have HM2 := Lib.hid HM
          have HG4 := Lib.hid g4
          clear HM g4 g5 hown hm
          go_wp2_with fail
          go_ret
          rw [HM2.out]
          exact ⟨g, cap, rfl, fun j x hj => ⟨_, rfl, g2, by rw [add_off]; exact HG4.out j (by8 x) (by simp [u8s, hj])⟩, hbel.out⟩
end Go.Proofs.Ytmnkghbbcjnlfaa
