/- Words of one byte each. -/
import Derived.Test.YtmnkghbbcjnlfaaR7
import Derived.Laws.IdiomStrings
namespace Go.Proofs.Ytmnkghbbcjnlfaa
open Go.RowKit

def bytesOfS (s : ByteArray) : List Nat := s.data.toList.map UInt8.toNat
theorem bytesOfS_length (s : ByteArray) : (bytesOfS s).length = s.size := by unfold bytesOfS; rw [List.length_map, Array.length_toList]; rfl
theorem conv_bytes (w : World) (s : ByteArray) (hs : s.size ≤ 1000000) : ∃ (c : Nat) (w2 : World), (convert 9 33 (.string s)).run Try.prog w = .ok (.slice (some ⟨w.heap.size, 0, none⟩) s.size c) w2 ∧
    (∀ n, n ≤ w.heap.size → Below n w w2) ∧ RdN w2 (some ⟨w.heap.size, 0, none⟩) (bytesOfS s) ∧ w2.heap.size = w.heap.size + 1 ∧ s.size ≤ c ∧ c ≤ 9223372036854775807 := by
  refine ⟨_, _, run_bytes_of_string w _ _ 5 s Try.underlying9 Try.underlying33 Try.underlying5, fun n hn => (Below.refl _ _).drew.alloc hn _, fun q x hq => ⟨_, rfl, by simp, ?_⟩, by simp, grownCap_ge _ _ _ _, by
    have := grownCap_le_maxLen w s.size 0 5 (by simp [maxLen]; omega)
    unfold maxLen at this
    omega⟩
  have hql : q < s.size := by rw [← bytesOfS_length s]; exact (List.getElem?_eq_some_iff.1 hq).1
  rw [add_off]
  show (w.drew.alloc _).cell? ⟨w.drew.heap.size, q, none⟩ = _
  rw [World.cell?_alloc_mark]
  unfold bytesRow
  rw [Array.getElem?_append_left (by rw [Array.size_map]; exact hql)]
  simp [bytesOfS] at hq
  obtain ⟨y, hy, rfl⟩ := hq
  simp [hy, by8]

def wordsOf (s : ByteArray) : List (List Nat) := (bytesOfS s).map fun x => [x]
theorem extract_one (s : ByteArray) (k : Nat) (h : k < s.size) : (s.extract k (k + 1)).size = 1 ∧ ∃ x, (bytesOfS s)[k]? = some x ∧ bytesOfS (s.extract k (k + 1)) = [x] := by
  have h1 : (s.extract k (k + 1)).size = 1 := by rw [ByteArray.size_extract]; omega
  have h2 : k < s.data.toList.length := by rw [Array.length_toList]; exact h
  refine ⟨h1, (s.data.toList[k]).toNat, ?_, ?_⟩
  · unfold bytesOfS
    rw [List.getElem?_map, List.getElem?_eq_getElem h2]
    rfl
  · unfold bytesOfS
    rw [ByteArray.data_extract, Array.toList_extract, List.extract_eq_take_drop, Nat.add_sub_cancel_left, List.drop_eq_getElem_cons h2]
    rfl
theorem rdN_grown {w w' : World} {D : Option Addr} {xs : List Nat} {row : Option Nat} (h : RdN w D xs) (hg : w.grownBy w' row) (hne : ∀ ad, D = some ad → some ad.block ≠ row) : RdN w' D xs := fun q x hq => by
  obtain ⟨ad, e, hl, hc⟩ := h q x hq
  exact ⟨ad, e, Nat.lt_of_lt_of_le hl hg.size, (World.cell?_of_block (hg.block (ad.add q).block (by rw [block_add]; exact hl) (by rw [block_add]; exact hne ad e))).trans hc⟩

set_option maxHeartbeats 1000000 in
theorem words_any (s : ByteArray) (n : Nat) (w : World) (hn : n = s.size) (hL : n ≤ 60) :
    Calls Try.prog 21 #[.string s] w fun e w' => ∃ A c, e = .returned (.slice A n c) ∧ RdW w' A (wordsOf s) ∧ Below w.heap.size w w' := by
  obtain ⟨i0, hi0, hz0, hz1, hz2⟩ := info_partsI wordinfo
  have hs : (s.size : Int) ≤ 60 := by omega
  have HN := Lib.hid hn
  clear hn
  go_enter Try.func21, Try.ntmps21
  go_wp2_with fail
  go_loopw [3, 7] (fun v s7 wr => ∃ (k : Nat) (vs : List Value), k ≤ s.size ∧ s7 = .int .i64 k ∧ Hid (wr.ownsRow w.heap.size 33 1 v k vs) ∧ Hid (∀ (j x : Nat) (u : Value), vs[j]? = some u → (bytesOfS s)[j]? = some x → ∃ ge, v.ownBlock = some ge ∧ WordAt wr w.heap.size ge u [x]) ∧ Hid (Below w.heap.size w wr)) (fun _ s7 _ => s.size - (intOf s7).toNat)
  case atStart => exact ⟨0, [], Nat.zero_le _, rfl, ⟨rfl, .inl ⟨rfl, rfl⟩⟩, fun j x u h => by simp at h, Lib.hid (Below.refl _ _)⟩
  case round =>
    obtain ⟨k, vs, hk, rfl, hown, hvs, hbel⟩ := hrel
    by_cases hlt : k < s.size
    · obtain ⟨x1, x, x2, x3⟩ := extract_one s k hlt
      obtain ⟨c, w2, hrun, hb2, hr2, hz2', hc1, hc2⟩ := conv_bytes wr (s.extract k (k + 1)) (by omega)
      rw [x1] at hrun hc1
      rw [x3] at hr2
      have hwz : w.heap.size ≤ wr.heap.size := hbel.out.size
      have HB2 := Lib.hid (hbel.out.trans (hb2 _ hwz))
      have HO2 := Lib.hid (World.ownsRow.alloc (row_below hown.out (hb2 _ (Nat.le_refl _))) (.cells #[.slice (some ⟨wr.heap.size, 0, none⟩) 1 c] 33))
      have HNW := Lib.hid (heap_alloc_new w2 (.cells #[.slice (some ⟨wr.heap.size, 0, none⟩) 1 c] 33))
      have HR2 := Lib.hid hr2
      have HX2 := Lib.hid x2
      have HZ2 := Lib.hid hz2'
      have HBW := Lib.hid (hb2 _ (Nat.le_refl _))
      have hlow := hown.out.lt
      have HLW := Lib.hid hlow
      have hz3 : wr.heap.size ≤ w2.heap.size := by omega
      clear hb2 hr2 x1 x2 x3 hz2' hlow
      go_wp2_with (at_builtin; refine wpList_append_lies _ rfl _ _ 22 rfl w.heap.size 33 i0 (.slice none 0 0) 1 24 Try.underlying22 hi0 hz0 hz1 hz2 rfl (by decide) u3 k vs rfl HO2.out ⟨w2.heap.size, 0, none⟩ 1 1 [.slice (some ⟨wr.heap.size, 0, none⟩) 1 c] rfl rfl (by intro j u hj; have hj0 : j = 0 := (by have := (List.getElem?_eq_some_iff.1 hj).1; simp at this; omega); subst hj0; rw [← hj, add_off]; exact cell_of HNW.out 0) (by simp [Value.oneCell']) (by omega) (by simp [maxLen]; omega) (by omega) (by simp; omega) _ rfl ?_; intro g' cap' w7 hrow7 hgr7 hor hlt7)
      go_roundw
      case rel =>
        refine ⟨k + 1, vs ++ [.slice (some ⟨wr.heap.size, 0, none⟩) 1 c], by omega, by go_num, Lib.hid hrow7, ?_, Lib.hid (HB2.out.alloc HB2.out.size _ |>.grown hgr7 (by simp; omega) (fun j hj => (HLW.out j hj).1))⟩
        intro j y u hj hy
        refine ⟨g', rfl, ?_⟩
        have hzz := HZ2.out
        have hvl : vs.length = k := by have := hown.out.1; omega
        have hg'1 : u3.ownBlock = some g' ∨ g' = w2.heap.size + 1 := by simpa using hor
        by_cases hjk : j < vs.length
        · rw [List.getElem?_append_left hjk] at hj
          obtain ⟨ge, hge, D, d, e1, e2, e3, e4, e5, e6⟩ := hvs.out j y u hj hy
          have hD : ∀ ad, D = some ad → ad.block < wr.heap.size := fun ad ha => by
            obtain ⟨ad', e', hl, _⟩ := e2 0 y rfl
            rw [ha] at e'
            injection e' with e'
            rw [e']
            exact hl
          refine ⟨D, d, e1, rdN_grown (RdN.below (e2.below HBW.out) ((Below.refl _ _).alloc (Nat.le_refl _) _)) hgr7 (fun ad ha => by rw [hge]; intro e; injection e with e; exact (e6 ad ha).2 e), e3, e4, e5, fun ad ha => ⟨(e6 ad ha).1, ?_⟩⟩
          rcases hg'1 with h | h
          · rw [hge] at h
            injection h with h
            rw [← h]
            exact (e6 ad ha).2
          · have := hD ad ha
            omega
        · have hjm := (List.getElem?_eq_some_iff.1 hj).1
          simp at hjm
          obtain rfl : j = k := by omega
          rw [List.getElem?_append_right (by omega), hvl, Nat.sub_self] at hj
          simp at hj
          subst hj
          rw [HX2.out] at hy
          injection hy with hy
          subst hy
          refine ⟨some ⟨wr.heap.size, 0, none⟩, c, rfl, rdN_grown (RdN.below HR2.out ((Below.refl _ _).alloc (Nat.le_refl _) _)) hgr7 (fun ad ha => ?_), hc1, hc2, (fun e => (by cases e)), fun ad ha => ?_⟩
          · injection ha with ha
            subst ha
            intro e
            have := (HLW.out _ e.symm).2
            simp at this
          · injection ha with ha
            subst ha
            refine ⟨hwz, ?_⟩
            rcases hg'1 with h | h
            · have := (HLW.out _ h).2
              show wr.heap.size ≠ g'
              omega
            · show wr.heap.size ≠ g'
              omega
      case measure => simp [intOf]; omega
    · obtain rfl : k = s.size := by omega
      clear hs
      go_wp2_with fail
      rcases Joins.ownsRow_forms hown.out with ⟨rfl, hn⟩ | ⟨g, cap, rfl⟩
      · go_ret
        refine ⟨none, 0, by rw [HN.out, hn]; rfl, ?_, hbel.out⟩
        intro i xs hi
        have := (List.getElem?_eq_some_iff.1 hi).1
        rw [wordsOf, List.length_map, bytesOfS_length] at this
        omega
      · go_ret
        refine ⟨some ⟨g, 0, none⟩, cap, by rw [HN.out]; rfl, ?_, hbel.out⟩
        intro i xs hi
        unfold wordsOf at hi
        rw [List.getElem?_map, Option.map_eq_some_iff] at hi
        obtain ⟨x, hx, rfl⟩ := hi
        obtain ⟨g1, g2, g3, g4, g5⟩ := row_at hown.out
        have hil : i < vs.length := by
          have := (List.getElem?_eq_some_iff.1 hx).1
          rw [bytesOfS_length] at this
          have := hown.out.1
          omega
        obtain ⟨ge, hge, D, d, e1, e2, e3, e4, e5, _⟩ := hvs.out i x vs[i] (List.getElem?_eq_getElem hil) hx
        refine ⟨⟨g, 0, none⟩, D, d, rfl, g2, ?_, e2, e3, e4, e5⟩
        rw [add_off, g4 i _ (List.getElem?_eq_getElem hil), e1]
end Go.Proofs.Ytmnkghbbcjnlfaa
