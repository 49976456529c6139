/- All least places of a circle, and its least turn. -/
import Derived.Test.YtmnkghbbcjnlfaaR4
namespace Go.Proofs.Ytmnkghbbcjnlfaa
open Go.RowKit

theorem i64info : (Try.prog.info? 3).map (fun i => (i.zero, i.size, i.bytes)) = some (some (.int .i64 0), 1, 8) := by kernel_rfl
theorem lp_rng (L : List (List Nat)) : ∀ (f b o : Nat), b < o → b < L.length → (lp L f b o).1 < L.length ∧ 1 ≤ (lp L f b o).2 ∧ (lp L f b o).2 ≤ L.length
  | 0, b, o, h1, h2 => by simp [lp]; omega
  | f + 1, b, o, h1, h2 => by
    unfold lp
    split
    · split
      · simp; omega
      · split
        · exact lp_rng L f _ _ (by omega) h2
        · rename_i h3 _ _
          exact lp_rng L f _ _ (by omega) h3
    · simp; omega
/-- Places, each so far from the next. -/
def placesN (p s J : Nat) : List Value := (List.range J).map fun q => iv (p + s * q)
theorem placesN_succ (p s J : Nat) : placesN p s (J + 1) = placesN p s J ++ [iv (p + s * J)] := by
  unfold placesN
  rw [List.range_succ, List.map_append]
  rfl
theorem off_self {n p : Nat} (h : p < n) : offN n (p : Int) = p := by
  unfold offN
  rw [Int.emod_eq_of_lt (by omega) (by omega)]
  omega
set_option maxRecDepth 100000 in
set_option maxHeartbeats 2000000 in
theorem least_any (A : Option Addr) (c n : Nat) (L : List (List Nat)) (w : World) (hl : RdW w A L) (ol : OkW L) (hw : ∀ xs ∈ L, xs.length ≤ 1000000) (hn : n = L.length) (hL : n ≤ 1000000) (h0 : 0 < n) :
    Calls Try.prog 9 #[.slice A n c] w fun e w' => ∃ (v : Value) (J g : Nat) (vs : List Value), e = .returned (.tuple #[v, .slice (some ⟨g, 0, none⟩) n n]) ∧
      w'.ownsRow w.heap.size 3 1 v J (placesN (lp L n 0 1).1 (lp L n 0 1).2 J) ∧ n ≤ (lp L n 0 1).1 + (lp L n 0 1).2 * J ∧ (∀ q, q < J → (lp L n 0 1).1 + (lp L n 0 1).2 * q < n) ∧
      RowN w' w.heap.size g 0 vs (turnN L (lp L n 0 1).1) ∧ Below w.heap.size w w' := by
  obtain ⟨i0, hi0, hz0, hz1, hz2⟩ := info_partsI i64info
  have C1 := Lib.hid (leastPlaces_any A c n L w hl ol (by omega) hn)
  obtain ⟨r1, r2, r3⟩ := lp_rng L n 0 1 (by omega) (by omega)
  rw [← hn] at r1 r3
  have C2 : Hid (∀ w', Below w.heap.size w w' → Calls Try.prog 12 #[.slice A n c, .int .i64 ((lp L n 0 1).1 : Nat)] w' fun e w'' => ∃ g vs, e = .returned (.slice (some ⟨g, 0, none⟩) n n) ∧ RowN w'' w'.heap.size g 0 vs (turnN L (lp L n 0 1).1) ∧ w'.heap.size ≤ g ∧ Below w'.heap.size w' w'') := by
    intro w' h
    have := turn_any A c n ((lp L n 0 1).1 : Nat) L w' (hl.below h) hw hn hL h0
    rw [off_self r1] at this
    exact this
  generalize lp L n 0 1 = ps at *
  obtain ⟨p, s⟩ := ps
  try dsimp only at r1 r2 r3
  have hne : ((n : Int) == 0) = false := by simp; omega
  clear hl ol hw hn
  go_enter Try.func9, Try.ntmps9
  go_wp2_with fail
  refine C1.out.mono ?_
  rintro e w1 ⟨rfl, hb⟩
  have HB := Lib.hid hb
  have hown : w1.ownsRow w.heap.size 3 1 (.slice none 0 0) 0 (placesN p s 0) := ⟨rfl, .inl ⟨rfl, rfl⟩⟩
  have HO := Lib.hid hown
  have hz1' := hb.size
  clear hb hown C1
  go_wp2_with fail
  go_loopw [6, 7] (fun v s7 wr => ∃ J i : Nat, s7 = .int .i64 i ∧ i ≤ 2000000 ∧ Hid (i = p + s * J) ∧ Hid (∀ q, q < J → p + s * q < n) ∧ Hid (wr.ownsRow w.heap.size 3 1 v J (placesN p s J)) ∧ J ≤ i ∧ Hid (Below w.heap.size w wr)) (fun _ s7 _ => n - (intOf s7).toNat)
  case atStart => exact ⟨0, p, rfl, by omega, Lib.hid (by omega), Lib.hid (fun q h => absurd h (by omega)), HO, by omega, HB⟩
  case round =>
    obtain ⟨J, i, rfl, hi, hij, hJ, hown, hJi, hbel⟩ := hrel
    have hlow := hown.out.lt
    by_cases hlt : i < n
    · have HO2 := Lib.hid (World.ownsRow.alloc hown.out (.cells #[.int .i64 (i : Nat)] 3))
      have HNW := Lib.hid (heap_alloc_new wr (.cells #[.int .i64 (i : Nat)] 3))
      have hwz : w.heap.size ≤ wr.heap.size := hbel.out.size
      have HB2 := Lib.hid (hbel.out.alloc hwz (.cells #[.int .i64 (i : Nat)] 3))
      go_wp2_with (at_builtin; refine wpList_append_lies _ rfl _ _ 25 rfl w.heap.size 3 i0 (.int .i64 0) 1 8 Try.underlying25 hi0 hz0 hz1 hz2 rfl (by decide) u6 J (placesN p s J) rfl HO2.out ⟨wr.heap.size, 0, none⟩ 1 1 [iv i] rfl rfl (by intro j u hj; have hj0 : j = 0 := (by have := (List.getElem?_eq_some_iff.1 hj).1; simp at this; omega); subst hj0; rw [← hj, add_off]; exact cell_of HNW.out 0) (by simp [Value.oneCell']) (by omega) (by simp [maxLen]; omega) (by omega) (by simp; omega) _ rfl ?_; intro g' cap' w7 hrow7 hgr7 hor hlt7)
      go_roundw
      case rel =>
        refine ⟨J + 1, i + s, by go_num, by omega, Lib.hid (by rw [hij.out, Nat.mul_succ]; omega), Lib.hid (fun q hq => ?_), Lib.hid (by rw [placesN_succ, ← hij.out]; exact hrow7), by omega, Lib.hid (HB2.out.grown hgr7 (by simp; omega) (fun j hj => (hlow j hj).1))⟩
        by_cases hqJ : q = J
        · subst hqJ; rw [← hij.out]; exact hlt
        · exact hJ.out q (by omega)
      case measure => simp [intOf]; omega
    · have HE := Lib.hid (show n ≤ p + s * J by rw [← hij.out]; omega)
      clear hlow
      go_wp2_with fail
      refine (C2.out _ hbel.out).mono ?_
      rintro e w8 ⟨g, vs, rfl, hrow, hg, hb8⟩
      have HO8 := Lib.hid (row_below hown.out hb8)
      have HR8 := Lib.hid hrow
      have HB8 := Lib.hid (next_below hbel.out hb8)
      have hwz : w.heap.size ≤ wr.heap.size := hbel.out.size
      clear hrow hb8 C2 hown
      go_wp2_with fail
      refine bodyPost_ret (v := .tuple #[u6, .slice (some ⟨g, 0, none⟩) n n]) (by simp [results, Try.results9, go_sem]) rfl ⟨u6, J, g, vs, rfl, HO8.out, HE.out, hJ.out, ?_, HB8.out⟩
      exact ⟨HR8.out.1, HR8.out.2.1, fun j u xs hj hx => by
        obtain ⟨D, c', e1, e2, e3, e4, e5, e6⟩ := HR8.out.2.2 j u xs hj hx
        exact ⟨D, c', e1, e2, e3, e4, e5, fun ad ha => ⟨Nat.le_trans hwz (e6 ad ha).1, (e6 ad ha).2⟩⟩⟩
end Go.Proofs.Ytmnkghbbcjnlfaa
