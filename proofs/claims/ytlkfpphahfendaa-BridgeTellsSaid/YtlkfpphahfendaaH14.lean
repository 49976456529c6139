/- The reference of layer 8: feet. -/
import Derived.Test.YtlkfpphahfendaaH12
namespace Go.Proofs.Ytlkfpphahfendaa
set_option maxRecDepth 100000
open Go.RowKit

def feetR (W l : List (Int × Int)) (k : Nat) : List Int := ((List.range k).filter fun (v : Nat) => onZ W (v : Int) && onZ l (v : Int)).map fun (v : Nat) => (v : Int)
theorem feetR_step (W l : List (Int × Int)) (k : Nat) : feetR W l (k + 1) = if (onZ W (k : Int) && onZ l (k : Int)) = true then feetR W l k ++ [(k : Int)] else feetR W l k := by
  unfold feetR
  rw [List.range_succ, List.filter_append, List.map_append]
  split
  · rename_i h
    simp [h]
  · rename_i h
    have : (onZ W (k : Int) && onZ l (k : Int)) = false := by simpa using h
    simp [this]
theorem feetR_le (W l : List (Int × Int)) (k : Nat) : (feetR W l k).length ≤ k := by
  unfold feetR
  rw [List.length_map]
  exact Nat.le_trans (List.length_filter_le _ _) (by simp)
set_option maxHeartbeats 8000000 in
theorem feet_any (A B : Option Addr) (c d n m N : Nat) (W l : List (Int × Int)) (w : World) (hr : RdP w A W) (hl : RdP w B l) (hn : n = W.length) (hm : m = l.length) (hs : n ≤ 1000000) (ht : m ≤ 1000000) (hN : N ≤ 1000) :
    Calls Try.prog 37 #[.int .i64 (N : Nat), .slice A n c, .slice B m d] w fun e w' => ∃ V, e = .returned V ∧ w'.ownsRow w.heap.size 3 1 V (feetR W l N).length (zs (feetR W l N)) ∧ Below w.heap.size w w' := by
  have C1 : Hid (∀ w' (v : Int), Below w.heap.size w w' → Calls Try.prog 59 #[.slice A n c, .int .i64 v] w' fun e w'' => e = .returned (.bool (onZ W v)) ∧ Below w'.heap.size w' w'') := fun w' v hb' => on_any8 A c n W v w' (hr.below hb') hn hs
  have C2 : Hid (∀ w' (v : Int), Below w.heap.size w w' → Calls Try.prog 59 #[.slice B m d, .int .i64 v] w' fun e w'' => e = .returned (.bool (onZ l v)) ∧ Below w'.heap.size w' w'') := fun w' v hb' => on_any8 B d m l v w' (hl.below hb') hm ht
  obtain ⟨i0, hi0, hz0, hz1, hz2⟩ := info_partsI i64info
  have HB0 := Lib.hid (Below.refl w.heap.size w)
  have HO0 : Hid (w.ownsRow w.heap.size 3 1 (.slice none 0 0) (feetR W l 0).length (zs (feetR W l 0))) := World.ownsRow_nil _ _ _ _
  clear hr hl hn hm
  go_enter Try.func37, Try.ntmps37
  go_wp2_with fail
  go_loopw [8, 7] (fun s8 s7 wr => ∃ (k : Nat) (V : Value), k ≤ N ∧ s8 = .int .i64 k ∧ s7 = V ∧ Hid (wr.ownsRow w.heap.size 3 1 V (feetR W l k).length (zs (feetR W l k))) ∧ Hid (Below w.heap.size w wr)) (fun s8 _ _ => N - (intOf s8).toNat)
  case atStart => exact ⟨0, _, Nat.zero_le _, rfl, rfl, HO0, HB0⟩
  case round =>
    obtain ⟨k, V, hk, rfl, rfl, hO, hbel⟩ := hrel
    by_cases h1 : k < N
    · have t1 : decide ((k : Int) < (N : Int)) = true := by simp; omega
      have hst := feetR_step W l k
      have hle := feetR_le W l k
      obtain ⟨p, hp⟩ : ∃ p, onZ W (k : Int) = p := ⟨_, rfl⟩
      obtain ⟨q, hq⟩ : ∃ q, onZ l (k : Int) = q := ⟨_, rfl⟩
      have D1 := C1.out wr (k : Int) hbel.out
      have D2 : Hid (∀ w', Below w.heap.size w w' → Calls Try.prog 59 #[.slice B m d, .int .i64 (k : Int)] w' fun e w'' => e = .returned (.bool q) ∧ Below w'.heap.size w' w'') := fun w' hb' => by rw [← hq]; exact C2.out w' (k : Int) hb'
      rw [hp] at D1 hst
      rw [hq] at hst
      have HD1 := Lib.hid D1
      have HST := Lib.hid hst
      clear D1 hst hp hq
      go_wp2_with fail
      refine HD1.out.mono ?_
      rintro e w2 ⟨rfl, hb2⟩
      have HB2 := Lib.hid (hbel.out.trans (hb2.mono hbel.out.size))
      have HO2 := Lib.hid (row_below hO.out hb2)
      clear hb2 HD1 hO
      cases p
      · have hsame : feetR W l (k + 1) = feetR W l k := by rw [HST.out]; simp
        go_wp2_with fail
        go_roundw
        case rel => exact ⟨k + 1, _, by omega, by go_num, rfl, by rw [hsame]; exact HO2, HB2⟩
        case measure => simp [intOf]; omega
      · go_wp2_with fail
        refine (D2.out w2 HB2.out).mono ?_
        rintro e w3 ⟨rfl, hb3⟩
        have HB3 := Lib.hid (HB2.out.trans (hb3.mono HB2.out.size))
        have HO3 := Lib.hid (row_below HO2.out hb3)
        clear hb3 HO2
        cases q
        · have hsame : feetR W l (k + 1) = feetR W l k := by rw [HST.out]; simp
          go_wp2_with fail
          go_roundw
          case rel => exact ⟨k + 1, _, by omega, by go_num, rfl, by rw [hsame]; exact HO3, HB3⟩
          case measure => simp [intOf]; omega
        · have HSN : Hid (feetR W l (k + 1) = feetR W l k ++ [(k : Int)]) := by show _ = _; rw [HST.out]; simp
          have HFA := Lib.hid (HO3.out.alloc (.cells #[.int .i64 (k : Int)] 3))
          have HLT : Hid (∀ (i : Nat) (u : Value), [Value.int .i64 (k : Int)][i]? = some u → (w3.alloc (.cells #[.int .i64 (k : Int)] 3)).cell? ((⟨w3.heap.size, 0, none⟩ : Addr).add i) = some u) := fun i u hi => by
            rw [← hi, add_off, World.cell?_alloc_at _ _ _ _ rfl]
            simp
          have hz3 := HB3.out.size
          obtain ⟨fl, hfl⟩ : ∃ fl, (feetR W l k).length = fl := ⟨_, rfl⟩
          rw [hfl] at HFA hle
          have HFL := Lib.hid hfl
          clear hfl
          go_wp2_with (at_builtin; refine wpList_append_lies _ rfl (.tmp 22) (.tmp 24) 41 rfl w.heap.size 3 i0 (.int .i64 0) 1 8 Try.underlying41 hi0 hz0 hz1 hz2 rfl (by decide) _ fl (zs (feetR W l k)) rfl HFA.out ⟨w3.heap.size, 0, none⟩ 1 1 [.int .i64 (k : Int)] (by simp [Act.eval]) rfl HLT.out (by simp [Value.oneCell']) (by omega) (by simp [maxLen]; omega) (by omega) (by simp; omega) (w3.heap.size + 1) (by simp) ?_; intro g7 c7 w7 hr7 hg7 _ _)
          have HB7 := Lib.hid ((HB3.out.alloc hz3 _).grown hg7 (by simp; omega) (fun q e => (HFA.out.lt q e).1))
          have HO7 : Hid (w7.ownsRow w.heap.size 3 1 (.slice (some ⟨g7, 0, none⟩) (fl + 1) c7) (feetR W l (k + 1)).length (zs (feetR W l (k + 1)))) := by
            show World.ownsRow _ _ _ _ _ _ _
            rw [HSN.out, List.length_append, HFL.out, show zs (feetR W l k ++ [(k : Int)]) = zs (feetR W l k) ++ [.int .i64 (k : Int)] by simp [zs, zv]]
            exact hr7
          clear hr7 hg7
          go_wp2_with fail
          go_roundw
          case rel => exact ⟨k + 1, _, by omega, by go_num, rfl, HO7, HB7⟩
          case measure => simp [intOf]; omega
    · obtain rfl : k = N := by omega
      have t1 : decide ((k : Int) < (k : Int)) = false := by simp
      go_wp2_with fail
      go_ret
      exact ⟨_, rfl, hO.out, hbel.out⟩
end Go.Proofs.Ytlkfpphahfendaa
