/- The document's own answer: the digits of all bits of some bytes. -/
import Derived.Test.YtgljaimoaijcaaaT5
import Derived.Deep.AppendLies
namespace Go.Proofs.Ytgljaimoaijcaaa
open Go.RowKit

def ds (l : List Bool) : List Value := l.map fun b => .int .u8 (48 + (b.toNat : Nat))
theorem ds_length (l : List Bool) : (ds l).length = l.length := by simp [ds]
/-- The j-th of the halves. -/
def Hal (j : Nat) (h : Int) : Prop := (j = 0 ∧ h = 128) ∨ (j = 1 ∧ h = 64) ∨ (j = 2 ∧ h = 32) ∨ (j = 3 ∧ h = 16) ∨ (j = 4 ∧ h = 8) ∨ (j = 5 ∧ h = 4) ∨ (j = 6 ∧ h = 2) ∨ (j = 7 ∧ h = 1) ∨ (j = 8 ∧ h = 0)
theorem bitsOf_take (xs : List Int) (n i : Nat) (h : i < n) : (bitsOf xs n).take (i + 1) = (bitsOf xs n).take i ++ [(xs.getD (i / 8) 0).toNat / 2 ^ (7 - i % 8) % 2 == 1] := by
  rw [List.take_add_one]
  congr 1
  simp [bitsOf, h]
theorem bit_int (x : Int) (k : Nat) (hx : 0 ≤ x) : (48 : Int) + ((x.toNat / 2 ^ k % 2 == 1).toNat : Nat) = 48 + x / (2 ^ k : Nat) % 2 := by
  obtain ⟨y, rfl⟩ := Int.eq_ofNat_of_zero_le hx
  rw [Int.toNat_natCast, ← Int.natCast_ediv]
  generalize y / 2 ^ k = q
  rcases Nat.mod_two_eq_zero_or_one q with e | e <;> rw [e] <;> simp <;> omega
theorem ds_next (xs : List Int) (n k j : Nat) (hk : k < n) (hj : j < 8) (hx : 0 ≤ xs.getD k 0) :
    ds ((bitsOf xs (8 * n)).take (8 * k + j + 1)) = ds ((bitsOf xs (8 * n)).take (8 * k + j)) ++ [.int .u8 (48 + xs.getD k 0 / (2 ^ (7 - j) : Nat) % 2)] := by
  rw [bitsOf_take xs (8 * n) (8 * k + j) (by omega), show (8 * k + j) / 8 = k by omega, show (8 * k + j) % 8 = j by omega, ← bit_int _ _ hx]
  simp [ds]
theorem bitsOf_length (xs : List Int) (n : Nat) : (bitsOf xs n).length = n := by simp [bitsOf]

set_option maxHeartbeats 4000000 in
theorem refSaid_any (A : Option Addr) (c n : Nat) (xs : List Int) (w : World) (hr : RdB w A xs) (hx : isBytes xs) (hn : n = xs.length) (hm : n ≤ 600000) :
    Calls Try.prog 41 #[.slice A n c] w fun e w' => e = .returned (.string (txt (bitsOf xs (8 * n)))) ∧ Below w.heap.size w w' := by
  obtain ⟨i0, hi0, hz0, hz1, hz2⟩ := info_parts u8info
  have HR := Lib.hid hr
  have HX := Lib.hid hx
  have HN := Lib.hid hn
  clear hr hx hn
  have hmk : (Instr.makeSlice 22 (.int .i64 0) (.int .i64 (8 * (n : Int)))).run Try.prog w = .ok (.slice (some ⟨w.heap.size, 0, none⟩) 0 (8 * n)) (w.alloc (.cells (madeCells #[.int .u8 0] (8 * n)) 5)) := by
    have hr := run_make (P := Try.prog) w 22 5 i0 (.int .u8 0) Try.underlying22 hi0 hz0 .i64 .i64 0 (8 * n : Nat) (by omega) (by omega) (by rw [hz2]; omega) (by omega)
    simp only [Int.toNat_natCast, hz1, Nat.mul_one] at hr
    exact hr
  have HM := Lib.hid (World.ownsRow_made (base := w.heap.size) (e := 5) (size := 1) w (madeCells #[.int .u8 0] (8 * n)) (8 * n) (Nat.le_refl _) (by simp [maxLen]; omega) (by rw [← Array.length_toList, toList_madeCells_one]; simp))
  go_enter Try.func41, Try.ntmps41
  go_wp2_with fail
  go_loopw [3, 4] (fun s3 i wr => ∃ k m g cap : Nat, k ≤ n ∧ i = .int .i64 k ∧ m = 8 * k ∧ s3 = .slice (some ⟨g, 0, none⟩) m cap ∧ Hid (wr.ownsRow w.heap.size 5 1 s3 m (ds ((bitsOf xs (8 * n)).take m))) ∧ Hid (Below w.heap.size w wr)) (fun _ i _ => n - (intOf i).toNat)
  case atStart => exact ⟨0, 0, w.heap.size, 8 * n, Nat.zero_le _, rfl, rfl, rfl, HM, (Below.refl _ _).alloc (Nat.le_refl _) _⟩
  case round =>
    obtain ⟨k, m, g, cap, hk, rfl, hmk2, rfl, hO, hB⟩ := hrel
    by_cases hlt : k < n
    · obtain ⟨x, hxk⟩ : ∃ x, xs[k]? = some x := ⟨_, List.getElem?_eq_getElem (by rw [← HN.out]; exact hlt)⟩
      obtain ⟨ad, rfl, hadl, hc0⟩ := HR.out k x hxk
      have hx2 := HX.out x (List.mem_of_getElem? hxk)
      have HD := Lib.hid (fun j hj => ds_next xs n k j hlt hj (by rw [List.getD_eq_getElem?_getD, hxk]; exact hx2.1))
      rw [show xs.getD k 0 = x by rw [List.getD_eq_getElem?_getD, hxk]; rfl] at HD
      clear hmk HM hxk
      obtain ⟨x, rfl⟩ := Int.eq_ofNat_of_zero_le hx2.1
      go_wp2_with fail
      go_loopw [3, 5] (fun s3 h wq => ∃ (j m g cap : Nat) (hv : Int), Hal j hv ∧ h = .int .i64 hv ∧ m = 8 * k + j ∧ s3 = .slice (some ⟨g, 0, none⟩) m cap ∧ Hid (wq.ownsRow w.heap.size 5 1 s3 m (ds ((bitsOf xs (8 * n)).take m))) ∧ Hid (Below w.heap.size w wq)) (fun _ h _ => (intOf h).toNat)
      case atStart => exact ⟨0, m, g, cap, 128, .inl ⟨rfl, rfl⟩, rfl, hmk2, rfl, hO, hB⟩
      case round =>
        clear hO hB hmk2
        obtain ⟨j, m, g, cap, hv, hj, rfl, hmj, rfl, hO, hB⟩ := hrel
        have hc1 := (hB.out.cell (p := ad.add k) (by rw [block_add]; exact hadl)).trans hc0
        have hwz : w.heap.size ≤ wr.heap.size := hB.out.size
        obtain ⟨jv, hjv⟩ : ∃ jv, jv = j := ⟨_, rfl⟩
        rw [← hjv] at hmj
        have HS : Hid (jv < 8 → ds ((bitsOf xs (8 * n)).take (m + 1)) = ds ((bitsOf xs (8 * n)).take m) ++ [Value.int .u8 (48 + (x : Int) / (2 ^ (7 - jv) : Nat) % 2)]) := Lib.hid (fun h => by rw [hmj]; exact HD.out jv h)
        have HC : Hid (∀ (V : Value) j u, [V][j]? = some u → (wr.alloc (.cells #[V] 5)).cell? ((⟨wr.heap.size, 0, none⟩ : Addr).add j) = some u) := by
          intro V j u hj
          rw [add_off, cell_of (heap_alloc_new wr _)]
          simpa using hj
        have HA : Hid (∀ o, (wr.alloc o).ownsRow w.heap.size 5 1 (.slice (some ⟨g, 0, none⟩) m cap) m (ds ((bitsOf xs (8 * n)).take m))) := Lib.hid (fun o => World.ownsRow.alloc hO.out o)
        have HBA : Hid (∀ o, Below w.heap.size w (wr.alloc o)) := Lib.hid (fun o => hB.out.alloc hwz o)
        have hm8 : m ≤ 8 * 600000 := by
          have : jv ≤ 8 := by rcases hj with ⟨h, _⟩ | ⟨h, _⟩ | ⟨h, _⟩ | ⟨h, _⟩ | ⟨h, _⟩ | ⟨h, _⟩ | ⟨h, _⟩ | ⟨h, _⟩ | ⟨h, _⟩ <;> omega
          omega
        have HMJ := Lib.hid hmj
        have HJ := Lib.hid hjv
        have HLW : Hid (∀ q, (Value.slice (some ⟨g, 0, none⟩) m cap).ownBlock = some q → w.heap.size ≤ q) := Lib.hid (fun q hq => (World.ownsRow.lt hO.out q hq).1)
        clear hc0 hmj
        have hkk : k < n := hlt
        generalize hD : ds ((bitsOf xs (8 * n)).take m) = D at *
        have HDD := Lib.hid hD
        clear hD
        rcases hj with ⟨rfl, rfl⟩ | ⟨rfl, rfl⟩ | ⟨rfl, rfl⟩ | ⟨rfl, rfl⟩ | ⟨rfl, rfl⟩ | ⟨rfl, rfl⟩ | ⟨rfl, rfl⟩ | ⟨rfl, rfl⟩ | ⟨rfl, rfl⟩
        iterate 8
          · clear hjv
            go_wp2_with (at_builtin; refine wpList_append_lies _ rfl _ _ 22 rfl w.heap.size 5 i0 (.int .u8 0) 1 1 Try.underlying22 hi0 hz0 hz1 hz2 rfl (by decide) (.slice (some ⟨g, 0, none⟩) m cap) m D rfl (HA.out _) ⟨wr.heap.size, 0, none⟩ 1 1 [_] rfl rfl (HC.out _) (by simp [Value.oneCell']) (by omega) (by simp [maxLen]; omega) (by omega) (by simp; omega) _ rfl ?_; intro g7 cap7 w7 hrow7 hgr7 hor7 hlt7)
            go_roundw
            case rel =>
              have hjv := HJ.out
              refine ⟨jv + 1, m + 1, g7, cap7, _, ?_, rfl, by have := HMJ.out; omega, rfl, ?_, ?_⟩
              · subst hjv; simp [Hal]
              · show World.ownsRow _ _ _ _ _ _ _
                rw [HS.out (by omega)]
                subst hjv
                first | exact hrow7 | simpa using hrow7
              · exact (HBA.out _).grown hgr7 (by simp; omega) (fun q hq => HLW.out q hq)
            case measure => simp [intOf]; try omega
        · have hjv8 := HJ.out
          clear hjv
          go_wp2_with fail
          go_roundw
          case rel => exact ⟨k + 1, m, g, cap, by omega, by go_num, by have := HMJ.out; omega, rfl, by rw [HDD.out]; exact hO, hB⟩
          case measure => simp [intOf]; omega
    · obtain rfl : k = n := by omega
      have hml : m = (bitsOf xs (8 * k)).length := by rw [bitsOf_length]; exact hmk2
      have hOc := World.ownsRow.cells hO.out (g := g) rfl
      rw [List.take_of_length_le (by rw [bitsOf_length]; omega)] at hOc
      have hcv := run_convert_bytes_back (P := Try.prog) wr 22 9 5 ⟨g, 0, none⟩ cap ((bitsOf xs (8 * k)).map digit) Try.underlying22 Try.underlying5 Try.underlying9 (fun j hj => by
        have hj' : j < (bitsOf xs (8 * k)).length := by simpa using hj
        refine hOc j _ ?_
        simp only [ds, List.getElem?_map, List.getElem?_eq_getElem hj', Option.map_some, List.getElem_map, digit_nat])
      rw [List.length_map, ← hml] at hcv
      have HV : Hid ((⟨((bitsOf xs (8 * k)).map digit).toArray⟩ : ByteArray) = txt (bitsOf xs (8 * k))) := rfl
      rw [HV.out] at hcv
      clear hOc hml hmk2 hmk
      go_wp2_with fail
      go_ret
      exact ⟨rfl, hB.out⟩
end Go.Proofs.Ytgljaimoaijcaaa
