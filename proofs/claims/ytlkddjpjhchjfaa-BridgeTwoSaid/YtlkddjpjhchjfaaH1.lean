/- Heads in a row of one's own; the head of one (layer 8). -/
import Derived.Test.YtlkddjpjhchjfaaW3
import Derived.Test.YtlkddjpjhchjfaaU0
namespace Go.Proofs.Ytlkddjpjhchjfaa
set_option maxRecDepth 100000
open Go.RowKit

def nv (x : Nat) : Value := .int .i64 (x : Int)
/-- A row of numbers in a block. -/
def OwnH (w : World) (B : Nat) (H : List Nat) : Prop := w.heap[B]? = some (.cells (H.map nv).toArray 3 (0, 0))
theorem OwnH.at_ {w : World} {B v : Nat} {H : List Nat} (h : OwnH w B H) (hv : v < H.length) : w.cell? ⟨B, v, none⟩ = some (.int .i64 ((hd H v : Nat) : Int)) := by
  rw [cell_of h]
  simp [hd, List.getD, hv, nv]
theorem OwnH.free {w : World} {B : Nat} {H : List Nat} (h : OwnH w B H) (v : Nat) : w.frozen? ⟨B, v, none⟩ = false := free_of h v
theorem OwnH.set {w : World} {B : Nat} {H : List Nat} (h : OwnH w B H) (v x : Nat) : OwnH (w.setCell ⟨B, v, none⟩ (.int .i64 (x : Int))) B (H.set v x) := by
  show _ = _
  rw [Go.Joins.block_setCell h, List.map_set]
  simp [nv]
/-- All blocks but one lie as they lay. -/
structure Only (B : Nat) (w w' : World) : Prop where
  os : w'.os = w.os
  tape : w'.tape = w.tape
  output : w'.output = w.output
  size : w.heap.size ≤ w'.heap.size
  same : ∀ i, i < w.heap.size → i ≠ B → w'.heap[i]? = w.heap[i]?
theorem Only.refl (B : Nat) (w : World) : Only B w w := ⟨rfl, rfl, rfl, Nat.le_refl _, fun _ _ _ => rfl⟩
theorem Only.trans {B : Nat} {a b c : World} (h : Only B a b) (k : Only B b c) : Only B a c :=
  ⟨k.os.trans h.os, k.tape.trans h.tape, k.output.trans h.output, Nat.le_trans h.size k.size, fun i hi hn => (k.same i (Nat.lt_of_lt_of_le hi h.size) hn).trans (h.same i hi hn)⟩
theorem Only.put (B v : Nat) (w : World) (x : Value) : Only B w (w.setCell ⟨B, v, none⟩ x) :=
  ⟨rfl, rfl, rfl, by simp [World.setCell], fun i _ hn => Below.heap_setCell _ _ _ _ hn⟩
theorem Only.cell {B p o : Nat} {w w' : World} (h : Only B w w') (hp : p < w.heap.size) (hn : p ≠ B) : w'.cell? ⟨p, o, none⟩ = w.cell? ⟨p, o, none⟩ := World.cell?_of_block (h.same p hp hn)
theorem Only.of {B : Nat} {w w' : World} (h : Below w.heap.size w w') : Only B w w' := ⟨h.os, h.tape, h.output, h.size, fun i hi _ => h.block i hi⟩
theorem Only.below {B b : Nat} {w0 w w' : World} (h : Only B w w') (hb : Below b w0 w) (hB : b ≤ B) (hs : b ≤ w.heap.size) : Below b w0 w' :=
  hb.trans ⟨h.os, h.tape, h.output, h.size, fun i hi => h.same i (by omega) (by omega)⟩
theorem UF.less {n : Nat} {H : List Nat} {r d : Nat → Nat} (h : UF n H r d) {v : Nat} (hv : v < n) (hne : hd H v ≠ v) : d (hd H (hd H v)) < d v := by
  have a := h.down v hv hne
  by_cases e : hd H (hd H v) = hd H v
  · rw [e]; exact a
  · exact Nat.lt_trans (h.down _ (h.lt v hv) e) a

set_option maxRecDepth 100000 in
set_option maxHeartbeats 8000000 in
theorem head_any (n pb Bh v : Nat) (H : List Nat) (r d : Nat → Nat) (w : World) (hv : v < n) (hn : n ≤ 1000000) (huf : UF n H r d) (h1 : w.cell? ⟨pb, 0, none⟩ = some (.slice (some ⟨Bh, 0, none⟩) n n)) (hpb : pb < w.heap.size) (hne : pb ≠ Bh) (hH : OwnH w Bh H) :
    Calls Try.prog 81 #[.int .i64 (v : Int), .pointer (some ⟨pb, 0, none⟩)] w fun e w' => e = .returned (.int .i64 ((r v : Nat) : Int)) ∧ ∃ H', UF n H' r d ∧ OwnH w' Bh H' ∧ Only Bh w w' := by
  have HU := Lib.hid huf
  have HO := Lib.hid hH
  have HON := Lib.hid (Only.refl Bh w)
  have HC := Lib.hid h1
  have HR0 : Hid (r v = r v) := rfl
  obtain ⟨rv, hrv⟩ : ∃ rv, r v = rv := ⟨_, rfl⟩
  have HRV := Lib.hid hrv
  rw [hrv]
  clear huf hH h1 HR0 hrv
  go_enter Try.func81, Try.ntmps81
  go_wp2_with fail
  go_loopw [0] (fun s0 wr => ∃ (u : Nat) (K : List Nat), u < n ∧ s0 = .int .i64 u ∧ Hid (r u = rv) ∧ Hid (UF n K r d) ∧ Hid (OwnH wr Bh K) ∧ Hid (Only Bh w wr)) (fun s0 _ => d (intOf s0).toNat)
  case atStart => exact ⟨v, H, hv, rfl, HRV, HU, HO, HON⟩
  case round =>
    obtain ⟨u, K, hu, rfl, hr, hU, hO, hon⟩ := hrel
    have c0 : wr.cell? ⟨pb, 0, none⟩ = some (.slice (some ⟨Bh, 0, none⟩) n n) := (hon.out.cell hpb hne).trans HC.out
    have c1 := hO.out.at_ (v := u) (by rw [hU.out.len]; exact hu)
    have hx := hU.out.lt u hu
    have c2 := hO.out.at_ (v := hd K u) (by rw [hU.out.len]; exact hx)
    have f1 := hO.out.free u
    have hy := hU.out.lt _ hx
    have hU0 : (0 : Int) ≤ (u : Int) := by omega
    have hU1 : (u : Int) < (n : Nat) := by omega
    by_cases h2 : hd K u = u
    · have HF : Hid (r u = u) := hU.out.top u hu h2
      rw [h2] at c1
      have t1 : ((u : Int) != (u : Int)) = false := by simp
      clear c2 hx hy h2
      go_wp2_with fail
      go_ret
      exact ⟨by rw [← hr.out, HF.out]; rfl, K, hU.out, hO.out, hon.out⟩
    · have HUH := Lib.hid (hU.out.half hu h2)
      have HLS := Lib.hid (hU.out.less hu h2)
      have HRR : Hid (r (hd K (hd K u)) = rv) := by show _ = _; rw [hU.out.root _ hx, hU.out.root _ hu]; exact hr.out
      obtain ⟨x, hxx⟩ : ∃ x, hd K u = x := ⟨_, rfl⟩
      rw [hxx] at c1 c2 hx hy HUH HLS HRR h2
      obtain ⟨y, hyy⟩ : ∃ y, hd K x = y := ⟨_, rfl⟩
      rw [hyy] at c2 hy HUH HLS HRR
      have t1 : ((x : Int) != (u : Int)) = true := by rw [bne_iff_ne]; omega
      have t2 : (x != u) = true := by simpa using h2
      have hX0 : (0 : Int) ≤ (x : Int) := by omega
      have hX1 : (x : Int) < (n : Nat) := by omega
      obtain ⟨W5, hW5⟩ : ∃ W5, W5 = (wr.setCell ⟨Bh, u, none⟩ (.int .i64 (y : Int))).drew := ⟨_, rfl⟩
      have hO5 : OwnH W5 Bh (K.set u y) := by rw [hW5]; exact OwnH.set hO.out u y
      have hon5 : Only Bh w W5 := by rw [hW5]; exact (hon.out.trans (Only.put Bh u wr _)).trans ⟨rfl, rfl, rfl, Nat.le_refl _, fun _ _ _ => rfl⟩
      have k0 : W5.cell? ⟨pb, 0, none⟩ = some (.slice (some ⟨Bh, 0, none⟩) n n) := (hon5.cell hpb hne).trans HC.out
      have k1 := hO5.at_ (v := u) (by rw [List.length_set, hU.out.len]; exact hu)
      rw [hd_set (by rw [hU.out.len]; exact hu), if_pos rfl] at k1
      have HO5 := Lib.hid hO5
      have HON5 := Lib.hid hon5
      have HW5 := Lib.hid hW5
      clear hO5 hon5 hxx hyy h2 hW5
      go_wp2_with fail
      go_region
      clear c0 c1 c2 f1
      rw [← HW5.out]
      go_wp2_with fail
      go_roundw
      case rel => exact ⟨y, _, hy, rfl, HRR, HUH, HO5, HON5⟩
      case measure => simp only [intOf, Int.toNat_natCast]; exact HLS.out
end Go.Proofs.Ytlkddjpjhchjfaa
