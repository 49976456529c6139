/- Who joins the heads (layer 8). -/
import Derived.Test.YtlkddjpjhchjfaaH3
import Derived.Laws.EntriesVeiled
namespace Go.Proofs.Ytlkddjpjhchjfaa
set_option maxRecDepth 100000
open Go.RowKit

/-- The heads are as the first k edges join them. -/
def Joined (n b2 : Nat) (on : Nat → Bool) (L : List (Int × Int)) (k : Nat) (w : World) : Prop := ∃ H r d, UF n H r d ∧ OwnH w b2 H ∧ ∀ x y, x < n → y < n → (r x = r y ↔ cnR on L k x y)
set_option maxHeartbeats 16000000 in
theorem owner_any (n m : Nat) (A B : Option Addr) (c dc : Nat) (L : List (Int × Int)) (on : Nat → Bool) (w : World) (hm : m = L.length) (hms : m ≤ 1000000) (hn : n ≤ 1000000) (hL : RdP w A L) (hO : RdO w B n on) (hin : ∀ e ∈ L, 0 ≤ e.1 ∧ e.1 < n ∧ 0 ≤ e.2 ∧ e.2 < n) :
    Calls Try.prog 68 #[.slice A m c, .slice B n dc] w fun e w' => ∃ pf, e = .returned (.func (.func 82) #[] #[.pointer (some ⟨w.heap.size, 0, none⟩), .pointer (some ⟨w.heap.size + 1, 0, none⟩), .pointer (some ⟨pf, 0, none⟩)]) ∧
      w'.cell? ⟨w.heap.size, 0, none⟩ = some (.slice A m c) ∧ w'.cell? ⟨w.heap.size + 1, 0, none⟩ = some (.slice B n dc) ∧ w'.cell? ⟨pf, 0, none⟩ = some (.func (.func 81) #[] #[.pointer (some ⟨w.heap.size + 3, 0, none⟩)]) ∧ w'.cell? ⟨w.heap.size + 3, 0, none⟩ = some (.slice (some ⟨w.heap.size + 2, 0, none⟩) n n) ∧
      w.heap.size + 4 ≤ pf ∧ pf < w'.heap.size ∧ Joined n (w.heap.size + 2) on L m w' ∧ Below w.heap.size w w' := by
  obtain ⟨w2, hw2⟩ : ∃ w2, w2 = (w.alloc (.cells #[.slice A m c] 22)).alloc (.cells #[.slice B n dc] 65) := ⟨_, rfl⟩
  have hb2 : Below w.heap.size w w2 := by rw [hw2]; exact ((Below.refl _ _).alloc (Nat.le_refl _) _).alloc (by simp) _
  have hs2 : w2.heap.size = w.heap.size + 2 := by rw [hw2]; simp
  obtain ⟨w3, hw3⟩ : ∃ w3, w3 = w2.alloc (.cells ((List.replicate n 0).map nv).toArray 3) := ⟨_, rfl⟩
  have hmk : (Instr.makeSlice 35 (.int .i64 n) (.int .i64 n)).run Try.prog w2 = .ok (.slice (some ⟨w.heap.size + 2, 0, none⟩) n n) w3 := by rw [hw3, ← hs2]; exact make_heads n hn w2
  have hb3 : Below w2.heap.size w2 w3 := by rw [hw3]; exact (Below.refl _ _).alloc (Nat.le_refl _) _
  have hs3 : w3.heap.size = w.heap.size + 3 := by rw [hw3, World.size_alloc]; omega
  obtain ⟨W, hW⟩ : ∃ W, W = w3.alloc (.cells #[.slice (some ⟨w.heap.size + 2, 0, none⟩) n n] 35) := ⟨_, rfl⟩
  have hb4 : Below w3.heap.size w3 W := by rw [hW]; exact (Below.refl _ _).alloc (Nat.le_refl _) _
  have hsW : W.heap.size = w.heap.size + 4 := by rw [hW, World.size_alloc]; omega
  have hbW : Below w.heap.size w W := next_below (next_below hb2 hb3) hb4
  have j0 : w2.heap[w.heap.size]? = some (.cells #[.slice A m c] 22 (0, 0)) := by rw [hw2, heap_alloc_old _ _ (by simp)]; exact heap_alloc_new w _
  have j1 : w2.heap[w.heap.size + 1]? = some (.cells #[.slice B n dc] 65 (0, 0)) := by
    rw [hw2]
    have h1 := heap_alloc_new (w.alloc (.cells #[.slice A m c] 22)) (.cells #[.slice B n dc] 65)
    simpa using h1
  have j2 : OwnH w3 (w.heap.size + 2) (fillI n 0) := by
    show _ = _
    rw [fillI_zero, hw3, ← hs2]
    exact heap_alloc_new w2 _
  have j3 : W.heap[w.heap.size + 3]? = some (.cells #[.slice (some ⟨w.heap.size + 2, 0, none⟩) n n] 35 (0, 0)) := by rw [hW, ← hs3]; exact heap_alloc_new w3 _
  have J0 := Lib.hid (blk_below (blk_below j0 hb3) hb4)
  have J1 := Lib.hid (blk_below (blk_below j1 hb3) hb4)
  have J2 : Hid (OwnH W (w.heap.size + 2) (fillI n 0)) := blk_below j2 hb4
  have J3 := Lib.hid j3
  have HCL : Hid (∀ w', Only (w.heap.size + 2) W w' → w'.cell? ⟨w.heap.size, 0, none⟩ = some (.slice A m c) ∧ w'.cell? ⟨w.heap.size + 1, 0, none⟩ = some (.slice B n dc) ∧ w'.cell? ⟨w.heap.size + 3, 0, none⟩ = some (.slice (some ⟨w.heap.size + 2, 0, none⟩) n n)) := fun w' h =>
    ⟨(h.cell (by omega) (by omega)).trans (cell_of J0.out 0), (h.cell (by omega) (by omega)).trans (cell_of J1.out 0), (h.cell (by omega) (by omega)).trans (cell_of J3.out 0)⟩
  have HLN := Lib.hid hL
  have HON := Lib.hid hO
  have HIN := Lib.hid hin
  have HM := Lib.hid hm
  have HBW := Lib.hid hbW
  have HSW := Lib.hid hsW
  have HW := Lib.hid hW
  have HW2 := Lib.hid hw2
  have HS3 := Lib.hid hs3
  have HOR := Lib.hid (Only.refl (w.heap.size + 2) W)
  have i0 := cell_of j1 0
  rw [hw2] at i0
  clear hL hO hin hm hbW hsW hW hb2 hb3 hb4 j0 j1 j2 j3 hs3 hw3
  rw [hw2] at hmk
  clear hw2
  go_enter Try.func68, Try.ntmps68
  go_upto_region 2 with fail
  rw [← HW.out, HS3.out]
  clear hmk i0
  obtain ⟨c0, c1, c3⟩ := HCL.out W HOR.out
  go_wp2_with fail
  clear c0 c1 c3
  go_loopw [15] (fun s wr => ∃ k : Nat, k ≤ n ∧ s = .int .i64 k ∧ Hid (OwnH wr (w.heap.size + 2) (fillI n k)) ∧ Hid (Only (w.heap.size + 2) W wr)) (fun s _ => n - (intOf s).toNat)
  case atStart => exact ⟨0, Nat.zero_le _, rfl, J2, HOR⟩
  case round =>
    obtain ⟨k, hk, rfl, hH, ho⟩ := hrel
    obtain ⟨c0, c1, c3⟩ := HCL.out wr ho.out
    by_cases h1 : k < n
    · have t1 : decide ((k : Int) < (n : Int)) = true := by simp; omega
      have hK0 : (0 : Int) ≤ (k : Int) := by omega
      have hK1 : (k : Int) < (n : Nat) := by omega
      have q0 := hH.out.at_ (v := k) (by rw [fillI_length]; exact h1)
      have q1 := hH.out.free k
      have HH2 : Hid (OwnH (wr.setCell ⟨w.heap.size + 2, k, none⟩ (.int .i64 (k : Int))) (w.heap.size + 2) (fillI n (k + 1))) := by
        show OwnH _ _ _
        rw [← fillI_step h1]
        exact hH.out.set k k
      have HO2 := Lib.hid (ho.out.trans (Only.put (w.heap.size + 2) k wr (.int .i64 (k : Int))))
      go_wp2_with fail
      go_roundw
      case rel => exact ⟨k + 1, by omega, by go_num, HH2, HO2⟩
      case measure => simp [intOf]; omega
    · obtain rfl : n = k := by omega
      have t1 : decide ((n : Int) < (n : Int)) = false := by simp
      obtain ⟨X, hX⟩ : ∃ X, X = wr.alloc (.cells #[.func (.func 81) #[] #[.pointer (some ⟨w.heap.size + 3, 0, none⟩)]] 102) := ⟨_, rfl⟩
      have hbX : Below wr.heap.size wr X := by rw [hX]; exact (Below.refl _ _).alloc (Nat.le_refl _) _
      have hXF : X.heap[wr.heap.size]? = some (.cells #[.func (.func 81) #[] #[.pointer (some ⟨w.heap.size + 3, 0, none⟩)]] 102 (0, 0)) := by rw [hX]; exact heap_alloc_new wr _
      have hwrs := ho.out.size
      have hsW2 := HSW.out
      obtain ⟨pf, hpf⟩ : ∃ pf, wr.heap.size = pf := ⟨_, rfl⟩
      have hpfX : pf < X.heap.size := by rw [← hpf]; exact lt_of_block hXF
      have HXO := Lib.hid (ho.out.trans (Only.of (B := w.heap.size + 2) hbX))
      have HPF : Hid (∀ w', Only (w.heap.size + 2) X w' → w'.cell? ⟨pf, 0, none⟩ = some (.func (.func 81) #[] #[.pointer (some ⟨w.heap.size + 3, 0, none⟩)])) := fun w' h => by
        rw [h.cell hpfX (by omega), ← hpf]
        exact cell_of hXF 0
      have HXX := Lib.hid hX
      have hpf4 : w.heap.size + 4 ≤ pf := by omega
      have HJ0 : Hid (Joined n (w.heap.size + 2) on L 0 X) := by
        have h5 := hH.out
        rw [fillI_all] at h5
        exact ⟨List.range n, id, fun _ => 0, UF.start n, blk_below h5 hbX, fun x y _ _ => Iff.rfl⟩
      have HX0 := Lib.hid (Only.refl (w.heap.size + 2) X)
      have HPX := Lib.hid hpf
      clear hbX hXF hX hpf
      obtain ⟨e0, e1, e3⟩ := HCL.out X HXO.out
      rw [HXX.out] at e0 e1 e3
      go_wp2_with fail
      rw [← HXX.out, HPX.out]
      clear e0 e1 e3 c0 c1 c3
      go_loopw [26] (fun s wr => ∃ k : Nat, k ≤ m ∧ s = .int .i64 k ∧ Hid (Joined n (w.heap.size + 2) on L k wr) ∧ Hid (Only (w.heap.size + 2) X wr)) (fun s _ => m - (intOf s).toNat)
      case atStart => exact ⟨0, Nat.zero_le _, rfl, HJ0, HX0⟩
      case round =>
        clear hH ho hwrs
        obtain ⟨k, hk, rfl, hJ, ho⟩ := hrel
        obtain ⟨c0, c1, c3⟩ := HCL.out wr (HXO.out.trans ho.out)
        have c4 := HPF.out wr ho.out
        by_cases h2 : k < m
        · have t2 : decide ((k : Int) < (m : Int)) = true := by simp; omega
          have hK0 : (0 : Int) ≤ (k : Int) := by omega
          have hK1 : (k : Int) < (m : Nat) := by omega
          have hBr : Below w.heap.size w wr := (HXO.out.trans ho.out).below HBW.out (by omega) HBW.out.size
          obtain ⟨e, he⟩ : ∃ e, L[k]? = some e := ⟨_, List.getElem?_eq_getElem (by rw [← HM.out]; exact h2)⟩
          obtain ⟨x0, x1, y0, y1⟩ := HIN.out e (List.mem_of_getElem? he)
          obtain ⟨ad, rfl, _, p0, p1⟩ := (HLN.out.below hBr) k e he
          obtain ⟨ex, ey⟩ := e
          simp only at x0 x1 y0 y1 p0 p1
          obtain ⟨x, rfl⟩ := Int.eq_ofNat_of_zero_le x0
          obtain ⟨y, rfl⟩ := Int.eq_ofNat_of_zero_le y0
          have HE := Lib.hid he
          have hbY : Below wr.heap.size wr (wr.alloc (.cells #[.int .i64 (x : Nat), .int .i64 (y : Nat)] 51)) := (Below.refl _ _).alloc (Nat.le_refl _) _
          have hEB : (wr.alloc (.cells #[.int .i64 (x : Nat), .int .i64 (y : Nat)] 51)).heap[wr.heap.size]? = some (.cells #[.int .i64 (x : Nat), .int .i64 (y : Nat)] 51 (0, 0)) := heap_alloc_new wr _
          have HYO := Lib.hid (ho.out.trans (Only.of (B := w.heap.size + 2) hbY))
          have HJY : Hid (Joined n (w.heap.size + 2) on L k (wr.alloc (.cells #[.int .i64 (x : Nat), .int .i64 (y : Nat)] 51))) := by
            obtain ⟨H, r, d, h5, h6, h7⟩ := hJ.out
            exact ⟨H, r, d, h5, blk_below h6 hbY, h7⟩
          have HBY := Lib.hid (next_below hBr hbY)
          have hszr := ho.out.size
          have hsWX := HXO.out.size
          clear he hbY hJ
          go_upto_region 11 with fail
          obtain ⟨pe, hpe⟩ : ∃ pe, wr.heap.size = pe := ⟨_, rfl⟩
          generalize wr.alloc (.cells #[.int .i64 (x : Nat), .int .i64 (y : Nat)] 51) = Y at *
          rw [hpe] at hEB hszr ⊢
          clear p0 p1 c0 c1 c3 c4 hpe hBr ho
          obtain ⟨r0, r1, _, _⟩ := cells_two hEB
          have hpeY := lt_of_block hEB
          clear hEB
          obtain ⟨c0, c1, c3⟩ := HCL.out Y (HXO.out.trans HYO.out)
          have c4 := HPF.out Y HYO.out
          obtain ⟨bd, rfl, _, q0⟩ := (HON.out.below HBY.out) x (by omega)
          obtain ⟨bd2, ebd, _, q1⟩ := (HON.out.below HBY.out) y (by omega)
          injection ebd with ebd
          subst ebd
          have z0 : (0 : Int) ≤ (x : Int) := by omega
          have z1 : (x : Int) < (n : Nat) := by omega
          have z2 : (0 : Int) ≤ (y : Int) := by omega
          have z3 : (y : Int) < (n : Nat) := by omega
          have HJN : Hid ((on x || on y) = true → Joined n (w.heap.size + 2) on L (k + 1) Y) := fun h => by
            obtain ⟨H, r, d, h5, h6, h7⟩ := HJY.out
            exact ⟨H, r, d, h5, h6, fun u v hu hv => (h7 u v hu hv).trans (cnR_on HE.out h u v).symm⟩
          have HOF : Hid ((on x || on y) = false → ∀ u v, cnR on L (k + 1) u v ↔ cnR on L k u v ∨ (cnR on L k u x ∧ cnR on L k v y) ∨ (cnR on L k u y ∧ cnR on L k v x)) := fun h u v => cnR_off HE.out h u v
          obtain ⟨bx, hbx⟩ : ∃ bx, on x = bx := ⟨_, rfl⟩
          obtain ⟨yb, hyb⟩ : ∃ yb, on y = yb := ⟨_, rfl⟩
          rw [hbx] at q0 HJN HOF
          rw [hyb] at q1 HJN HOF
          clear hbx hyb
          cases bx
          · cases yb
            · have HOF2 := Lib.hid (HOF.out rfl)
              obtain ⟨H, r, d, h5, h6, h7⟩ := HJY.out
              have H7 := Lib.hid h7
              have hrx := h5.rlt x (by omega)
              have hry := h5.rlt y (by omega)
              have HS0 : Hid (Y.cell? ⟨w.heap.size + 3, 0, none⟩ = some (.slice (some ⟨w.heap.size + 2, 0, none⟩) n n) ∧ Y.cell? ⟨pf, 0, none⟩ = some (.func (.func 81) #[] #[.pointer (some ⟨w.heap.size + 3, 0, none⟩)]) ∧ Y.cell? ⟨pe, 0, none⟩ = some (.int .i64 (x : Nat)) ∧ Y.cell? ⟨pe, 1, none⟩ = some (.int .i64 (y : Nat)) ∧ (∃ H', UF n H' r d ∧ OwnH Y (w.heap.size + 2) H') ∧ Only (w.heap.size + 2) Y Y) := ⟨c3, c4, r0, r1, ⟨H, h5, h6⟩, Only.refl _ _⟩
              have hne3 : w.heap.size + 3 < Y.heap.size := by have := HYO.out.size; omega
              have hpfY : pf < Y.heap.size := Nat.lt_of_lt_of_le hpfX HYO.out.size
              have hpe4 : w.heap.size + 4 ≤ pe := by omega
              have HC : Hid (∀ (w' : World) (v : Nat), v < n → (w'.cell? ⟨w.heap.size + 3, 0, none⟩ = some (.slice (some ⟨w.heap.size + 2, 0, none⟩) n n) ∧ w'.cell? ⟨pf, 0, none⟩ = some (.func (.func 81) #[] #[.pointer (some ⟨w.heap.size + 3, 0, none⟩)]) ∧ w'.cell? ⟨pe, 0, none⟩ = some (.int .i64 (x : Nat)) ∧ w'.cell? ⟨pe, 1, none⟩ = some (.int .i64 (y : Nat)) ∧ (∃ H', UF n H' r d ∧ OwnH w' (w.heap.size + 2) H') ∧ Only (w.heap.size + 2) Y w') → Calls Try.prog 81 #[.int .i64 (v : Nat), .pointer (some ⟨w.heap.size + 3, 0, none⟩)] w' fun e w'' => e = .returned (.int .i64 ((r v : Nat) : Int)) ∧ (w''.cell? ⟨w.heap.size + 3, 0, none⟩ = some (.slice (some ⟨w.heap.size + 2, 0, none⟩) n n) ∧ w''.cell? ⟨pf, 0, none⟩ = some (.func (.func 81) #[] #[.pointer (some ⟨w.heap.size + 3, 0, none⟩)]) ∧ w''.cell? ⟨pe, 0, none⟩ = some (.int .i64 (x : Nat)) ∧ w''.cell? ⟨pe, 1, none⟩ = some (.int .i64 (y : Nat)) ∧ (∃ H', UF n H' r d ∧ OwnH w'' (w.heap.size + 2) H') ∧ Only (w.heap.size + 2) Y w'')) := by
                intro w' v hv hSw
                obtain ⟨s1, s2, s3, s4, ⟨H', u1, u2⟩, s6⟩ := hSw
                have hsz := s6.size
                refine (head_any n (w.heap.size + 3) (w.heap.size + 2) v H' r d w' hv hn u1 s1 (by omega) (by omega) u2).mono ?_
                rintro e w'' ⟨rfl, H'', v1, v2, v3⟩
                exact ⟨rfl, (v3.cell (by omega) (by omega)).trans s1, (v3.cell (by omega) (by omega)).trans s2, (v3.cell (by omega) (by omega)).trans s3, (v3.cell (by omega) (by omega)).trans s4, ⟨H'', v1, v2⟩, s6.trans v3⟩
              obtain ⟨rx, hrxe⟩ : ∃ rx, r x = rx := ⟨_, rfl⟩
              obtain ⟨ry, hrye⟩ : ∃ ry, r y = ry := ⟨_, rfl⟩
              have HCX := Lib.hid (fun w' h => HC.out w' x (by omega) h)
              have HCY := Lib.hid (fun w' h => HC.out w' y (by omega) h)
              rw [hrxe] at HCX hrx
              rw [hrye] at HCY hry
              have HRX := Lib.hid hrxe
              have HRY := Lib.hid hrye
              have z4 : (0 : Int) ≤ (rx : Int) := by omega
              have z5 : (rx : Int) < (n : Nat) := by omega
              clear h5 h6 h7 hrxe hrye
              go_upto_region 12 with fail
              clear c0 c1 c3 c4 r0 r1 q0 q1
              obtain ⟨a1, a2, a3, a4, hT, _⟩ := HS0.out
              have hD : (Y.drew.cell? ⟨w.heap.size + 3, 0, none⟩ = some (.slice (some ⟨w.heap.size + 2, 0, none⟩) n n) ∧ Y.drew.cell? ⟨pf, 0, none⟩ = some (.func (.func 81) #[] #[.pointer (some ⟨w.heap.size + 3, 0, none⟩)]) ∧ Y.drew.cell? ⟨pe, 0, none⟩ = some (.int .i64 (x : Nat)) ∧ Y.drew.cell? ⟨pe, 1, none⟩ = some (.int .i64 (y : Nat)) ∧ Only (w.heap.size + 2) Y Y.drew) := ⟨a1, a2, a3, a4, rfl, rfl, rfl, Nat.le_refl _, fun _ _ _ => rfl⟩
              have hT : ∃ H', UF n H' r d ∧ OwnH Y.drew (w.heap.size + 2) H' := hT
              clear a1 a2 a3 a4 HS0
              refine wp_region_held_drew (S := (fun w' => w'.cell? ⟨w.heap.size + 3, 0, none⟩ = some (.slice (some ⟨w.heap.size + 2, 0, none⟩) n n) ∧ w'.cell? ⟨pf, 0, none⟩ = some (.func (.func 81) #[] #[.pointer (some ⟨w.heap.size + 3, 0, none⟩)]) ∧ w'.cell? ⟨pe, 0, none⟩ = some (.int .i64 (x : Nat)) ∧ w'.cell? ⟨pe, 1, none⟩ = some (.int .i64 (y : Nat)) ∧ Only (w.heap.size + 2) Y w')) (by kernel_rfl) hD (fun hS => ?_)
              refine wpAnyH_take (i := 0) (v := ?_) rfl (by kernel_rfl) (by kernel_rfl) (by kernel_rfl) (fun _ _ _ h => h) (Or.inl ⟨by rfl, ?_⟩) hS ?_
              rotate_left
              · intro wz hSw; (try dsimp only at hSw); obtain ⟨z0, z1, z2, z3, z4⟩ := hSw; go_simp; (try with_reducible rfl)
              try simp only [List.getElem_toArray, List.getElem_cons_zero, List.getElem_cons_succ, Act.put, List.setIfInBounds_toArray, List.set_cons_zero, List.set_cons_succ]
              refine wpAnyH_take (i := 1) (v := ?_) rfl (by kernel_rfl) (by kernel_rfl) (by kernel_rfl) (fun _ _ _ h => h) (Or.inl ⟨by rfl, ?_⟩) hS ?_
              rotate_left
              · intro wz hSw; (try dsimp only at hSw); obtain ⟨z0, z1, z2, z3, z4⟩ := hSw; go_simp; (try with_reducible rfl)
              try simp only [List.getElem_toArray, List.getElem_cons_zero, List.getElem_cons_succ, Act.put, List.setIfInBounds_toArray, List.set_cons_zero, List.set_cons_succ]
              refine wpAnyH_take (i := 2) (v := ?_) rfl (by kernel_rfl) (by kernel_rfl) (by kernel_rfl) (fun _ _ _ h => h) (Or.inl ⟨by rfl, ?_⟩) hS ?_
              rotate_left
              · intro wz hSw; (try dsimp only at hSw); obtain ⟨z0, z1, z2, z3, z4⟩ := hSw; go_simp; (try with_reducible rfl)
              try simp only [List.getElem_toArray, List.getElem_cons_zero, List.getElem_cons_succ, Act.put, List.setIfInBounds_toArray, List.set_cons_zero, List.set_cons_succ]
              refine wpAnyH_take (i := 3) (v := ?_) rfl (by kernel_rfl) (by kernel_rfl) (by kernel_rfl) (fun _ _ _ h => h) (Or.inl ⟨by rfl, ?_⟩) hS ?_
              rotate_left
              · intro wz hSw; (try dsimp only at hSw); obtain ⟨z0, z1, z2, z3, z4⟩ := hSw; go_simp; (try with_reducible rfl)
              try simp only [List.getElem_toArray, List.getElem_cons_zero, List.getElem_cons_succ, Act.put, List.setIfInBounds_toArray, List.set_cons_zero, List.set_cons_succ]
              refine wpAnyH_take (i := 5) (v := ?_) rfl (by kernel_rfl) (by kernel_rfl) (by kernel_rfl) (fun _ _ _ h => h) (Or.inl ⟨by rfl, ?_⟩) hS ?_
              rotate_left
              · intro wz hSw; (try dsimp only at hSw); obtain ⟨z0, z1, z2, z3, z4⟩ := hSw; go_simp; (try with_reducible rfl)
              try simp only [List.getElem_toArray, List.getElem_cons_zero, List.getElem_cons_succ, Act.put, List.setIfInBounds_toArray, List.set_cons_zero, List.set_cons_succ]
              refine wpAnyH_take (i := 6) (v := ?_) rfl (by kernel_rfl) (by kernel_rfl) (by kernel_rfl) (fun _ _ _ h => h) (Or.inl ⟨by rfl, ?_⟩) hS ?_
              rotate_left
              · intro wz hSw; (try dsimp only at hSw); obtain ⟨z0, z1, z2, z3, z4⟩ := hSw; go_simp; (try with_reducible rfl)
              try simp only [List.getElem_toArray, List.getElem_cons_zero, List.getElem_cons_succ, Act.put, List.setIfInBounds_toArray, List.set_cons_zero, List.set_cons_succ]
              refine wpAnyH_take (i := 7) (v := ?_) rfl (by kernel_rfl) (by kernel_rfl) (by kernel_rfl) (fun _ _ _ h => h) (Or.inl ⟨by rfl, ?_⟩) hS ?_
              rotate_left
              · intro wz hSw; (try dsimp only at hSw); obtain ⟨z0, z1, z2, z3, z4⟩ := hSw; go_simp; (try with_reducible rfl)
              try simp only [List.getElem_toArray, List.getElem_cons_zero, List.getElem_cons_succ, Act.put, List.setIfInBounds_toArray, List.set_cons_zero, List.set_cons_succ]
              refine wpAnyH_ready (rs := [4]) (by kernel_rfl) (by simp) (AllReadyH.cons rfl (fun K hK => ?_) AllReadyH.nil)
              go_simp
              go_at_call 81
              refine (HCX.out _ ⟨hS.1, hS.2.1, hS.2.2.1, hS.2.2.2.1, hT, hS.2.2.2.2⟩).mono ?_
              rintro e wn1 ⟨rfl, hq⟩
              go_wp2_with fail
              have hT := hq.2.2.2.2.1
              have hS := (⟨hq.1, hq.2.1, hq.2.2.1, hq.2.2.2.1, hq.2.2.2.2.2⟩ : wn1.cell? ⟨w.heap.size + 3, 0, none⟩ = some (.slice (some ⟨w.heap.size + 2, 0, none⟩) n n) ∧ wn1.cell? ⟨pf, 0, none⟩ = some (.func (.func 81) #[] #[.pointer (some ⟨w.heap.size + 3, 0, none⟩)]) ∧ wn1.cell? ⟨pe, 0, none⟩ = some (.int .i64 (x : Nat)) ∧ wn1.cell? ⟨pe, 1, none⟩ = some (.int .i64 (y : Nat)) ∧ Only (w.heap.size + 2) Y wn1)
              refine hK.out _ _ hS (fun _ => ?_)
              clear hK K
              try simp only [List.getElem_toArray, List.getElem_cons_zero, List.getElem_cons_succ, Act.put, List.setIfInBounds_toArray, List.set_cons_zero, List.set_cons_succ]
              refine wpAnyH_ready (rs := [8]) (by kernel_rfl) (by simp) (AllReadyH.cons rfl (fun K hK => ?_) AllReadyH.nil)
              go_simp
              go_at_call 81
              refine (HCY.out _ ⟨hS.1, hS.2.1, hS.2.2.1, hS.2.2.2.1, hT, hS.2.2.2.2⟩).mono ?_
              rintro e wn2 ⟨rfl, hq⟩
              go_wp2_with fail
              have hT := hq.2.2.2.2.1
              have hS := (⟨hq.1, hq.2.1, hq.2.2.1, hq.2.2.2.1, hq.2.2.2.2.2⟩ : wn2.cell? ⟨w.heap.size + 3, 0, none⟩ = some (.slice (some ⟨w.heap.size + 2, 0, none⟩) n n) ∧ wn2.cell? ⟨pf, 0, none⟩ = some (.func (.func 81) #[] #[.pointer (some ⟨w.heap.size + 3, 0, none⟩)]) ∧ wn2.cell? ⟨pe, 0, none⟩ = some (.int .i64 (x : Nat)) ∧ wn2.cell? ⟨pe, 1, none⟩ = some (.int .i64 (y : Nat)) ∧ Only (w.heap.size + 2) Y wn2)
              refine hK.out _ _ hS (fun _ => ?_)
              clear hK K
              try simp only [List.getElem_toArray, List.getElem_cons_zero, List.getElem_cons_succ, Act.put, List.setIfInBounds_toArray, List.set_cons_zero, List.set_cons_succ]
              refine wpAnyH_take (i := 9) (v := ?_) rfl (by kernel_rfl) (by kernel_rfl) (by kernel_rfl) (fun _ _ _ h => h) (Or.inl ⟨by rfl, ?_⟩) hS ?_
              rotate_left
              · intro wz hSw; (try dsimp only at hSw); obtain ⟨z0, z1, z2, z3, z4⟩ := hSw; go_simp; (try with_reducible rfl)
              try simp only [List.getElem_toArray, List.getElem_cons_zero, List.getElem_cons_succ, Act.put, List.setIfInBounds_toArray, List.set_cons_zero, List.set_cons_succ]
              obtain ⟨H9, g1, g2⟩ := hT
              have hcc := g2.at_ (v := rx) (by rw [g1.len]; omega)
              have hff := g2.free rx
              have G1 := Lib.hid g1
              have G2 := Lib.hid g2
              have HSN := Lib.hid hS
              clear g1 g2
              refine wpAnyH_ready (rs := [10]) (by kernel_rfl) (by simp) (AllReadyH.cons rfl (fun K hK => ?_) AllReadyH.nil)
              go_simp
              have hS := HSN.out
              have hON5 := hS.2.2.2.2.trans (Only.put (w.heap.size + 2) rx wn2 (.int .i64 (ry : Nat)))
              have hszn := hS.2.2.2.2.size
              refine hK.out _ _ ⟨?_, ?_, ?_, ?_, ?_⟩ (fun _ => ?_)
              · exact (World.cell?_setCell_far _ _ _ _ (by show w.heap.size + 2 ≠ w.heap.size + 3; omega)).trans hS.1
              · exact (World.cell?_setCell_far _ _ _ _ (by show w.heap.size + 2 ≠ pf; omega)).trans hS.2.1
              · exact (World.cell?_setCell_far _ _ _ _ (by show w.heap.size + 2 ≠ pe; omega)).trans hS.2.2.1
              · exact (World.cell?_setCell_far _ _ _ _ (by show w.heap.size + 2 ≠ pe; omega)).trans hS.2.2.2.1
              · exact hON5
              clear hK K
              refine wpAnyH_done (by kernel_rfl) ?_ _
              have HON5 := Lib.hid hON5
              clear hON5 hcc hff hS
              go_wp2_with fail
              go_roundw
              case rel =>
                refine ⟨k + 1, by omega, by go_num, ?_, ?_⟩
                · refine Lib.hid ?_
                  obtain ⟨d', hj⟩ := G1.out.join (a := x) (b := y) (by omega) (by omega)
                  refine ⟨_, joinR r x y, d', hj, ?_, fun u v hu hv => ?_⟩
                  · rw [HRX.out, HRY.out]
                    exact G2.out.set rx ry
                  · rw [joinR_iff, H7.out u v hu hv, H7.out u x hu (by omega), H7.out v y hv (by omega), H7.out u y hu (by omega), H7.out v x hv (by omega)]
                    exact (HOF2.out u v).symm
                · exact Lib.hid (HYO.out.trans HON5.out)
              case measure => simp [intOf]; omega
            · have HJ2 := Lib.hid (HJN.out rfl)
              go_wp2_with fail
              go_roundw
              case rel => exact ⟨k + 1, by omega, by go_num, HJ2, HYO⟩
              case measure => simp [intOf]; omega
          · have HJ2 := Lib.hid (HJN.out (by simp))
            go_wp2_with fail
            go_roundw
            case rel => exact ⟨k + 1, by omega, by go_num, HJ2, HYO⟩
            case measure => simp [intOf]; omega
        · obtain rfl : k = m := by omega
          have t2 : decide ((k : Int) < (k : Int)) = false := by simp
          go_wp2_with fail
          go_ret
          refine ⟨pf, by rfl, c0, c1, c4, c3, hpf4, Nat.lt_of_lt_of_le hpfX ho.out.size, hJ.out, ?_⟩
          exact (HXO.out.trans ho.out).below HBW.out (by omega) HBW.out.size
end Go.Proofs.Ytlkddjpjhchjfaa
