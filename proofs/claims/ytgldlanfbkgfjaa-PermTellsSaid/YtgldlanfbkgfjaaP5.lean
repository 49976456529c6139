/- The iterator of cycles keeps its word (layer 3). -/
import Derived.Test.YtgldlanfbkgfjaaP4
import Derived.Deep.AppendLies
import Derived.RangeFuncLeaves
import Derived.RangeFuncCalls
import Derived.TacticsInMore
import Derived.WalkKit
import Derived.OwnWalkIn
import Derived.LoopIn
namespace Go.Proofs.Ytgldlanfbkgfjaa
open Go.RowKit

theorem cycs_split {p : List Nat} {f n : Nat} (h : f < n) (hl : leastB p f = true) : ∃ rest, cycs p n = cycs p f ++ orb p f :: rest := by
  obtain ⟨m, rfl⟩ : ∃ m, n = f + 1 + m := ⟨n - f - 1, by omega⟩
  clear h
  induction m with
  | zero => exact ⟨[], cycs_yes hl⟩
  | succ m ih =>
    obtain ⟨rest, hr⟩ := ih
    rw [show f + 1 + (m + 1) = f + 1 + m + 1 by omega]
    cases hm : leastB p (f + 1 + m) with
    | true => exact ⟨rest ++ [orb p (f + 1 + m)], by rw [cycs_yes hm, hr]; simp⟩
    | false => exact ⟨rest, by rw [cycs_no hm, hr]⟩
theorem hidIn {c : Code} {Q : Exit → Act → World → Prop} {K : Act → World → Prop} (h : ∀ a w, c.wp Try.prog Q a w → K a w) : Hid (∀ a w, c.wpIn Fence.wide 0 Try.prog Q a w → K a w) := fun a w g => h a w (wpIn_wide.1 g)
attribute [local go_sem] Oper.semAt_some

set_option maxRecDepth 100000 in
set_option maxHeartbeats 8000000 in
theorem cycles1_any (A0 : Option Addr) (Bp n c : Nat) (p : List Nat) (W : World) (hp : Perm n p) (hn : n ≤ 200) : Cycling A0 Bp n c p W := by
  intro l J hRd hJ hY h0
  refine callsIn_wide.2 ?_
  have HP := Lib.hid hp
  have HRD := Lib.hid hRd
  have HJ := Lib.hid hJ
  have HY := Lib.hid hY
  have hb0 : Below W.heap.size W (W.alloc (.cells Try.zeroCells58 58)) := (Below.refl _ _).alloc (Nat.le_refl _) _
  have HJ0 : Hid (J (cycs p 0) (W.alloc (.cells Try.zeroCells58 58))) := hJ _ _ _ h0 (Bar.of_below hb0)
  have HM0 : Hid ((W.alloc (.cells Try.zeroCells58 58)).heap[W.heap.size]? = some (.cells (bs (mk p 0 0)).toArray 58 (0, 0))) := by
    show _ = _
    rw [mk_zero, ← zero200]
    exact heap_alloc_new W _
  obtain ⟨q1, q2⟩ := hRd _ _ HJ0.out
  clear hp hRd hJ hY h0 hb0 q1
  go_enter Try.func45, Try.ntmps45
  go_wp2_with fail
  go_loopw [9] (fun s wr => ∃ f : Nat, f ≤ n ∧ s = .int .i64 f ∧ Hid (wr.heap[W.heap.size]? = some (.cells (bs (mk p f 0)).toArray 58 (0, 0))) ∧ Hid (J (cycs p f) wr)) (fun s _ => n - (intOf s).toNat)
  case atStart => exact ⟨0, Nat.zero_le _, rfl, HM0, HJ0⟩
  case round =>
    obtain ⟨f, hf, rfl, hM, hJc⟩ := hrel
    by_cases h1 : f < n
    · have t1 : decide ((f : Int) < (n : Int)) = true := by simp; omega
      have hbn : (W.heap.size : Nat) < wr.heap.size := lt_of_block hM.out
      cases hl : leastB p f with
      | false =>
        have c0 : wr.cell? ⟨W.heap.size, f, none⟩ = some (.bool true) := by
          rw [cell_of hM.out]
          simp [bs, met_skip HP.out h1 hn hl]
        have hf0 : (0 : Int) ≤ (f : Int) := by omega
        have hf1 : (f : Int) < 200 := by omega
        have HM1 : Hid (wr.heap[W.heap.size]? = some (.cells (bs (mk p (f + 1) 0)).toArray 58 (0, 0))) := by
          show _ = _
          rw [← mk_skip HP.out h1 hl]
          exact hM.out
        have HJ1 : Hid (J (cycs p (f + 1)) wr) := by
          show J _ _
          rw [cycs_no hl]
          exact hJc.out
        clear hM hJc hl
        obtain ⟨wo, rfl⟩ : ∃ wo, wo = wr := ⟨_, rfl⟩
        go_wp2_with fail
        go_loopw [5, 6] (fun s5 s6 wr => s5 = .slice none 0 0 ∧ s6 = .int .i64 (f : Nat) ∧ wr = wo) (fun _ _ _ => 0)
        case atStart => exact ⟨rfl, rfl, rfl⟩
        case round =>
          obtain ⟨rfl, rfl, rfl⟩ := hrel
          go_wp2_with fail
          exact ⟨⟨f + 1, by omega, by go_num, HM1, HJ1⟩, by simp [intOf]; omega⟩
      | true =>
        obtain ⟨wo, rfl⟩ : ∃ wo, wo = wr := ⟨_, rfl⟩
        have HL := Lib.hid hl
        have HJ1 := Lib.hid (cycs_yes hl)
        have HBN := Lib.hid hbn
        have hpn := (per_spec HP.out h1).1
        have hpp := per_pos p f
        have HB0 := Lib.hid (Bar.refl W.heap.size 1 wo)
        obtain ⟨i0, hi0, hz0, hz1, hz2⟩ := info_partsI i64info
        clear hl hbn
        go_wp2_with fail
        rename_i K10 h10
        have HK10 := hidIn h10
        clear h10
        go_loopw [5, 6] (fun s5 s6 wr => ∃ (k cap : Nat) (Bo : Option Addr), k ≤ per p f ∧ s5 = .slice Bo k cap ∧ s6 = .int .i64 ((it p f k : Nat) : Int) ∧ Hid (wr.heap[W.heap.size]? = some (.cells (bs (mk p f k)).toArray 58 (0, 0))) ∧
          Hid (wr.ownsRow wo.heap.size 3 1 (.slice Bo k cap) k (zs (iz ((orb p f).take k)))) ∧ Hid (Bar W.heap.size 1 wo wr)) (fun s5 _ _ => per p f - (match s5 with | .slice _ k _ => k | _ => 0))
        case atStart => exact ⟨0, 0, none, Nat.zero_le _, rfl, rfl, hM, ⟨rfl, .inl ⟨rfl, rfl⟩⟩, HB0⟩
        case round =>
          obtain ⟨k, cap, Bo, hk, rfl, rfl, hM1, hO, hB⟩ := hrel
          by_cases h2 : k < per p f
          · have hxn := it_lt HP.out h1 k
            have c0 : wr.cell? ⟨W.heap.size, it p f k, none⟩ = some (.bool false) := by
              rw [cell_of hM1.out]
              simp [bs, met_no HP.out h1 hn HL.out h2]
            have c1 : wr.frozen? ⟨W.heap.size, it p f k, none⟩ = false := free_of hM1.out _
            obtain ⟨W3, hW3⟩ : ∃ W3, W3 = wr.setCell ⟨W.heap.size, it p f k, none⟩ (.bool true) := ⟨_, rfl⟩
            have hM3 : W3.heap[W.heap.size]? = some (.cells (bs (mk p f (k + 1))).toArray 58 (0, 0)) := by
              rw [hW3, Go.Joins.block_setCell hM1.out, ← mk_step]
              simp [bs, List.map_set]
            have hB3 : Bar W.heap.size 1 wo W3 := by rw [hW3]; exact hB.out.setCell (.inr ⟨Nat.le_refl _, by simp⟩) _
            have hO3 : W3.ownsRow wo.heap.size 3 1 (.slice Bo k cap) k (zs (iz ((orb p f).take k))) := by
              rw [hW3]
              exact ownsRow_setCell_below hO.out HBN.out _
            have HM3 := Lib.hid ((heap_alloc_old W3 (.cells #[.int .i64 ((it p f k : Nat) : Int)] 3) (lt_of_block hM3)).trans hM3)
            have HB3 := Lib.hid (hB3.alloc (.cells #[.int .i64 ((it p f k : Nat) : Int)] 3))
            have HO3 := Lib.hid (hO3.alloc (.cells #[.int .i64 ((it p f k : Nat) : Int)] 3))
            have HC3 : Hid ((W3.alloc (.cells #[.int .i64 ((it p f k : Nat) : Int)] 3)).cell? ⟨W3.heap.size, 0, none⟩ = some (.int .i64 ((it p f k : Nat) : Int))) := by show _ = _; exact World.cell?_alloc_at _ _ _ _ rfl
            have HW3 := Lib.hid hW3
            have hws2 : wr.heap.size = W3.heap.size := by rw [hW3]; simp
            have hws : wo.heap.size ≤ W3.heap.size := hB3.size
            have hK : Hid (it p f (k + 1) = gn p (it p f k)) := by show _ = _; rfl
            have hT : Hid ((orb p f).take (k + 1) = (orb p f).take k ++ [it p f k]) := by
              show _ = _
              rw [List.take_add_one, orb_at h2]
              rfl
            obtain ⟨y, hy⟩ : ∃ y, y = it p f (k + 1) := ⟨_, rfl⟩
            have HN7 : Hid (∀ (w7 : World) (g' cap' : Nat), (W3.alloc (.cells #[.int .i64 ((it p f k : Nat) : Int)] 3)).grownBy w7 (Value.slice Bo k cap).ownBlock → w7.ownsRow wo.heap.size 3 1 (.slice (some ⟨g', 0, none⟩) (k + 1) cap') (k + 1) (zs (iz ((orb p f).take k)) ++ [.int .i64 ((it p f k : Nat) : Int)]) →
                Hid (Bar W.heap.size 1 wo w7) ∧ Hid (w7.heap[W.heap.size]? = some (.cells (bs (mk p f (k + 1))).toArray 58 (0, 0))) ∧ Hid (w7.ownsRow wo.heap.size 3 1 (.slice (some ⟨g', 0, none⟩) (k + 1) cap') (k + 1) (zs (iz ((orb p f).take (k + 1))))) ∧
                w7.cell? ⟨Bp, 0, none⟩ = some (.slice A0 n c) ∧ ∃ ad : Addr, A0 = some ad ∧ (ad.block < w7.heap.size) ∧ w7.cell? (ad.add (it p f k)) = some (.int .i64 ((gn p (it p f k) : Nat) : Int))) := fun w7 g' cap' hgr hrow => by
              have h7 := HB3.out.grown hgr (fun r e => .inl (HO3.out.lt r e).1)
              have h8 : w7.heap[W.heap.size]? = some (.cells (bs (mk p f (k + 1))).toArray 58 (0, 0)) :=
                (hgr.block _ (lt_of_block HM3.out) (fun e => by have := (HO3.out.lt _ e.symm).1; have := HBN.out; omega)).trans HM3.out
              obtain ⟨r1, r2⟩ := HRD.out _ _ (HJ.out _ _ _ hJc.out h7)
              obtain ⟨ad, e1, e2, e3⟩ := r1 (it p f k) _ (iz_at (by rw [HP.out.len]; exact hxn))
              refine ⟨h7, h8, ?_, r2, ad, e1, e2, e3⟩
              show World.ownsRow _ _ _ _ _ _ _
              rw [hT.out, show zs (iz ((orb p f).take k ++ [it p f k])) = zs (iz ((orb p f).take k)) ++ [.int .i64 ((it p f k : Nat) : Int)] by simp [zs, zv, iz]]
              exact hrow
            generalize it p f k = x at *
            have hx0 : (0 : Int) ≤ (x : Int) := by omega
            have hx1 : (x : Int) < 200 := by omega
            have hx2 : (x : Int) < (n : Nat) := by omega
            clear hM3 hB3 hO3 hW3 hM1 hO
            go_wp2_with (at_builtin; rw [← HW3.out]; refine wpList_append_lies _ rfl (.tmp 23) (.tmp 25) 22 rfl wo.heap.size 3 i0 (.int .i64 0) 1 8 Try.underlying22 hi0 hz0 hz1 hz2 rfl (by decide) (.slice Bo k cap) k (zs (iz ((orb p f).take k))) rfl HO3.out ⟨W3.heap.size, 0, none⟩ 1 1 [.int .i64 ((x : Nat) : Int)] (by simp [Act.eval] <;> exact hws2) rfl (by intro j u hj; have hj0 : j = 0 := (by have := (List.getElem?_eq_some_iff.1 hj).1; simp at this; omega); subst hj0; rw [← hj, add_off]; exact HC3.out) (by simp [Value.oneCell']) (by omega) (by simp [maxLen]; omega) (by omega) (by simp; omega) (W3.heap.size + 1) (by simp) ?_; intro g' cap' w7 hrow7 hgr7 hor7 hlt7; obtain ⟨HB7, HM7, HO7, hbx, ad, rfl, hal, hpx⟩ := HN7.out w7 g' cap' hgr7 hrow7)
            go_roundw
            case rel => exact ⟨k + 1, cap', some ⟨g', 0, none⟩, by omega, rfl, by rw [hK.out], HM7, HO7, HB7⟩
            case measure => simp; omega
          · obtain rfl : k = per p f := by omega
            have c0 : wr.cell? ⟨W.heap.size, it p f (per p f), none⟩ = some (.bool true) := by
              rw [cell_of hM1.out]
              simp [bs, met_yes HP.out h1 hn]
            have hx := it_lt HP.out h1 (per p f)
            obtain ⟨g, cg, ev⟩ := Joins.ownsRow_form hO.out (by omega)
            have hev : Bo = some ⟨g, 0, none⟩ ∧ cap = cg := by injection ev with a b d; exact ⟨a, d⟩
            obtain ⟨rfl, rfl⟩ := hev
            generalize it p f (per p f) = x at *
            have hx0 : (0 : Int) ≤ (x : Int) := by omega
            have hx1 : (x : Int) < 200 := by omega
            go_wp2_with fail
            refine HK10.out _ _ ?_
            have HO2 : Hid (RowI wr wo.heap.size g cap (orb p f)) := by
              have h := hO.out
              rw [List.take_of_length_le (by rw [orb_length]; exact Nat.le_refl _)] at h
              show World.ownsRow _ _ _ _ _ _ _
              rw [orb_length]
              exact h
            obtain ⟨rest, hrest⟩ := cycs_split h1 HL.out
            have hgl := hO.out.lt g rfl
            obtain ⟨fn, tmps, assign, body, hy, hR⟩ := HY.out (cycs p f) (orb p f) rest wo wr g cap hrest hJc.out hB.out (by have := HBN.out; have := hB.out.size; omega) HO2.out (by have := HBN.out; have := hgl.1; omega)
            rw [orb_length] at hy
            have HM1 := hM1
            clear hO hM1 HO2 hrest
            gi_wp2
            refine ⟨rfl, hR.mono ?_⟩
            rintro e W3 ⟨rfl, hJ3, hs3, hm3⟩
            have HM3 : Hid (W3.heap[W.heap.size]? = some (.cells (bs (mk p (f + 1) 0)).toArray 58 (0, 0))) := by
              show _ = _
              rw [hm3, ← mk_next]
              exact HM1.out
            have HJ3 : Hid (J (cycs p (f + 1)) W3) := by
              show J _ _
              rw [HJ1.out]
              exact hJ3
            clear hm3 hJ3 hy hR HM1
            gi_wp2
            go_wp2_with fail
            go_roundw
            case rel => exact ⟨f + 1, by omega, by go_num, HM3, HJ3⟩
            case measure => simp [intOf]; omega
    · obtain rfl : f = n := by omega
      have t1 : decide ((f : Int) < (f : Int)) = false := by simp
      go_wp2_with fail
      go_end0
      exact ⟨⟨_, rfl⟩, hJc.out⟩
end Go.Proofs.Ytgldlanfbkgfjaa
