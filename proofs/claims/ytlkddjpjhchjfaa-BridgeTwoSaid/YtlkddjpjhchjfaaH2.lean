/- What is left of edges beside a web (layer 8). -/
import Derived.Test.YtlkddjpjhchjfaaW29
import Derived.Test.YtlkddjpjhchjfaaU0
namespace Go.Proofs.Ytlkddjpjhchjfaa
set_option maxRecDepth 100000
open Go.RowKit

attribute [local go_sem] eqPair
theorem pcells_snoc (S : List (Int × Int)) (e : Int × Int) : pcells (S ++ [e]) = pcells S ++ [.int .i64 e.1, .int .i64 e.2] := by simp [pcells, zv]
theorem RdP.drop {w : World} {ad : Addr} {x : Int × Int} {W : List (Int × Int)} (h : RdP w (some ad) (x :: W)) : RdP w (some (ad.add 2)) W := fun q e hq => by
  obtain ⟨a, ea, hl, h1, h2⟩ := h (q + 1) e hq
  injection ea with ea
  subst ea
  have hq2 : (ad.add 2).add (q * 2) = ad.add ((q + 1) * 2) := by
    by_cases h0 : q = 0
    · subst h0; rfl
    · have h1 : q * 2 ≠ 0 := by omega
      have h2 : (q + 1) * 2 ≠ 0 := by omega
      have h : ad.off + 2 + q * 2 = ad.off + (q + 1) * 2 := by omega
      unfold Addr.add
      rw [if_neg h1, if_neg h2, if_neg (by decide)]
      simp only [h]
  refine ⟨_, rfl, by rw [block_add]; exact hl, ?_, ?_⟩
  · rw [hq2]; exact h1
  · rw [hq2]; exact h2
set_option maxHeartbeats 8000000 in
theorem left_any (A B : Option Addr) (c d n m : Nat) (E W : List (Int × Int)) (w : World) (hE : RdP w A E) (hW : RdP w B W) (hn : n = E.length) (hm : m = W.length) (hs : n ≤ 1000000) (ht : m ≤ d) (hd : d ≤ 9223372036854775807) :
    Calls Try.prog 66 #[.slice A n c, .slice B m d] w fun e w' => ∃ (V : Value), e = .returned (.tuple #[V, .bool (decide ((leftP W E n).2 = m))]) ∧ w'.ownsRow w.heap.size 51 2 V (leftP W E n).1.length (pcells (leftP W E n).1) ∧ Below w.heap.size w w' := by
  obtain ⟨i0, hi0, hz0, hz1, hz2⟩ := info_partsI pairinfo
  have hgu : Try.prog.eqGuardType Try.prog.depth 51 = false := by kernel_rfl
  have HA := Lib.hid hE
  have HQ := Lib.hid hW
  have HN := Lib.hid hn
  have HM := Lib.hid hm
  have HB0 := Lib.hid (Below.refl w.heap.size w)
  have HO0 : Hid (w.ownsRow w.heap.size 51 2 (.slice none 0 0) 0 (pcells (leftP W E 0).1)) := World.ownsRow_nil _ _ _ _
  have HJ0 : Hid (0 = (leftP W E 0).2 ∧ RdP w B (W.drop 0)) := ⟨rfl, hW⟩
  clear hE hW hn hm
  go_enter Try.func66, Try.ntmps66
  go_wp2_with fail
  go_loopw [1, 6, 11] (fun s1 s6 s11 wr => ∃ (k j l : Nat) (Bw : Option Addr) (V : Value), k ≤ n ∧ j ≤ m ∧ l ≤ k ∧ s1 = .slice Bw (m - j : Nat) (d - j : Nat) ∧ s6 = V ∧ s11 = .int .i64 k ∧ Hid (j = (leftP W E k).2 ∧ RdP w Bw (W.drop j)) ∧ Hid (wr.ownsRow w.heap.size 51 2 V l (pcells (leftP W E k).1)) ∧ Hid (Below w.heap.size w wr)) (fun _ _ s11 _ => n - (intOf s11).toNat)
  case atStart => exact ⟨0, 0, 0, B, _, Nat.zero_le _, Nat.zero_le _, Nat.zero_le _, rfl, rfl, rfl, HJ0, HO0, HB0⟩
  case round =>
    obtain ⟨k, j, l, Bw, V, hk, hj, hl, rfl, rfl, rfl, hJ, hO, hb⟩ := hrel
    by_cases h1 : k < n
    · have t1 : decide ((k : Int) < (n : Int)) = true := by simp; omega
      have hI0 : (0 : Int) ≤ (k : Int) := by omega
      have hI1 : (k : Int) < (n : Nat) := by omega
      obtain ⟨e, he⟩ : ∃ e, E[k]? = some e := ⟨_, List.getElem?_eq_getElem (by rw [← HN.out]; exact h1)⟩
      have HE := Lib.hid he
      obtain ⟨ad, rfl, hal, p0, p1⟩ := (HA.out.below hb.out) k e he
      obtain ⟨x, y⟩ := e
      simp only [] at p0 p1
      have hbX : Below wr.heap.size wr (wr.alloc (.cells #[.int .i64 x, .int .i64 y] 51)) := (Below.refl _ _).alloc (Nat.le_refl _) _
      have hEB : (wr.alloc (.cells #[.int .i64 x, .int .i64 y] 51)).heap[wr.heap.size]? = some (.cells #[.int .i64 x, .int .i64 y] 51 (0, 0)) := heap_alloc_new wr _
      have HOX := Lib.hid (row_below hO.out hbX)
      have HBX := Lib.hid (next_below hb.out hbX)
      have HSX := Lib.hid hbX.size
      clear hbX he
      go_upto_region 5 with fail
      generalize wr.alloc (.cells #[.int .i64 x, .int .i64 y] 51) = X at *
      clear p0 p1
      obtain ⟨r0, r1, _, _⟩ := cells_two hEB
      clear hEB
      have hsx := HSX.out
      by_cases h2 : j < m
      · have t2 : decide ((0 : Int) < ((m - j : Nat) : Int)) = true := by simp; omega
        have t3 : decide (0 < m - j) = true := by simp; omega
        obtain ⟨f, hf⟩ : ∃ f, W[j]? = some f := ⟨_, List.getElem?_eq_getElem (by rw [← HM.out]; exact h2)⟩
        have HF := Lib.hid hf
        have hdrop : W.drop j = f :: W.drop (j + 1) := by
          have hjl := (List.getElem?_eq_some_iff.1 hf).1
          rw [List.drop_eq_getElem_cons hjl]
          congr 1
          exact (List.getElem?_eq_some_iff.1 hf).2
        have hrd := hJ.out.2
        rw [hdrop] at hrd
        obtain ⟨bd, rfl, hbl, q0, q1⟩ := (hrd.below HBX.out) 0 f rfl
        have HRD := Lib.hid (RdP.drop hrd)
        have hz : bd.add (0 * 2) = bd := by simp [Addr.add]
        rw [hz] at q0 q1
        obtain ⟨fx, fy⟩ := f
        simp only [] at q0 q1
        have hJ1 : (0 : Int) < ((m - j : Nat) : Int) := by omega
        clear hf hdrop hrd hz
        by_cases hxy : (fx, fy) = (x, y)
        · injection hxy with e0 e1
          subst e0; subst e1
          have d1 : (fx == fx) = true := by simp
          have d2 : (fy == fy) = true := by simp
          have HLN : Hid (leftP W E (k + 1) = ((leftP W E k).1, (leftP W E k).2 + 1)) := leftP_yes HE.out (by rw [← hJ.out.1]; exact HF.out)
          have HOQ : Hid (∀ q, (X.drewN q).ownsRow w.heap.size 51 2 u6 l (pcells (leftP W E (k + 1)).1)) := fun q => by
            rw [HLN.out]
            exact row_below HOX.out (below_drewN (Below.refl _ _) q)
          have HBQ := Lib.hid (fun q : Nat => below_drewN HBX.out q)
          have HJQ : Hid (j + 1 = (leftP W E (k + 1)).2 ∧ RdP w (if d - j = 1 then some bd else some (bd.add 2)) (W.drop (j + 1))) := by
            refine ⟨by rw [HLN.out, ← hJ.out.1], ?_⟩
            split
            · have hm := HM.out
              rw [List.drop_eq_nil_of_le (by omega)]
              intro q e hq
              simp at hq
            · exact HRD.out
          go_quiet (fail)
          go_wp2_with fail
          go_roundw
          case rel =>
            refine ⟨k + 1, j + 1, l, _, _, by omega, by omega, by omega, ?_, rfl, by go_num, HJQ, HOQ.out _, HBQ.out _⟩
            rw [show m - j - 1 = m - (j + 1) by omega, show d - j - 1 = d - (j + 1) by omega]
            rfl
          case measure => simp [intOf]; omega
        · by_cases hx : fx = x
          · have d1 : (fx == x) = true := by simpa using hx
            have d2 : (fy == y) = false := by rw [beq_eq_false_iff_ne]; exact fun h => hxy (by rw [hx, h])
            have HLN : Hid (leftP W E (k + 1) = ((leftP W E k).1 ++ [(x, y)], (leftP W E k).2)) := leftP_no HE.out (by rw [← hJ.out.1, HF.out]; exact fun e => hxy (Option.some.inj e))
            have HJ2 : Hid (j = (leftP W E (k + 1)).2 ∧ RdP w (some bd) (W.drop j)) := ⟨by rw [HLN.out]; exact hJ.out.1, hJ.out.2⟩
            go_quiet (fail)
            rename_i nq
            have hxq : Below X.heap.size X (X.drewN nq) := below_drewN (Below.refl _ _) nq
            have HOQ := Lib.hid (row_below HOX.out hxq)
            have HBQ := Lib.hid (next_below HBX.out hxq)
            have l0 : (X.drewN nq).cell? ⟨wr.heap.size, 0, none⟩ = some (.int .i64 x) := r0
            have l1 : (X.drewN nq).cell? ⟨wr.heap.size, 1, none⟩ = some (.int .i64 y) := r1
            have HOA := Lib.hid (HOQ.out.alloc (.cells #[.int .i64 x, .int .i64 y] 51))
            have hszq := HBQ.out.size
            clear hxq
            generalize X.drewN nq = Y at *
            have HLT : Hid (∀ (i : Nat) (u : Value), [Value.int .i64 x, .int .i64 y][i]? = some u → (Y.alloc (.cells #[.int .i64 x, .int .i64 y] 51)).cell? ((⟨Y.heap.size, 0, none⟩ : Addr).add i) = some u) := fun i u hi => by
              rw [← hi, add_off, World.cell?_alloc_at _ _ _ _ rfl]
              simp
            go_wp2_with (at_builtin; refine wpList_append_lies _ rfl (.tmp 27) (.tmp 29) 22 rfl w.heap.size 51 i0 (.agg #[.int .i64 0, .int .i64 0]) 2 16 Try.underlying22 hi0 hz0 hz1 hz2 rfl (by decide) _ l (pcells (leftP W E k).1) rfl HOA.out ⟨Y.heap.size, 0, none⟩ 1 1 [.int .i64 x, .int .i64 y] (by simp [Act.eval]) rfl HLT.out (by simp [Value.oneCell']) (by omega) (by simp [maxLen]; omega) (by omega) (by simp; omega) (Y.heap.size + 1) (by simp) ?_; intro g7 c7 w7 hr7 hg7 _ _)
            have HBY := Lib.hid ((HBQ.out.alloc HBQ.out.size _).grown hg7 (by have := HBQ.out.size; simp; omega) (fun m e => (HOA.out.lt m e).1))
            have HO7 : Hid (w7.ownsRow w.heap.size 51 2 (.slice (some ⟨g7, 0, none⟩) (l + 1) c7) (l + 1) (pcells (leftP W E (k + 1)).1)) := by
              show World.ownsRow _ _ _ _ _ _ _
              rw [HLN.out, pcells_snoc]
              exact hr7
            go_roundw
            case rel => exact ⟨k + 1, j, l + 1, (some bd), _, by omega, hj, by omega, rfl, rfl, by go_num, HJ2, HO7, HBY⟩
            case measure => simp [intOf]; omega
          · have d1 : (fx == x) = false := by simpa using hx
            have HLN : Hid (leftP W E (k + 1) = ((leftP W E k).1 ++ [(x, y)], (leftP W E k).2)) := leftP_no HE.out (by rw [← hJ.out.1, HF.out]; exact fun e => hxy (Option.some.inj e))
            have HJ2 : Hid (j = (leftP W E (k + 1)).2 ∧ RdP w (some bd) (W.drop j)) := ⟨by rw [HLN.out]; exact hJ.out.1, hJ.out.2⟩
            go_quiet (fail)
            rename_i nq
            have hxq : Below X.heap.size X (X.drewN nq) := below_drewN (Below.refl _ _) nq
            have HOQ := Lib.hid (row_below HOX.out hxq)
            have HBQ := Lib.hid (next_below HBX.out hxq)
            have l0 : (X.drewN nq).cell? ⟨wr.heap.size, 0, none⟩ = some (.int .i64 x) := r0
            have l1 : (X.drewN nq).cell? ⟨wr.heap.size, 1, none⟩ = some (.int .i64 y) := r1
            have HOA := Lib.hid (HOQ.out.alloc (.cells #[.int .i64 x, .int .i64 y] 51))
            have hszq := HBQ.out.size
            clear hxq
            generalize X.drewN nq = Y at *
            have HLT : Hid (∀ (i : Nat) (u : Value), [Value.int .i64 x, .int .i64 y][i]? = some u → (Y.alloc (.cells #[.int .i64 x, .int .i64 y] 51)).cell? ((⟨Y.heap.size, 0, none⟩ : Addr).add i) = some u) := fun i u hi => by
              rw [← hi, add_off, World.cell?_alloc_at _ _ _ _ rfl]
              simp
            go_wp2_with (at_builtin; refine wpList_append_lies _ rfl (.tmp 27) (.tmp 29) 22 rfl w.heap.size 51 i0 (.agg #[.int .i64 0, .int .i64 0]) 2 16 Try.underlying22 hi0 hz0 hz1 hz2 rfl (by decide) _ l (pcells (leftP W E k).1) rfl HOA.out ⟨Y.heap.size, 0, none⟩ 1 1 [.int .i64 x, .int .i64 y] (by simp [Act.eval]) rfl HLT.out (by simp [Value.oneCell']) (by omega) (by simp [maxLen]; omega) (by omega) (by simp; omega) (Y.heap.size + 1) (by simp) ?_; intro g7 c7 w7 hr7 hg7 _ _)
            have HBY := Lib.hid ((HBQ.out.alloc HBQ.out.size _).grown hg7 (by have := HBQ.out.size; simp; omega) (fun m e => (HOA.out.lt m e).1))
            have HO7 : Hid (w7.ownsRow w.heap.size 51 2 (.slice (some ⟨g7, 0, none⟩) (l + 1) c7) (l + 1) (pcells (leftP W E (k + 1)).1)) := by
              show World.ownsRow _ _ _ _ _ _ _
              rw [HLN.out, pcells_snoc]
              exact hr7
            go_roundw
            case rel => exact ⟨k + 1, j, l + 1, (some bd), _, by omega, hj, by omega, rfl, rfl, by go_num, HJ2, HO7, HBY⟩
            case measure => simp [intOf]; omega
      · obtain rfl : j = m := by omega
        have t2 : decide ((0 : Int) < ((j - j : Nat) : Int)) = false := by simp
        have t3 : decide (0 < j - j) = false := by simp
        have HLN : Hid (leftP W E (k + 1) = ((leftP W E k).1 ++ [(x, y)], (leftP W E k).2)) := leftP_no HE.out (by rw [← hJ.out.1, List.getElem?_eq_none (by rw [HM.out]; exact Nat.le_refl _)]; exact fun e => by cases e)
        have HJ2 : Hid (j = (leftP W E (k + 1)).2 ∧ RdP w Bw (W.drop j)) := ⟨by rw [HLN.out]; exact hJ.out.1, hJ.out.2⟩
        go_quiet (fail)
        rename_i nq
        have hxq : Below X.heap.size X (X.drewN nq) := below_drewN (Below.refl _ _) nq
        have HOQ := Lib.hid (row_below HOX.out hxq)
        have HBQ := Lib.hid (next_below HBX.out hxq)
        have l0 : (X.drewN nq).cell? ⟨wr.heap.size, 0, none⟩ = some (.int .i64 x) := r0
        have l1 : (X.drewN nq).cell? ⟨wr.heap.size, 1, none⟩ = some (.int .i64 y) := r1
        have HOA := Lib.hid (HOQ.out.alloc (.cells #[.int .i64 x, .int .i64 y] 51))
        have hszq := HBQ.out.size
        clear hxq
        generalize X.drewN nq = Y at *
        have HLT : Hid (∀ (i : Nat) (u : Value), [Value.int .i64 x, .int .i64 y][i]? = some u → (Y.alloc (.cells #[.int .i64 x, .int .i64 y] 51)).cell? ((⟨Y.heap.size, 0, none⟩ : Addr).add i) = some u) := fun i u hi => by
          rw [← hi, add_off, World.cell?_alloc_at _ _ _ _ rfl]
          simp
        go_wp2_with (at_builtin; refine wpList_append_lies _ rfl (.tmp 27) (.tmp 29) 22 rfl w.heap.size 51 i0 (.agg #[.int .i64 0, .int .i64 0]) 2 16 Try.underlying22 hi0 hz0 hz1 hz2 rfl (by decide) _ l (pcells (leftP W E k).1) rfl HOA.out ⟨Y.heap.size, 0, none⟩ 1 1 [.int .i64 x, .int .i64 y] (by simp [Act.eval]) rfl HLT.out (by simp [Value.oneCell']) (by omega) (by simp [maxLen]; omega) (by omega) (by simp; omega) (Y.heap.size + 1) (by simp) ?_; intro g7 c7 w7 hr7 hg7 _ _)
        have HBY := Lib.hid ((HBQ.out.alloc HBQ.out.size _).grown hg7 (by have := HBQ.out.size; simp; omega) (fun m e => (HOA.out.lt m e).1))
        have HO7 : Hid (w7.ownsRow w.heap.size 51 2 (.slice (some ⟨g7, 0, none⟩) (l + 1) c7) (l + 1) (pcells (leftP W E (k + 1)).1)) := by
          show World.ownsRow _ _ _ _ _ _ _
          rw [HLN.out, pcells_snoc]
          exact hr7
        go_roundw
        case rel => exact ⟨k + 1, j, l + 1, Bw, _, by omega, hj, by omega, (by rw [Nat.sub_self]), rfl, by go_num, HJ2, HO7, HBY⟩
        case measure => simp [intOf]; omega
    · obtain rfl : k = n := by omega
      have t1 : decide ((k : Int) < (k : Int)) = false := by simp
      have hlen := hO.out.1
      rw [pcells_length] at hlen
      have HL : Hid (l = (leftP W E k).1.length) := by show _ = _; omega
      have HJJ : Hid (decide ((leftP W E k).2 = m) = (((m - j : Nat) : Int) == 0)) := by
        show _ = _
        rw [← hJ.out.1]
        by_cases e : j = m
        · subst e; simp
        · have : m - j ≠ 0 := by omega
          simp [e]
          omega
      clear hlen
      go_wp2_with fail
      go_ret2
      exact ⟨u6, (by rw [HJJ.out]; rfl), by rw [← HL.out]; exact hO.out, hb.out⟩
end Go.Proofs.Ytlkddjpjhchjfaa
