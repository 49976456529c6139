/- Cycles of both sides, in one form. -/
import Derived.Test.YtgldlanfbkgfjaaM2
import Derived.Test.YtgldlanfbkgfjaaP9
namespace Go.Proofs.Ytgldlanfbkgfjaa
open Go.RowKit

def slL : Value → Nat
  | .slice _ n _ => n
  | _ => 0
/-- Nothing on the way is less, as far as it is gone. -/
def Lst (p : List Nat) (i k : Nat) (lb : Bool) : Prop := lb = true ↔ ∀ j, j < k → i ≤ it p i j
theorem Lst.one (p : List Nat) (i : Nat) : Lst p i 1 true := by
  refine ⟨fun _ j hj => ?_, fun _ => rfl⟩
  obtain rfl : j = 0 := by omega
  exact Nat.le_refl _
theorem Lst.no {p : List Nat} {i k : Nat} (h : Lst p i k false) : Lst p i (k + 1) false := ⟨fun e => by simp at e, fun e => (h.2 fun j hj => e j (by omega))⟩
theorem Lst.step {p : List Nat} {i k y : Nat} {bt : Bool} (h : Lst p i k true) (hy : y = it p i k) (hne : y ≠ i) (hb : decide (i < y) = bt) : Lst p i (k + 1) bt := by
  subst hy
  constructor
  · intro e j hj
    rw [e, decide_eq_true_iff] at hb
    by_cases h1 : j = k
    · subst h1; omega
    · exact h.1 rfl j (by omega)
  · intro e
    rw [← hb, decide_eq_true_iff]
    have := e k (by omega)
    omega
theorem Lst.all {p : List Nat} {i : Nat} {lb : Bool} (h : Lst p i (per p i) lb) : leastB p i = lb := by
  have key : leastB p i = true ↔ lb = true := by
    unfold leastB
    rw [decide_eq_true_iff]
    refine Iff.trans ?_ (Iff.symm h)
    constructor
    · intro e j hj
      exact e _ (List.mem_map.2 ⟨j, List.mem_range.2 hj, rfl⟩)
    · intro e x hx
      obtain ⟨j, hj, rfl⟩ := List.mem_map.1 hx
      exact e j (List.mem_range.1 hj)
  cases lb
  · cases hh : leastB p i with
    | false => rfl
    | true => exact absurd (key.1 hh) (by simp)
  · exact key.2 rfl
set_option maxRecDepth 100000 in
set_option maxHeartbeats 8000000 in
theorem refCyc_yes (A : Option Addr) (c n : Nat) (p : List Nat) (w : World) (hA : RdZ w A (iz p)) (hp : Perm n p) (hn : n ≤ 200) :
    Calls Try.prog 24 #[.slice A n c] w fun e w' => ∃ (K : Option Addr) (ck : Nat), e = .returned (.tuple #[.slice K ((cycs p n).map iz).length ck, .int .i64 0]) ∧ RdR w' K ((cycs p n).map iz) ∧ Below w.heap.size w w' := by
  obtain ⟨i0, hi0, hz0, hz1, hz2⟩ := info_partsI i64info
  obtain ⟨r0, hr0, rz0, rz1, rz2⟩ := info_partsI rowinfo
  have HA := Lib.hid hA
  have HP := Lib.hid hp
  have HP1 := Lib.hid (perm_right hp hn)
  clear hA hp
  go_enter Try.func24, Try.ntmps24
  go_wp2_with fail
  refine (refRt_any A c n (iz p) w HA.out (izl HP.out) hn).mono ?_
  rintro e w2 ⟨rfl, hb1⟩
  rw [HP1.out]
  have HB2 := Lib.hid hb1
  have HA2 := Lib.hid (HA.out.below hb1)
  clear hb1 HA
  have HB0 := Lib.hid (Below.refl w2.heap.size w2)
  have HN0 : Hid (PRows w2 w2.heap.size (.slice none 0 0) [] ((cycs p 0).map iz)) := PRows.nil _ _
  go_wp2_with fail
  go_loopw [4, 5] (fun s4 s5 wr => ∃ (i k cap : Nat) (Bo : Option Addr) (us : List Value), i ≤ n ∧ k ≤ i ∧ s4 = .slice Bo k cap ∧ s5 = .int .i64 i ∧ Hid (k = ((cycs p i).map iz).length) ∧ Hid (PRows wr w2.heap.size (.slice Bo k cap) us ((cycs p i).map iz)) ∧ Hid (Below w2.heap.size w2 wr)) (fun _ s5 _ => n - (intOf s5).toNat)
  case atStart => exact ⟨0, 0, 0, none, [], Nat.zero_le _, Nat.zero_le _, rfl, rfl, (show Hid (0 = ((cycs p 0).map iz).length) from (rfl : 0 = 0)), HN0, HB0⟩
  case round =>
    obtain ⟨i, ko, capo, Vo, us, hi, hko, rfl, rfl, hKo, hO, hb⟩ := hrel
    by_cases h1 : i < n
    · have t1 : decide ((i : Int) < (n : Int)) = true := by simp; omega
      have hI0 : (0 : Int) ≤ (i : Int) := by omega
      have hI1 : (i : Int) < (n : Nat) := by omega
      have HIN := Lib.hid h1
      obtain ⟨wo, hwo⟩ : ∃ wo, wo = wr := ⟨_, rfl⟩
      rw [← hwo] at hO hb ⊢
      clear hwo
      obtain ⟨X, hX⟩ : ∃ X, X = wo.alloc (.cells #[.int .i64 (i : Nat)] 3) := ⟨_, rfl⟩
      have hbX : Below wo.heap.size wo X := by rw [hX]; exact (Below.refl _ _).alloc (Nat.le_refl _) _
      have HBX := Lib.hid hbX
      have HRX : Hid (RowF X wo.heap.size (some ⟨wo.heap.size, 0, none⟩) 1 (it p i) 1) := by
        show World.ownsRow _ _ _ _ _ _ _
        rw [hX]
        exact World.ownsRow_lit wo #[.int .i64 (i : Nat)] 1 (Nat.le_refl _) (by simp [maxLen]) rfl
      have HXX := Lib.hid hX
      obtain ⟨a1, rfl, _, e0⟩ := (HA2.out.below (next_below hb.out hbX)) i _ (iz_at (by rw [HP.out.len]; exact h1))
      obtain ⟨x0, hx0⟩ : ∃ x, x = gn p i := ⟨_, rfl⟩
      have HX0 : Hid (x0 = it p i 1) := by show _ = _; rw [hx0]; rfl
      rw [← hx0] at e0
      rw [hX] at e0
      have HL1 : Hid (Lst p i 1 true) := Lst.one p i
      clear hbX hx0 hX
      go_wp2_with fail
      rw [← HXX.out]
      clear e0
      go_loopw [6, 7, 8] (fun s6 s7 s8 wr => ∃ (k g cap x : Nat) (lb : Bool), 1 ≤ k ∧ k ≤ per p i ∧ s6 = .slice (some ⟨g, 0, none⟩) k cap ∧ s7 = .bool lb ∧ s8 = .int .i64 x ∧ Hid (Lst p i k lb) ∧ Hid (x = it p i k) ∧ Hid (RowF wr wo.heap.size (some ⟨g, 0, none⟩) cap (it p i) k) ∧ Hid (Below wo.heap.size wo wr)) (fun s6 _ _ _ => per p i - slL s6)
      case atStart => exact ⟨1, wo.heap.size, 1, x0, true, Nat.le_refl _, per_pos p i, rfl, rfl, rfl, HL1, HX0, HRX, HBX⟩
      case round =>
        obtain ⟨k, g, cap, x, lb, hk1, hk2, rfl, rfl, rfl, hL, hx, hR, hbr⟩ := hrel
        have hper := per_spec HP.out HIN.out
        by_cases h2 : x = i
        · have u1 : ((x : Int) != (i : Int)) = false := by simp [h2]
          have u2 : (x != i) = false := by simp [h2]
          obtain rfl : k = per p i := by
            by_cases e : k = per p i
            · exact e
            · exact absurd (hx.out.symm.trans h2) (hper.2.2 k (by omega) (by omega))
          have HLB : Hid (leastB p i = lb) := hL.out.all
          have HRO : Hid (wr.ownsRow wo.heap.size 3 1 (.slice (some ⟨g, 0, none⟩) (per p i) cap) (per p i) (zs (iz (orb p i)))) := hR.out
          have hgl := hR.out.lt g rfl
          have hPO := Lib.hid (hO.out.below hbr.out)
          have hpn : per p i ≤ n := hper.1
          cases lb
          · have HCN : Hid (cycs p (i + 1) = cycs p i) := cycs_no HLB.out
            have HK2 : Hid (ko = ((cycs p (i + 1)).map iz).length) := by show _ = _; rw [HCN.out]; exact hKo.out
            have HP2 : Hid (PRows wr w2.heap.size (.slice Vo ko capo) us ((cycs p (i + 1)).map iz)) := by show PRows _ _ _ _ _; rw [HCN.out]; exact hPO.out
            have HBB := Lib.hid (next_below hb.out hbr.out)
            clear h2 hper hgl
            go_wp2_with fail
            go_roundw
            case rel => exact ⟨i + 1, ko, capo, Vo, us, by omega, by omega, rfl, by go_num, HK2, HP2, HBB⟩
            case measure => simp [intOf]; omega
          · have HCY : Hid (cycs p (i + 1) = cycs p i ++ [orb p i]) := cycs_yes HLB.out
            have HBB := Lib.hid (next_below hb.out hbr.out)
            have HAP : Hid (∀ u ∈ us, u.ownBlock ≠ some g) := fun u hu e => by
              obtain ⟨j, hj⟩ := List.getElem?_of_mem hu
              obtain ⟨xs, hxs⟩ : ∃ xs, ((cycs p i).map iz)[j]? = some xs := ⟨_, List.getElem?_eq_getElem (by have := (List.getElem?_eq_some_iff.1 hj).1; rw [hO.out.2.1] at this; exact this)⟩
              have h1 := ((hO.out.2.2.1 j u xs hj hxs).lt g e).2
              omega
            have hown := hPO.out.1
            rw [← hKo.out] at hown
            have HOW := Lib.hid (hown.alloc (.cells #[.slice (some ⟨g, 0, none⟩) (per p i) cap] 22))
            have HRW := Lib.hid (own_less HRO.out hb.out.size)
            have hcn : ∀ (j : Nat) (u : Value), [Value.slice (some ⟨g, 0, none⟩) (per p i) cap][j]? = some u → (wr.alloc (.cells #[.slice (some ⟨g, 0, none⟩) (per p i) cap] 22)).cell? ((⟨wr.heap.size, 0, none⟩ : Addr).add j) = some u := fun j u hj => by
              have hj0 : j = 0 := by have := (List.getElem?_eq_some_iff.1 hj).1; simp at this; omega
              subst hj0
              rw [← hj, add_off]
              exact World.cell?_alloc_at _ _ _ _ rfl
            have HCC := Lib.hid hcn
            have HLN : Hid (per p i = (iz (orb p i)).length) := by show _ = _; rw [iz_length, orb_length]
            have hszr := HBB.out.size
            clear h2 hper hgl hown hcn
            go_wp2_with (at_builtin; refine wpList_append_lies _ rfl (.tmp 42) (.tmp 44) 37 rfl w2.heap.size 22 r0 (.slice none 0 0) 1 24 Try.underlying37 hr0 rz0 rz1 rz2 rfl (by decide) (.slice Vo ko capo) ko us rfl HOW.out ⟨wr.heap.size, 0, none⟩ 1 1 [.slice (some ⟨g, 0, none⟩) (per p i) cap] (by simp [Act.eval]) rfl HCC.out (by simp [Value.oneCell']) (by omega) (by simp [maxLen]; omega) (by omega) (by simp only [World.size_alloc]; omega) (wr.heap.size + 1) (by simp only [World.size_alloc]) ?_; intro g2 cap2 w8 hrow8 hgr8 _ _)
            have HP8 : Hid (PRows w8 w2.heap.size (.slice (some ⟨g2, 0, none⟩) (ko + 1) cap2) (us ++ [.slice (some ⟨g, 0, none⟩) (per p i) cap]) ((cycs p (i + 1)).map iz)) := by
              show PRows _ _ _ _ _
              rw [HCY.out, List.map_append]
              exact PRows.push hPO.out hKo.out HLN.out HRW.out HAP.out hgr8 hrow8
            have HK8 : Hid (ko + 1 = ((cycs p (i + 1)).map iz).length) := by
              show _ = _
              rw [HCY.out, List.map_append, List.length_append, ← hKo.out]
              rfl
            have HB8 := Lib.hid ((HBB.out.alloc HBB.out.size _).grown hgr8 (by simp only [World.size_alloc]; omega) (fun k e => (HOW.out.lt k e).1))
            go_roundw
            case rel => exact ⟨i + 1, ko + 1, cap2, some ⟨g2, 0, none⟩, us ++ [.slice (some ⟨g, 0, none⟩) (per p i) cap], by omega, by omega, rfl, by go_num, HK8, HP8, HB8⟩
            case measure => simp [intOf]; omega
        · have u1 : ((x : Int) != (i : Int)) = true := by rw [bne_iff_ne]; omega
          have u2 : (x != i) = true := by simpa using h2
          have hkl : k < per p i := by
            by_cases e : k = per p i
            · exact absurd (hx.out.trans (by rw [e]; exact hper.2.1)) h2
            · omega
          have hxn : x < n := by rw [hx.out]; exact it_lt HP.out HIN.out k
          obtain ⟨bt, hbt⟩ : ∃ bt, decide (i < x) = bt := ⟨_, rfl⟩
          have hbt2 : decide ((i : Int) < (x : Int)) = bt := by rw [← hbt]; simp
          obtain ⟨y, hy⟩ : ∃ y, y = gn p x := ⟨_, rfl⟩
          have HY : Hid (y = it p i (k + 1)) := by show _ = _; rw [hy, hx.out]; rfl
          have HR8 : Hid (∀ w7, Below w2.heap.size w2 w7 → w7.cell? (a1.add x) = some (.int .i64 (y : Nat))) := fun w7 hb7 => by
            obtain ⟨a2, e2, _, k2⟩ := (HA2.out.below hb7) x _ (iz_at (by rw [HP.out.len]; exact hxn))
            injection e2 with e2
            subst e2
            rw [k2, hy]
          have hX0 : (0 : Int) ≤ (x : Int) := by omega
          have hX1 : (x : Int) < (n : Nat) := by omega
          have hsz := hbr.out.size
          have hpn : per p i ≤ n := hper.1
          have HNB := Lib.hid fun w7 (h : Below wo.heap.size wo w7) => next_below hb.out h
          cases lb
          · have HL2 : Hid (Lst p i (k + 1) false) := hL.out.no
            clear hy h2 hper
            go_wp2_with (at_builtin; refine wpList_append_lies _ rfl (.tmp 31) (.tmp 33) 22 rfl wo.heap.size 3 i0 (.int .i64 0) 1 8 Try.underlying22 hi0 hz0 hz1 hz2 rfl (by decide) (.slice (some ⟨g, 0, none⟩) k cap) k (zs (iz ((List.range k).map (it p i)))) rfl (hR.out.alloc _) ⟨wr.heap.size, 0, none⟩ 1 1 [.int .i64 ((x : Nat))] (by simp [Act.eval]) rfl (lit1 wr _) (by simp [Value.oneCell']) (by omega) (by simp [maxLen]; omega) (by omega) (by simp; omega) (wr.heap.size + 1) (by simp) ?_; intro g7 c7 w7 hr7 hg7 _ _; have hb7 : Below wo.heap.size wo w7 := (hbr.out.alloc hbr.out.size _).grown hg7 (by have := hbr.out.size; simp; omega) (fun m e => (hR.out.lt m e).1); have k9 := HR8.out w7 (HNB.out w7 hb7))
            have HR7 : Hid (RowF w7 wo.heap.size (some ⟨g7, 0, none⟩) c7 (it p i) (k + 1)) := RowF.push hx.out hr7
            go_roundw
            case rel => exact ⟨k + 1, g7, c7, y, false, by omega, by omega, rfl, rfl, rfl, HL2, HY, HR7, Lib.hid hb7⟩
            case measure => simp [slL]; omega
          · have HL2 : Hid (Lst p i (k + 1) bt) := hL.out.step hx.out h2 hbt
            clear hy h2 hper
            go_wp2_with (at_builtin; refine wpList_append_lies _ rfl (.tmp 31) (.tmp 33) 22 rfl wo.heap.size 3 i0 (.int .i64 0) 1 8 Try.underlying22 hi0 hz0 hz1 hz2 rfl (by decide) (.slice (some ⟨g, 0, none⟩) k cap) k (zs (iz ((List.range k).map (it p i)))) rfl (hR.out.alloc _) ⟨wr.heap.size, 0, none⟩ 1 1 [.int .i64 ((x : Nat))] (by simp [Act.eval]) rfl (lit1 wr _) (by simp [Value.oneCell']) (by omega) (by simp [maxLen]; omega) (by omega) (by simp; omega) (wr.heap.size + 1) (by simp) ?_; intro g7 c7 w7 hr7 hg7 _ _; have hb7 : Below wo.heap.size wo w7 := (hbr.out.alloc hbr.out.size _).grown hg7 (by have := hbr.out.size; simp; omega) (fun m e => (hR.out.lt m e).1); have k9 := HR8.out w7 (HNB.out w7 hb7))
            have HR7 : Hid (RowF w7 wo.heap.size (some ⟨g7, 0, none⟩) c7 (it p i) (k + 1)) := RowF.push hx.out hr7
            go_roundw
            case rel => exact ⟨k + 1, g7, c7, y, bt, by omega, by omega, rfl, rfl, rfl, HL2, HY, HR7, Lib.hid hb7⟩
            case measure => simp [slL]; omega
    · obtain rfl : i = n := by omega
      have t1 : decide ((i : Int) < (i : Int)) = false := by simp
      go_wp2_with fail
      go_ret2
      exact ⟨Vo, capo, by rw [← hKo.out]; rfl, hO.out.rd, next_below HB2.out hb.out⟩
set_option maxHeartbeats 4000000 in
theorem refCyc_no (A : Option Addr) (c n : Nat) (xs : List Int) (w : World) (hA : RdZ w A xs) (hn : n = xs.length) (hs : n ≤ 200) (hx : rightP xs = false) :
    Calls Try.prog 24 #[.slice A n c] w fun e w' => e = .returned (.tuple #[.slice none 0 0, .int .i64 30]) ∧ Below w.heap.size w w' := by
  have HA := Lib.hid hA
  have HN := Lib.hid hn
  have HX := Lib.hid hx
  clear hA hn hx
  go_enter Try.func24, Try.ntmps24
  go_wp2_with fail
  refine (refRt_any A c n xs w HA.out HN.out (by omega)).mono ?_
  rintro e w2 ⟨rfl, hb1⟩
  rw [HX.out]
  go_wp2_with fail
  go_ret2
  exact ⟨rfl, hb1⟩
set_option maxHeartbeats 4000000 in
theorem cycles_no (A : Option Addr) (c n : Nat) (xs : List Int) (w : World) (hA : RdZ w A xs) (hn : n = xs.length) (hs : n ≤ 200) (hx : rightP xs = false) :
    Calls Try.prog 23 #[.slice A n c] w fun e w' => e = .returned (.tuple #[.slice none 0 0, .int .i64 30]) ∧ Below w.heap.size w w' := by
  have HA := Lib.hid hA
  have HN := Lib.hid hn
  have HX := Lib.hid hx
  clear hA hn hx
  go_enter Try.func23, Try.ntmps23
  go_wp2_with fail
  refine (rightP_any A c n xs w HA.out HN.out (by omega)).mono ?_
  rintro e w2 ⟨rfl, hb1⟩
  rw [HX.out]
  go_wp2_with fail
  go_ret2
  exact ⟨rfl, hb1⟩
def cycA (n : Nat) (xs : List Int) : List (List Int) := if rightP xs then (cycs (tn xs) n).map iz else []
theorem cyclesT (A : Option Addr) (c n : Nat) (xs : List Int) (w : World) (hA : RdZ w A xs) (hn : n = xs.length) (hs : n ≤ 200) :
    Calls Try.prog 23 #[.slice A n c] w fun e w' => (∃ (K : Option Addr) (ck : Nat), e = .returned (.tuple #[.slice K (cycA n xs).length ck, .int .i64 (erA (rightP xs))]) ∧ RdR w' K (cycA n xs)) ∧ Below w.heap.size w w' := by
  by_cases hx : rightP xs = true
  · obtain ⟨p, rfl, hp, _⟩ := rightP_iff.1 hx
    rw [iz_length] at hn
    rw [← hn] at hp
    have e1 : cycA n (iz p) = (cycs p n).map iz := by unfold cycA; rw [hx, tn_iz]; rfl
    refine (cyclesAll_yes A c n p w hA hp hs).mono ?_
    rintro e w2 ⟨V, us, rfl, hP, hb⟩
    rw [hx, e1]
    rcases Joins.ownsRow_forms hP.1 with ⟨rfl, h0⟩ | ⟨g, cap, rfl⟩
    · exact ⟨⟨none, 0, by rw [h0]; rfl, hP.rd⟩, hb⟩
    · exact ⟨⟨_, cap, rfl, hP.rd⟩, hb⟩
  · have hx' : rightP xs = false := by simpa using hx
    have e1 : cycA n xs = [] := by unfold cycA; rw [hx']; rfl
    refine (cycles_no A c n xs w hA hn hs hx').mono ?_
    rintro e w2 ⟨rfl, hb⟩
    rw [hx', e1]
    exact ⟨⟨none, 0, rfl, (by intro j xs h; simp at h)⟩, hb⟩
theorem refCycT (A : Option Addr) (c n : Nat) (xs : List Int) (w : World) (hA : RdZ w A xs) (hn : n = xs.length) (hs : n ≤ 200) :
    Calls Try.prog 24 #[.slice A n c] w fun e w' => (∃ (K : Option Addr) (ck : Nat), e = .returned (.tuple #[.slice K (cycA n xs).length ck, .int .i64 (erA (rightP xs))]) ∧ RdR w' K (cycA n xs)) ∧ Below w.heap.size w w' := by
  by_cases hx : rightP xs = true
  · obtain ⟨p, rfl, hp, _⟩ := rightP_iff.1 hx
    rw [iz_length] at hn
    rw [← hn] at hp
    have e1 : cycA n (iz p) = (cycs p n).map iz := by unfold cycA; rw [hx, tn_iz]; rfl
    refine (refCyc_yes A c n p w hA hp hs).mono ?_
    rintro e w2 ⟨K, ck, rfl, hP, hb⟩
    rw [hx, e1]
    exact ⟨⟨K, ck, rfl, hP⟩, hb⟩
  · have hx' : rightP xs = false := by simpa using hx
    have e1 : cycA n xs = [] := by unfold cycA; rw [hx']; rfl
    refine (refCyc_no A c n xs w hA hn hs hx').mono ?_
    rintro e w2 ⟨rfl, hb⟩
    rw [hx', e1]
    exact ⟨⟨none, 0, rfl, (by intro j xs h; simp at h)⟩, hb⟩
end Go.Proofs.Ytgldlanfbkgfjaa
