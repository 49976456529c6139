/- WalkLong. -/
import Derived.Test.YtpkiogcedfmodaaW17
import Derived.Test.YtpkiogcedfmodaaW29
import Derived.Test.YtpkiogcedfmodaaW38
import Derived.Deep.CutBlock
namespace Go.Proofs.Ytpkiogcedfmodaa
open Go.RowKit

theorem own_ne2 {w : World} {base size n g : Nat} {e e' : TypeId} {v : Value} {xs : List Value} {cs : Array Value} {f : Nat × Nat} (h : w.ownsRow base e size v n xs) (hg : w.heap[g]? = some (.cells cs e' f)) (hne : e ≠ e') : v.ownBlock ≠ some g := own_ne h hg hne
/-- A region's condition made stronger in its midst. -/
theorem held_more {P : Program} {md : Region.Mode} {ops : Array Oper} {Q : Exit → Act → World → Prop} {S S' : World → Prop} (h : ∀ w, S' w → S w) :
    ∀ (fuel : Nat) (listed : Array Bool) (a : Act) (w : World), wpAnyH P md ops Q S' fuel listed a w → wpAnyH P md ops Q S fuel listed a w
  | 0, _, _, _, hh => hh
  | fuel + 1, _, _, _, hh => ⟨hh.1, fun i hi => wpOp_mono (fun a' w' h' => ⟨h _ h'.1, held_more h fuel _ a' w' h'.2⟩) (hh.2 i hi)⟩
theorem rowK_snoc (k : Nat) : rowK (k + 1) = rowK k ++ [((k : Int), (k : Int) + 1)] := by rw [rowK_succ, show ((k + 1 : Nat) : Int) = (k : Int) + 1 by omega]
theorem starK_snoc (k : Nat) : starK (k + 1) = starK k ++ [((0 : Int), (k : Int) + 1)] := by rw [starK_succ, show ((k + 1 : Nat) : Int) = (k : Int) + 1 by omega]
/-- What was laid for an append. -/
def Lay (w : World) (b : Nat) (L : List Value) : Prop := b < w.heap.size ∧ ∀ (j : Nat) (u : Value), L[j]? = some u → w.cell? ((⟨b, 0, none⟩ : Addr).add j) = some u
theorem Lay.below {w w' : World} {b : Nat} {L : List Value} (h : Lay w b L) (hb : Below w.heap.size w w') : Lay w' b L :=
  ⟨Nat.lt_of_lt_of_le h.1 hb.size, fun j u hj => by rw [hb.cell (by rw [block_add]; exact h.1)]; exact h.2 j u hj⟩
theorem Lay.grown {w w' : World} {b : Nat} {L : List Value} {row : Option Nat} (h : Lay w b L) (hg : w.grownBy w' row) (hne : row ≠ some b) : Lay w' b L :=
  ⟨Nat.lt_of_lt_of_le h.1 hg.size, fun j u hj => by
    rw [hg.cell_far _ (by rw [block_add]; exact h.1) (by rw [block_add]; exact fun e => hne e.symm)]
    exact h.2 j u hj⟩
theorem Lay.made (w : World) (x y : Int) : Lay (w.alloc (.cells #[.int .i64 x, .int .i64 y] 43)) w.heap.size [.int .i64 x, .int .i64 y] :=
  ⟨by simp, World.news_of_block (heap_alloc_new w _)⟩
/-- Two rows of pairs that are made side by side, and the graphs whose they are. -/
structure Two (w w' : World) (B pr ps : Nat) (Er Es : List (Int × Int)) (Vr Vs hr hs : Value) : Prop where
  r : w'.ownsRow B 43 2 Vr Er.length (pcells Er)
  s : w'.ownsRow B 43 2 Vs Es.length (pcells Es)
  dj : ∀ g, Vr.ownBlock = some g → Vs.ownBlock ≠ some g
  gr : w'.heap[pr]? = some (.cells #[.int .i64 200, hr] 24 (0, 0))
  gs : w'.heap[ps]? = some (.cells #[.int .i64 200, hs] 24 (0, 0))
  ne : pr ≠ ps
  lo : B ≤ pr ∧ B ≤ ps
  bel : Below B w w'
theorem Two.swap {w w' : World} {B pr ps : Nat} {Er Es : List (Int × Int)} {Vr Vs hr hs : Value} (h : Two w w' B pr ps Er Es Vr Vs hr hs) : Two w w' B ps pr Es Er Vs Vr hs hr :=
  ⟨h.s, h.r, fun g h1 h2 => h.dj g h2 h1, h.gs, h.gr, fun e => h.ne e.symm, ⟨h.lo.2, h.lo.1⟩, h.bel⟩
theorem Two.lay {w w' : World} {B pr ps : Nat} {Er Es : List (Int × Int)} {Vr Vs hr hs : Value} (h : Two w w' B pr ps Er Es Vr Vs hr hs) (o : Obj) : Two w (w'.alloc o) B pr ps Er Es Vr Vs hr hs := by
  have hb : Below w'.heap.size w' (w'.alloc o) := (Below.refl _ _).alloc (Nat.le_refl _) _
  have h1 := lt_of_block h.gr
  exact ⟨h.r.alloc o, h.s.alloc o, h.dj, blk_below h.gr hb, blk_below h.gs hb, h.ne, h.lo, h.bel.alloc (Nat.le_of_lt (Nat.lt_of_le_of_lt h.lo.1 h1)) o⟩
theorem Two.drew {w w' : World} {B pr ps : Nat} {Er Es : List (Int × Int)} {Vr Vs hr hs : Value} (h : Two w w' B pr ps Er Es Vr Vs hr hs) : Two w w'.drew B pr ps Er Es Vr Vs hr hs :=
  ⟨h.r, h.s, h.dj, h.gr, h.gs, h.ne, h.lo, h.bel.drew⟩
theorem pcells_snoc (E : List (Int × Int)) (x y : Int) : pcells (E ++ [(x, y)]) = pcells E ++ [.int .i64 x, .int .i64 y] := by simp [pcells, zv]
theorem Two.more {w w' w'' : World} {B pr ps g cap : Nat} {x y : Int} {Er Es : List (Int × Int)} {Vr Vs hr hs : Value} (h : Two w w' B pr ps Er Es Vr Vs hr hs)
    (ho : w''.ownsRow B 43 2 (.slice (some ⟨g, 0, none⟩) (Er.length + 1) cap) (Er.length + 1) (pcells Er ++ [.int .i64 x, .int .i64 y])) (hg : w'.grownBy w'' Vr.ownBlock) (hor : Vr.ownBlock = some g ∨ g = w'.heap.size) :
    Two w w'' B pr ps (Er ++ [(x, y)]) Es (.slice (some ⟨g, 0, none⟩) (Er.length + 1) cap) Vs hr hs := by
  have hVs : Vs.ownBlock = none ∨ Vs.ownBlock ≠ Vr.ownBlock := by
    cases hv : Vs.ownBlock with
    | none => exact .inl rfl
    | some k => exact .inr (fun e => h.dj k e.symm hv)
  have hpr : some pr ≠ Vr.ownBlock := fun e => own_ne2 h.r h.gr (by decide) e.symm
  have hps : some ps ≠ Vr.ownBlock := fun e => own_ne2 h.r h.gs (by decide) e.symm
  have l1 := lt_of_block h.gr
  refine ⟨by rw [pcells_snoc, List.length_append]; exact ho, h.s.kept hg hVs, fun k hk hk2 => ?_, (hg.block pr l1 hpr).trans h.gr, (hg.block ps (lt_of_block h.gs) hps).trans h.gs, h.ne, h.lo, h.bel.grown hg (Nat.le_of_lt (Nat.lt_of_le_of_lt h.lo.1 l1)) (fun k hk => (h.r.lt k hk).1)⟩
  have hk : g = k := by simpa [Value.ownBlock] using hk
  subst hk
  rcases hor with e | e
  · exact h.dj g e hk2
  · have := (h.s.lt g hk2).2
    omega
theorem Two.put {w w' : World} {B pr ps : Nat} {Er Es : List (Int × Int)} {Vr Vs hr hs : Value} (h : Two w w' B pr ps Er Es Vr Vs hr hs) (V : Value) : Two w (w'.setCell ⟨pr, 1, none⟩ V) B pr ps Er Es Vr Vs V hs := by
  have hr1 : Vr.ownBlock = none ∨ Vr.ownBlock ≠ some pr := .inr (own_ne2 h.r h.gr (by decide))
  have hs1 : Vs.ownBlock = none ∨ Vs.ownBlock ≠ some pr := .inr (own_ne2 h.s h.gr (by decide))
  have hg : w'.grownBy (w'.setCell ⟨pr, 1, none⟩ V) (some pr) := ⟨rfl, rfl, rfl, by simp [World.setCell], fun k _ hne => Below.heap_setCell _ _ _ _ (fun e => hne (by rw [e]))⟩
  refine ⟨h.r.kept hg hr1, h.s.kept hg hs1, h.dj, ?_, (Below.heap_setCell _ _ _ _ (fun e => h.ne e.symm)).trans h.gs, h.ne, h.lo, h.bel.setCell h.lo.1 _⟩
  rw [Go.Joins.block_setCell h.gr]
  rfl

set_option maxRecDepth 100000 in
set_option maxHeartbeats 16000000 in
theorem long_walk (u : Nat) (w : World) (hu : u < 256) :
    Calls Try.prog 8 #[.int .u8 (u : Int)] w fun e w' => e = .returned (.bool true) ∧ Below w.heap.size w w' := by
  obtain ⟨v, hv⟩ : ∃ v, v = u % 200 := ⟨_, rfl⟩
  have hv200 : v < 200 := by omega
  have hmod : (u : Int).tmod 200 = (v : Int) := by rw [Int.tmod_eq_emod_of_nonneg (by omega)]; omega
  have hmod2 : (u : Int) % 200 = (v : Int) := by omega
  clear hv
  obtain ⟨i0, hi0, hz0, hz1, hz2⟩ := info_partsI pairinfo
  have HSZ : Hid (∀ w', Below w.heap.size w w' → w.heap.size ≤ w'.heap.size) := fun w' h => h.size
  have HT0 : Hid (Two w ((w.alloc (.cells #[.int .i64 200, .slice none 0 0] 24)).alloc (.cells #[.int .i64 200, .slice none 0 0] 24)) w.heap.size w.heap.size (w.heap.size + 1) (rowK 0) (starK 0) (.slice none 0 0) (.slice none 0 0) (.slice none 0 0) (.slice none 0 0)) :=
    ⟨World.ownsRow_nil _ _ _ _, World.ownsRow_nil _ _ _ _, (by intro g h; cases h), two_first w _ _, two_second w _ _, by omega, ⟨by omega, by omega⟩, ((Below.refl _ _).alloc (Nat.le_refl _) _).alloc (by simp) _⟩
  go_enter Try.func8, Try.ntmps8
  go_wp2_with fail
  clear hmod hmod2
  go_loopw [6] (fun s6 wr => ∃ (k : Nat) (Vr Vs : Value), k ≤ 199 ∧ s6 = .int .i64 ((k : Int) + 1) ∧ Hid (Two w wr w.heap.size w.heap.size (w.heap.size + 1) (rowK k) (starK k) Vr Vs Vr Vs)) (fun s6 _ => 200 - (intOf s6).toNat)
  case atStart => exact ⟨0, _, _, by omega, by go_num, HT0⟩
  case round =>
    obtain ⟨k, Vr, Vs, hk, rfl, HT⟩ := hrel
    by_cases h1 : k < 199
    · have t1 : decide ((k : Int) + 1 < 200) = true := by simp; omega
      have hk0 : (0 : Int) ≤ (k : Int) := by omega
      have hw1 : IntKind.i64.wrap ((k : Int) + 1 - 1) = (k : Int) := by rw [show (k : Int) + 1 - 1 = k by omega]; exact IntWalk.i64_in _ (by omega)
      have hw2 : IntKind.i64.wrap (k : Int) = (k : Int) := IntWalk.i64_in _ (by omega)
      have hlr := rowK_length k
      have hls := starK_length k
      have HVR : Hid (∀ e, Vr.ownBlock = some e → e < wr.heap.size) := fun e he => (HT.out.r.lt e he).2
      have HT1 := Lib.hid HT.out.drew
      go_upto_block 1 with fail
      go_cut [] (fun wx => ∃ Vr' Vs' : Value, Hid (Two w wx w.heap.size w.heap.size (w.heap.size + 1) (rowK (k + 1)) (starK (k + 1)) Vr' Vs' Vr' Vs'))
      case first =>
        go_upto_region 6 with fail
        refine wp_region_held_drew (S := fun _ => True) (by kernel_rfl) trivial (fun hS => ?_)
        refine wpAnyH_take (i := 0) (v := ?_) rfl (by kernel_rfl) (by kernel_rfl) (by kernel_rfl) (fun _ _ _ h => h) (Or.inl ⟨by rfl, ?_⟩) hS ?_
        rotate_left
        · intro wz hSw; (try dsimp only at hSw); go_simp; (try with_reducible rfl)
        try simp only [List.getElem_toArray, List.getElem_cons_zero, List.getElem_cons_succ, Act.put, List.setIfInBounds_toArray, List.set_cons_zero, List.set_cons_succ]
        refine wpAnyH_take (i := 2) (v := ?_) rfl (by kernel_rfl) (by kernel_rfl) (by kernel_rfl) (fun _ _ _ h => h) (Or.inl ⟨by rfl, ?_⟩) hS ?_
        rotate_left
        · intro wz hSw; (try dsimp only at hSw); go_simp; (try with_reducible rfl)
        try simp only [List.getElem_toArray, List.getElem_cons_zero, List.getElem_cons_succ, Act.put, List.setIfInBounds_toArray, List.set_cons_zero, List.set_cons_succ]
        refine wpAnyH_take (i := 3) (v := ?_) rfl (by kernel_rfl) (by kernel_rfl) (by kernel_rfl) (fun _ _ _ h => h) (Or.inl ⟨by rfl, ?_⟩) hS ?_
        rotate_left
        · intro wz hSw; (try dsimp only at hSw); go_simp; (try with_reducible rfl)
        try simp only [List.getElem_toArray, List.getElem_cons_zero, List.getElem_cons_succ, Act.put, List.setIfInBounds_toArray, List.set_cons_zero, List.set_cons_succ]
        refine wpAnyH_take (i := 4) (v := ?_) rfl (by kernel_rfl) (by kernel_rfl) (by kernel_rfl) (fun _ _ _ h => h) (Or.inl ⟨by rfl, ?_⟩) hS ?_
        rotate_left
        · intro wz hSw; (try dsimp only at hSw); go_simp; (try with_reducible rfl)
        try simp only [List.getElem_toArray, List.getElem_cons_zero, List.getElem_cons_succ, Act.put, List.setIfInBounds_toArray, List.set_cons_zero, List.set_cons_succ]
        refine wpAnyH_take (i := 5) (v := ?_) rfl (by kernel_rfl) (by kernel_rfl) (by kernel_rfl) (fun _ _ _ h => h) (Or.inl ⟨by rfl, ?_⟩) hS ?_
        rotate_left
        · intro wz hSw; (try dsimp only at hSw); go_simp; (try with_reducible rfl)
        try simp only [List.getElem_toArray, List.getElem_cons_zero, List.getElem_cons_succ, Act.put, List.setIfInBounds_toArray, List.set_cons_zero, List.set_cons_succ]
        refine wpAnyH_take (i := 8) (v := ?_) rfl (by kernel_rfl) (by kernel_rfl) (by kernel_rfl) (fun _ _ _ h => h) (Or.inl ⟨by rfl, ?_⟩) hS ?_
        rotate_left
        · intro wz hSw; (try dsimp only at hSw); go_simp; (try with_reducible rfl)
        try simp only [List.getElem_toArray, List.getElem_cons_zero, List.getElem_cons_succ, Act.put, List.setIfInBounds_toArray, List.set_cons_zero, List.set_cons_succ]
        refine wpAnyH_take (i := 10) (v := ?_) rfl (by kernel_rfl) (by kernel_rfl) (by kernel_rfl) (fun _ _ _ h => h) (Or.inl ⟨by rfl, ?_⟩) hS ?_
        rotate_left
        · intro wz hSw; (try dsimp only at hSw); go_simp; (try with_reducible rfl)
        try simp only [List.getElem_toArray, List.getElem_cons_zero, List.getElem_cons_succ, Act.put, List.setIfInBounds_toArray, List.set_cons_zero, List.set_cons_succ]
        refine wpAnyH_take (i := 11) (v := ?_) rfl (by kernel_rfl) (by kernel_rfl) (by kernel_rfl) (fun _ _ _ h => h) (Or.inl ⟨by rfl, ?_⟩) hS ?_
        rotate_left
        · intro wz hSw; (try dsimp only at hSw); go_simp; (try with_reducible rfl)
        try simp only [List.getElem_toArray, List.getElem_cons_zero, List.getElem_cons_succ, Act.put, List.setIfInBounds_toArray, List.set_cons_zero, List.set_cons_succ]
        refine wpAnyH_ready (rs := [1, 6, 9, 12]) (by kernel_rfl) (by simp) (AllReadyH.cons rfl (fun K hK => ?_) (AllReadyH.cons rfl (fun K hK => ?_) (AllReadyH.cons rfl (fun K hK => ?_) (AllReadyH.cons rfl (fun K hK => ?_) AllReadyH.nil))))
        ·
          have q1 : World.cell? (wr) ⟨w.heap.size, 1, none⟩ = some Vr := (cells_two HT1.out.gr).2.1
          go_simp
          clear q1
          refine hK.out _ _ trivial (fun _ => ?_)
          clear hK K
          try simp only [List.getElem_toArray, List.getElem_cons_zero, List.getElem_cons_succ, Act.put, List.setIfInBounds_toArray, List.set_cons_zero, List.set_cons_succ]
          refine wpAnyH_ready (rs := [6, 9, 12]) (by kernel_rfl) (by simp) (AllReadyH.cons rfl (fun K hK => ?_) (AllReadyH.cons rfl (fun K hK => ?_) (AllReadyH.cons rfl (fun K hK => ?_) AllReadyH.nil)))
          ·
            go_simp
            have HT2 := Lib.hid (HT1.out.lay (.cells #[.int .i64 (k : Int), .int .i64 ((k : Int) + 1)] 43))
            have hl6 := Lay.made (wr.drew) (k : Int) ((k : Int) + 1)
            try simp only [World.size_alloc, World.size_drew] at hl6
            have HL6 := Lib.hid hl6
            clear hl6
            refine hK.out _ _ trivial (fun _ => ?_)
            clear hK K
            try simp only [List.getElem_toArray, List.getElem_cons_zero, List.getElem_cons_succ, Act.put, List.setIfInBounds_toArray, List.set_cons_zero, List.set_cons_succ]
            refine wpAnyH_ready (rs := [7, 9, 12]) (by kernel_rfl) (by simp) (AllReadyH.cons rfl (fun K hK => ?_) (AllReadyH.cons rfl (fun K hK => ?_) (AllReadyH.cons rfl (fun K hK => ?_) AllReadyH.nil)))
            ·
              refine step_append_lies _ rfl (.tmp 27) (.tmp 32) 22 rfl w.heap.size 43 i0 (.agg #[.int .i64 0, .int .i64 0]) 2 16 Try.underlying22 hi0 hz0 hz1 hz2 rfl (by decide) Vr k (pcells (rowK k)) rfl (by have h := HT2.out.r; rw [hlr] at h; exact h) ⟨_, 0, none⟩ 1 1 [.int .i64 (k : Int), .int .i64 ((k : Int) + 1)] rfl rfl HL6.out.2 (by simp [Value.oneCell']) (by omega) (by simp [maxLen]; omega) (by omega) (HSZ.out _ HT2.out.bel) _ rfl ?_
              intro g7 c7 w7 ho7 hg7 hor7 hlt7
              have ht3 := HT2.out.more (by rw [hlr]; exact ho7) hg7 hor7
              rw [hlr] at ht3
              have HT3 := Lib.hid ht3
              clear ht3
              clear ho7 hg7 hor7 hlt7
              refine hK.out _ _ trivial (fun _ => ?_)
              clear hK K
              try simp only [List.getElem_toArray, List.getElem_cons_zero, List.getElem_cons_succ, Act.put, List.setIfInBounds_toArray, List.set_cons_zero, List.set_cons_succ]
              refine wpAnyH_take (i := 14) (v := ?_) rfl (by kernel_rfl) (by kernel_rfl) (by kernel_rfl) (fun _ _ _ h => h) (Or.inl ⟨by rfl, ?_⟩) hS ?_
              rotate_left
              · intro wz hSw; (try dsimp only at hSw); go_simp; (try with_reducible rfl)
              try simp only [List.getElem_toArray, List.getElem_cons_zero, List.getElem_cons_succ, Act.put, List.setIfInBounds_toArray, List.set_cons_zero, List.set_cons_succ]
              refine wpAnyH_ready (rs := [9, 12]) (by kernel_rfl) (by simp) (AllReadyH.cons rfl (fun K hK => ?_) (AllReadyH.cons rfl (fun K hK => ?_) AllReadyH.nil))
              ·
                have q1 : World.cell? (w7) ⟨w.heap.size + 1, 1, none⟩ = some Vs := (cells_two HT3.out.gs).2.1
                go_simp
                clear q1
                refine hK.out _ _ trivial (fun _ => ?_)
                clear hK K
                try simp only [List.getElem_toArray, List.getElem_cons_zero, List.getElem_cons_succ, Act.put, List.setIfInBounds_toArray, List.set_cons_zero, List.set_cons_succ]
                refine wpAnyH_ready (rs := [12]) (by kernel_rfl) (by simp) (AllReadyH.cons rfl (fun K hK => ?_) AllReadyH.nil)
                go_simp
                have HT4 := Lib.hid (HT3.out.lay (.cells #[.int .i64 0, .int .i64 ((k : Int) + 1)] 43))
                have hl12 := Lay.made (w7) 0 ((k : Int) + 1)
                try simp only [World.size_alloc, World.size_drew] at hl12
                have HL12 := Lib.hid hl12
                clear hl12
                have HL6 := Lib.hid (HL6.out.below ((Below.refl _ _).alloc (Nat.le_refl _) (.cells #[.int .i64 0, .int .i64 ((k : Int) + 1)] 43)))
                refine hK.out _ _ trivial (fun _ => ?_)
                clear hK K
                try simp only [List.getElem_toArray, List.getElem_cons_zero, List.getElem_cons_succ, Act.put, List.setIfInBounds_toArray, List.set_cons_zero, List.set_cons_succ]
                refine wpAnyH_ready (rs := [13]) (by kernel_rfl) (by simp) (AllReadyH.cons rfl (fun K hK => ?_) AllReadyH.nil)
                refine step_append_lies _ rfl (.tmp 35) (.tmp 38) 22 rfl w.heap.size 43 i0 (.agg #[.int .i64 0, .int .i64 0]) 2 16 Try.underlying22 hi0 hz0 hz1 hz2 rfl (by decide) Vs k (pcells (starK k)) rfl (by have h := HT4.out.s; rw [hls] at h; exact h) ⟨_, 0, none⟩ 1 1 [.int .i64 0, .int .i64 ((k : Int) + 1)] rfl rfl HL12.out.2 (by simp [Value.oneCell']) (by omega) (by simp [maxLen]; omega) (by omega) (HSZ.out _ HT4.out.bel) _ rfl ?_
                intro g13 c13 w13 ho13 hg13 hor13 hlt13
                have ht5 := (HT4.out.swap.more (by rw [hls]; exact ho13) hg13 hor13).swap
                rw [hls] at ht5
                have HT5 := Lib.hid ht5
                clear ht5
                clear ho13 hg13 hor13 hlt13
                refine hK.out _ _ trivial (fun _ => ?_)
                clear hK K
                try simp only [List.getElem_toArray, List.getElem_cons_zero, List.getElem_cons_succ, Act.put, List.setIfInBounds_toArray, List.set_cons_zero, List.set_cons_succ]
                refine wpAnyH_ready (rs := [15]) (by kernel_rfl) (by simp) (AllReadyH.cons rfl (fun K hK => ?_) AllReadyH.nil)
                obtain ⟨_, q1, _, q2⟩ := cells_two HT5.out.gr
                go_simp
                have HT6 := Lib.hid (HT5.out.put (.slice (some ⟨g7, 0, none⟩) (k + 1) c7))
                clear q1 q2
                refine hK.out _ _ trivial (fun _ => ?_)
                clear hK K
                try simp only [List.getElem_toArray, List.getElem_cons_zero, List.getElem_cons_succ, Act.put, List.setIfInBounds_toArray, List.set_cons_zero, List.set_cons_succ]
                refine wpAnyH_take (i := 16) (v := ?_) rfl (by kernel_rfl) (by kernel_rfl) (by kernel_rfl) (fun _ _ _ h => h) (Or.inl ⟨by rfl, ?_⟩) hS ?_
                rotate_left
                · intro wz hSw; (try dsimp only at hSw); go_simp; (try with_reducible rfl)
                try simp only [List.getElem_toArray, List.getElem_cons_zero, List.getElem_cons_succ, Act.put, List.setIfInBounds_toArray, List.set_cons_zero, List.set_cons_succ]
                refine wpAnyH_ready (rs := [17]) (by kernel_rfl) (by simp) (AllReadyH.cons rfl (fun K hK => ?_) AllReadyH.nil)
                obtain ⟨_, q1, _, q2⟩ := cells_two HT6.out.gs
                go_simp
                have HT7 := Lib.hid (HT6.out.swap.put (.slice (some ⟨g13, 0, none⟩) (k + 1) c13)).swap
                clear q1 q2
                refine hK.out _ _ trivial (fun _ => ?_)
                clear hK K
                try simp only [List.getElem_toArray, List.getElem_cons_zero, List.getElem_cons_succ, Act.put, List.setIfInBounds_toArray, List.set_cons_zero, List.set_cons_succ]
                refine wpAnyH_done (by kernel_rfl) ?_ _
                go_wp2_with fail
                go_meet
                rw [rowK_snoc, starK_snoc]
                exact ⟨_, _, HT7⟩
              ·
                go_simp
                have HT4 := Lib.hid (HT3.out.lay (.cells #[.int .i64 0, .int .i64 ((k : Int) + 1)] 43))
                have hl12 := Lay.made (w7) 0 ((k : Int) + 1)
                try simp only [World.size_alloc, World.size_drew] at hl12
                have HL12 := Lib.hid hl12
                clear hl12
                have HL6 := Lib.hid (HL6.out.below ((Below.refl _ _).alloc (Nat.le_refl _) (.cells #[.int .i64 0, .int .i64 ((k : Int) + 1)] 43)))
                refine hK.out _ _ trivial (fun _ => ?_)
                clear hK K
                try simp only [List.getElem_toArray, List.getElem_cons_zero, List.getElem_cons_succ, Act.put, List.setIfInBounds_toArray, List.set_cons_zero, List.set_cons_succ]
                refine wpAnyH_ready (rs := [9]) (by kernel_rfl) (by simp) (AllReadyH.cons rfl (fun K hK => ?_) AllReadyH.nil)
                have q1 : World.cell? (World.alloc (w7) (.cells #[.int .i64 0, .int .i64 ((k : Int) + 1)] 43)) ⟨w.heap.size + 1, 1, none⟩ = some Vs := (cells_two HT4.out.gs).2.1
                go_simp
                clear q1
                refine hK.out _ _ trivial (fun _ => ?_)
                clear hK K
                try simp only [List.getElem_toArray, List.getElem_cons_zero, List.getElem_cons_succ, Act.put, List.setIfInBounds_toArray, List.set_cons_zero, List.set_cons_succ]
                refine wpAnyH_ready (rs := [13]) (by kernel_rfl) (by simp) (AllReadyH.cons rfl (fun K hK => ?_) AllReadyH.nil)
                refine step_append_lies _ rfl (.tmp 35) (.tmp 38) 22 rfl w.heap.size 43 i0 (.agg #[.int .i64 0, .int .i64 0]) 2 16 Try.underlying22 hi0 hz0 hz1 hz2 rfl (by decide) Vs k (pcells (starK k)) rfl (by have h := HT4.out.s; rw [hls] at h; exact h) ⟨_, 0, none⟩ 1 1 [.int .i64 0, .int .i64 ((k : Int) + 1)] rfl rfl HL12.out.2 (by simp [Value.oneCell']) (by omega) (by simp [maxLen]; omega) (by omega) (HSZ.out _ HT4.out.bel) _ rfl ?_
                intro g13 c13 w13 ho13 hg13 hor13 hlt13
                have ht5 := (HT4.out.swap.more (by rw [hls]; exact ho13) hg13 hor13).swap
                rw [hls] at ht5
                have HT5 := Lib.hid ht5
                clear ht5
                clear ho13 hg13 hor13 hlt13
                refine hK.out _ _ trivial (fun _ => ?_)
                clear hK K
                try simp only [List.getElem_toArray, List.getElem_cons_zero, List.getElem_cons_succ, Act.put, List.setIfInBounds_toArray, List.set_cons_zero, List.set_cons_succ]
                refine wpAnyH_ready (rs := [15]) (by kernel_rfl) (by simp) (AllReadyH.cons rfl (fun K hK => ?_) AllReadyH.nil)
                obtain ⟨_, q1, _, q2⟩ := cells_two HT5.out.gr
                go_simp
                have HT6 := Lib.hid (HT5.out.put (.slice (some ⟨g7, 0, none⟩) (k + 1) c7))
                clear q1 q2
                refine hK.out _ _ trivial (fun _ => ?_)
                clear hK K
                try simp only [List.getElem_toArray, List.getElem_cons_zero, List.getElem_cons_succ, Act.put, List.setIfInBounds_toArray, List.set_cons_zero, List.set_cons_succ]
                refine wpAnyH_take (i := 16) (v := ?_) rfl (by kernel_rfl) (by kernel_rfl) (by kernel_rfl) (fun _ _ _ h => h) (Or.inl ⟨by rfl, ?_⟩) hS ?_
                rotate_left
                · intro wz hSw; (try dsimp only at hSw); go_simp; (try with_reducible rfl)
                try simp only [List.getElem_toArray, List.getElem_cons_zero, List.getElem_cons_succ, Act.put, List.setIfInBounds_toArray, List.set_cons_zero, List.set_cons_succ]
                refine wpAnyH_ready (rs := [17]) (by kernel_rfl) (by simp) (AllReadyH.cons rfl (fun K hK => ?_) AllReadyH.nil)
                obtain ⟨_, q1, _, q2⟩ := cells_two HT6.out.gs
                go_simp
                have HT7 := Lib.hid (HT6.out.swap.put (.slice (some ⟨g13, 0, none⟩) (k + 1) c13)).swap
                clear q1 q2
                refine hK.out _ _ trivial (fun _ => ?_)
                clear hK K
                try simp only [List.getElem_toArray, List.getElem_cons_zero, List.getElem_cons_succ, Act.put, List.setIfInBounds_toArray, List.set_cons_zero, List.set_cons_succ]
                refine wpAnyH_done (by kernel_rfl) ?_ _
                go_wp2_with fail
                go_meet
                rw [rowK_snoc, starK_snoc]
                exact ⟨_, _, HT7⟩
            ·
              have q1 : World.cell? (World.alloc (wr) (.cells #[.int .i64 (k : Int), .int .i64 ((k : Int) + 1)] 43)) ⟨w.heap.size + 1, 1, none⟩ = some Vs := (cells_two HT2.out.gs).2.1
              go_simp
              clear q1
              refine hK.out _ _ trivial (fun _ => ?_)
              clear hK K
              try simp only [List.getElem_toArray, List.getElem_cons_zero, List.getElem_cons_succ, Act.put, List.setIfInBounds_toArray, List.set_cons_zero, List.set_cons_succ]
              refine wpAnyH_ready (rs := [7, 12]) (by kernel_rfl) (by simp) (AllReadyH.cons rfl (fun K hK => ?_) (AllReadyH.cons rfl (fun K hK => ?_) AllReadyH.nil))
              ·
                refine step_append_lies _ rfl (.tmp 27) (.tmp 32) 22 rfl w.heap.size 43 i0 (.agg #[.int .i64 0, .int .i64 0]) 2 16 Try.underlying22 hi0 hz0 hz1 hz2 rfl (by decide) Vr k (pcells (rowK k)) rfl (by have h := HT2.out.r; rw [hlr] at h; exact h) ⟨_, 0, none⟩ 1 1 [.int .i64 (k : Int), .int .i64 ((k : Int) + 1)] rfl rfl HL6.out.2 (by simp [Value.oneCell']) (by omega) (by simp [maxLen]; omega) (by omega) (HSZ.out _ HT2.out.bel) _ rfl ?_
                intro g7 c7 w7 ho7 hg7 hor7 hlt7
                have ht3 := HT2.out.more (by rw [hlr]; exact ho7) hg7 hor7
                rw [hlr] at ht3
                have HT3 := Lib.hid ht3
                clear ht3
                clear ho7 hg7 hor7 hlt7
                refine hK.out _ _ trivial (fun _ => ?_)
                clear hK K
                try simp only [List.getElem_toArray, List.getElem_cons_zero, List.getElem_cons_succ, Act.put, List.setIfInBounds_toArray, List.set_cons_zero, List.set_cons_succ]
                refine wpAnyH_take (i := 14) (v := ?_) rfl (by kernel_rfl) (by kernel_rfl) (by kernel_rfl) (fun _ _ _ h => h) (Or.inl ⟨by rfl, ?_⟩) hS ?_
                rotate_left
                · intro wz hSw; (try dsimp only at hSw); go_simp; (try with_reducible rfl)
                try simp only [List.getElem_toArray, List.getElem_cons_zero, List.getElem_cons_succ, Act.put, List.setIfInBounds_toArray, List.set_cons_zero, List.set_cons_succ]
                refine wpAnyH_ready (rs := [12]) (by kernel_rfl) (by simp) (AllReadyH.cons rfl (fun K hK => ?_) AllReadyH.nil)
                go_simp
                have HT4 := Lib.hid (HT3.out.lay (.cells #[.int .i64 0, .int .i64 ((k : Int) + 1)] 43))
                have hl12 := Lay.made (w7) 0 ((k : Int) + 1)
                try simp only [World.size_alloc, World.size_drew] at hl12
                have HL12 := Lib.hid hl12
                clear hl12
                have HL6 := Lib.hid (HL6.out.below ((Below.refl _ _).alloc (Nat.le_refl _) (.cells #[.int .i64 0, .int .i64 ((k : Int) + 1)] 43)))
                refine hK.out _ _ trivial (fun _ => ?_)
                clear hK K
                try simp only [List.getElem_toArray, List.getElem_cons_zero, List.getElem_cons_succ, Act.put, List.setIfInBounds_toArray, List.set_cons_zero, List.set_cons_succ]
                refine wpAnyH_ready (rs := [13]) (by kernel_rfl) (by simp) (AllReadyH.cons rfl (fun K hK => ?_) AllReadyH.nil)
                refine step_append_lies _ rfl (.tmp 35) (.tmp 38) 22 rfl w.heap.size 43 i0 (.agg #[.int .i64 0, .int .i64 0]) 2 16 Try.underlying22 hi0 hz0 hz1 hz2 rfl (by decide) Vs k (pcells (starK k)) rfl (by have h := HT4.out.s; rw [hls] at h; exact h) ⟨_, 0, none⟩ 1 1 [.int .i64 0, .int .i64 ((k : Int) + 1)] rfl rfl HL12.out.2 (by simp [Value.oneCell']) (by omega) (by simp [maxLen]; omega) (by omega) (HSZ.out _ HT4.out.bel) _ rfl ?_
                intro g13 c13 w13 ho13 hg13 hor13 hlt13
                have ht5 := (HT4.out.swap.more (by rw [hls]; exact ho13) hg13 hor13).swap
                rw [hls] at ht5
                have HT5 := Lib.hid ht5
                clear ht5
                clear ho13 hg13 hor13 hlt13
                refine hK.out _ _ trivial (fun _ => ?_)
                clear hK K
                try simp only [List.getElem_toArray, List.getElem_cons_zero, List.getElem_cons_succ, Act.put, List.setIfInBounds_toArray, List.set_cons_zero, List.set_cons_succ]
                refine wpAnyH_ready (rs := [15]) (by kernel_rfl) (by simp) (AllReadyH.cons rfl (fun K hK => ?_) AllReadyH.nil)
                obtain ⟨_, q1, _, q2⟩ := cells_two HT5.out.gr
                go_simp
                have HT6 := Lib.hid (HT5.out.put (.slice (some ⟨g7, 0, none⟩) (k + 1) c7))
                clear q1 q2
                refine hK.out _ _ trivial (fun _ => ?_)
                clear hK K
                try simp only [List.getElem_toArray, List.getElem_cons_zero, List.getElem_cons_succ, Act.put, List.setIfInBounds_toArray, List.set_cons_zero, List.set_cons_succ]
                refine wpAnyH_take (i := 16) (v := ?_) rfl (by kernel_rfl) (by kernel_rfl) (by kernel_rfl) (fun _ _ _ h => h) (Or.inl ⟨by rfl, ?_⟩) hS ?_
                rotate_left
                · intro wz hSw; (try dsimp only at hSw); go_simp; (try with_reducible rfl)
                try simp only [List.getElem_toArray, List.getElem_cons_zero, List.getElem_cons_succ, Act.put, List.setIfInBounds_toArray, List.set_cons_zero, List.set_cons_succ]
                refine wpAnyH_ready (rs := [17]) (by kernel_rfl) (by simp) (AllReadyH.cons rfl (fun K hK => ?_) AllReadyH.nil)
                obtain ⟨_, q1, _, q2⟩ := cells_two HT6.out.gs
                go_simp
                have HT7 := Lib.hid (HT6.out.swap.put (.slice (some ⟨g13, 0, none⟩) (k + 1) c13)).swap
                clear q1 q2
                refine hK.out _ _ trivial (fun _ => ?_)
                clear hK K
                try simp only [List.getElem_toArray, List.getElem_cons_zero, List.getElem_cons_succ, Act.put, List.setIfInBounds_toArray, List.set_cons_zero, List.set_cons_succ]
                refine wpAnyH_done (by kernel_rfl) ?_ _
                go_wp2_with fail
                go_meet
                rw [rowK_snoc, starK_snoc]
                exact ⟨_, _, HT7⟩
              ·
                go_simp
                have HT3 := Lib.hid (HT2.out.lay (.cells #[.int .i64 0, .int .i64 ((k : Int) + 1)] 43))
                have hl12 := Lay.made (World.alloc (wr.drew) (.cells #[.int .i64 (k : Int), .int .i64 ((k : Int) + 1)] 43)) 0 ((k : Int) + 1)
                try simp only [World.size_alloc, World.size_drew] at hl12
                have HL12 := Lib.hid hl12
                clear hl12
                have HL6 := Lib.hid (HL6.out.below ((Below.refl _ _).alloc (Nat.le_refl _) (.cells #[.int .i64 0, .int .i64 ((k : Int) + 1)] 43)))
                refine hK.out _ _ trivial (fun _ => ?_)
                clear hK K
                try simp only [List.getElem_toArray, List.getElem_cons_zero, List.getElem_cons_succ, Act.put, List.setIfInBounds_toArray, List.set_cons_zero, List.set_cons_succ]
                refine wpAnyH_ready (rs := [7]) (by kernel_rfl) (by simp) (AllReadyH.cons rfl (fun K hK => ?_) AllReadyH.nil)
                refine step_append_lies _ rfl (.tmp 27) (.tmp 32) 22 rfl w.heap.size 43 i0 (.agg #[.int .i64 0, .int .i64 0]) 2 16 Try.underlying22 hi0 hz0 hz1 hz2 rfl (by decide) Vr k (pcells (rowK k)) rfl (by have h := HT3.out.r; rw [hlr] at h; exact h) ⟨_, 0, none⟩ 1 1 [.int .i64 (k : Int), .int .i64 ((k : Int) + 1)] rfl rfl HL6.out.2 (by simp [Value.oneCell']) (by omega) (by simp [maxLen]; omega) (by omega) (HSZ.out _ HT3.out.bel) _ rfl ?_
                intro g7 c7 w7 ho7 hg7 hor7 hlt7
                have ht4 := HT3.out.more (by rw [hlr]; exact ho7) hg7 hor7
                rw [hlr] at ht4
                have HT4 := Lib.hid ht4
                clear ht4
                have HL12 := Lib.hid (HL12.out.grown hg7 (fun e => by have h := HVR.out _ e; (try simp only [World.size_alloc, World.size_drew] at h); omega))
                clear ho7 hg7 hor7 hlt7
                refine hK.out _ _ trivial (fun _ => ?_)
                clear hK K
                try simp only [List.getElem_toArray, List.getElem_cons_zero, List.getElem_cons_succ, Act.put, List.setIfInBounds_toArray, List.set_cons_zero, List.set_cons_succ]
                refine wpAnyH_take (i := 14) (v := ?_) rfl (by kernel_rfl) (by kernel_rfl) (by kernel_rfl) (fun _ _ _ h => h) (Or.inl ⟨by rfl, ?_⟩) hS ?_
                rotate_left
                · intro wz hSw; (try dsimp only at hSw); go_simp; (try with_reducible rfl)
                try simp only [List.getElem_toArray, List.getElem_cons_zero, List.getElem_cons_succ, Act.put, List.setIfInBounds_toArray, List.set_cons_zero, List.set_cons_succ]
                refine wpAnyH_ready (rs := [13]) (by kernel_rfl) (by simp) (AllReadyH.cons rfl (fun K hK => ?_) AllReadyH.nil)
                refine step_append_lies _ rfl (.tmp 35) (.tmp 38) 22 rfl w.heap.size 43 i0 (.agg #[.int .i64 0, .int .i64 0]) 2 16 Try.underlying22 hi0 hz0 hz1 hz2 rfl (by decide) Vs k (pcells (starK k)) rfl (by have h := HT4.out.s; rw [hls] at h; exact h) ⟨_, 0, none⟩ 1 1 [.int .i64 0, .int .i64 ((k : Int) + 1)] rfl rfl HL12.out.2 (by simp [Value.oneCell']) (by omega) (by simp [maxLen]; omega) (by omega) (HSZ.out _ HT4.out.bel) _ rfl ?_
                intro g13 c13 w13 ho13 hg13 hor13 hlt13
                have ht5 := (HT4.out.swap.more (by rw [hls]; exact ho13) hg13 hor13).swap
                rw [hls] at ht5
                have HT5 := Lib.hid ht5
                clear ht5
                clear ho13 hg13 hor13 hlt13
                refine hK.out _ _ trivial (fun _ => ?_)
                clear hK K
                try simp only [List.getElem_toArray, List.getElem_cons_zero, List.getElem_cons_succ, Act.put, List.setIfInBounds_toArray, List.set_cons_zero, List.set_cons_succ]
                refine wpAnyH_ready (rs := [15]) (by kernel_rfl) (by simp) (AllReadyH.cons rfl (fun K hK => ?_) AllReadyH.nil)
                obtain ⟨_, q1, _, q2⟩ := cells_two HT5.out.gr
                go_simp
                have HT6 := Lib.hid (HT5.out.put (.slice (some ⟨g7, 0, none⟩) (k + 1) c7))
                clear q1 q2
                refine hK.out _ _ trivial (fun _ => ?_)
                clear hK K
                try simp only [List.getElem_toArray, List.getElem_cons_zero, List.getElem_cons_succ, Act.put, List.setIfInBounds_toArray, List.set_cons_zero, List.set_cons_succ]
                refine wpAnyH_take (i := 16) (v := ?_) rfl (by kernel_rfl) (by kernel_rfl) (by kernel_rfl) (fun _ _ _ h => h) (Or.inl ⟨by rfl, ?_⟩) hS ?_
                rotate_left
                · intro wz hSw; (try dsimp only at hSw); go_simp; (try with_reducible rfl)
                try simp only [List.getElem_toArray, List.getElem_cons_zero, List.getElem_cons_succ, Act.put, List.setIfInBounds_toArray, List.set_cons_zero, List.set_cons_succ]
                refine wpAnyH_ready (rs := [17]) (by kernel_rfl) (by simp) (AllReadyH.cons rfl (fun K hK => ?_) AllReadyH.nil)
                obtain ⟨_, q1, _, q2⟩ := cells_two HT6.out.gs
                go_simp
                have HT7 := Lib.hid (HT6.out.swap.put (.slice (some ⟨g13, 0, none⟩) (k + 1) c13)).swap
                clear q1 q2
                refine hK.out _ _ trivial (fun _ => ?_)
                clear hK K
                try simp only [List.getElem_toArray, List.getElem_cons_zero, List.getElem_cons_succ, Act.put, List.setIfInBounds_toArray, List.set_cons_zero, List.set_cons_succ]
                refine wpAnyH_done (by kernel_rfl) ?_ _
                go_wp2_with fail
                go_meet
                rw [rowK_snoc, starK_snoc]
                exact ⟨_, _, HT7⟩
            ·
              go_simp
              have HT3 := Lib.hid (HT2.out.lay (.cells #[.int .i64 0, .int .i64 ((k : Int) + 1)] 43))
              have hl12 := Lay.made (World.alloc (wr.drew) (.cells #[.int .i64 (k : Int), .int .i64 ((k : Int) + 1)] 43)) 0 ((k : Int) + 1)
              try simp only [World.size_alloc, World.size_drew] at hl12
              have HL12 := Lib.hid hl12
              clear hl12
              have HL6 := Lib.hid (HL6.out.below ((Below.refl _ _).alloc (Nat.le_refl _) (.cells #[.int .i64 0, .int .i64 ((k : Int) + 1)] 43)))
              refine hK.out _ _ trivial (fun _ => ?_)
              clear hK K
              try simp only [List.getElem_toArray, List.getElem_cons_zero, List.getElem_cons_succ, Act.put, List.setIfInBounds_toArray, List.set_cons_zero, List.set_cons_succ]
              refine wpAnyH_ready (rs := [7, 9]) (by kernel_rfl) (by simp) (AllReadyH.cons rfl (fun K hK => ?_) (AllReadyH.cons rfl (fun K hK => ?_) AllReadyH.nil))
              ·
                refine step_append_lies _ rfl (.tmp 27) (.tmp 32) 22 rfl w.heap.size 43 i0 (.agg #[.int .i64 0, .int .i64 0]) 2 16 Try.underlying22 hi0 hz0 hz1 hz2 rfl (by decide) Vr k (pcells (rowK k)) rfl (by have h := HT3.out.r; rw [hlr] at h; exact h) ⟨_, 0, none⟩ 1 1 [.int .i64 (k : Int), .int .i64 ((k : Int) + 1)] rfl rfl HL6.out.2 (by simp [Value.oneCell']) (by omega) (by simp [maxLen]; omega) (by omega) (HSZ.out _ HT3.out.bel) _ rfl ?_
                intro g7 c7 w7 ho7 hg7 hor7 hlt7
                have ht4 := HT3.out.more (by rw [hlr]; exact ho7) hg7 hor7
                rw [hlr] at ht4
                have HT4 := Lib.hid ht4
                clear ht4
                have HL12 := Lib.hid (HL12.out.grown hg7 (fun e => by have h := HVR.out _ e; (try simp only [World.size_alloc, World.size_drew] at h); omega))
                clear ho7 hg7 hor7 hlt7
                refine hK.out _ _ trivial (fun _ => ?_)
                clear hK K
                try simp only [List.getElem_toArray, List.getElem_cons_zero, List.getElem_cons_succ, Act.put, List.setIfInBounds_toArray, List.set_cons_zero, List.set_cons_succ]
                refine wpAnyH_take (i := 14) (v := ?_) rfl (by kernel_rfl) (by kernel_rfl) (by kernel_rfl) (fun _ _ _ h => h) (Or.inl ⟨by rfl, ?_⟩) hS ?_
                rotate_left
                · intro wz hSw; (try dsimp only at hSw); go_simp; (try with_reducible rfl)
                try simp only [List.getElem_toArray, List.getElem_cons_zero, List.getElem_cons_succ, Act.put, List.setIfInBounds_toArray, List.set_cons_zero, List.set_cons_succ]
                refine wpAnyH_ready (rs := [9]) (by kernel_rfl) (by simp) (AllReadyH.cons rfl (fun K hK => ?_) AllReadyH.nil)
                have q1 : World.cell? (w7) ⟨w.heap.size + 1, 1, none⟩ = some Vs := (cells_two HT4.out.gs).2.1
                go_simp
                clear q1
                refine hK.out _ _ trivial (fun _ => ?_)
                clear hK K
                try simp only [List.getElem_toArray, List.getElem_cons_zero, List.getElem_cons_succ, Act.put, List.setIfInBounds_toArray, List.set_cons_zero, List.set_cons_succ]
                refine wpAnyH_ready (rs := [13]) (by kernel_rfl) (by simp) (AllReadyH.cons rfl (fun K hK => ?_) AllReadyH.nil)
                refine step_append_lies _ rfl (.tmp 35) (.tmp 38) 22 rfl w.heap.size 43 i0 (.agg #[.int .i64 0, .int .i64 0]) 2 16 Try.underlying22 hi0 hz0 hz1 hz2 rfl (by decide) Vs k (pcells (starK k)) rfl (by have h := HT4.out.s; rw [hls] at h; exact h) ⟨_, 0, none⟩ 1 1 [.int .i64 0, .int .i64 ((k : Int) + 1)] rfl rfl HL12.out.2 (by simp [Value.oneCell']) (by omega) (by simp [maxLen]; omega) (by omega) (HSZ.out _ HT4.out.bel) _ rfl ?_
                intro g13 c13 w13 ho13 hg13 hor13 hlt13
                have ht5 := (HT4.out.swap.more (by rw [hls]; exact ho13) hg13 hor13).swap
                rw [hls] at ht5
                have HT5 := Lib.hid ht5
                clear ht5
                clear ho13 hg13 hor13 hlt13
                refine hK.out _ _ trivial (fun _ => ?_)
                clear hK K
                try simp only [List.getElem_toArray, List.getElem_cons_zero, List.getElem_cons_succ, Act.put, List.setIfInBounds_toArray, List.set_cons_zero, List.set_cons_succ]
                refine wpAnyH_ready (rs := [15]) (by kernel_rfl) (by simp) (AllReadyH.cons rfl (fun K hK => ?_) AllReadyH.nil)
                obtain ⟨_, q1, _, q2⟩ := cells_two HT5.out.gr
                go_simp
                have HT6 := Lib.hid (HT5.out.put (.slice (some ⟨g7, 0, none⟩) (k + 1) c7))
                clear q1 q2
                refine hK.out _ _ trivial (fun _ => ?_)
                clear hK K
                try simp only [List.getElem_toArray, List.getElem_cons_zero, List.getElem_cons_succ, Act.put, List.setIfInBounds_toArray, List.set_cons_zero, List.set_cons_succ]
                refine wpAnyH_take (i := 16) (v := ?_) rfl (by kernel_rfl) (by kernel_rfl) (by kernel_rfl) (fun _ _ _ h => h) (Or.inl ⟨by rfl, ?_⟩) hS ?_
                rotate_left
                · intro wz hSw; (try dsimp only at hSw); go_simp; (try with_reducible rfl)
                try simp only [List.getElem_toArray, List.getElem_cons_zero, List.getElem_cons_succ, Act.put, List.setIfInBounds_toArray, List.set_cons_zero, List.set_cons_succ]
                refine wpAnyH_ready (rs := [17]) (by kernel_rfl) (by simp) (AllReadyH.cons rfl (fun K hK => ?_) AllReadyH.nil)
                obtain ⟨_, q1, _, q2⟩ := cells_two HT6.out.gs
                go_simp
                have HT7 := Lib.hid (HT6.out.swap.put (.slice (some ⟨g13, 0, none⟩) (k + 1) c13)).swap
                clear q1 q2
                refine hK.out _ _ trivial (fun _ => ?_)
                clear hK K
                try simp only [List.getElem_toArray, List.getElem_cons_zero, List.getElem_cons_succ, Act.put, List.setIfInBounds_toArray, List.set_cons_zero, List.set_cons_succ]
                refine wpAnyH_done (by kernel_rfl) ?_ _
                go_wp2_with fail
                go_meet
                rw [rowK_snoc, starK_snoc]
                exact ⟨_, _, HT7⟩
              ·
                have q1 : World.cell? (World.alloc (World.alloc (wr) (.cells #[.int .i64 (k : Int), .int .i64 ((k : Int) + 1)] 43)) (.cells #[.int .i64 0, .int .i64 ((k : Int) + 1)] 43)) ⟨w.heap.size + 1, 1, none⟩ = some Vs := (cells_two HT3.out.gs).2.1
                go_simp
                clear q1
                refine hK.out _ _ trivial (fun _ => ?_)
                clear hK K
                try simp only [List.getElem_toArray, List.getElem_cons_zero, List.getElem_cons_succ, Act.put, List.setIfInBounds_toArray, List.set_cons_zero, List.set_cons_succ]
                refine wpAnyH_ready (rs := [7]) (by kernel_rfl) (by simp) (AllReadyH.cons rfl (fun K hK => ?_) AllReadyH.nil)
                refine step_append_lies _ rfl (.tmp 27) (.tmp 32) 22 rfl w.heap.size 43 i0 (.agg #[.int .i64 0, .int .i64 0]) 2 16 Try.underlying22 hi0 hz0 hz1 hz2 rfl (by decide) Vr k (pcells (rowK k)) rfl (by have h := HT3.out.r; rw [hlr] at h; exact h) ⟨_, 0, none⟩ 1 1 [.int .i64 (k : Int), .int .i64 ((k : Int) + 1)] rfl rfl HL6.out.2 (by simp [Value.oneCell']) (by omega) (by simp [maxLen]; omega) (by omega) (HSZ.out _ HT3.out.bel) _ rfl ?_
                intro g7 c7 w7 ho7 hg7 hor7 hlt7
                have ht4 := HT3.out.more (by rw [hlr]; exact ho7) hg7 hor7
                rw [hlr] at ht4
                have HT4 := Lib.hid ht4
                clear ht4
                have HL12 := Lib.hid (HL12.out.grown hg7 (fun e => by have h := HVR.out _ e; (try simp only [World.size_alloc, World.size_drew] at h); omega))
                clear ho7 hg7 hor7 hlt7
                refine hK.out _ _ trivial (fun _ => ?_)
                clear hK K
                try simp only [List.getElem_toArray, List.getElem_cons_zero, List.getElem_cons_succ, Act.put, List.setIfInBounds_toArray, List.set_cons_zero, List.set_cons_succ]
                refine wpAnyH_take (i := 14) (v := ?_) rfl (by kernel_rfl) (by kernel_rfl) (by kernel_rfl) (fun _ _ _ h => h) (Or.inl ⟨by rfl, ?_⟩) hS ?_
                rotate_left
                · intro wz hSw; (try dsimp only at hSw); go_simp; (try with_reducible rfl)
                try simp only [List.getElem_toArray, List.getElem_cons_zero, List.getElem_cons_succ, Act.put, List.setIfInBounds_toArray, List.set_cons_zero, List.set_cons_succ]
                refine wpAnyH_ready (rs := [13]) (by kernel_rfl) (by simp) (AllReadyH.cons rfl (fun K hK => ?_) AllReadyH.nil)
                refine step_append_lies _ rfl (.tmp 35) (.tmp 38) 22 rfl w.heap.size 43 i0 (.agg #[.int .i64 0, .int .i64 0]) 2 16 Try.underlying22 hi0 hz0 hz1 hz2 rfl (by decide) Vs k (pcells (starK k)) rfl (by have h := HT4.out.s; rw [hls] at h; exact h) ⟨_, 0, none⟩ 1 1 [.int .i64 0, .int .i64 ((k : Int) + 1)] rfl rfl HL12.out.2 (by simp [Value.oneCell']) (by omega) (by simp [maxLen]; omega) (by omega) (HSZ.out _ HT4.out.bel) _ rfl ?_
                intro g13 c13 w13 ho13 hg13 hor13 hlt13
                have ht5 := (HT4.out.swap.more (by rw [hls]; exact ho13) hg13 hor13).swap
                rw [hls] at ht5
                have HT5 := Lib.hid ht5
                clear ht5
                clear ho13 hg13 hor13 hlt13
                refine hK.out _ _ trivial (fun _ => ?_)
                clear hK K
                try simp only [List.getElem_toArray, List.getElem_cons_zero, List.getElem_cons_succ, Act.put, List.setIfInBounds_toArray, List.set_cons_zero, List.set_cons_succ]
                refine wpAnyH_ready (rs := [15]) (by kernel_rfl) (by simp) (AllReadyH.cons rfl (fun K hK => ?_) AllReadyH.nil)
                obtain ⟨_, q1, _, q2⟩ := cells_two HT5.out.gr
                go_simp
                have HT6 := Lib.hid (HT5.out.put (.slice (some ⟨g7, 0, none⟩) (k + 1) c7))
                clear q1 q2
                refine hK.out _ _ trivial (fun _ => ?_)
                clear hK K
                try simp only [List.getElem_toArray, List.getElem_cons_zero, List.getElem_cons_succ, Act.put, List.setIfInBounds_toArray, List.set_cons_zero, List.set_cons_succ]
                refine wpAnyH_take (i := 16) (v := ?_) rfl (by kernel_rfl) (by kernel_rfl) (by kernel_rfl) (fun _ _ _ h => h) (Or.inl ⟨by rfl, ?_⟩) hS ?_
                rotate_left
                · intro wz hSw; (try dsimp only at hSw); go_simp; (try with_reducible rfl)
                try simp only [List.getElem_toArray, List.getElem_cons_zero, List.getElem_cons_succ, Act.put, List.setIfInBounds_toArray, List.set_cons_zero, List.set_cons_succ]
                refine wpAnyH_ready (rs := [17]) (by kernel_rfl) (by simp) (AllReadyH.cons rfl (fun K hK => ?_) AllReadyH.nil)
                obtain ⟨_, q1, _, q2⟩ := cells_two HT6.out.gs
                go_simp
                have HT7 := Lib.hid (HT6.out.swap.put (.slice (some ⟨g13, 0, none⟩) (k + 1) c13)).swap
                clear q1 q2
                refine hK.out _ _ trivial (fun _ => ?_)
                clear hK K
                try simp only [List.getElem_toArray, List.getElem_cons_zero, List.getElem_cons_succ, Act.put, List.setIfInBounds_toArray, List.set_cons_zero, List.set_cons_succ]
                refine wpAnyH_done (by kernel_rfl) ?_ _
                go_wp2_with fail
                go_meet
                rw [rowK_snoc, starK_snoc]
                exact ⟨_, _, HT7⟩
          ·
            have q1 : World.cell? (wr) ⟨w.heap.size + 1, 1, none⟩ = some Vs := (cells_two HT1.out.gs).2.1
            go_simp
            clear q1
            refine hK.out _ _ trivial (fun _ => ?_)
            clear hK K
            try simp only [List.getElem_toArray, List.getElem_cons_zero, List.getElem_cons_succ, Act.put, List.setIfInBounds_toArray, List.set_cons_zero, List.set_cons_succ]
            refine wpAnyH_ready (rs := [6, 12]) (by kernel_rfl) (by simp) (AllReadyH.cons rfl (fun K hK => ?_) (AllReadyH.cons rfl (fun K hK => ?_) AllReadyH.nil))
            ·
              go_simp
              have HT2 := Lib.hid (HT1.out.lay (.cells #[.int .i64 (k : Int), .int .i64 ((k : Int) + 1)] 43))
              have hl6 := Lay.made (wr.drew) (k : Int) ((k : Int) + 1)
              try simp only [World.size_alloc, World.size_drew] at hl6
              have HL6 := Lib.hid hl6
              clear hl6
              refine hK.out _ _ trivial (fun _ => ?_)
              clear hK K
              try simp only [List.getElem_toArray, List.getElem_cons_zero, List.getElem_cons_succ, Act.put, List.setIfInBounds_toArray, List.set_cons_zero, List.set_cons_succ]
              refine wpAnyH_ready (rs := [7, 12]) (by kernel_rfl) (by simp) (AllReadyH.cons rfl (fun K hK => ?_) (AllReadyH.cons rfl (fun K hK => ?_) AllReadyH.nil))
              ·
                refine step_append_lies _ rfl (.tmp 27) (.tmp 32) 22 rfl w.heap.size 43 i0 (.agg #[.int .i64 0, .int .i64 0]) 2 16 Try.underlying22 hi0 hz0 hz1 hz2 rfl (by decide) Vr k (pcells (rowK k)) rfl (by have h := HT2.out.r; rw [hlr] at h; exact h) ⟨_, 0, none⟩ 1 1 [.int .i64 (k : Int), .int .i64 ((k : Int) + 1)] rfl rfl HL6.out.2 (by simp [Value.oneCell']) (by omega) (by simp [maxLen]; omega) (by omega) (HSZ.out _ HT2.out.bel) _ rfl ?_
                intro g7 c7 w7 ho7 hg7 hor7 hlt7
                have ht3 := HT2.out.more (by rw [hlr]; exact ho7) hg7 hor7
                rw [hlr] at ht3
                have HT3 := Lib.hid ht3
                clear ht3
                clear ho7 hg7 hor7 hlt7
                refine hK.out _ _ trivial (fun _ => ?_)
                clear hK K
                try simp only [List.getElem_toArray, List.getElem_cons_zero, List.getElem_cons_succ, Act.put, List.setIfInBounds_toArray, List.set_cons_zero, List.set_cons_succ]
                refine wpAnyH_take (i := 14) (v := ?_) rfl (by kernel_rfl) (by kernel_rfl) (by kernel_rfl) (fun _ _ _ h => h) (Or.inl ⟨by rfl, ?_⟩) hS ?_
                rotate_left
                · intro wz hSw; (try dsimp only at hSw); go_simp; (try with_reducible rfl)
                try simp only [List.getElem_toArray, List.getElem_cons_zero, List.getElem_cons_succ, Act.put, List.setIfInBounds_toArray, List.set_cons_zero, List.set_cons_succ]
                refine wpAnyH_ready (rs := [12]) (by kernel_rfl) (by simp) (AllReadyH.cons rfl (fun K hK => ?_) AllReadyH.nil)
                go_simp
                have HT4 := Lib.hid (HT3.out.lay (.cells #[.int .i64 0, .int .i64 ((k : Int) + 1)] 43))
                have hl12 := Lay.made (w7) 0 ((k : Int) + 1)
                try simp only [World.size_alloc, World.size_drew] at hl12
                have HL12 := Lib.hid hl12
                clear hl12
                have HL6 := Lib.hid (HL6.out.below ((Below.refl _ _).alloc (Nat.le_refl _) (.cells #[.int .i64 0, .int .i64 ((k : Int) + 1)] 43)))
                refine hK.out _ _ trivial (fun _ => ?_)
                clear hK K
                try simp only [List.getElem_toArray, List.getElem_cons_zero, List.getElem_cons_succ, Act.put, List.setIfInBounds_toArray, List.set_cons_zero, List.set_cons_succ]
                refine wpAnyH_ready (rs := [13]) (by kernel_rfl) (by simp) (AllReadyH.cons rfl (fun K hK => ?_) AllReadyH.nil)
                refine step_append_lies _ rfl (.tmp 35) (.tmp 38) 22 rfl w.heap.size 43 i0 (.agg #[.int .i64 0, .int .i64 0]) 2 16 Try.underlying22 hi0 hz0 hz1 hz2 rfl (by decide) Vs k (pcells (starK k)) rfl (by have h := HT4.out.s; rw [hls] at h; exact h) ⟨_, 0, none⟩ 1 1 [.int .i64 0, .int .i64 ((k : Int) + 1)] rfl rfl HL12.out.2 (by simp [Value.oneCell']) (by omega) (by simp [maxLen]; omega) (by omega) (HSZ.out _ HT4.out.bel) _ rfl ?_
                intro g13 c13 w13 ho13 hg13 hor13 hlt13
                have ht5 := (HT4.out.swap.more (by rw [hls]; exact ho13) hg13 hor13).swap
                rw [hls] at ht5
                have HT5 := Lib.hid ht5
                clear ht5
                clear ho13 hg13 hor13 hlt13
                refine hK.out _ _ trivial (fun _ => ?_)
                clear hK K
                try simp only [List.getElem_toArray, List.getElem_cons_zero, List.getElem_cons_succ, Act.put, List.setIfInBounds_toArray, List.set_cons_zero, List.set_cons_succ]
                refine wpAnyH_ready (rs := [15]) (by kernel_rfl) (by simp) (AllReadyH.cons rfl (fun K hK => ?_) AllReadyH.nil)
                obtain ⟨_, q1, _, q2⟩ := cells_two HT5.out.gr
                go_simp
                have HT6 := Lib.hid (HT5.out.put (.slice (some ⟨g7, 0, none⟩) (k + 1) c7))
                clear q1 q2
                refine hK.out _ _ trivial (fun _ => ?_)
                clear hK K
                try simp only [List.getElem_toArray, List.getElem_cons_zero, List.getElem_cons_succ, Act.put, List.setIfInBounds_toArray, List.set_cons_zero, List.set_cons_succ]
                refine wpAnyH_take (i := 16) (v := ?_) rfl (by kernel_rfl) (by kernel_rfl) (by kernel_rfl) (fun _ _ _ h => h) (Or.inl ⟨by rfl, ?_⟩) hS ?_
                rotate_left
                · intro wz hSw; (try dsimp only at hSw); go_simp; (try with_reducible rfl)
                try simp only [List.getElem_toArray, List.getElem_cons_zero, List.getElem_cons_succ, Act.put, List.setIfInBounds_toArray, List.set_cons_zero, List.set_cons_succ]
                refine wpAnyH_ready (rs := [17]) (by kernel_rfl) (by simp) (AllReadyH.cons rfl (fun K hK => ?_) AllReadyH.nil)
                obtain ⟨_, q1, _, q2⟩ := cells_two HT6.out.gs
                go_simp
                have HT7 := Lib.hid (HT6.out.swap.put (.slice (some ⟨g13, 0, none⟩) (k + 1) c13)).swap
                clear q1 q2
                refine hK.out _ _ trivial (fun _ => ?_)
                clear hK K
                try simp only [List.getElem_toArray, List.getElem_cons_zero, List.getElem_cons_succ, Act.put, List.setIfInBounds_toArray, List.set_cons_zero, List.set_cons_succ]
                refine wpAnyH_done (by kernel_rfl) ?_ _
                go_wp2_with fail
                go_meet
                rw [rowK_snoc, starK_snoc]
                exact ⟨_, _, HT7⟩
              ·
                go_simp
                have HT3 := Lib.hid (HT2.out.lay (.cells #[.int .i64 0, .int .i64 ((k : Int) + 1)] 43))
                have hl12 := Lay.made (World.alloc (wr.drew) (.cells #[.int .i64 (k : Int), .int .i64 ((k : Int) + 1)] 43)) 0 ((k : Int) + 1)
                try simp only [World.size_alloc, World.size_drew] at hl12
                have HL12 := Lib.hid hl12
                clear hl12
                have HL6 := Lib.hid (HL6.out.below ((Below.refl _ _).alloc (Nat.le_refl _) (.cells #[.int .i64 0, .int .i64 ((k : Int) + 1)] 43)))
                refine hK.out _ _ trivial (fun _ => ?_)
                clear hK K
                try simp only [List.getElem_toArray, List.getElem_cons_zero, List.getElem_cons_succ, Act.put, List.setIfInBounds_toArray, List.set_cons_zero, List.set_cons_succ]
                refine wpAnyH_ready (rs := [7]) (by kernel_rfl) (by simp) (AllReadyH.cons rfl (fun K hK => ?_) AllReadyH.nil)
                refine step_append_lies _ rfl (.tmp 27) (.tmp 32) 22 rfl w.heap.size 43 i0 (.agg #[.int .i64 0, .int .i64 0]) 2 16 Try.underlying22 hi0 hz0 hz1 hz2 rfl (by decide) Vr k (pcells (rowK k)) rfl (by have h := HT3.out.r; rw [hlr] at h; exact h) ⟨_, 0, none⟩ 1 1 [.int .i64 (k : Int), .int .i64 ((k : Int) + 1)] rfl rfl HL6.out.2 (by simp [Value.oneCell']) (by omega) (by simp [maxLen]; omega) (by omega) (HSZ.out _ HT3.out.bel) _ rfl ?_
                intro g7 c7 w7 ho7 hg7 hor7 hlt7
                have ht4 := HT3.out.more (by rw [hlr]; exact ho7) hg7 hor7
                rw [hlr] at ht4
                have HT4 := Lib.hid ht4
                clear ht4
                have HL12 := Lib.hid (HL12.out.grown hg7 (fun e => by have h := HVR.out _ e; (try simp only [World.size_alloc, World.size_drew] at h); omega))
                clear ho7 hg7 hor7 hlt7
                refine hK.out _ _ trivial (fun _ => ?_)
                clear hK K
                try simp only [List.getElem_toArray, List.getElem_cons_zero, List.getElem_cons_succ, Act.put, List.setIfInBounds_toArray, List.set_cons_zero, List.set_cons_succ]
                refine wpAnyH_take (i := 14) (v := ?_) rfl (by kernel_rfl) (by kernel_rfl) (by kernel_rfl) (fun _ _ _ h => h) (Or.inl ⟨by rfl, ?_⟩) hS ?_
                rotate_left
                · intro wz hSw; (try dsimp only at hSw); go_simp; (try with_reducible rfl)
                try simp only [List.getElem_toArray, List.getElem_cons_zero, List.getElem_cons_succ, Act.put, List.setIfInBounds_toArray, List.set_cons_zero, List.set_cons_succ]
                refine wpAnyH_ready (rs := [13]) (by kernel_rfl) (by simp) (AllReadyH.cons rfl (fun K hK => ?_) AllReadyH.nil)
                refine step_append_lies _ rfl (.tmp 35) (.tmp 38) 22 rfl w.heap.size 43 i0 (.agg #[.int .i64 0, .int .i64 0]) 2 16 Try.underlying22 hi0 hz0 hz1 hz2 rfl (by decide) Vs k (pcells (starK k)) rfl (by have h := HT4.out.s; rw [hls] at h; exact h) ⟨_, 0, none⟩ 1 1 [.int .i64 0, .int .i64 ((k : Int) + 1)] rfl rfl HL12.out.2 (by simp [Value.oneCell']) (by omega) (by simp [maxLen]; omega) (by omega) (HSZ.out _ HT4.out.bel) _ rfl ?_
                intro g13 c13 w13 ho13 hg13 hor13 hlt13
                have ht5 := (HT4.out.swap.more (by rw [hls]; exact ho13) hg13 hor13).swap
                rw [hls] at ht5
                have HT5 := Lib.hid ht5
                clear ht5
                clear ho13 hg13 hor13 hlt13
                refine hK.out _ _ trivial (fun _ => ?_)
                clear hK K
                try simp only [List.getElem_toArray, List.getElem_cons_zero, List.getElem_cons_succ, Act.put, List.setIfInBounds_toArray, List.set_cons_zero, List.set_cons_succ]
                refine wpAnyH_ready (rs := [15]) (by kernel_rfl) (by simp) (AllReadyH.cons rfl (fun K hK => ?_) AllReadyH.nil)
                obtain ⟨_, q1, _, q2⟩ := cells_two HT5.out.gr
                go_simp
                have HT6 := Lib.hid (HT5.out.put (.slice (some ⟨g7, 0, none⟩) (k + 1) c7))
                clear q1 q2
                refine hK.out _ _ trivial (fun _ => ?_)
                clear hK K
                try simp only [List.getElem_toArray, List.getElem_cons_zero, List.getElem_cons_succ, Act.put, List.setIfInBounds_toArray, List.set_cons_zero, List.set_cons_succ]
                refine wpAnyH_take (i := 16) (v := ?_) rfl (by kernel_rfl) (by kernel_rfl) (by kernel_rfl) (fun _ _ _ h => h) (Or.inl ⟨by rfl, ?_⟩) hS ?_
                rotate_left
                · intro wz hSw; (try dsimp only at hSw); go_simp; (try with_reducible rfl)
                try simp only [List.getElem_toArray, List.getElem_cons_zero, List.getElem_cons_succ, Act.put, List.setIfInBounds_toArray, List.set_cons_zero, List.set_cons_succ]
                refine wpAnyH_ready (rs := [17]) (by kernel_rfl) (by simp) (AllReadyH.cons rfl (fun K hK => ?_) AllReadyH.nil)
                obtain ⟨_, q1, _, q2⟩ := cells_two HT6.out.gs
                go_simp
                have HT7 := Lib.hid (HT6.out.swap.put (.slice (some ⟨g13, 0, none⟩) (k + 1) c13)).swap
                clear q1 q2
                refine hK.out _ _ trivial (fun _ => ?_)
                clear hK K
                try simp only [List.getElem_toArray, List.getElem_cons_zero, List.getElem_cons_succ, Act.put, List.setIfInBounds_toArray, List.set_cons_zero, List.set_cons_succ]
                refine wpAnyH_done (by kernel_rfl) ?_ _
                go_wp2_with fail
                go_meet
                rw [rowK_snoc, starK_snoc]
                exact ⟨_, _, HT7⟩
            ·
              go_simp
              have HT2 := Lib.hid (HT1.out.lay (.cells #[.int .i64 0, .int .i64 ((k : Int) + 1)] 43))
              have hl12 := Lay.made (wr.drew) 0 ((k : Int) + 1)
              try simp only [World.size_alloc, World.size_drew] at hl12
              have HL12 := Lib.hid hl12
              clear hl12
              refine hK.out _ _ trivial (fun _ => ?_)
              clear hK K
              try simp only [List.getElem_toArray, List.getElem_cons_zero, List.getElem_cons_succ, Act.put, List.setIfInBounds_toArray, List.set_cons_zero, List.set_cons_succ]
              refine wpAnyH_ready (rs := [6]) (by kernel_rfl) (by simp) (AllReadyH.cons rfl (fun K hK => ?_) AllReadyH.nil)
              go_simp
              have HT3 := Lib.hid (HT2.out.lay (.cells #[.int .i64 (k : Int), .int .i64 ((k : Int) + 1)] 43))
              have hl6 := Lay.made (World.alloc (wr.drew) (.cells #[.int .i64 0, .int .i64 ((k : Int) + 1)] 43)) (k : Int) ((k : Int) + 1)
              try simp only [World.size_alloc, World.size_drew] at hl6
              have HL6 := Lib.hid hl6
              clear hl6
              have HL12 := Lib.hid (HL12.out.below ((Below.refl _ _).alloc (Nat.le_refl _) (.cells #[.int .i64 (k : Int), .int .i64 ((k : Int) + 1)] 43)))
              refine hK.out _ _ trivial (fun _ => ?_)
              clear hK K
              try simp only [List.getElem_toArray, List.getElem_cons_zero, List.getElem_cons_succ, Act.put, List.setIfInBounds_toArray, List.set_cons_zero, List.set_cons_succ]
              refine wpAnyH_ready (rs := [7]) (by kernel_rfl) (by simp) (AllReadyH.cons rfl (fun K hK => ?_) AllReadyH.nil)
              refine step_append_lies _ rfl (.tmp 27) (.tmp 32) 22 rfl w.heap.size 43 i0 (.agg #[.int .i64 0, .int .i64 0]) 2 16 Try.underlying22 hi0 hz0 hz1 hz2 rfl (by decide) Vr k (pcells (rowK k)) rfl (by have h := HT3.out.r; rw [hlr] at h; exact h) ⟨_, 0, none⟩ 1 1 [.int .i64 (k : Int), .int .i64 ((k : Int) + 1)] rfl rfl HL6.out.2 (by simp [Value.oneCell']) (by omega) (by simp [maxLen]; omega) (by omega) (HSZ.out _ HT3.out.bel) _ rfl ?_
              intro g7 c7 w7 ho7 hg7 hor7 hlt7
              have ht4 := HT3.out.more (by rw [hlr]; exact ho7) hg7 hor7
              rw [hlr] at ht4
              have HT4 := Lib.hid ht4
              clear ht4
              have HL12 := Lib.hid (HL12.out.grown hg7 (fun e => by have h := HVR.out _ e; (try simp only [World.size_alloc, World.size_drew] at h); omega))
              clear ho7 hg7 hor7 hlt7
              refine hK.out _ _ trivial (fun _ => ?_)
              clear hK K
              try simp only [List.getElem_toArray, List.getElem_cons_zero, List.getElem_cons_succ, Act.put, List.setIfInBounds_toArray, List.set_cons_zero, List.set_cons_succ]
              refine wpAnyH_take (i := 14) (v := ?_) rfl (by kernel_rfl) (by kernel_rfl) (by kernel_rfl) (fun _ _ _ h => h) (Or.inl ⟨by rfl, ?_⟩) hS ?_
              rotate_left
              · intro wz hSw; (try dsimp only at hSw); go_simp; (try with_reducible rfl)
              try simp only [List.getElem_toArray, List.getElem_cons_zero, List.getElem_cons_succ, Act.put, List.setIfInBounds_toArray, List.set_cons_zero, List.set_cons_succ]
              refine wpAnyH_ready (rs := [13]) (by kernel_rfl) (by simp) (AllReadyH.cons rfl (fun K hK => ?_) AllReadyH.nil)
              refine step_append_lies _ rfl (.tmp 35) (.tmp 38) 22 rfl w.heap.size 43 i0 (.agg #[.int .i64 0, .int .i64 0]) 2 16 Try.underlying22 hi0 hz0 hz1 hz2 rfl (by decide) Vs k (pcells (starK k)) rfl (by have h := HT4.out.s; rw [hls] at h; exact h) ⟨_, 0, none⟩ 1 1 [.int .i64 0, .int .i64 ((k : Int) + 1)] rfl rfl HL12.out.2 (by simp [Value.oneCell']) (by omega) (by simp [maxLen]; omega) (by omega) (HSZ.out _ HT4.out.bel) _ rfl ?_
              intro g13 c13 w13 ho13 hg13 hor13 hlt13
              have ht5 := (HT4.out.swap.more (by rw [hls]; exact ho13) hg13 hor13).swap
              rw [hls] at ht5
              have HT5 := Lib.hid ht5
              clear ht5
              clear ho13 hg13 hor13 hlt13
              refine hK.out _ _ trivial (fun _ => ?_)
              clear hK K
              try simp only [List.getElem_toArray, List.getElem_cons_zero, List.getElem_cons_succ, Act.put, List.setIfInBounds_toArray, List.set_cons_zero, List.set_cons_succ]
              refine wpAnyH_ready (rs := [15]) (by kernel_rfl) (by simp) (AllReadyH.cons rfl (fun K hK => ?_) AllReadyH.nil)
              obtain ⟨_, q1, _, q2⟩ := cells_two HT5.out.gr
              go_simp
              have HT6 := Lib.hid (HT5.out.put (.slice (some ⟨g7, 0, none⟩) (k + 1) c7))
              clear q1 q2
              refine hK.out _ _ trivial (fun _ => ?_)
              clear hK K
              try simp only [List.getElem_toArray, List.getElem_cons_zero, List.getElem_cons_succ, Act.put, List.setIfInBounds_toArray, List.set_cons_zero, List.set_cons_succ]
              refine wpAnyH_take (i := 16) (v := ?_) rfl (by kernel_rfl) (by kernel_rfl) (by kernel_rfl) (fun _ _ _ h => h) (Or.inl ⟨by rfl, ?_⟩) hS ?_
              rotate_left
              · intro wz hSw; (try dsimp only at hSw); go_simp; (try with_reducible rfl)
              try simp only [List.getElem_toArray, List.getElem_cons_zero, List.getElem_cons_succ, Act.put, List.setIfInBounds_toArray, List.set_cons_zero, List.set_cons_succ]
              refine wpAnyH_ready (rs := [17]) (by kernel_rfl) (by simp) (AllReadyH.cons rfl (fun K hK => ?_) AllReadyH.nil)
              obtain ⟨_, q1, _, q2⟩ := cells_two HT6.out.gs
              go_simp
              have HT7 := Lib.hid (HT6.out.swap.put (.slice (some ⟨g13, 0, none⟩) (k + 1) c13)).swap
              clear q1 q2
              refine hK.out _ _ trivial (fun _ => ?_)
              clear hK K
              try simp only [List.getElem_toArray, List.getElem_cons_zero, List.getElem_cons_succ, Act.put, List.setIfInBounds_toArray, List.set_cons_zero, List.set_cons_succ]
              refine wpAnyH_done (by kernel_rfl) ?_ _
              go_wp2_with fail
              go_meet
              rw [rowK_snoc, starK_snoc]
              exact ⟨_, _, HT7⟩
          ·
            go_simp
            have HT2 := Lib.hid (HT1.out.lay (.cells #[.int .i64 0, .int .i64 ((k : Int) + 1)] 43))
            have hl12 := Lay.made (wr.drew) 0 ((k : Int) + 1)
            try simp only [World.size_alloc, World.size_drew] at hl12
            have HL12 := Lib.hid hl12
            clear hl12
            refine hK.out _ _ trivial (fun _ => ?_)
            clear hK K
            try simp only [List.getElem_toArray, List.getElem_cons_zero, List.getElem_cons_succ, Act.put, List.setIfInBounds_toArray, List.set_cons_zero, List.set_cons_succ]
            refine wpAnyH_ready (rs := [6, 9]) (by kernel_rfl) (by simp) (AllReadyH.cons rfl (fun K hK => ?_) (AllReadyH.cons rfl (fun K hK => ?_) AllReadyH.nil))
            ·
              go_simp
              have HT3 := Lib.hid (HT2.out.lay (.cells #[.int .i64 (k : Int), .int .i64 ((k : Int) + 1)] 43))
              have hl6 := Lay.made (World.alloc (wr.drew) (.cells #[.int .i64 0, .int .i64 ((k : Int) + 1)] 43)) (k : Int) ((k : Int) + 1)
              try simp only [World.size_alloc, World.size_drew] at hl6
              have HL6 := Lib.hid hl6
              clear hl6
              have HL12 := Lib.hid (HL12.out.below ((Below.refl _ _).alloc (Nat.le_refl _) (.cells #[.int .i64 (k : Int), .int .i64 ((k : Int) + 1)] 43)))
              refine hK.out _ _ trivial (fun _ => ?_)
              clear hK K
              try simp only [List.getElem_toArray, List.getElem_cons_zero, List.getElem_cons_succ, Act.put, List.setIfInBounds_toArray, List.set_cons_zero, List.set_cons_succ]
              refine wpAnyH_ready (rs := [7, 9]) (by kernel_rfl) (by simp) (AllReadyH.cons rfl (fun K hK => ?_) (AllReadyH.cons rfl (fun K hK => ?_) AllReadyH.nil))
              ·
                refine step_append_lies _ rfl (.tmp 27) (.tmp 32) 22 rfl w.heap.size 43 i0 (.agg #[.int .i64 0, .int .i64 0]) 2 16 Try.underlying22 hi0 hz0 hz1 hz2 rfl (by decide) Vr k (pcells (rowK k)) rfl (by have h := HT3.out.r; rw [hlr] at h; exact h) ⟨_, 0, none⟩ 1 1 [.int .i64 (k : Int), .int .i64 ((k : Int) + 1)] rfl rfl HL6.out.2 (by simp [Value.oneCell']) (by omega) (by simp [maxLen]; omega) (by omega) (HSZ.out _ HT3.out.bel) _ rfl ?_
                intro g7 c7 w7 ho7 hg7 hor7 hlt7
                have ht4 := HT3.out.more (by rw [hlr]; exact ho7) hg7 hor7
                rw [hlr] at ht4
                have HT4 := Lib.hid ht4
                clear ht4
                have HL12 := Lib.hid (HL12.out.grown hg7 (fun e => by have h := HVR.out _ e; (try simp only [World.size_alloc, World.size_drew] at h); omega))
                clear ho7 hg7 hor7 hlt7
                refine hK.out _ _ trivial (fun _ => ?_)
                clear hK K
                try simp only [List.getElem_toArray, List.getElem_cons_zero, List.getElem_cons_succ, Act.put, List.setIfInBounds_toArray, List.set_cons_zero, List.set_cons_succ]
                refine wpAnyH_take (i := 14) (v := ?_) rfl (by kernel_rfl) (by kernel_rfl) (by kernel_rfl) (fun _ _ _ h => h) (Or.inl ⟨by rfl, ?_⟩) hS ?_
                rotate_left
                · intro wz hSw; (try dsimp only at hSw); go_simp; (try with_reducible rfl)
                try simp only [List.getElem_toArray, List.getElem_cons_zero, List.getElem_cons_succ, Act.put, List.setIfInBounds_toArray, List.set_cons_zero, List.set_cons_succ]
                refine wpAnyH_ready (rs := [9]) (by kernel_rfl) (by simp) (AllReadyH.cons rfl (fun K hK => ?_) AllReadyH.nil)
                have q1 : World.cell? (w7) ⟨w.heap.size + 1, 1, none⟩ = some Vs := (cells_two HT4.out.gs).2.1
                go_simp
                clear q1
                refine hK.out _ _ trivial (fun _ => ?_)
                clear hK K
                try simp only [List.getElem_toArray, List.getElem_cons_zero, List.getElem_cons_succ, Act.put, List.setIfInBounds_toArray, List.set_cons_zero, List.set_cons_succ]
                refine wpAnyH_ready (rs := [13]) (by kernel_rfl) (by simp) (AllReadyH.cons rfl (fun K hK => ?_) AllReadyH.nil)
                refine step_append_lies _ rfl (.tmp 35) (.tmp 38) 22 rfl w.heap.size 43 i0 (.agg #[.int .i64 0, .int .i64 0]) 2 16 Try.underlying22 hi0 hz0 hz1 hz2 rfl (by decide) Vs k (pcells (starK k)) rfl (by have h := HT4.out.s; rw [hls] at h; exact h) ⟨_, 0, none⟩ 1 1 [.int .i64 0, .int .i64 ((k : Int) + 1)] rfl rfl HL12.out.2 (by simp [Value.oneCell']) (by omega) (by simp [maxLen]; omega) (by omega) (HSZ.out _ HT4.out.bel) _ rfl ?_
                intro g13 c13 w13 ho13 hg13 hor13 hlt13
                have ht5 := (HT4.out.swap.more (by rw [hls]; exact ho13) hg13 hor13).swap
                rw [hls] at ht5
                have HT5 := Lib.hid ht5
                clear ht5
                clear ho13 hg13 hor13 hlt13
                refine hK.out _ _ trivial (fun _ => ?_)
                clear hK K
                try simp only [List.getElem_toArray, List.getElem_cons_zero, List.getElem_cons_succ, Act.put, List.setIfInBounds_toArray, List.set_cons_zero, List.set_cons_succ]
                refine wpAnyH_ready (rs := [15]) (by kernel_rfl) (by simp) (AllReadyH.cons rfl (fun K hK => ?_) AllReadyH.nil)
                obtain ⟨_, q1, _, q2⟩ := cells_two HT5.out.gr
                go_simp
                have HT6 := Lib.hid (HT5.out.put (.slice (some ⟨g7, 0, none⟩) (k + 1) c7))
                clear q1 q2
                refine hK.out _ _ trivial (fun _ => ?_)
                clear hK K
                try simp only [List.getElem_toArray, List.getElem_cons_zero, List.getElem_cons_succ, Act.put, List.setIfInBounds_toArray, List.set_cons_zero, List.set_cons_succ]
                refine wpAnyH_take (i := 16) (v := ?_) rfl (by kernel_rfl) (by kernel_rfl) (by kernel_rfl) (fun _ _ _ h => h) (Or.inl ⟨by rfl, ?_⟩) hS ?_
                rotate_left
                · intro wz hSw; (try dsimp only at hSw); go_simp; (try with_reducible rfl)
                try simp only [List.getElem_toArray, List.getElem_cons_zero, List.getElem_cons_succ, Act.put, List.setIfInBounds_toArray, List.set_cons_zero, List.set_cons_succ]
                refine wpAnyH_ready (rs := [17]) (by kernel_rfl) (by simp) (AllReadyH.cons rfl (fun K hK => ?_) AllReadyH.nil)
                obtain ⟨_, q1, _, q2⟩ := cells_two HT6.out.gs
                go_simp
                have HT7 := Lib.hid (HT6.out.swap.put (.slice (some ⟨g13, 0, none⟩) (k + 1) c13)).swap
                clear q1 q2
                refine hK.out _ _ trivial (fun _ => ?_)
                clear hK K
                try simp only [List.getElem_toArray, List.getElem_cons_zero, List.getElem_cons_succ, Act.put, List.setIfInBounds_toArray, List.set_cons_zero, List.set_cons_succ]
                refine wpAnyH_done (by kernel_rfl) ?_ _
                go_wp2_with fail
                go_meet
                rw [rowK_snoc, starK_snoc]
                exact ⟨_, _, HT7⟩
              ·
                have q1 : World.cell? (World.alloc (World.alloc (wr) (.cells #[.int .i64 0, .int .i64 ((k : Int) + 1)] 43)) (.cells #[.int .i64 (k : Int), .int .i64 ((k : Int) + 1)] 43)) ⟨w.heap.size + 1, 1, none⟩ = some Vs := (cells_two HT3.out.gs).2.1
                go_simp
                clear q1
                refine hK.out _ _ trivial (fun _ => ?_)
                clear hK K
                try simp only [List.getElem_toArray, List.getElem_cons_zero, List.getElem_cons_succ, Act.put, List.setIfInBounds_toArray, List.set_cons_zero, List.set_cons_succ]
                refine wpAnyH_ready (rs := [7]) (by kernel_rfl) (by simp) (AllReadyH.cons rfl (fun K hK => ?_) AllReadyH.nil)
                refine step_append_lies _ rfl (.tmp 27) (.tmp 32) 22 rfl w.heap.size 43 i0 (.agg #[.int .i64 0, .int .i64 0]) 2 16 Try.underlying22 hi0 hz0 hz1 hz2 rfl (by decide) Vr k (pcells (rowK k)) rfl (by have h := HT3.out.r; rw [hlr] at h; exact h) ⟨_, 0, none⟩ 1 1 [.int .i64 (k : Int), .int .i64 ((k : Int) + 1)] rfl rfl HL6.out.2 (by simp [Value.oneCell']) (by omega) (by simp [maxLen]; omega) (by omega) (HSZ.out _ HT3.out.bel) _ rfl ?_
                intro g7 c7 w7 ho7 hg7 hor7 hlt7
                have ht4 := HT3.out.more (by rw [hlr]; exact ho7) hg7 hor7
                rw [hlr] at ht4
                have HT4 := Lib.hid ht4
                clear ht4
                have HL12 := Lib.hid (HL12.out.grown hg7 (fun e => by have h := HVR.out _ e; (try simp only [World.size_alloc, World.size_drew] at h); omega))
                clear ho7 hg7 hor7 hlt7
                refine hK.out _ _ trivial (fun _ => ?_)
                clear hK K
                try simp only [List.getElem_toArray, List.getElem_cons_zero, List.getElem_cons_succ, Act.put, List.setIfInBounds_toArray, List.set_cons_zero, List.set_cons_succ]
                refine wpAnyH_take (i := 14) (v := ?_) rfl (by kernel_rfl) (by kernel_rfl) (by kernel_rfl) (fun _ _ _ h => h) (Or.inl ⟨by rfl, ?_⟩) hS ?_
                rotate_left
                · intro wz hSw; (try dsimp only at hSw); go_simp; (try with_reducible rfl)
                try simp only [List.getElem_toArray, List.getElem_cons_zero, List.getElem_cons_succ, Act.put, List.setIfInBounds_toArray, List.set_cons_zero, List.set_cons_succ]
                refine wpAnyH_ready (rs := [13]) (by kernel_rfl) (by simp) (AllReadyH.cons rfl (fun K hK => ?_) AllReadyH.nil)
                refine step_append_lies _ rfl (.tmp 35) (.tmp 38) 22 rfl w.heap.size 43 i0 (.agg #[.int .i64 0, .int .i64 0]) 2 16 Try.underlying22 hi0 hz0 hz1 hz2 rfl (by decide) Vs k (pcells (starK k)) rfl (by have h := HT4.out.s; rw [hls] at h; exact h) ⟨_, 0, none⟩ 1 1 [.int .i64 0, .int .i64 ((k : Int) + 1)] rfl rfl HL12.out.2 (by simp [Value.oneCell']) (by omega) (by simp [maxLen]; omega) (by omega) (HSZ.out _ HT4.out.bel) _ rfl ?_
                intro g13 c13 w13 ho13 hg13 hor13 hlt13
                have ht5 := (HT4.out.swap.more (by rw [hls]; exact ho13) hg13 hor13).swap
                rw [hls] at ht5
                have HT5 := Lib.hid ht5
                clear ht5
                clear ho13 hg13 hor13 hlt13
                refine hK.out _ _ trivial (fun _ => ?_)
                clear hK K
                try simp only [List.getElem_toArray, List.getElem_cons_zero, List.getElem_cons_succ, Act.put, List.setIfInBounds_toArray, List.set_cons_zero, List.set_cons_succ]
                refine wpAnyH_ready (rs := [15]) (by kernel_rfl) (by simp) (AllReadyH.cons rfl (fun K hK => ?_) AllReadyH.nil)
                obtain ⟨_, q1, _, q2⟩ := cells_two HT5.out.gr
                go_simp
                have HT6 := Lib.hid (HT5.out.put (.slice (some ⟨g7, 0, none⟩) (k + 1) c7))
                clear q1 q2
                refine hK.out _ _ trivial (fun _ => ?_)
                clear hK K
                try simp only [List.getElem_toArray, List.getElem_cons_zero, List.getElem_cons_succ, Act.put, List.setIfInBounds_toArray, List.set_cons_zero, List.set_cons_succ]
                refine wpAnyH_take (i := 16) (v := ?_) rfl (by kernel_rfl) (by kernel_rfl) (by kernel_rfl) (fun _ _ _ h => h) (Or.inl ⟨by rfl, ?_⟩) hS ?_
                rotate_left
                · intro wz hSw; (try dsimp only at hSw); go_simp; (try with_reducible rfl)
                try simp only [List.getElem_toArray, List.getElem_cons_zero, List.getElem_cons_succ, Act.put, List.setIfInBounds_toArray, List.set_cons_zero, List.set_cons_succ]
                refine wpAnyH_ready (rs := [17]) (by kernel_rfl) (by simp) (AllReadyH.cons rfl (fun K hK => ?_) AllReadyH.nil)
                obtain ⟨_, q1, _, q2⟩ := cells_two HT6.out.gs
                go_simp
                have HT7 := Lib.hid (HT6.out.swap.put (.slice (some ⟨g13, 0, none⟩) (k + 1) c13)).swap
                clear q1 q2
                refine hK.out _ _ trivial (fun _ => ?_)
                clear hK K
                try simp only [List.getElem_toArray, List.getElem_cons_zero, List.getElem_cons_succ, Act.put, List.setIfInBounds_toArray, List.set_cons_zero, List.set_cons_succ]
                refine wpAnyH_done (by kernel_rfl) ?_ _
                go_wp2_with fail
                go_meet
                rw [rowK_snoc, starK_snoc]
                exact ⟨_, _, HT7⟩
            ·
              have q1 : World.cell? (World.alloc (wr) (.cells #[.int .i64 0, .int .i64 ((k : Int) + 1)] 43)) ⟨w.heap.size + 1, 1, none⟩ = some Vs := (cells_two HT2.out.gs).2.1
              go_simp
              clear q1
              refine hK.out _ _ trivial (fun _ => ?_)
              clear hK K
              try simp only [List.getElem_toArray, List.getElem_cons_zero, List.getElem_cons_succ, Act.put, List.setIfInBounds_toArray, List.set_cons_zero, List.set_cons_succ]
              refine wpAnyH_ready (rs := [6]) (by kernel_rfl) (by simp) (AllReadyH.cons rfl (fun K hK => ?_) AllReadyH.nil)
              go_simp
              have HT3 := Lib.hid (HT2.out.lay (.cells #[.int .i64 (k : Int), .int .i64 ((k : Int) + 1)] 43))
              have hl6 := Lay.made (World.alloc (wr.drew) (.cells #[.int .i64 0, .int .i64 ((k : Int) + 1)] 43)) (k : Int) ((k : Int) + 1)
              try simp only [World.size_alloc, World.size_drew] at hl6
              have HL6 := Lib.hid hl6
              clear hl6
              have HL12 := Lib.hid (HL12.out.below ((Below.refl _ _).alloc (Nat.le_refl _) (.cells #[.int .i64 (k : Int), .int .i64 ((k : Int) + 1)] 43)))
              refine hK.out _ _ trivial (fun _ => ?_)
              clear hK K
              try simp only [List.getElem_toArray, List.getElem_cons_zero, List.getElem_cons_succ, Act.put, List.setIfInBounds_toArray, List.set_cons_zero, List.set_cons_succ]
              refine wpAnyH_ready (rs := [7]) (by kernel_rfl) (by simp) (AllReadyH.cons rfl (fun K hK => ?_) AllReadyH.nil)
              refine step_append_lies _ rfl (.tmp 27) (.tmp 32) 22 rfl w.heap.size 43 i0 (.agg #[.int .i64 0, .int .i64 0]) 2 16 Try.underlying22 hi0 hz0 hz1 hz2 rfl (by decide) Vr k (pcells (rowK k)) rfl (by have h := HT3.out.r; rw [hlr] at h; exact h) ⟨_, 0, none⟩ 1 1 [.int .i64 (k : Int), .int .i64 ((k : Int) + 1)] rfl rfl HL6.out.2 (by simp [Value.oneCell']) (by omega) (by simp [maxLen]; omega) (by omega) (HSZ.out _ HT3.out.bel) _ rfl ?_
              intro g7 c7 w7 ho7 hg7 hor7 hlt7
              have ht4 := HT3.out.more (by rw [hlr]; exact ho7) hg7 hor7
              rw [hlr] at ht4
              have HT4 := Lib.hid ht4
              clear ht4
              have HL12 := Lib.hid (HL12.out.grown hg7 (fun e => by have h := HVR.out _ e; (try simp only [World.size_alloc, World.size_drew] at h); omega))
              clear ho7 hg7 hor7 hlt7
              refine hK.out _ _ trivial (fun _ => ?_)
              clear hK K
              try simp only [List.getElem_toArray, List.getElem_cons_zero, List.getElem_cons_succ, Act.put, List.setIfInBounds_toArray, List.set_cons_zero, List.set_cons_succ]
              refine wpAnyH_take (i := 14) (v := ?_) rfl (by kernel_rfl) (by kernel_rfl) (by kernel_rfl) (fun _ _ _ h => h) (Or.inl ⟨by rfl, ?_⟩) hS ?_
              rotate_left
              · intro wz hSw; (try dsimp only at hSw); go_simp; (try with_reducible rfl)
              try simp only [List.getElem_toArray, List.getElem_cons_zero, List.getElem_cons_succ, Act.put, List.setIfInBounds_toArray, List.set_cons_zero, List.set_cons_succ]
              refine wpAnyH_ready (rs := [13]) (by kernel_rfl) (by simp) (AllReadyH.cons rfl (fun K hK => ?_) AllReadyH.nil)
              refine step_append_lies _ rfl (.tmp 35) (.tmp 38) 22 rfl w.heap.size 43 i0 (.agg #[.int .i64 0, .int .i64 0]) 2 16 Try.underlying22 hi0 hz0 hz1 hz2 rfl (by decide) Vs k (pcells (starK k)) rfl (by have h := HT4.out.s; rw [hls] at h; exact h) ⟨_, 0, none⟩ 1 1 [.int .i64 0, .int .i64 ((k : Int) + 1)] rfl rfl HL12.out.2 (by simp [Value.oneCell']) (by omega) (by simp [maxLen]; omega) (by omega) (HSZ.out _ HT4.out.bel) _ rfl ?_
              intro g13 c13 w13 ho13 hg13 hor13 hlt13
              have ht5 := (HT4.out.swap.more (by rw [hls]; exact ho13) hg13 hor13).swap
              rw [hls] at ht5
              have HT5 := Lib.hid ht5
              clear ht5
              clear ho13 hg13 hor13 hlt13
              refine hK.out _ _ trivial (fun _ => ?_)
              clear hK K
              try simp only [List.getElem_toArray, List.getElem_cons_zero, List.getElem_cons_succ, Act.put, List.setIfInBounds_toArray, List.set_cons_zero, List.set_cons_succ]
              refine wpAnyH_ready (rs := [15]) (by kernel_rfl) (by simp) (AllReadyH.cons rfl (fun K hK => ?_) AllReadyH.nil)
              obtain ⟨_, q1, _, q2⟩ := cells_two HT5.out.gr
              go_simp
              have HT6 := Lib.hid (HT5.out.put (.slice (some ⟨g7, 0, none⟩) (k + 1) c7))
              clear q1 q2
              refine hK.out _ _ trivial (fun _ => ?_)
              clear hK K
              try simp only [List.getElem_toArray, List.getElem_cons_zero, List.getElem_cons_succ, Act.put, List.setIfInBounds_toArray, List.set_cons_zero, List.set_cons_succ]
              refine wpAnyH_take (i := 16) (v := ?_) rfl (by kernel_rfl) (by kernel_rfl) (by kernel_rfl) (fun _ _ _ h => h) (Or.inl ⟨by rfl, ?_⟩) hS ?_
              rotate_left
              · intro wz hSw; (try dsimp only at hSw); go_simp; (try with_reducible rfl)
              try simp only [List.getElem_toArray, List.getElem_cons_zero, List.getElem_cons_succ, Act.put, List.setIfInBounds_toArray, List.set_cons_zero, List.set_cons_succ]
              refine wpAnyH_ready (rs := [17]) (by kernel_rfl) (by simp) (AllReadyH.cons rfl (fun K hK => ?_) AllReadyH.nil)
              obtain ⟨_, q1, _, q2⟩ := cells_two HT6.out.gs
              go_simp
              have HT7 := Lib.hid (HT6.out.swap.put (.slice (some ⟨g13, 0, none⟩) (k + 1) c13)).swap
              clear q1 q2
              refine hK.out _ _ trivial (fun _ => ?_)
              clear hK K
              try simp only [List.getElem_toArray, List.getElem_cons_zero, List.getElem_cons_succ, Act.put, List.setIfInBounds_toArray, List.set_cons_zero, List.set_cons_succ]
              refine wpAnyH_done (by kernel_rfl) ?_ _
              go_wp2_with fail
              go_meet
              rw [rowK_snoc, starK_snoc]
              exact ⟨_, _, HT7⟩
        ·
          go_simp
          have HT2 := Lib.hid (HT1.out.lay (.cells #[.int .i64 (k : Int), .int .i64 ((k : Int) + 1)] 43))
          have hl6 := Lay.made (wr.drew) (k : Int) ((k : Int) + 1)
          try simp only [World.size_alloc, World.size_drew] at hl6
          have HL6 := Lib.hid hl6
          clear hl6
          refine hK.out _ _ trivial (fun _ => ?_)
          clear hK K
          try simp only [List.getElem_toArray, List.getElem_cons_zero, List.getElem_cons_succ, Act.put, List.setIfInBounds_toArray, List.set_cons_zero, List.set_cons_succ]
          refine wpAnyH_ready (rs := [1, 9, 12]) (by kernel_rfl) (by simp) (AllReadyH.cons rfl (fun K hK => ?_) (AllReadyH.cons rfl (fun K hK => ?_) (AllReadyH.cons rfl (fun K hK => ?_) AllReadyH.nil)))
          ·
            have q1 : World.cell? (World.alloc (wr) (.cells #[.int .i64 (k : Int), .int .i64 ((k : Int) + 1)] 43)) ⟨w.heap.size, 1, none⟩ = some Vr := (cells_two HT2.out.gr).2.1
            go_simp
            clear q1
            refine hK.out _ _ trivial (fun _ => ?_)
            clear hK K
            try simp only [List.getElem_toArray, List.getElem_cons_zero, List.getElem_cons_succ, Act.put, List.setIfInBounds_toArray, List.set_cons_zero, List.set_cons_succ]
            refine wpAnyH_ready (rs := [7, 9, 12]) (by kernel_rfl) (by simp) (AllReadyH.cons rfl (fun K hK => ?_) (AllReadyH.cons rfl (fun K hK => ?_) (AllReadyH.cons rfl (fun K hK => ?_) AllReadyH.nil)))
            ·
              refine step_append_lies _ rfl (.tmp 27) (.tmp 32) 22 rfl w.heap.size 43 i0 (.agg #[.int .i64 0, .int .i64 0]) 2 16 Try.underlying22 hi0 hz0 hz1 hz2 rfl (by decide) Vr k (pcells (rowK k)) rfl (by have h := HT2.out.r; rw [hlr] at h; exact h) ⟨_, 0, none⟩ 1 1 [.int .i64 (k : Int), .int .i64 ((k : Int) + 1)] rfl rfl HL6.out.2 (by simp [Value.oneCell']) (by omega) (by simp [maxLen]; omega) (by omega) (HSZ.out _ HT2.out.bel) _ rfl ?_
              intro g7 c7 w7 ho7 hg7 hor7 hlt7
              have ht3 := HT2.out.more (by rw [hlr]; exact ho7) hg7 hor7
              rw [hlr] at ht3
              have HT3 := Lib.hid ht3
              clear ht3
              clear ho7 hg7 hor7 hlt7
              refine hK.out _ _ trivial (fun _ => ?_)
              clear hK K
              try simp only [List.getElem_toArray, List.getElem_cons_zero, List.getElem_cons_succ, Act.put, List.setIfInBounds_toArray, List.set_cons_zero, List.set_cons_succ]
              refine wpAnyH_take (i := 14) (v := ?_) rfl (by kernel_rfl) (by kernel_rfl) (by kernel_rfl) (fun _ _ _ h => h) (Or.inl ⟨by rfl, ?_⟩) hS ?_
              rotate_left
              · intro wz hSw; (try dsimp only at hSw); go_simp; (try with_reducible rfl)
              try simp only [List.getElem_toArray, List.getElem_cons_zero, List.getElem_cons_succ, Act.put, List.setIfInBounds_toArray, List.set_cons_zero, List.set_cons_succ]
              refine wpAnyH_ready (rs := [9, 12]) (by kernel_rfl) (by simp) (AllReadyH.cons rfl (fun K hK => ?_) (AllReadyH.cons rfl (fun K hK => ?_) AllReadyH.nil))
              ·
                have q1 : World.cell? (w7) ⟨w.heap.size + 1, 1, none⟩ = some Vs := (cells_two HT3.out.gs).2.1
                go_simp
                clear q1
                refine hK.out _ _ trivial (fun _ => ?_)
                clear hK K
                try simp only [List.getElem_toArray, List.getElem_cons_zero, List.getElem_cons_succ, Act.put, List.setIfInBounds_toArray, List.set_cons_zero, List.set_cons_succ]
                refine wpAnyH_ready (rs := [12]) (by kernel_rfl) (by simp) (AllReadyH.cons rfl (fun K hK => ?_) AllReadyH.nil)
                go_simp
                have HT4 := Lib.hid (HT3.out.lay (.cells #[.int .i64 0, .int .i64 ((k : Int) + 1)] 43))
                have hl12 := Lay.made (w7) 0 ((k : Int) + 1)
                try simp only [World.size_alloc, World.size_drew] at hl12
                have HL12 := Lib.hid hl12
                clear hl12
                have HL6 := Lib.hid (HL6.out.below ((Below.refl _ _).alloc (Nat.le_refl _) (.cells #[.int .i64 0, .int .i64 ((k : Int) + 1)] 43)))
                refine hK.out _ _ trivial (fun _ => ?_)
                clear hK K
                try simp only [List.getElem_toArray, List.getElem_cons_zero, List.getElem_cons_succ, Act.put, List.setIfInBounds_toArray, List.set_cons_zero, List.set_cons_succ]
                refine wpAnyH_ready (rs := [13]) (by kernel_rfl) (by simp) (AllReadyH.cons rfl (fun K hK => ?_) AllReadyH.nil)
                refine step_append_lies _ rfl (.tmp 35) (.tmp 38) 22 rfl w.heap.size 43 i0 (.agg #[.int .i64 0, .int .i64 0]) 2 16 Try.underlying22 hi0 hz0 hz1 hz2 rfl (by decide) Vs k (pcells (starK k)) rfl (by have h := HT4.out.s; rw [hls] at h; exact h) ⟨_, 0, none⟩ 1 1 [.int .i64 0, .int .i64 ((k : Int) + 1)] rfl rfl HL12.out.2 (by simp [Value.oneCell']) (by omega) (by simp [maxLen]; omega) (by omega) (HSZ.out _ HT4.out.bel) _ rfl ?_
                intro g13 c13 w13 ho13 hg13 hor13 hlt13
                have ht5 := (HT4.out.swap.more (by rw [hls]; exact ho13) hg13 hor13).swap
                rw [hls] at ht5
                have HT5 := Lib.hid ht5
                clear ht5
                clear ho13 hg13 hor13 hlt13
                refine hK.out _ _ trivial (fun _ => ?_)
                clear hK K
                try simp only [List.getElem_toArray, List.getElem_cons_zero, List.getElem_cons_succ, Act.put, List.setIfInBounds_toArray, List.set_cons_zero, List.set_cons_succ]
                refine wpAnyH_ready (rs := [15]) (by kernel_rfl) (by simp) (AllReadyH.cons rfl (fun K hK => ?_) AllReadyH.nil)
                obtain ⟨_, q1, _, q2⟩ := cells_two HT5.out.gr
                go_simp
                have HT6 := Lib.hid (HT5.out.put (.slice (some ⟨g7, 0, none⟩) (k + 1) c7))
                clear q1 q2
                refine hK.out _ _ trivial (fun _ => ?_)
                clear hK K
                try simp only [List.getElem_toArray, List.getElem_cons_zero, List.getElem_cons_succ, Act.put, List.setIfInBounds_toArray, List.set_cons_zero, List.set_cons_succ]
                refine wpAnyH_take (i := 16) (v := ?_) rfl (by kernel_rfl) (by kernel_rfl) (by kernel_rfl) (fun _ _ _ h => h) (Or.inl ⟨by rfl, ?_⟩) hS ?_
                rotate_left
                · intro wz hSw; (try dsimp only at hSw); go_simp; (try with_reducible rfl)
                try simp only [List.getElem_toArray, List.getElem_cons_zero, List.getElem_cons_succ, Act.put, List.setIfInBounds_toArray, List.set_cons_zero, List.set_cons_succ]
                refine wpAnyH_ready (rs := [17]) (by kernel_rfl) (by simp) (AllReadyH.cons rfl (fun K hK => ?_) AllReadyH.nil)
                obtain ⟨_, q1, _, q2⟩ := cells_two HT6.out.gs
                go_simp
                have HT7 := Lib.hid (HT6.out.swap.put (.slice (some ⟨g13, 0, none⟩) (k + 1) c13)).swap
                clear q1 q2
                refine hK.out _ _ trivial (fun _ => ?_)
                clear hK K
                try simp only [List.getElem_toArray, List.getElem_cons_zero, List.getElem_cons_succ, Act.put, List.setIfInBounds_toArray, List.set_cons_zero, List.set_cons_succ]
                refine wpAnyH_done (by kernel_rfl) ?_ _
                go_wp2_with fail
                go_meet
                rw [rowK_snoc, starK_snoc]
                exact ⟨_, _, HT7⟩
              ·
                go_simp
                have HT4 := Lib.hid (HT3.out.lay (.cells #[.int .i64 0, .int .i64 ((k : Int) + 1)] 43))
                have hl12 := Lay.made (w7) 0 ((k : Int) + 1)
                try simp only [World.size_alloc, World.size_drew] at hl12
                have HL12 := Lib.hid hl12
                clear hl12
                have HL6 := Lib.hid (HL6.out.below ((Below.refl _ _).alloc (Nat.le_refl _) (.cells #[.int .i64 0, .int .i64 ((k : Int) + 1)] 43)))
                refine hK.out _ _ trivial (fun _ => ?_)
                clear hK K
                try simp only [List.getElem_toArray, List.getElem_cons_zero, List.getElem_cons_succ, Act.put, List.setIfInBounds_toArray, List.set_cons_zero, List.set_cons_succ]
                refine wpAnyH_ready (rs := [9]) (by kernel_rfl) (by simp) (AllReadyH.cons rfl (fun K hK => ?_) AllReadyH.nil)
                have q1 : World.cell? (World.alloc (w7) (.cells #[.int .i64 0, .int .i64 ((k : Int) + 1)] 43)) ⟨w.heap.size + 1, 1, none⟩ = some Vs := (cells_two HT4.out.gs).2.1
                go_simp
                clear q1
                refine hK.out _ _ trivial (fun _ => ?_)
                clear hK K
                try simp only [List.getElem_toArray, List.getElem_cons_zero, List.getElem_cons_succ, Act.put, List.setIfInBounds_toArray, List.set_cons_zero, List.set_cons_succ]
                refine wpAnyH_ready (rs := [13]) (by kernel_rfl) (by simp) (AllReadyH.cons rfl (fun K hK => ?_) AllReadyH.nil)
                refine step_append_lies _ rfl (.tmp 35) (.tmp 38) 22 rfl w.heap.size 43 i0 (.agg #[.int .i64 0, .int .i64 0]) 2 16 Try.underlying22 hi0 hz0 hz1 hz2 rfl (by decide) Vs k (pcells (starK k)) rfl (by have h := HT4.out.s; rw [hls] at h; exact h) ⟨_, 0, none⟩ 1 1 [.int .i64 0, .int .i64 ((k : Int) + 1)] rfl rfl HL12.out.2 (by simp [Value.oneCell']) (by omega) (by simp [maxLen]; omega) (by omega) (HSZ.out _ HT4.out.bel) _ rfl ?_
                intro g13 c13 w13 ho13 hg13 hor13 hlt13
                have ht5 := (HT4.out.swap.more (by rw [hls]; exact ho13) hg13 hor13).swap
                rw [hls] at ht5
                have HT5 := Lib.hid ht5
                clear ht5
                clear ho13 hg13 hor13 hlt13
                refine hK.out _ _ trivial (fun _ => ?_)
                clear hK K
                try simp only [List.getElem_toArray, List.getElem_cons_zero, List.getElem_cons_succ, Act.put, List.setIfInBounds_toArray, List.set_cons_zero, List.set_cons_succ]
                refine wpAnyH_ready (rs := [15]) (by kernel_rfl) (by simp) (AllReadyH.cons rfl (fun K hK => ?_) AllReadyH.nil)
                obtain ⟨_, q1, _, q2⟩ := cells_two HT5.out.gr
                go_simp
                have HT6 := Lib.hid (HT5.out.put (.slice (some ⟨g7, 0, none⟩) (k + 1) c7))
                clear q1 q2
                refine hK.out _ _ trivial (fun _ => ?_)
                clear hK K
                try simp only [List.getElem_toArray, List.getElem_cons_zero, List.getElem_cons_succ, Act.put, List.setIfInBounds_toArray, List.set_cons_zero, List.set_cons_succ]
                refine wpAnyH_take (i := 16) (v := ?_) rfl (by kernel_rfl) (by kernel_rfl) (by kernel_rfl) (fun _ _ _ h => h) (Or.inl ⟨by rfl, ?_⟩) hS ?_
                rotate_left
                · intro wz hSw; (try dsimp only at hSw); go_simp; (try with_reducible rfl)
                try simp only [List.getElem_toArray, List.getElem_cons_zero, List.getElem_cons_succ, Act.put, List.setIfInBounds_toArray, List.set_cons_zero, List.set_cons_succ]
                refine wpAnyH_ready (rs := [17]) (by kernel_rfl) (by simp) (AllReadyH.cons rfl (fun K hK => ?_) AllReadyH.nil)
                obtain ⟨_, q1, _, q2⟩ := cells_two HT6.out.gs
                go_simp
                have HT7 := Lib.hid (HT6.out.swap.put (.slice (some ⟨g13, 0, none⟩) (k + 1) c13)).swap
                clear q1 q2
                refine hK.out _ _ trivial (fun _ => ?_)
                clear hK K
                try simp only [List.getElem_toArray, List.getElem_cons_zero, List.getElem_cons_succ, Act.put, List.setIfInBounds_toArray, List.set_cons_zero, List.set_cons_succ]
                refine wpAnyH_done (by kernel_rfl) ?_ _
                go_wp2_with fail
                go_meet
                rw [rowK_snoc, starK_snoc]
                exact ⟨_, _, HT7⟩
            ·
              have q1 : World.cell? (World.alloc (wr) (.cells #[.int .i64 (k : Int), .int .i64 ((k : Int) + 1)] 43)) ⟨w.heap.size + 1, 1, none⟩ = some Vs := (cells_two HT2.out.gs).2.1
              go_simp
              clear q1
              refine hK.out _ _ trivial (fun _ => ?_)
              clear hK K
              try simp only [List.getElem_toArray, List.getElem_cons_zero, List.getElem_cons_succ, Act.put, List.setIfInBounds_toArray, List.set_cons_zero, List.set_cons_succ]
              refine wpAnyH_ready (rs := [7, 12]) (by kernel_rfl) (by simp) (AllReadyH.cons rfl (fun K hK => ?_) (AllReadyH.cons rfl (fun K hK => ?_) AllReadyH.nil))
              ·
                refine step_append_lies _ rfl (.tmp 27) (.tmp 32) 22 rfl w.heap.size 43 i0 (.agg #[.int .i64 0, .int .i64 0]) 2 16 Try.underlying22 hi0 hz0 hz1 hz2 rfl (by decide) Vr k (pcells (rowK k)) rfl (by have h := HT2.out.r; rw [hlr] at h; exact h) ⟨_, 0, none⟩ 1 1 [.int .i64 (k : Int), .int .i64 ((k : Int) + 1)] rfl rfl HL6.out.2 (by simp [Value.oneCell']) (by omega) (by simp [maxLen]; omega) (by omega) (HSZ.out _ HT2.out.bel) _ rfl ?_
                intro g7 c7 w7 ho7 hg7 hor7 hlt7
                have ht3 := HT2.out.more (by rw [hlr]; exact ho7) hg7 hor7
                rw [hlr] at ht3
                have HT3 := Lib.hid ht3
                clear ht3
                clear ho7 hg7 hor7 hlt7
                refine hK.out _ _ trivial (fun _ => ?_)
                clear hK K
                try simp only [List.getElem_toArray, List.getElem_cons_zero, List.getElem_cons_succ, Act.put, List.setIfInBounds_toArray, List.set_cons_zero, List.set_cons_succ]
                refine wpAnyH_take (i := 14) (v := ?_) rfl (by kernel_rfl) (by kernel_rfl) (by kernel_rfl) (fun _ _ _ h => h) (Or.inl ⟨by rfl, ?_⟩) hS ?_
                rotate_left
                · intro wz hSw; (try dsimp only at hSw); go_simp; (try with_reducible rfl)
                try simp only [List.getElem_toArray, List.getElem_cons_zero, List.getElem_cons_succ, Act.put, List.setIfInBounds_toArray, List.set_cons_zero, List.set_cons_succ]
                refine wpAnyH_ready (rs := [12]) (by kernel_rfl) (by simp) (AllReadyH.cons rfl (fun K hK => ?_) AllReadyH.nil)
                go_simp
                have HT4 := Lib.hid (HT3.out.lay (.cells #[.int .i64 0, .int .i64 ((k : Int) + 1)] 43))
                have hl12 := Lay.made (w7) 0 ((k : Int) + 1)
                try simp only [World.size_alloc, World.size_drew] at hl12
                have HL12 := Lib.hid hl12
                clear hl12
                have HL6 := Lib.hid (HL6.out.below ((Below.refl _ _).alloc (Nat.le_refl _) (.cells #[.int .i64 0, .int .i64 ((k : Int) + 1)] 43)))
                refine hK.out _ _ trivial (fun _ => ?_)
                clear hK K
                try simp only [List.getElem_toArray, List.getElem_cons_zero, List.getElem_cons_succ, Act.put, List.setIfInBounds_toArray, List.set_cons_zero, List.set_cons_succ]
                refine wpAnyH_ready (rs := [13]) (by kernel_rfl) (by simp) (AllReadyH.cons rfl (fun K hK => ?_) AllReadyH.nil)
                refine step_append_lies _ rfl (.tmp 35) (.tmp 38) 22 rfl w.heap.size 43 i0 (.agg #[.int .i64 0, .int .i64 0]) 2 16 Try.underlying22 hi0 hz0 hz1 hz2 rfl (by decide) Vs k (pcells (starK k)) rfl (by have h := HT4.out.s; rw [hls] at h; exact h) ⟨_, 0, none⟩ 1 1 [.int .i64 0, .int .i64 ((k : Int) + 1)] rfl rfl HL12.out.2 (by simp [Value.oneCell']) (by omega) (by simp [maxLen]; omega) (by omega) (HSZ.out _ HT4.out.bel) _ rfl ?_
                intro g13 c13 w13 ho13 hg13 hor13 hlt13
                have ht5 := (HT4.out.swap.more (by rw [hls]; exact ho13) hg13 hor13).swap
                rw [hls] at ht5
                have HT5 := Lib.hid ht5
                clear ht5
                clear ho13 hg13 hor13 hlt13
                refine hK.out _ _ trivial (fun _ => ?_)
                clear hK K
                try simp only [List.getElem_toArray, List.getElem_cons_zero, List.getElem_cons_succ, Act.put, List.setIfInBounds_toArray, List.set_cons_zero, List.set_cons_succ]
                refine wpAnyH_ready (rs := [15]) (by kernel_rfl) (by simp) (AllReadyH.cons rfl (fun K hK => ?_) AllReadyH.nil)
                obtain ⟨_, q1, _, q2⟩ := cells_two HT5.out.gr
                go_simp
                have HT6 := Lib.hid (HT5.out.put (.slice (some ⟨g7, 0, none⟩) (k + 1) c7))
                clear q1 q2
                refine hK.out _ _ trivial (fun _ => ?_)
                clear hK K
                try simp only [List.getElem_toArray, List.getElem_cons_zero, List.getElem_cons_succ, Act.put, List.setIfInBounds_toArray, List.set_cons_zero, List.set_cons_succ]
                refine wpAnyH_take (i := 16) (v := ?_) rfl (by kernel_rfl) (by kernel_rfl) (by kernel_rfl) (fun _ _ _ h => h) (Or.inl ⟨by rfl, ?_⟩) hS ?_
                rotate_left
                · intro wz hSw; (try dsimp only at hSw); go_simp; (try with_reducible rfl)
                try simp only [List.getElem_toArray, List.getElem_cons_zero, List.getElem_cons_succ, Act.put, List.setIfInBounds_toArray, List.set_cons_zero, List.set_cons_succ]
                refine wpAnyH_ready (rs := [17]) (by kernel_rfl) (by simp) (AllReadyH.cons rfl (fun K hK => ?_) AllReadyH.nil)
                obtain ⟨_, q1, _, q2⟩ := cells_two HT6.out.gs
                go_simp
                have HT7 := Lib.hid (HT6.out.swap.put (.slice (some ⟨g13, 0, none⟩) (k + 1) c13)).swap
                clear q1 q2
                refine hK.out _ _ trivial (fun _ => ?_)
                clear hK K
                try simp only [List.getElem_toArray, List.getElem_cons_zero, List.getElem_cons_succ, Act.put, List.setIfInBounds_toArray, List.set_cons_zero, List.set_cons_succ]
                refine wpAnyH_done (by kernel_rfl) ?_ _
                go_wp2_with fail
                go_meet
                rw [rowK_snoc, starK_snoc]
                exact ⟨_, _, HT7⟩
              ·
                go_simp
                have HT3 := Lib.hid (HT2.out.lay (.cells #[.int .i64 0, .int .i64 ((k : Int) + 1)] 43))
                have hl12 := Lay.made (World.alloc (wr.drew) (.cells #[.int .i64 (k : Int), .int .i64 ((k : Int) + 1)] 43)) 0 ((k : Int) + 1)
                try simp only [World.size_alloc, World.size_drew] at hl12
                have HL12 := Lib.hid hl12
                clear hl12
                have HL6 := Lib.hid (HL6.out.below ((Below.refl _ _).alloc (Nat.le_refl _) (.cells #[.int .i64 0, .int .i64 ((k : Int) + 1)] 43)))
                refine hK.out _ _ trivial (fun _ => ?_)
                clear hK K
                try simp only [List.getElem_toArray, List.getElem_cons_zero, List.getElem_cons_succ, Act.put, List.setIfInBounds_toArray, List.set_cons_zero, List.set_cons_succ]
                refine wpAnyH_ready (rs := [7]) (by kernel_rfl) (by simp) (AllReadyH.cons rfl (fun K hK => ?_) AllReadyH.nil)
                refine step_append_lies _ rfl (.tmp 27) (.tmp 32) 22 rfl w.heap.size 43 i0 (.agg #[.int .i64 0, .int .i64 0]) 2 16 Try.underlying22 hi0 hz0 hz1 hz2 rfl (by decide) Vr k (pcells (rowK k)) rfl (by have h := HT3.out.r; rw [hlr] at h; exact h) ⟨_, 0, none⟩ 1 1 [.int .i64 (k : Int), .int .i64 ((k : Int) + 1)] rfl rfl HL6.out.2 (by simp [Value.oneCell']) (by omega) (by simp [maxLen]; omega) (by omega) (HSZ.out _ HT3.out.bel) _ rfl ?_
                intro g7 c7 w7 ho7 hg7 hor7 hlt7
                have ht4 := HT3.out.more (by rw [hlr]; exact ho7) hg7 hor7
                rw [hlr] at ht4
                have HT4 := Lib.hid ht4
                clear ht4
                have HL12 := Lib.hid (HL12.out.grown hg7 (fun e => by have h := HVR.out _ e; (try simp only [World.size_alloc, World.size_drew] at h); omega))
                clear ho7 hg7 hor7 hlt7
                refine hK.out _ _ trivial (fun _ => ?_)
                clear hK K
                try simp only [List.getElem_toArray, List.getElem_cons_zero, List.getElem_cons_succ, Act.put, List.setIfInBounds_toArray, List.set_cons_zero, List.set_cons_succ]
                refine wpAnyH_take (i := 14) (v := ?_) rfl (by kernel_rfl) (by kernel_rfl) (by kernel_rfl) (fun _ _ _ h => h) (Or.inl ⟨by rfl, ?_⟩) hS ?_
                rotate_left
                · intro wz hSw; (try dsimp only at hSw); go_simp; (try with_reducible rfl)
                try simp only [List.getElem_toArray, List.getElem_cons_zero, List.getElem_cons_succ, Act.put, List.setIfInBounds_toArray, List.set_cons_zero, List.set_cons_succ]
                refine wpAnyH_ready (rs := [13]) (by kernel_rfl) (by simp) (AllReadyH.cons rfl (fun K hK => ?_) AllReadyH.nil)
                refine step_append_lies _ rfl (.tmp 35) (.tmp 38) 22 rfl w.heap.size 43 i0 (.agg #[.int .i64 0, .int .i64 0]) 2 16 Try.underlying22 hi0 hz0 hz1 hz2 rfl (by decide) Vs k (pcells (starK k)) rfl (by have h := HT4.out.s; rw [hls] at h; exact h) ⟨_, 0, none⟩ 1 1 [.int .i64 0, .int .i64 ((k : Int) + 1)] rfl rfl HL12.out.2 (by simp [Value.oneCell']) (by omega) (by simp [maxLen]; omega) (by omega) (HSZ.out _ HT4.out.bel) _ rfl ?_
                intro g13 c13 w13 ho13 hg13 hor13 hlt13
                have ht5 := (HT4.out.swap.more (by rw [hls]; exact ho13) hg13 hor13).swap
                rw [hls] at ht5
                have HT5 := Lib.hid ht5
                clear ht5
                clear ho13 hg13 hor13 hlt13
                refine hK.out _ _ trivial (fun _ => ?_)
                clear hK K
                try simp only [List.getElem_toArray, List.getElem_cons_zero, List.getElem_cons_succ, Act.put, List.setIfInBounds_toArray, List.set_cons_zero, List.set_cons_succ]
                refine wpAnyH_ready (rs := [15]) (by kernel_rfl) (by simp) (AllReadyH.cons rfl (fun K hK => ?_) AllReadyH.nil)
                obtain ⟨_, q1, _, q2⟩ := cells_two HT5.out.gr
                go_simp
                have HT6 := Lib.hid (HT5.out.put (.slice (some ⟨g7, 0, none⟩) (k + 1) c7))
                clear q1 q2
                refine hK.out _ _ trivial (fun _ => ?_)
                clear hK K
                try simp only [List.getElem_toArray, List.getElem_cons_zero, List.getElem_cons_succ, Act.put, List.setIfInBounds_toArray, List.set_cons_zero, List.set_cons_succ]
                refine wpAnyH_take (i := 16) (v := ?_) rfl (by kernel_rfl) (by kernel_rfl) (by kernel_rfl) (fun _ _ _ h => h) (Or.inl ⟨by rfl, ?_⟩) hS ?_
                rotate_left
                · intro wz hSw; (try dsimp only at hSw); go_simp; (try with_reducible rfl)
                try simp only [List.getElem_toArray, List.getElem_cons_zero, List.getElem_cons_succ, Act.put, List.setIfInBounds_toArray, List.set_cons_zero, List.set_cons_succ]
                refine wpAnyH_ready (rs := [17]) (by kernel_rfl) (by simp) (AllReadyH.cons rfl (fun K hK => ?_) AllReadyH.nil)
                obtain ⟨_, q1, _, q2⟩ := cells_two HT6.out.gs
                go_simp
                have HT7 := Lib.hid (HT6.out.swap.put (.slice (some ⟨g13, 0, none⟩) (k + 1) c13)).swap
                clear q1 q2
                refine hK.out _ _ trivial (fun _ => ?_)
                clear hK K
                try simp only [List.getElem_toArray, List.getElem_cons_zero, List.getElem_cons_succ, Act.put, List.setIfInBounds_toArray, List.set_cons_zero, List.set_cons_succ]
                refine wpAnyH_done (by kernel_rfl) ?_ _
                go_wp2_with fail
                go_meet
                rw [rowK_snoc, starK_snoc]
                exact ⟨_, _, HT7⟩
            ·
              go_simp
              have HT3 := Lib.hid (HT2.out.lay (.cells #[.int .i64 0, .int .i64 ((k : Int) + 1)] 43))
              have hl12 := Lay.made (World.alloc (wr.drew) (.cells #[.int .i64 (k : Int), .int .i64 ((k : Int) + 1)] 43)) 0 ((k : Int) + 1)
              try simp only [World.size_alloc, World.size_drew] at hl12
              have HL12 := Lib.hid hl12
              clear hl12
              have HL6 := Lib.hid (HL6.out.below ((Below.refl _ _).alloc (Nat.le_refl _) (.cells #[.int .i64 0, .int .i64 ((k : Int) + 1)] 43)))
              refine hK.out _ _ trivial (fun _ => ?_)
              clear hK K
              try simp only [List.getElem_toArray, List.getElem_cons_zero, List.getElem_cons_succ, Act.put, List.setIfInBounds_toArray, List.set_cons_zero, List.set_cons_succ]
              refine wpAnyH_ready (rs := [7, 9]) (by kernel_rfl) (by simp) (AllReadyH.cons rfl (fun K hK => ?_) (AllReadyH.cons rfl (fun K hK => ?_) AllReadyH.nil))
              ·
                refine step_append_lies _ rfl (.tmp 27) (.tmp 32) 22 rfl w.heap.size 43 i0 (.agg #[.int .i64 0, .int .i64 0]) 2 16 Try.underlying22 hi0 hz0 hz1 hz2 rfl (by decide) Vr k (pcells (rowK k)) rfl (by have h := HT3.out.r; rw [hlr] at h; exact h) ⟨_, 0, none⟩ 1 1 [.int .i64 (k : Int), .int .i64 ((k : Int) + 1)] rfl rfl HL6.out.2 (by simp [Value.oneCell']) (by omega) (by simp [maxLen]; omega) (by omega) (HSZ.out _ HT3.out.bel) _ rfl ?_
                intro g7 c7 w7 ho7 hg7 hor7 hlt7
                have ht4 := HT3.out.more (by rw [hlr]; exact ho7) hg7 hor7
                rw [hlr] at ht4
                have HT4 := Lib.hid ht4
                clear ht4
                have HL12 := Lib.hid (HL12.out.grown hg7 (fun e => by have h := HVR.out _ e; (try simp only [World.size_alloc, World.size_drew] at h); omega))
                clear ho7 hg7 hor7 hlt7
                refine hK.out _ _ trivial (fun _ => ?_)
                clear hK K
                try simp only [List.getElem_toArray, List.getElem_cons_zero, List.getElem_cons_succ, Act.put, List.setIfInBounds_toArray, List.set_cons_zero, List.set_cons_succ]
                refine wpAnyH_take (i := 14) (v := ?_) rfl (by kernel_rfl) (by kernel_rfl) (by kernel_rfl) (fun _ _ _ h => h) (Or.inl ⟨by rfl, ?_⟩) hS ?_
                rotate_left
                · intro wz hSw; (try dsimp only at hSw); go_simp; (try with_reducible rfl)
                try simp only [List.getElem_toArray, List.getElem_cons_zero, List.getElem_cons_succ, Act.put, List.setIfInBounds_toArray, List.set_cons_zero, List.set_cons_succ]
                refine wpAnyH_ready (rs := [9]) (by kernel_rfl) (by simp) (AllReadyH.cons rfl (fun K hK => ?_) AllReadyH.nil)
                have q1 : World.cell? (w7) ⟨w.heap.size + 1, 1, none⟩ = some Vs := (cells_two HT4.out.gs).2.1
                go_simp
                clear q1
                refine hK.out _ _ trivial (fun _ => ?_)
                clear hK K
                try simp only [List.getElem_toArray, List.getElem_cons_zero, List.getElem_cons_succ, Act.put, List.setIfInBounds_toArray, List.set_cons_zero, List.set_cons_succ]
                refine wpAnyH_ready (rs := [13]) (by kernel_rfl) (by simp) (AllReadyH.cons rfl (fun K hK => ?_) AllReadyH.nil)
                refine step_append_lies _ rfl (.tmp 35) (.tmp 38) 22 rfl w.heap.size 43 i0 (.agg #[.int .i64 0, .int .i64 0]) 2 16 Try.underlying22 hi0 hz0 hz1 hz2 rfl (by decide) Vs k (pcells (starK k)) rfl (by have h := HT4.out.s; rw [hls] at h; exact h) ⟨_, 0, none⟩ 1 1 [.int .i64 0, .int .i64 ((k : Int) + 1)] rfl rfl HL12.out.2 (by simp [Value.oneCell']) (by omega) (by simp [maxLen]; omega) (by omega) (HSZ.out _ HT4.out.bel) _ rfl ?_
                intro g13 c13 w13 ho13 hg13 hor13 hlt13
                have ht5 := (HT4.out.swap.more (by rw [hls]; exact ho13) hg13 hor13).swap
                rw [hls] at ht5
                have HT5 := Lib.hid ht5
                clear ht5
                clear ho13 hg13 hor13 hlt13
                refine hK.out _ _ trivial (fun _ => ?_)
                clear hK K
                try simp only [List.getElem_toArray, List.getElem_cons_zero, List.getElem_cons_succ, Act.put, List.setIfInBounds_toArray, List.set_cons_zero, List.set_cons_succ]
                refine wpAnyH_ready (rs := [15]) (by kernel_rfl) (by simp) (AllReadyH.cons rfl (fun K hK => ?_) AllReadyH.nil)
                obtain ⟨_, q1, _, q2⟩ := cells_two HT5.out.gr
                go_simp
                have HT6 := Lib.hid (HT5.out.put (.slice (some ⟨g7, 0, none⟩) (k + 1) c7))
                clear q1 q2
                refine hK.out _ _ trivial (fun _ => ?_)
                clear hK K
                try simp only [List.getElem_toArray, List.getElem_cons_zero, List.getElem_cons_succ, Act.put, List.setIfInBounds_toArray, List.set_cons_zero, List.set_cons_succ]
                refine wpAnyH_take (i := 16) (v := ?_) rfl (by kernel_rfl) (by kernel_rfl) (by kernel_rfl) (fun _ _ _ h => h) (Or.inl ⟨by rfl, ?_⟩) hS ?_
                rotate_left
                · intro wz hSw; (try dsimp only at hSw); go_simp; (try with_reducible rfl)
                try simp only [List.getElem_toArray, List.getElem_cons_zero, List.getElem_cons_succ, Act.put, List.setIfInBounds_toArray, List.set_cons_zero, List.set_cons_succ]
                refine wpAnyH_ready (rs := [17]) (by kernel_rfl) (by simp) (AllReadyH.cons rfl (fun K hK => ?_) AllReadyH.nil)
                obtain ⟨_, q1, _, q2⟩ := cells_two HT6.out.gs
                go_simp
                have HT7 := Lib.hid (HT6.out.swap.put (.slice (some ⟨g13, 0, none⟩) (k + 1) c13)).swap
                clear q1 q2
                refine hK.out _ _ trivial (fun _ => ?_)
                clear hK K
                try simp only [List.getElem_toArray, List.getElem_cons_zero, List.getElem_cons_succ, Act.put, List.setIfInBounds_toArray, List.set_cons_zero, List.set_cons_succ]
                refine wpAnyH_done (by kernel_rfl) ?_ _
                go_wp2_with fail
                go_meet
                rw [rowK_snoc, starK_snoc]
                exact ⟨_, _, HT7⟩
              ·
                have q1 : World.cell? (World.alloc (World.alloc (wr) (.cells #[.int .i64 (k : Int), .int .i64 ((k : Int) + 1)] 43)) (.cells #[.int .i64 0, .int .i64 ((k : Int) + 1)] 43)) ⟨w.heap.size + 1, 1, none⟩ = some Vs := (cells_two HT3.out.gs).2.1
                go_simp
                clear q1
                refine hK.out _ _ trivial (fun _ => ?_)
                clear hK K
                try simp only [List.getElem_toArray, List.getElem_cons_zero, List.getElem_cons_succ, Act.put, List.setIfInBounds_toArray, List.set_cons_zero, List.set_cons_succ]
                refine wpAnyH_ready (rs := [7]) (by kernel_rfl) (by simp) (AllReadyH.cons rfl (fun K hK => ?_) AllReadyH.nil)
                refine step_append_lies _ rfl (.tmp 27) (.tmp 32) 22 rfl w.heap.size 43 i0 (.agg #[.int .i64 0, .int .i64 0]) 2 16 Try.underlying22 hi0 hz0 hz1 hz2 rfl (by decide) Vr k (pcells (rowK k)) rfl (by have h := HT3.out.r; rw [hlr] at h; exact h) ⟨_, 0, none⟩ 1 1 [.int .i64 (k : Int), .int .i64 ((k : Int) + 1)] rfl rfl HL6.out.2 (by simp [Value.oneCell']) (by omega) (by simp [maxLen]; omega) (by omega) (HSZ.out _ HT3.out.bel) _ rfl ?_
                intro g7 c7 w7 ho7 hg7 hor7 hlt7
                have ht4 := HT3.out.more (by rw [hlr]; exact ho7) hg7 hor7
                rw [hlr] at ht4
                have HT4 := Lib.hid ht4
                clear ht4
                have HL12 := Lib.hid (HL12.out.grown hg7 (fun e => by have h := HVR.out _ e; (try simp only [World.size_alloc, World.size_drew] at h); omega))
                clear ho7 hg7 hor7 hlt7
                refine hK.out _ _ trivial (fun _ => ?_)
                clear hK K
                try simp only [List.getElem_toArray, List.getElem_cons_zero, List.getElem_cons_succ, Act.put, List.setIfInBounds_toArray, List.set_cons_zero, List.set_cons_succ]
                refine wpAnyH_take (i := 14) (v := ?_) rfl (by kernel_rfl) (by kernel_rfl) (by kernel_rfl) (fun _ _ _ h => h) (Or.inl ⟨by rfl, ?_⟩) hS ?_
                rotate_left
                · intro wz hSw; (try dsimp only at hSw); go_simp; (try with_reducible rfl)
                try simp only [List.getElem_toArray, List.getElem_cons_zero, List.getElem_cons_succ, Act.put, List.setIfInBounds_toArray, List.set_cons_zero, List.set_cons_succ]
                refine wpAnyH_ready (rs := [13]) (by kernel_rfl) (by simp) (AllReadyH.cons rfl (fun K hK => ?_) AllReadyH.nil)
                refine step_append_lies _ rfl (.tmp 35) (.tmp 38) 22 rfl w.heap.size 43 i0 (.agg #[.int .i64 0, .int .i64 0]) 2 16 Try.underlying22 hi0 hz0 hz1 hz2 rfl (by decide) Vs k (pcells (starK k)) rfl (by have h := HT4.out.s; rw [hls] at h; exact h) ⟨_, 0, none⟩ 1 1 [.int .i64 0, .int .i64 ((k : Int) + 1)] rfl rfl HL12.out.2 (by simp [Value.oneCell']) (by omega) (by simp [maxLen]; omega) (by omega) (HSZ.out _ HT4.out.bel) _ rfl ?_
                intro g13 c13 w13 ho13 hg13 hor13 hlt13
                have ht5 := (HT4.out.swap.more (by rw [hls]; exact ho13) hg13 hor13).swap
                rw [hls] at ht5
                have HT5 := Lib.hid ht5
                clear ht5
                clear ho13 hg13 hor13 hlt13
                refine hK.out _ _ trivial (fun _ => ?_)
                clear hK K
                try simp only [List.getElem_toArray, List.getElem_cons_zero, List.getElem_cons_succ, Act.put, List.setIfInBounds_toArray, List.set_cons_zero, List.set_cons_succ]
                refine wpAnyH_ready (rs := [15]) (by kernel_rfl) (by simp) (AllReadyH.cons rfl (fun K hK => ?_) AllReadyH.nil)
                obtain ⟨_, q1, _, q2⟩ := cells_two HT5.out.gr
                go_simp
                have HT6 := Lib.hid (HT5.out.put (.slice (some ⟨g7, 0, none⟩) (k + 1) c7))
                clear q1 q2
                refine hK.out _ _ trivial (fun _ => ?_)
                clear hK K
                try simp only [List.getElem_toArray, List.getElem_cons_zero, List.getElem_cons_succ, Act.put, List.setIfInBounds_toArray, List.set_cons_zero, List.set_cons_succ]
                refine wpAnyH_take (i := 16) (v := ?_) rfl (by kernel_rfl) (by kernel_rfl) (by kernel_rfl) (fun _ _ _ h => h) (Or.inl ⟨by rfl, ?_⟩) hS ?_
                rotate_left
                · intro wz hSw; (try dsimp only at hSw); go_simp; (try with_reducible rfl)
                try simp only [List.getElem_toArray, List.getElem_cons_zero, List.getElem_cons_succ, Act.put, List.setIfInBounds_toArray, List.set_cons_zero, List.set_cons_succ]
                refine wpAnyH_ready (rs := [17]) (by kernel_rfl) (by simp) (AllReadyH.cons rfl (fun K hK => ?_) AllReadyH.nil)
                obtain ⟨_, q1, _, q2⟩ := cells_two HT6.out.gs
                go_simp
                have HT7 := Lib.hid (HT6.out.swap.put (.slice (some ⟨g13, 0, none⟩) (k + 1) c13)).swap
                clear q1 q2
                refine hK.out _ _ trivial (fun _ => ?_)
                clear hK K
                try simp only [List.getElem_toArray, List.getElem_cons_zero, List.getElem_cons_succ, Act.put, List.setIfInBounds_toArray, List.set_cons_zero, List.set_cons_succ]
                refine wpAnyH_done (by kernel_rfl) ?_ _
                go_wp2_with fail
                go_meet
                rw [rowK_snoc, starK_snoc]
                exact ⟨_, _, HT7⟩
          ·
            have q1 : World.cell? (World.alloc (wr) (.cells #[.int .i64 (k : Int), .int .i64 ((k : Int) + 1)] 43)) ⟨w.heap.size + 1, 1, none⟩ = some Vs := (cells_two HT2.out.gs).2.1
            go_simp
            clear q1
            refine hK.out _ _ trivial (fun _ => ?_)
            clear hK K
            try simp only [List.getElem_toArray, List.getElem_cons_zero, List.getElem_cons_succ, Act.put, List.setIfInBounds_toArray, List.set_cons_zero, List.set_cons_succ]
            refine wpAnyH_ready (rs := [1, 12]) (by kernel_rfl) (by simp) (AllReadyH.cons rfl (fun K hK => ?_) (AllReadyH.cons rfl (fun K hK => ?_) AllReadyH.nil))
            ·
              have q1 : World.cell? (World.alloc (wr) (.cells #[.int .i64 (k : Int), .int .i64 ((k : Int) + 1)] 43)) ⟨w.heap.size, 1, none⟩ = some Vr := (cells_two HT2.out.gr).2.1
              go_simp
              clear q1
              refine hK.out _ _ trivial (fun _ => ?_)
              clear hK K
              try simp only [List.getElem_toArray, List.getElem_cons_zero, List.getElem_cons_succ, Act.put, List.setIfInBounds_toArray, List.set_cons_zero, List.set_cons_succ]
              refine wpAnyH_ready (rs := [7, 12]) (by kernel_rfl) (by simp) (AllReadyH.cons rfl (fun K hK => ?_) (AllReadyH.cons rfl (fun K hK => ?_) AllReadyH.nil))
              ·
                refine step_append_lies _ rfl (.tmp 27) (.tmp 32) 22 rfl w.heap.size 43 i0 (.agg #[.int .i64 0, .int .i64 0]) 2 16 Try.underlying22 hi0 hz0 hz1 hz2 rfl (by decide) Vr k (pcells (rowK k)) rfl (by have h := HT2.out.r; rw [hlr] at h; exact h) ⟨_, 0, none⟩ 1 1 [.int .i64 (k : Int), .int .i64 ((k : Int) + 1)] rfl rfl HL6.out.2 (by simp [Value.oneCell']) (by omega) (by simp [maxLen]; omega) (by omega) (HSZ.out _ HT2.out.bel) _ rfl ?_
                intro g7 c7 w7 ho7 hg7 hor7 hlt7
                have ht3 := HT2.out.more (by rw [hlr]; exact ho7) hg7 hor7
                rw [hlr] at ht3
                have HT3 := Lib.hid ht3
                clear ht3
                clear ho7 hg7 hor7 hlt7
                refine hK.out _ _ trivial (fun _ => ?_)
                clear hK K
                try simp only [List.getElem_toArray, List.getElem_cons_zero, List.getElem_cons_succ, Act.put, List.setIfInBounds_toArray, List.set_cons_zero, List.set_cons_succ]
                refine wpAnyH_take (i := 14) (v := ?_) rfl (by kernel_rfl) (by kernel_rfl) (by kernel_rfl) (fun _ _ _ h => h) (Or.inl ⟨by rfl, ?_⟩) hS ?_
                rotate_left
                · intro wz hSw; (try dsimp only at hSw); go_simp; (try with_reducible rfl)
                try simp only [List.getElem_toArray, List.getElem_cons_zero, List.getElem_cons_succ, Act.put, List.setIfInBounds_toArray, List.set_cons_zero, List.set_cons_succ]
                refine wpAnyH_ready (rs := [12]) (by kernel_rfl) (by simp) (AllReadyH.cons rfl (fun K hK => ?_) AllReadyH.nil)
                go_simp
                have HT4 := Lib.hid (HT3.out.lay (.cells #[.int .i64 0, .int .i64 ((k : Int) + 1)] 43))
                have hl12 := Lay.made (w7) 0 ((k : Int) + 1)
                try simp only [World.size_alloc, World.size_drew] at hl12
                have HL12 := Lib.hid hl12
                clear hl12
                have HL6 := Lib.hid (HL6.out.below ((Below.refl _ _).alloc (Nat.le_refl _) (.cells #[.int .i64 0, .int .i64 ((k : Int) + 1)] 43)))
                refine hK.out _ _ trivial (fun _ => ?_)
                clear hK K
                try simp only [List.getElem_toArray, List.getElem_cons_zero, List.getElem_cons_succ, Act.put, List.setIfInBounds_toArray, List.set_cons_zero, List.set_cons_succ]
                refine wpAnyH_ready (rs := [13]) (by kernel_rfl) (by simp) (AllReadyH.cons rfl (fun K hK => ?_) AllReadyH.nil)
                refine step_append_lies _ rfl (.tmp 35) (.tmp 38) 22 rfl w.heap.size 43 i0 (.agg #[.int .i64 0, .int .i64 0]) 2 16 Try.underlying22 hi0 hz0 hz1 hz2 rfl (by decide) Vs k (pcells (starK k)) rfl (by have h := HT4.out.s; rw [hls] at h; exact h) ⟨_, 0, none⟩ 1 1 [.int .i64 0, .int .i64 ((k : Int) + 1)] rfl rfl HL12.out.2 (by simp [Value.oneCell']) (by omega) (by simp [maxLen]; omega) (by omega) (HSZ.out _ HT4.out.bel) _ rfl ?_
                intro g13 c13 w13 ho13 hg13 hor13 hlt13
                have ht5 := (HT4.out.swap.more (by rw [hls]; exact ho13) hg13 hor13).swap
                rw [hls] at ht5
                have HT5 := Lib.hid ht5
                clear ht5
                clear ho13 hg13 hor13 hlt13
                refine hK.out _ _ trivial (fun _ => ?_)
                clear hK K
                try simp only [List.getElem_toArray, List.getElem_cons_zero, List.getElem_cons_succ, Act.put, List.setIfInBounds_toArray, List.set_cons_zero, List.set_cons_succ]
                refine wpAnyH_ready (rs := [15]) (by kernel_rfl) (by simp) (AllReadyH.cons rfl (fun K hK => ?_) AllReadyH.nil)
                obtain ⟨_, q1, _, q2⟩ := cells_two HT5.out.gr
                go_simp
                have HT6 := Lib.hid (HT5.out.put (.slice (some ⟨g7, 0, none⟩) (k + 1) c7))
                clear q1 q2
                refine hK.out _ _ trivial (fun _ => ?_)
                clear hK K
                try simp only [List.getElem_toArray, List.getElem_cons_zero, List.getElem_cons_succ, Act.put, List.setIfInBounds_toArray, List.set_cons_zero, List.set_cons_succ]
                refine wpAnyH_take (i := 16) (v := ?_) rfl (by kernel_rfl) (by kernel_rfl) (by kernel_rfl) (fun _ _ _ h => h) (Or.inl ⟨by rfl, ?_⟩) hS ?_
                rotate_left
                · intro wz hSw; (try dsimp only at hSw); go_simp; (try with_reducible rfl)
                try simp only [List.getElem_toArray, List.getElem_cons_zero, List.getElem_cons_succ, Act.put, List.setIfInBounds_toArray, List.set_cons_zero, List.set_cons_succ]
                refine wpAnyH_ready (rs := [17]) (by kernel_rfl) (by simp) (AllReadyH.cons rfl (fun K hK => ?_) AllReadyH.nil)
                obtain ⟨_, q1, _, q2⟩ := cells_two HT6.out.gs
                go_simp
                have HT7 := Lib.hid (HT6.out.swap.put (.slice (some ⟨g13, 0, none⟩) (k + 1) c13)).swap
                clear q1 q2
                refine hK.out _ _ trivial (fun _ => ?_)
                clear hK K
                try simp only [List.getElem_toArray, List.getElem_cons_zero, List.getElem_cons_succ, Act.put, List.setIfInBounds_toArray, List.set_cons_zero, List.set_cons_succ]
                refine wpAnyH_done (by kernel_rfl) ?_ _
                go_wp2_with fail
                go_meet
                rw [rowK_snoc, starK_snoc]
                exact ⟨_, _, HT7⟩
              ·
                go_simp
                have HT3 := Lib.hid (HT2.out.lay (.cells #[.int .i64 0, .int .i64 ((k : Int) + 1)] 43))
                have hl12 := Lay.made (World.alloc (wr.drew) (.cells #[.int .i64 (k : Int), .int .i64 ((k : Int) + 1)] 43)) 0 ((k : Int) + 1)
                try simp only [World.size_alloc, World.size_drew] at hl12
                have HL12 := Lib.hid hl12
                clear hl12
                have HL6 := Lib.hid (HL6.out.below ((Below.refl _ _).alloc (Nat.le_refl _) (.cells #[.int .i64 0, .int .i64 ((k : Int) + 1)] 43)))
                refine hK.out _ _ trivial (fun _ => ?_)
                clear hK K
                try simp only [List.getElem_toArray, List.getElem_cons_zero, List.getElem_cons_succ, Act.put, List.setIfInBounds_toArray, List.set_cons_zero, List.set_cons_succ]
                refine wpAnyH_ready (rs := [7]) (by kernel_rfl) (by simp) (AllReadyH.cons rfl (fun K hK => ?_) AllReadyH.nil)
                refine step_append_lies _ rfl (.tmp 27) (.tmp 32) 22 rfl w.heap.size 43 i0 (.agg #[.int .i64 0, .int .i64 0]) 2 16 Try.underlying22 hi0 hz0 hz1 hz2 rfl (by decide) Vr k (pcells (rowK k)) rfl (by have h := HT3.out.r; rw [hlr] at h; exact h) ⟨_, 0, none⟩ 1 1 [.int .i64 (k : Int), .int .i64 ((k : Int) + 1)] rfl rfl HL6.out.2 (by simp [Value.oneCell']) (by omega) (by simp [maxLen]; omega) (by omega) (HSZ.out _ HT3.out.bel) _ rfl ?_
                intro g7 c7 w7 ho7 hg7 hor7 hlt7
                have ht4 := HT3.out.more (by rw [hlr]; exact ho7) hg7 hor7
                rw [hlr] at ht4
                have HT4 := Lib.hid ht4
                clear ht4
                have HL12 := Lib.hid (HL12.out.grown hg7 (fun e => by have h := HVR.out _ e; (try simp only [World.size_alloc, World.size_drew] at h); omega))
                clear ho7 hg7 hor7 hlt7
                refine hK.out _ _ trivial (fun _ => ?_)
                clear hK K
                try simp only [List.getElem_toArray, List.getElem_cons_zero, List.getElem_cons_succ, Act.put, List.setIfInBounds_toArray, List.set_cons_zero, List.set_cons_succ]
                refine wpAnyH_take (i := 14) (v := ?_) rfl (by kernel_rfl) (by kernel_rfl) (by kernel_rfl) (fun _ _ _ h => h) (Or.inl ⟨by rfl, ?_⟩) hS ?_
                rotate_left
                · intro wz hSw; (try dsimp only at hSw); go_simp; (try with_reducible rfl)
                try simp only [List.getElem_toArray, List.getElem_cons_zero, List.getElem_cons_succ, Act.put, List.setIfInBounds_toArray, List.set_cons_zero, List.set_cons_succ]
                refine wpAnyH_ready (rs := [13]) (by kernel_rfl) (by simp) (AllReadyH.cons rfl (fun K hK => ?_) AllReadyH.nil)
                refine step_append_lies _ rfl (.tmp 35) (.tmp 38) 22 rfl w.heap.size 43 i0 (.agg #[.int .i64 0, .int .i64 0]) 2 16 Try.underlying22 hi0 hz0 hz1 hz2 rfl (by decide) Vs k (pcells (starK k)) rfl (by have h := HT4.out.s; rw [hls] at h; exact h) ⟨_, 0, none⟩ 1 1 [.int .i64 0, .int .i64 ((k : Int) + 1)] rfl rfl HL12.out.2 (by simp [Value.oneCell']) (by omega) (by simp [maxLen]; omega) (by omega) (HSZ.out _ HT4.out.bel) _ rfl ?_
                intro g13 c13 w13 ho13 hg13 hor13 hlt13
                have ht5 := (HT4.out.swap.more (by rw [hls]; exact ho13) hg13 hor13).swap
                rw [hls] at ht5
                have HT5 := Lib.hid ht5
                clear ht5
                clear ho13 hg13 hor13 hlt13
                refine hK.out _ _ trivial (fun _ => ?_)
                clear hK K
                try simp only [List.getElem_toArray, List.getElem_cons_zero, List.getElem_cons_succ, Act.put, List.setIfInBounds_toArray, List.set_cons_zero, List.set_cons_succ]
                refine wpAnyH_ready (rs := [15]) (by kernel_rfl) (by simp) (AllReadyH.cons rfl (fun K hK => ?_) AllReadyH.nil)
                obtain ⟨_, q1, _, q2⟩ := cells_two HT5.out.gr
                go_simp
                have HT6 := Lib.hid (HT5.out.put (.slice (some ⟨g7, 0, none⟩) (k + 1) c7))
                clear q1 q2
                refine hK.out _ _ trivial (fun _ => ?_)
                clear hK K
                try simp only [List.getElem_toArray, List.getElem_cons_zero, List.getElem_cons_succ, Act.put, List.setIfInBounds_toArray, List.set_cons_zero, List.set_cons_succ]
                refine wpAnyH_take (i := 16) (v := ?_) rfl (by kernel_rfl) (by kernel_rfl) (by kernel_rfl) (fun _ _ _ h => h) (Or.inl ⟨by rfl, ?_⟩) hS ?_
                rotate_left
                · intro wz hSw; (try dsimp only at hSw); go_simp; (try with_reducible rfl)
                try simp only [List.getElem_toArray, List.getElem_cons_zero, List.getElem_cons_succ, Act.put, List.setIfInBounds_toArray, List.set_cons_zero, List.set_cons_succ]
                refine wpAnyH_ready (rs := [17]) (by kernel_rfl) (by simp) (AllReadyH.cons rfl (fun K hK => ?_) AllReadyH.nil)
                obtain ⟨_, q1, _, q2⟩ := cells_two HT6.out.gs
                go_simp
                have HT7 := Lib.hid (HT6.out.swap.put (.slice (some ⟨g13, 0, none⟩) (k + 1) c13)).swap
                clear q1 q2
                refine hK.out _ _ trivial (fun _ => ?_)
                clear hK K
                try simp only [List.getElem_toArray, List.getElem_cons_zero, List.getElem_cons_succ, Act.put, List.setIfInBounds_toArray, List.set_cons_zero, List.set_cons_succ]
                refine wpAnyH_done (by kernel_rfl) ?_ _
                go_wp2_with fail
                go_meet
                rw [rowK_snoc, starK_snoc]
                exact ⟨_, _, HT7⟩
            ·
              go_simp
              have HT3 := Lib.hid (HT2.out.lay (.cells #[.int .i64 0, .int .i64 ((k : Int) + 1)] 43))
              have hl12 := Lay.made (World.alloc (wr.drew) (.cells #[.int .i64 (k : Int), .int .i64 ((k : Int) + 1)] 43)) 0 ((k : Int) + 1)
              try simp only [World.size_alloc, World.size_drew] at hl12
              have HL12 := Lib.hid hl12
              clear hl12
              have HL6 := Lib.hid (HL6.out.below ((Below.refl _ _).alloc (Nat.le_refl _) (.cells #[.int .i64 0, .int .i64 ((k : Int) + 1)] 43)))
              refine hK.out _ _ trivial (fun _ => ?_)
              clear hK K
              try simp only [List.getElem_toArray, List.getElem_cons_zero, List.getElem_cons_succ, Act.put, List.setIfInBounds_toArray, List.set_cons_zero, List.set_cons_succ]
              refine wpAnyH_ready (rs := [1]) (by kernel_rfl) (by simp) (AllReadyH.cons rfl (fun K hK => ?_) AllReadyH.nil)
              have q1 : World.cell? (World.alloc (World.alloc (wr) (.cells #[.int .i64 (k : Int), .int .i64 ((k : Int) + 1)] 43)) (.cells #[.int .i64 0, .int .i64 ((k : Int) + 1)] 43)) ⟨w.heap.size, 1, none⟩ = some Vr := (cells_two HT3.out.gr).2.1
              go_simp
              clear q1
              refine hK.out _ _ trivial (fun _ => ?_)
              clear hK K
              try simp only [List.getElem_toArray, List.getElem_cons_zero, List.getElem_cons_succ, Act.put, List.setIfInBounds_toArray, List.set_cons_zero, List.set_cons_succ]
              refine wpAnyH_ready (rs := [7]) (by kernel_rfl) (by simp) (AllReadyH.cons rfl (fun K hK => ?_) AllReadyH.nil)
              refine step_append_lies _ rfl (.tmp 27) (.tmp 32) 22 rfl w.heap.size 43 i0 (.agg #[.int .i64 0, .int .i64 0]) 2 16 Try.underlying22 hi0 hz0 hz1 hz2 rfl (by decide) Vr k (pcells (rowK k)) rfl (by have h := HT3.out.r; rw [hlr] at h; exact h) ⟨_, 0, none⟩ 1 1 [.int .i64 (k : Int), .int .i64 ((k : Int) + 1)] rfl rfl HL6.out.2 (by simp [Value.oneCell']) (by omega) (by simp [maxLen]; omega) (by omega) (HSZ.out _ HT3.out.bel) _ rfl ?_
              intro g7 c7 w7 ho7 hg7 hor7 hlt7
              have ht4 := HT3.out.more (by rw [hlr]; exact ho7) hg7 hor7
              rw [hlr] at ht4
              have HT4 := Lib.hid ht4
              clear ht4
              have HL12 := Lib.hid (HL12.out.grown hg7 (fun e => by have h := HVR.out _ e; (try simp only [World.size_alloc, World.size_drew] at h); omega))
              clear ho7 hg7 hor7 hlt7
              refine hK.out _ _ trivial (fun _ => ?_)
              clear hK K
              try simp only [List.getElem_toArray, List.getElem_cons_zero, List.getElem_cons_succ, Act.put, List.setIfInBounds_toArray, List.set_cons_zero, List.set_cons_succ]
              refine wpAnyH_take (i := 14) (v := ?_) rfl (by kernel_rfl) (by kernel_rfl) (by kernel_rfl) (fun _ _ _ h => h) (Or.inl ⟨by rfl, ?_⟩) hS ?_
              rotate_left
              · intro wz hSw; (try dsimp only at hSw); go_simp; (try with_reducible rfl)
              try simp only [List.getElem_toArray, List.getElem_cons_zero, List.getElem_cons_succ, Act.put, List.setIfInBounds_toArray, List.set_cons_zero, List.set_cons_succ]
              refine wpAnyH_ready (rs := [13]) (by kernel_rfl) (by simp) (AllReadyH.cons rfl (fun K hK => ?_) AllReadyH.nil)
              refine step_append_lies _ rfl (.tmp 35) (.tmp 38) 22 rfl w.heap.size 43 i0 (.agg #[.int .i64 0, .int .i64 0]) 2 16 Try.underlying22 hi0 hz0 hz1 hz2 rfl (by decide) Vs k (pcells (starK k)) rfl (by have h := HT4.out.s; rw [hls] at h; exact h) ⟨_, 0, none⟩ 1 1 [.int .i64 0, .int .i64 ((k : Int) + 1)] rfl rfl HL12.out.2 (by simp [Value.oneCell']) (by omega) (by simp [maxLen]; omega) (by omega) (HSZ.out _ HT4.out.bel) _ rfl ?_
              intro g13 c13 w13 ho13 hg13 hor13 hlt13
              have ht5 := (HT4.out.swap.more (by rw [hls]; exact ho13) hg13 hor13).swap
              rw [hls] at ht5
              have HT5 := Lib.hid ht5
              clear ht5
              clear ho13 hg13 hor13 hlt13
              refine hK.out _ _ trivial (fun _ => ?_)
              clear hK K
              try simp only [List.getElem_toArray, List.getElem_cons_zero, List.getElem_cons_succ, Act.put, List.setIfInBounds_toArray, List.set_cons_zero, List.set_cons_succ]
              refine wpAnyH_ready (rs := [15]) (by kernel_rfl) (by simp) (AllReadyH.cons rfl (fun K hK => ?_) AllReadyH.nil)
              obtain ⟨_, q1, _, q2⟩ := cells_two HT5.out.gr
              go_simp
              have HT6 := Lib.hid (HT5.out.put (.slice (some ⟨g7, 0, none⟩) (k + 1) c7))
              clear q1 q2
              refine hK.out _ _ trivial (fun _ => ?_)
              clear hK K
              try simp only [List.getElem_toArray, List.getElem_cons_zero, List.getElem_cons_succ, Act.put, List.setIfInBounds_toArray, List.set_cons_zero, List.set_cons_succ]
              refine wpAnyH_take (i := 16) (v := ?_) rfl (by kernel_rfl) (by kernel_rfl) (by kernel_rfl) (fun _ _ _ h => h) (Or.inl ⟨by rfl, ?_⟩) hS ?_
              rotate_left
              · intro wz hSw; (try dsimp only at hSw); go_simp; (try with_reducible rfl)
              try simp only [List.getElem_toArray, List.getElem_cons_zero, List.getElem_cons_succ, Act.put, List.setIfInBounds_toArray, List.set_cons_zero, List.set_cons_succ]
              refine wpAnyH_ready (rs := [17]) (by kernel_rfl) (by simp) (AllReadyH.cons rfl (fun K hK => ?_) AllReadyH.nil)
              obtain ⟨_, q1, _, q2⟩ := cells_two HT6.out.gs
              go_simp
              have HT7 := Lib.hid (HT6.out.swap.put (.slice (some ⟨g13, 0, none⟩) (k + 1) c13)).swap
              clear q1 q2
              refine hK.out _ _ trivial (fun _ => ?_)
              clear hK K
              try simp only [List.getElem_toArray, List.getElem_cons_zero, List.getElem_cons_succ, Act.put, List.setIfInBounds_toArray, List.set_cons_zero, List.set_cons_succ]
              refine wpAnyH_done (by kernel_rfl) ?_ _
              go_wp2_with fail
              go_meet
              rw [rowK_snoc, starK_snoc]
              exact ⟨_, _, HT7⟩
          ·
            go_simp
            have HT3 := Lib.hid (HT2.out.lay (.cells #[.int .i64 0, .int .i64 ((k : Int) + 1)] 43))
            have hl12 := Lay.made (World.alloc (wr.drew) (.cells #[.int .i64 (k : Int), .int .i64 ((k : Int) + 1)] 43)) 0 ((k : Int) + 1)
            try simp only [World.size_alloc, World.size_drew] at hl12
            have HL12 := Lib.hid hl12
            clear hl12
            have HL6 := Lib.hid (HL6.out.below ((Below.refl _ _).alloc (Nat.le_refl _) (.cells #[.int .i64 0, .int .i64 ((k : Int) + 1)] 43)))
            refine hK.out _ _ trivial (fun _ => ?_)
            clear hK K
            try simp only [List.getElem_toArray, List.getElem_cons_zero, List.getElem_cons_succ, Act.put, List.setIfInBounds_toArray, List.set_cons_zero, List.set_cons_succ]
            refine wpAnyH_ready (rs := [1, 9]) (by kernel_rfl) (by simp) (AllReadyH.cons rfl (fun K hK => ?_) (AllReadyH.cons rfl (fun K hK => ?_) AllReadyH.nil))
            ·
              have q1 : World.cell? (World.alloc (World.alloc (wr) (.cells #[.int .i64 (k : Int), .int .i64 ((k : Int) + 1)] 43)) (.cells #[.int .i64 0, .int .i64 ((k : Int) + 1)] 43)) ⟨w.heap.size, 1, none⟩ = some Vr := (cells_two HT3.out.gr).2.1
              go_simp
              clear q1
              refine hK.out _ _ trivial (fun _ => ?_)
              clear hK K
              try simp only [List.getElem_toArray, List.getElem_cons_zero, List.getElem_cons_succ, Act.put, List.setIfInBounds_toArray, List.set_cons_zero, List.set_cons_succ]
              refine wpAnyH_ready (rs := [7, 9]) (by kernel_rfl) (by simp) (AllReadyH.cons rfl (fun K hK => ?_) (AllReadyH.cons rfl (fun K hK => ?_) AllReadyH.nil))
              ·
                refine step_append_lies _ rfl (.tmp 27) (.tmp 32) 22 rfl w.heap.size 43 i0 (.agg #[.int .i64 0, .int .i64 0]) 2 16 Try.underlying22 hi0 hz0 hz1 hz2 rfl (by decide) Vr k (pcells (rowK k)) rfl (by have h := HT3.out.r; rw [hlr] at h; exact h) ⟨_, 0, none⟩ 1 1 [.int .i64 (k : Int), .int .i64 ((k : Int) + 1)] rfl rfl HL6.out.2 (by simp [Value.oneCell']) (by omega) (by simp [maxLen]; omega) (by omega) (HSZ.out _ HT3.out.bel) _ rfl ?_
                intro g7 c7 w7 ho7 hg7 hor7 hlt7
                have ht4 := HT3.out.more (by rw [hlr]; exact ho7) hg7 hor7
                rw [hlr] at ht4
                have HT4 := Lib.hid ht4
                clear ht4
                have HL12 := Lib.hid (HL12.out.grown hg7 (fun e => by have h := HVR.out _ e; (try simp only [World.size_alloc, World.size_drew] at h); omega))
                clear ho7 hg7 hor7 hlt7
                refine hK.out _ _ trivial (fun _ => ?_)
                clear hK K
                try simp only [List.getElem_toArray, List.getElem_cons_zero, List.getElem_cons_succ, Act.put, List.setIfInBounds_toArray, List.set_cons_zero, List.set_cons_succ]
                refine wpAnyH_take (i := 14) (v := ?_) rfl (by kernel_rfl) (by kernel_rfl) (by kernel_rfl) (fun _ _ _ h => h) (Or.inl ⟨by rfl, ?_⟩) hS ?_
                rotate_left
                · intro wz hSw; (try dsimp only at hSw); go_simp; (try with_reducible rfl)
                try simp only [List.getElem_toArray, List.getElem_cons_zero, List.getElem_cons_succ, Act.put, List.setIfInBounds_toArray, List.set_cons_zero, List.set_cons_succ]
                refine wpAnyH_ready (rs := [9]) (by kernel_rfl) (by simp) (AllReadyH.cons rfl (fun K hK => ?_) AllReadyH.nil)
                have q1 : World.cell? (w7) ⟨w.heap.size + 1, 1, none⟩ = some Vs := (cells_two HT4.out.gs).2.1
                go_simp
                clear q1
                refine hK.out _ _ trivial (fun _ => ?_)
                clear hK K
                try simp only [List.getElem_toArray, List.getElem_cons_zero, List.getElem_cons_succ, Act.put, List.setIfInBounds_toArray, List.set_cons_zero, List.set_cons_succ]
                refine wpAnyH_ready (rs := [13]) (by kernel_rfl) (by simp) (AllReadyH.cons rfl (fun K hK => ?_) AllReadyH.nil)
                refine step_append_lies _ rfl (.tmp 35) (.tmp 38) 22 rfl w.heap.size 43 i0 (.agg #[.int .i64 0, .int .i64 0]) 2 16 Try.underlying22 hi0 hz0 hz1 hz2 rfl (by decide) Vs k (pcells (starK k)) rfl (by have h := HT4.out.s; rw [hls] at h; exact h) ⟨_, 0, none⟩ 1 1 [.int .i64 0, .int .i64 ((k : Int) + 1)] rfl rfl HL12.out.2 (by simp [Value.oneCell']) (by omega) (by simp [maxLen]; omega) (by omega) (HSZ.out _ HT4.out.bel) _ rfl ?_
                intro g13 c13 w13 ho13 hg13 hor13 hlt13
                have ht5 := (HT4.out.swap.more (by rw [hls]; exact ho13) hg13 hor13).swap
                rw [hls] at ht5
                have HT5 := Lib.hid ht5
                clear ht5
                clear ho13 hg13 hor13 hlt13
                refine hK.out _ _ trivial (fun _ => ?_)
                clear hK K
                try simp only [List.getElem_toArray, List.getElem_cons_zero, List.getElem_cons_succ, Act.put, List.setIfInBounds_toArray, List.set_cons_zero, List.set_cons_succ]
                refine wpAnyH_ready (rs := [15]) (by kernel_rfl) (by simp) (AllReadyH.cons rfl (fun K hK => ?_) AllReadyH.nil)
                obtain ⟨_, q1, _, q2⟩ := cells_two HT5.out.gr
                go_simp
                have HT6 := Lib.hid (HT5.out.put (.slice (some ⟨g7, 0, none⟩) (k + 1) c7))
                clear q1 q2
                refine hK.out _ _ trivial (fun _ => ?_)
                clear hK K
                try simp only [List.getElem_toArray, List.getElem_cons_zero, List.getElem_cons_succ, Act.put, List.setIfInBounds_toArray, List.set_cons_zero, List.set_cons_succ]
                refine wpAnyH_take (i := 16) (v := ?_) rfl (by kernel_rfl) (by kernel_rfl) (by kernel_rfl) (fun _ _ _ h => h) (Or.inl ⟨by rfl, ?_⟩) hS ?_
                rotate_left
                · intro wz hSw; (try dsimp only at hSw); go_simp; (try with_reducible rfl)
                try simp only [List.getElem_toArray, List.getElem_cons_zero, List.getElem_cons_succ, Act.put, List.setIfInBounds_toArray, List.set_cons_zero, List.set_cons_succ]
                refine wpAnyH_ready (rs := [17]) (by kernel_rfl) (by simp) (AllReadyH.cons rfl (fun K hK => ?_) AllReadyH.nil)
                obtain ⟨_, q1, _, q2⟩ := cells_two HT6.out.gs
                go_simp
                have HT7 := Lib.hid (HT6.out.swap.put (.slice (some ⟨g13, 0, none⟩) (k + 1) c13)).swap
                clear q1 q2
                refine hK.out _ _ trivial (fun _ => ?_)
                clear hK K
                try simp only [List.getElem_toArray, List.getElem_cons_zero, List.getElem_cons_succ, Act.put, List.setIfInBounds_toArray, List.set_cons_zero, List.set_cons_succ]
                refine wpAnyH_done (by kernel_rfl) ?_ _
                go_wp2_with fail
                go_meet
                rw [rowK_snoc, starK_snoc]
                exact ⟨_, _, HT7⟩
              ·
                have q1 : World.cell? (World.alloc (World.alloc (wr) (.cells #[.int .i64 (k : Int), .int .i64 ((k : Int) + 1)] 43)) (.cells #[.int .i64 0, .int .i64 ((k : Int) + 1)] 43)) ⟨w.heap.size + 1, 1, none⟩ = some Vs := (cells_two HT3.out.gs).2.1
                go_simp
                clear q1
                refine hK.out _ _ trivial (fun _ => ?_)
                clear hK K
                try simp only [List.getElem_toArray, List.getElem_cons_zero, List.getElem_cons_succ, Act.put, List.setIfInBounds_toArray, List.set_cons_zero, List.set_cons_succ]
                refine wpAnyH_ready (rs := [7]) (by kernel_rfl) (by simp) (AllReadyH.cons rfl (fun K hK => ?_) AllReadyH.nil)
                refine step_append_lies _ rfl (.tmp 27) (.tmp 32) 22 rfl w.heap.size 43 i0 (.agg #[.int .i64 0, .int .i64 0]) 2 16 Try.underlying22 hi0 hz0 hz1 hz2 rfl (by decide) Vr k (pcells (rowK k)) rfl (by have h := HT3.out.r; rw [hlr] at h; exact h) ⟨_, 0, none⟩ 1 1 [.int .i64 (k : Int), .int .i64 ((k : Int) + 1)] rfl rfl HL6.out.2 (by simp [Value.oneCell']) (by omega) (by simp [maxLen]; omega) (by omega) (HSZ.out _ HT3.out.bel) _ rfl ?_
                intro g7 c7 w7 ho7 hg7 hor7 hlt7
                have ht4 := HT3.out.more (by rw [hlr]; exact ho7) hg7 hor7
                rw [hlr] at ht4
                have HT4 := Lib.hid ht4
                clear ht4
                have HL12 := Lib.hid (HL12.out.grown hg7 (fun e => by have h := HVR.out _ e; (try simp only [World.size_alloc, World.size_drew] at h); omega))
                clear ho7 hg7 hor7 hlt7
                refine hK.out _ _ trivial (fun _ => ?_)
                clear hK K
                try simp only [List.getElem_toArray, List.getElem_cons_zero, List.getElem_cons_succ, Act.put, List.setIfInBounds_toArray, List.set_cons_zero, List.set_cons_succ]
                refine wpAnyH_take (i := 14) (v := ?_) rfl (by kernel_rfl) (by kernel_rfl) (by kernel_rfl) (fun _ _ _ h => h) (Or.inl ⟨by rfl, ?_⟩) hS ?_
                rotate_left
                · intro wz hSw; (try dsimp only at hSw); go_simp; (try with_reducible rfl)
                try simp only [List.getElem_toArray, List.getElem_cons_zero, List.getElem_cons_succ, Act.put, List.setIfInBounds_toArray, List.set_cons_zero, List.set_cons_succ]
                refine wpAnyH_ready (rs := [13]) (by kernel_rfl) (by simp) (AllReadyH.cons rfl (fun K hK => ?_) AllReadyH.nil)
                refine step_append_lies _ rfl (.tmp 35) (.tmp 38) 22 rfl w.heap.size 43 i0 (.agg #[.int .i64 0, .int .i64 0]) 2 16 Try.underlying22 hi0 hz0 hz1 hz2 rfl (by decide) Vs k (pcells (starK k)) rfl (by have h := HT4.out.s; rw [hls] at h; exact h) ⟨_, 0, none⟩ 1 1 [.int .i64 0, .int .i64 ((k : Int) + 1)] rfl rfl HL12.out.2 (by simp [Value.oneCell']) (by omega) (by simp [maxLen]; omega) (by omega) (HSZ.out _ HT4.out.bel) _ rfl ?_
                intro g13 c13 w13 ho13 hg13 hor13 hlt13
                have ht5 := (HT4.out.swap.more (by rw [hls]; exact ho13) hg13 hor13).swap
                rw [hls] at ht5
                have HT5 := Lib.hid ht5
                clear ht5
                clear ho13 hg13 hor13 hlt13
                refine hK.out _ _ trivial (fun _ => ?_)
                clear hK K
                try simp only [List.getElem_toArray, List.getElem_cons_zero, List.getElem_cons_succ, Act.put, List.setIfInBounds_toArray, List.set_cons_zero, List.set_cons_succ]
                refine wpAnyH_ready (rs := [15]) (by kernel_rfl) (by simp) (AllReadyH.cons rfl (fun K hK => ?_) AllReadyH.nil)
                obtain ⟨_, q1, _, q2⟩ := cells_two HT5.out.gr
                go_simp
                have HT6 := Lib.hid (HT5.out.put (.slice (some ⟨g7, 0, none⟩) (k + 1) c7))
                clear q1 q2
                refine hK.out _ _ trivial (fun _ => ?_)
                clear hK K
                try simp only [List.getElem_toArray, List.getElem_cons_zero, List.getElem_cons_succ, Act.put, List.setIfInBounds_toArray, List.set_cons_zero, List.set_cons_succ]
                refine wpAnyH_take (i := 16) (v := ?_) rfl (by kernel_rfl) (by kernel_rfl) (by kernel_rfl) (fun _ _ _ h => h) (Or.inl ⟨by rfl, ?_⟩) hS ?_
                rotate_left
                · intro wz hSw; (try dsimp only at hSw); go_simp; (try with_reducible rfl)
                try simp only [List.getElem_toArray, List.getElem_cons_zero, List.getElem_cons_succ, Act.put, List.setIfInBounds_toArray, List.set_cons_zero, List.set_cons_succ]
                refine wpAnyH_ready (rs := [17]) (by kernel_rfl) (by simp) (AllReadyH.cons rfl (fun K hK => ?_) AllReadyH.nil)
                obtain ⟨_, q1, _, q2⟩ := cells_two HT6.out.gs
                go_simp
                have HT7 := Lib.hid (HT6.out.swap.put (.slice (some ⟨g13, 0, none⟩) (k + 1) c13)).swap
                clear q1 q2
                refine hK.out _ _ trivial (fun _ => ?_)
                clear hK K
                try simp only [List.getElem_toArray, List.getElem_cons_zero, List.getElem_cons_succ, Act.put, List.setIfInBounds_toArray, List.set_cons_zero, List.set_cons_succ]
                refine wpAnyH_done (by kernel_rfl) ?_ _
                go_wp2_with fail
                go_meet
                rw [rowK_snoc, starK_snoc]
                exact ⟨_, _, HT7⟩
            ·
              have q1 : World.cell? (World.alloc (World.alloc (wr) (.cells #[.int .i64 (k : Int), .int .i64 ((k : Int) + 1)] 43)) (.cells #[.int .i64 0, .int .i64 ((k : Int) + 1)] 43)) ⟨w.heap.size + 1, 1, none⟩ = some Vs := (cells_two HT3.out.gs).2.1
              go_simp
              clear q1
              refine hK.out _ _ trivial (fun _ => ?_)
              clear hK K
              try simp only [List.getElem_toArray, List.getElem_cons_zero, List.getElem_cons_succ, Act.put, List.setIfInBounds_toArray, List.set_cons_zero, List.set_cons_succ]
              refine wpAnyH_ready (rs := [1]) (by kernel_rfl) (by simp) (AllReadyH.cons rfl (fun K hK => ?_) AllReadyH.nil)
              have q1 : World.cell? (World.alloc (World.alloc (wr) (.cells #[.int .i64 (k : Int), .int .i64 ((k : Int) + 1)] 43)) (.cells #[.int .i64 0, .int .i64 ((k : Int) + 1)] 43)) ⟨w.heap.size, 1, none⟩ = some Vr := (cells_two HT3.out.gr).2.1
              go_simp
              clear q1
              refine hK.out _ _ trivial (fun _ => ?_)
              clear hK K
              try simp only [List.getElem_toArray, List.getElem_cons_zero, List.getElem_cons_succ, Act.put, List.setIfInBounds_toArray, List.set_cons_zero, List.set_cons_succ]
              refine wpAnyH_ready (rs := [7]) (by kernel_rfl) (by simp) (AllReadyH.cons rfl (fun K hK => ?_) AllReadyH.nil)
              refine step_append_lies _ rfl (.tmp 27) (.tmp 32) 22 rfl w.heap.size 43 i0 (.agg #[.int .i64 0, .int .i64 0]) 2 16 Try.underlying22 hi0 hz0 hz1 hz2 rfl (by decide) Vr k (pcells (rowK k)) rfl (by have h := HT3.out.r; rw [hlr] at h; exact h) ⟨_, 0, none⟩ 1 1 [.int .i64 (k : Int), .int .i64 ((k : Int) + 1)] rfl rfl HL6.out.2 (by simp [Value.oneCell']) (by omega) (by simp [maxLen]; omega) (by omega) (HSZ.out _ HT3.out.bel) _ rfl ?_
              intro g7 c7 w7 ho7 hg7 hor7 hlt7
              have ht4 := HT3.out.more (by rw [hlr]; exact ho7) hg7 hor7
              rw [hlr] at ht4
              have HT4 := Lib.hid ht4
              clear ht4
              have HL12 := Lib.hid (HL12.out.grown hg7 (fun e => by have h := HVR.out _ e; (try simp only [World.size_alloc, World.size_drew] at h); omega))
              clear ho7 hg7 hor7 hlt7
              refine hK.out _ _ trivial (fun _ => ?_)
              clear hK K
              try simp only [List.getElem_toArray, List.getElem_cons_zero, List.getElem_cons_succ, Act.put, List.setIfInBounds_toArray, List.set_cons_zero, List.set_cons_succ]
              refine wpAnyH_take (i := 14) (v := ?_) rfl (by kernel_rfl) (by kernel_rfl) (by kernel_rfl) (fun _ _ _ h => h) (Or.inl ⟨by rfl, ?_⟩) hS ?_
              rotate_left
              · intro wz hSw; (try dsimp only at hSw); go_simp; (try with_reducible rfl)
              try simp only [List.getElem_toArray, List.getElem_cons_zero, List.getElem_cons_succ, Act.put, List.setIfInBounds_toArray, List.set_cons_zero, List.set_cons_succ]
              refine wpAnyH_ready (rs := [13]) (by kernel_rfl) (by simp) (AllReadyH.cons rfl (fun K hK => ?_) AllReadyH.nil)
              refine step_append_lies _ rfl (.tmp 35) (.tmp 38) 22 rfl w.heap.size 43 i0 (.agg #[.int .i64 0, .int .i64 0]) 2 16 Try.underlying22 hi0 hz0 hz1 hz2 rfl (by decide) Vs k (pcells (starK k)) rfl (by have h := HT4.out.s; rw [hls] at h; exact h) ⟨_, 0, none⟩ 1 1 [.int .i64 0, .int .i64 ((k : Int) + 1)] rfl rfl HL12.out.2 (by simp [Value.oneCell']) (by omega) (by simp [maxLen]; omega) (by omega) (HSZ.out _ HT4.out.bel) _ rfl ?_
              intro g13 c13 w13 ho13 hg13 hor13 hlt13
              have ht5 := (HT4.out.swap.more (by rw [hls]; exact ho13) hg13 hor13).swap
              rw [hls] at ht5
              have HT5 := Lib.hid ht5
              clear ht5
              clear ho13 hg13 hor13 hlt13
              refine hK.out _ _ trivial (fun _ => ?_)
              clear hK K
              try simp only [List.getElem_toArray, List.getElem_cons_zero, List.getElem_cons_succ, Act.put, List.setIfInBounds_toArray, List.set_cons_zero, List.set_cons_succ]
              refine wpAnyH_ready (rs := [15]) (by kernel_rfl) (by simp) (AllReadyH.cons rfl (fun K hK => ?_) AllReadyH.nil)
              obtain ⟨_, q1, _, q2⟩ := cells_two HT5.out.gr
              go_simp
              have HT6 := Lib.hid (HT5.out.put (.slice (some ⟨g7, 0, none⟩) (k + 1) c7))
              clear q1 q2
              refine hK.out _ _ trivial (fun _ => ?_)
              clear hK K
              try simp only [List.getElem_toArray, List.getElem_cons_zero, List.getElem_cons_succ, Act.put, List.setIfInBounds_toArray, List.set_cons_zero, List.set_cons_succ]
              refine wpAnyH_take (i := 16) (v := ?_) rfl (by kernel_rfl) (by kernel_rfl) (by kernel_rfl) (fun _ _ _ h => h) (Or.inl ⟨by rfl, ?_⟩) hS ?_
              rotate_left
              · intro wz hSw; (try dsimp only at hSw); go_simp; (try with_reducible rfl)
              try simp only [List.getElem_toArray, List.getElem_cons_zero, List.getElem_cons_succ, Act.put, List.setIfInBounds_toArray, List.set_cons_zero, List.set_cons_succ]
              refine wpAnyH_ready (rs := [17]) (by kernel_rfl) (by simp) (AllReadyH.cons rfl (fun K hK => ?_) AllReadyH.nil)
              obtain ⟨_, q1, _, q2⟩ := cells_two HT6.out.gs
              go_simp
              have HT7 := Lib.hid (HT6.out.swap.put (.slice (some ⟨g13, 0, none⟩) (k + 1) c13)).swap
              clear q1 q2
              refine hK.out _ _ trivial (fun _ => ?_)
              clear hK K
              try simp only [List.getElem_toArray, List.getElem_cons_zero, List.getElem_cons_succ, Act.put, List.setIfInBounds_toArray, List.set_cons_zero, List.set_cons_succ]
              refine wpAnyH_done (by kernel_rfl) ?_ _
              go_wp2_with fail
              go_meet
              rw [rowK_snoc, starK_snoc]
              exact ⟨_, _, HT7⟩
        ·
          have q1 : World.cell? (wr) ⟨w.heap.size + 1, 1, none⟩ = some Vs := (cells_two HT1.out.gs).2.1
          go_simp
          clear q1
          refine hK.out _ _ trivial (fun _ => ?_)
          clear hK K
          try simp only [List.getElem_toArray, List.getElem_cons_zero, List.getElem_cons_succ, Act.put, List.setIfInBounds_toArray, List.set_cons_zero, List.set_cons_succ]
          refine wpAnyH_ready (rs := [1, 6, 12]) (by kernel_rfl) (by simp) (AllReadyH.cons rfl (fun K hK => ?_) (AllReadyH.cons rfl (fun K hK => ?_) (AllReadyH.cons rfl (fun K hK => ?_) AllReadyH.nil)))
          ·
            have q1 : World.cell? (wr) ⟨w.heap.size, 1, none⟩ = some Vr := (cells_two HT1.out.gr).2.1
            go_simp
            clear q1
            refine hK.out _ _ trivial (fun _ => ?_)
            clear hK K
            try simp only [List.getElem_toArray, List.getElem_cons_zero, List.getElem_cons_succ, Act.put, List.setIfInBounds_toArray, List.set_cons_zero, List.set_cons_succ]
            refine wpAnyH_ready (rs := [6, 12]) (by kernel_rfl) (by simp) (AllReadyH.cons rfl (fun K hK => ?_) (AllReadyH.cons rfl (fun K hK => ?_) AllReadyH.nil))
            ·
              go_simp
              have HT2 := Lib.hid (HT1.out.lay (.cells #[.int .i64 (k : Int), .int .i64 ((k : Int) + 1)] 43))
              have hl6 := Lay.made (wr.drew) (k : Int) ((k : Int) + 1)
              try simp only [World.size_alloc, World.size_drew] at hl6
              have HL6 := Lib.hid hl6
              clear hl6
              refine hK.out _ _ trivial (fun _ => ?_)
              clear hK K
              try simp only [List.getElem_toArray, List.getElem_cons_zero, List.getElem_cons_succ, Act.put, List.setIfInBounds_toArray, List.set_cons_zero, List.set_cons_succ]
              refine wpAnyH_ready (rs := [7, 12]) (by kernel_rfl) (by simp) (AllReadyH.cons rfl (fun K hK => ?_) (AllReadyH.cons rfl (fun K hK => ?_) AllReadyH.nil))
              ·
                refine step_append_lies _ rfl (.tmp 27) (.tmp 32) 22 rfl w.heap.size 43 i0 (.agg #[.int .i64 0, .int .i64 0]) 2 16 Try.underlying22 hi0 hz0 hz1 hz2 rfl (by decide) Vr k (pcells (rowK k)) rfl (by have h := HT2.out.r; rw [hlr] at h; exact h) ⟨_, 0, none⟩ 1 1 [.int .i64 (k : Int), .int .i64 ((k : Int) + 1)] rfl rfl HL6.out.2 (by simp [Value.oneCell']) (by omega) (by simp [maxLen]; omega) (by omega) (HSZ.out _ HT2.out.bel) _ rfl ?_
                intro g7 c7 w7 ho7 hg7 hor7 hlt7
                have ht3 := HT2.out.more (by rw [hlr]; exact ho7) hg7 hor7
                rw [hlr] at ht3
                have HT3 := Lib.hid ht3
                clear ht3
                clear ho7 hg7 hor7 hlt7
                refine hK.out _ _ trivial (fun _ => ?_)
                clear hK K
                try simp only [List.getElem_toArray, List.getElem_cons_zero, List.getElem_cons_succ, Act.put, List.setIfInBounds_toArray, List.set_cons_zero, List.set_cons_succ]
                refine wpAnyH_take (i := 14) (v := ?_) rfl (by kernel_rfl) (by kernel_rfl) (by kernel_rfl) (fun _ _ _ h => h) (Or.inl ⟨by rfl, ?_⟩) hS ?_
                rotate_left
                · intro wz hSw; (try dsimp only at hSw); go_simp; (try with_reducible rfl)
                try simp only [List.getElem_toArray, List.getElem_cons_zero, List.getElem_cons_succ, Act.put, List.setIfInBounds_toArray, List.set_cons_zero, List.set_cons_succ]
                refine wpAnyH_ready (rs := [12]) (by kernel_rfl) (by simp) (AllReadyH.cons rfl (fun K hK => ?_) AllReadyH.nil)
                go_simp
                have HT4 := Lib.hid (HT3.out.lay (.cells #[.int .i64 0, .int .i64 ((k : Int) + 1)] 43))
                have hl12 := Lay.made (w7) 0 ((k : Int) + 1)
                try simp only [World.size_alloc, World.size_drew] at hl12
                have HL12 := Lib.hid hl12
                clear hl12
                have HL6 := Lib.hid (HL6.out.below ((Below.refl _ _).alloc (Nat.le_refl _) (.cells #[.int .i64 0, .int .i64 ((k : Int) + 1)] 43)))
                refine hK.out _ _ trivial (fun _ => ?_)
                clear hK K
                try simp only [List.getElem_toArray, List.getElem_cons_zero, List.getElem_cons_succ, Act.put, List.setIfInBounds_toArray, List.set_cons_zero, List.set_cons_succ]
                refine wpAnyH_ready (rs := [13]) (by kernel_rfl) (by simp) (AllReadyH.cons rfl (fun K hK => ?_) AllReadyH.nil)
                refine step_append_lies _ rfl (.tmp 35) (.tmp 38) 22 rfl w.heap.size 43 i0 (.agg #[.int .i64 0, .int .i64 0]) 2 16 Try.underlying22 hi0 hz0 hz1 hz2 rfl (by decide) Vs k (pcells (starK k)) rfl (by have h := HT4.out.s; rw [hls] at h; exact h) ⟨_, 0, none⟩ 1 1 [.int .i64 0, .int .i64 ((k : Int) + 1)] rfl rfl HL12.out.2 (by simp [Value.oneCell']) (by omega) (by simp [maxLen]; omega) (by omega) (HSZ.out _ HT4.out.bel) _ rfl ?_
                intro g13 c13 w13 ho13 hg13 hor13 hlt13
                have ht5 := (HT4.out.swap.more (by rw [hls]; exact ho13) hg13 hor13).swap
                rw [hls] at ht5
                have HT5 := Lib.hid ht5
                clear ht5
                clear ho13 hg13 hor13 hlt13
                refine hK.out _ _ trivial (fun _ => ?_)
                clear hK K
                try simp only [List.getElem_toArray, List.getElem_cons_zero, List.getElem_cons_succ, Act.put, List.setIfInBounds_toArray, List.set_cons_zero, List.set_cons_succ]
                refine wpAnyH_ready (rs := [15]) (by kernel_rfl) (by simp) (AllReadyH.cons rfl (fun K hK => ?_) AllReadyH.nil)
                obtain ⟨_, q1, _, q2⟩ := cells_two HT5.out.gr
                go_simp
                have HT6 := Lib.hid (HT5.out.put (.slice (some ⟨g7, 0, none⟩) (k + 1) c7))
                clear q1 q2
                refine hK.out _ _ trivial (fun _ => ?_)
                clear hK K
                try simp only [List.getElem_toArray, List.getElem_cons_zero, List.getElem_cons_succ, Act.put, List.setIfInBounds_toArray, List.set_cons_zero, List.set_cons_succ]
                refine wpAnyH_take (i := 16) (v := ?_) rfl (by kernel_rfl) (by kernel_rfl) (by kernel_rfl) (fun _ _ _ h => h) (Or.inl ⟨by rfl, ?_⟩) hS ?_
                rotate_left
                · intro wz hSw; (try dsimp only at hSw); go_simp; (try with_reducible rfl)
                try simp only [List.getElem_toArray, List.getElem_cons_zero, List.getElem_cons_succ, Act.put, List.setIfInBounds_toArray, List.set_cons_zero, List.set_cons_succ]
                refine wpAnyH_ready (rs := [17]) (by kernel_rfl) (by simp) (AllReadyH.cons rfl (fun K hK => ?_) AllReadyH.nil)
                obtain ⟨_, q1, _, q2⟩ := cells_two HT6.out.gs
                go_simp
                have HT7 := Lib.hid (HT6.out.swap.put (.slice (some ⟨g13, 0, none⟩) (k + 1) c13)).swap
                clear q1 q2
                refine hK.out _ _ trivial (fun _ => ?_)
                clear hK K
                try simp only [List.getElem_toArray, List.getElem_cons_zero, List.getElem_cons_succ, Act.put, List.setIfInBounds_toArray, List.set_cons_zero, List.set_cons_succ]
                refine wpAnyH_done (by kernel_rfl) ?_ _
                go_wp2_with fail
                go_meet
                rw [rowK_snoc, starK_snoc]
                exact ⟨_, _, HT7⟩
              ·
                go_simp
                have HT3 := Lib.hid (HT2.out.lay (.cells #[.int .i64 0, .int .i64 ((k : Int) + 1)] 43))
                have hl12 := Lay.made (World.alloc (wr.drew) (.cells #[.int .i64 (k : Int), .int .i64 ((k : Int) + 1)] 43)) 0 ((k : Int) + 1)
                try simp only [World.size_alloc, World.size_drew] at hl12
                have HL12 := Lib.hid hl12
                clear hl12
                have HL6 := Lib.hid (HL6.out.below ((Below.refl _ _).alloc (Nat.le_refl _) (.cells #[.int .i64 0, .int .i64 ((k : Int) + 1)] 43)))
                refine hK.out _ _ trivial (fun _ => ?_)
                clear hK K
                try simp only [List.getElem_toArray, List.getElem_cons_zero, List.getElem_cons_succ, Act.put, List.setIfInBounds_toArray, List.set_cons_zero, List.set_cons_succ]
                refine wpAnyH_ready (rs := [7]) (by kernel_rfl) (by simp) (AllReadyH.cons rfl (fun K hK => ?_) AllReadyH.nil)
                refine step_append_lies _ rfl (.tmp 27) (.tmp 32) 22 rfl w.heap.size 43 i0 (.agg #[.int .i64 0, .int .i64 0]) 2 16 Try.underlying22 hi0 hz0 hz1 hz2 rfl (by decide) Vr k (pcells (rowK k)) rfl (by have h := HT3.out.r; rw [hlr] at h; exact h) ⟨_, 0, none⟩ 1 1 [.int .i64 (k : Int), .int .i64 ((k : Int) + 1)] rfl rfl HL6.out.2 (by simp [Value.oneCell']) (by omega) (by simp [maxLen]; omega) (by omega) (HSZ.out _ HT3.out.bel) _ rfl ?_
                intro g7 c7 w7 ho7 hg7 hor7 hlt7
                have ht4 := HT3.out.more (by rw [hlr]; exact ho7) hg7 hor7
                rw [hlr] at ht4
                have HT4 := Lib.hid ht4
                clear ht4
                have HL12 := Lib.hid (HL12.out.grown hg7 (fun e => by have h := HVR.out _ e; (try simp only [World.size_alloc, World.size_drew] at h); omega))
                clear ho7 hg7 hor7 hlt7
                refine hK.out _ _ trivial (fun _ => ?_)
                clear hK K
                try simp only [List.getElem_toArray, List.getElem_cons_zero, List.getElem_cons_succ, Act.put, List.setIfInBounds_toArray, List.set_cons_zero, List.set_cons_succ]
                refine wpAnyH_take (i := 14) (v := ?_) rfl (by kernel_rfl) (by kernel_rfl) (by kernel_rfl) (fun _ _ _ h => h) (Or.inl ⟨by rfl, ?_⟩) hS ?_
                rotate_left
                · intro wz hSw; (try dsimp only at hSw); go_simp; (try with_reducible rfl)
                try simp only [List.getElem_toArray, List.getElem_cons_zero, List.getElem_cons_succ, Act.put, List.setIfInBounds_toArray, List.set_cons_zero, List.set_cons_succ]
                refine wpAnyH_ready (rs := [13]) (by kernel_rfl) (by simp) (AllReadyH.cons rfl (fun K hK => ?_) AllReadyH.nil)
                refine step_append_lies _ rfl (.tmp 35) (.tmp 38) 22 rfl w.heap.size 43 i0 (.agg #[.int .i64 0, .int .i64 0]) 2 16 Try.underlying22 hi0 hz0 hz1 hz2 rfl (by decide) Vs k (pcells (starK k)) rfl (by have h := HT4.out.s; rw [hls] at h; exact h) ⟨_, 0, none⟩ 1 1 [.int .i64 0, .int .i64 ((k : Int) + 1)] rfl rfl HL12.out.2 (by simp [Value.oneCell']) (by omega) (by simp [maxLen]; omega) (by omega) (HSZ.out _ HT4.out.bel) _ rfl ?_
                intro g13 c13 w13 ho13 hg13 hor13 hlt13
                have ht5 := (HT4.out.swap.more (by rw [hls]; exact ho13) hg13 hor13).swap
                rw [hls] at ht5
                have HT5 := Lib.hid ht5
                clear ht5
                clear ho13 hg13 hor13 hlt13
                refine hK.out _ _ trivial (fun _ => ?_)
                clear hK K
                try simp only [List.getElem_toArray, List.getElem_cons_zero, List.getElem_cons_succ, Act.put, List.setIfInBounds_toArray, List.set_cons_zero, List.set_cons_succ]
                refine wpAnyH_ready (rs := [15]) (by kernel_rfl) (by simp) (AllReadyH.cons rfl (fun K hK => ?_) AllReadyH.nil)
                obtain ⟨_, q1, _, q2⟩ := cells_two HT5.out.gr
                go_simp
                have HT6 := Lib.hid (HT5.out.put (.slice (some ⟨g7, 0, none⟩) (k + 1) c7))
                clear q1 q2
                refine hK.out _ _ trivial (fun _ => ?_)
                clear hK K
                try simp only [List.getElem_toArray, List.getElem_cons_zero, List.getElem_cons_succ, Act.put, List.setIfInBounds_toArray, List.set_cons_zero, List.set_cons_succ]
                refine wpAnyH_take (i := 16) (v := ?_) rfl (by kernel_rfl) (by kernel_rfl) (by kernel_rfl) (fun _ _ _ h => h) (Or.inl ⟨by rfl, ?_⟩) hS ?_
                rotate_left
                · intro wz hSw; (try dsimp only at hSw); go_simp; (try with_reducible rfl)
                try simp only [List.getElem_toArray, List.getElem_cons_zero, List.getElem_cons_succ, Act.put, List.setIfInBounds_toArray, List.set_cons_zero, List.set_cons_succ]
                refine wpAnyH_ready (rs := [17]) (by kernel_rfl) (by simp) (AllReadyH.cons rfl (fun K hK => ?_) AllReadyH.nil)
                obtain ⟨_, q1, _, q2⟩ := cells_two HT6.out.gs
                go_simp
                have HT7 := Lib.hid (HT6.out.swap.put (.slice (some ⟨g13, 0, none⟩) (k + 1) c13)).swap
                clear q1 q2
                refine hK.out _ _ trivial (fun _ => ?_)
                clear hK K
                try simp only [List.getElem_toArray, List.getElem_cons_zero, List.getElem_cons_succ, Act.put, List.setIfInBounds_toArray, List.set_cons_zero, List.set_cons_succ]
                refine wpAnyH_done (by kernel_rfl) ?_ _
                go_wp2_with fail
                go_meet
                rw [rowK_snoc, starK_snoc]
                exact ⟨_, _, HT7⟩
            ·
              go_simp
              have HT2 := Lib.hid (HT1.out.lay (.cells #[.int .i64 0, .int .i64 ((k : Int) + 1)] 43))
              have hl12 := Lay.made (wr.drew) 0 ((k : Int) + 1)
              try simp only [World.size_alloc, World.size_drew] at hl12
              have HL12 := Lib.hid hl12
              clear hl12
              refine hK.out _ _ trivial (fun _ => ?_)
              clear hK K
              try simp only [List.getElem_toArray, List.getElem_cons_zero, List.getElem_cons_succ, Act.put, List.setIfInBounds_toArray, List.set_cons_zero, List.set_cons_succ]
              refine wpAnyH_ready (rs := [6]) (by kernel_rfl) (by simp) (AllReadyH.cons rfl (fun K hK => ?_) AllReadyH.nil)
              go_simp
              have HT3 := Lib.hid (HT2.out.lay (.cells #[.int .i64 (k : Int), .int .i64 ((k : Int) + 1)] 43))
              have hl6 := Lay.made (World.alloc (wr.drew) (.cells #[.int .i64 0, .int .i64 ((k : Int) + 1)] 43)) (k : Int) ((k : Int) + 1)
              try simp only [World.size_alloc, World.size_drew] at hl6
              have HL6 := Lib.hid hl6
              clear hl6
              have HL12 := Lib.hid (HL12.out.below ((Below.refl _ _).alloc (Nat.le_refl _) (.cells #[.int .i64 (k : Int), .int .i64 ((k : Int) + 1)] 43)))
              refine hK.out _ _ trivial (fun _ => ?_)
              clear hK K
              try simp only [List.getElem_toArray, List.getElem_cons_zero, List.getElem_cons_succ, Act.put, List.setIfInBounds_toArray, List.set_cons_zero, List.set_cons_succ]
              refine wpAnyH_ready (rs := [7]) (by kernel_rfl) (by simp) (AllReadyH.cons rfl (fun K hK => ?_) AllReadyH.nil)
              refine step_append_lies _ rfl (.tmp 27) (.tmp 32) 22 rfl w.heap.size 43 i0 (.agg #[.int .i64 0, .int .i64 0]) 2 16 Try.underlying22 hi0 hz0 hz1 hz2 rfl (by decide) Vr k (pcells (rowK k)) rfl (by have h := HT3.out.r; rw [hlr] at h; exact h) ⟨_, 0, none⟩ 1 1 [.int .i64 (k : Int), .int .i64 ((k : Int) + 1)] rfl rfl HL6.out.2 (by simp [Value.oneCell']) (by omega) (by simp [maxLen]; omega) (by omega) (HSZ.out _ HT3.out.bel) _ rfl ?_
              intro g7 c7 w7 ho7 hg7 hor7 hlt7
              have ht4 := HT3.out.more (by rw [hlr]; exact ho7) hg7 hor7
              rw [hlr] at ht4
              have HT4 := Lib.hid ht4
              clear ht4
              have HL12 := Lib.hid (HL12.out.grown hg7 (fun e => by have h := HVR.out _ e; (try simp only [World.size_alloc, World.size_drew] at h); omega))
              clear ho7 hg7 hor7 hlt7
              refine hK.out _ _ trivial (fun _ => ?_)
              clear hK K
              try simp only [List.getElem_toArray, List.getElem_cons_zero, List.getElem_cons_succ, Act.put, List.setIfInBounds_toArray, List.set_cons_zero, List.set_cons_succ]
              refine wpAnyH_take (i := 14) (v := ?_) rfl (by kernel_rfl) (by kernel_rfl) (by kernel_rfl) (fun _ _ _ h => h) (Or.inl ⟨by rfl, ?_⟩) hS ?_
              rotate_left
              · intro wz hSw; (try dsimp only at hSw); go_simp; (try with_reducible rfl)
              try simp only [List.getElem_toArray, List.getElem_cons_zero, List.getElem_cons_succ, Act.put, List.setIfInBounds_toArray, List.set_cons_zero, List.set_cons_succ]
              refine wpAnyH_ready (rs := [13]) (by kernel_rfl) (by simp) (AllReadyH.cons rfl (fun K hK => ?_) AllReadyH.nil)
              refine step_append_lies _ rfl (.tmp 35) (.tmp 38) 22 rfl w.heap.size 43 i0 (.agg #[.int .i64 0, .int .i64 0]) 2 16 Try.underlying22 hi0 hz0 hz1 hz2 rfl (by decide) Vs k (pcells (starK k)) rfl (by have h := HT4.out.s; rw [hls] at h; exact h) ⟨_, 0, none⟩ 1 1 [.int .i64 0, .int .i64 ((k : Int) + 1)] rfl rfl HL12.out.2 (by simp [Value.oneCell']) (by omega) (by simp [maxLen]; omega) (by omega) (HSZ.out _ HT4.out.bel) _ rfl ?_
              intro g13 c13 w13 ho13 hg13 hor13 hlt13
              have ht5 := (HT4.out.swap.more (by rw [hls]; exact ho13) hg13 hor13).swap
              rw [hls] at ht5
              have HT5 := Lib.hid ht5
              clear ht5
              clear ho13 hg13 hor13 hlt13
              refine hK.out _ _ trivial (fun _ => ?_)
              clear hK K
              try simp only [List.getElem_toArray, List.getElem_cons_zero, List.getElem_cons_succ, Act.put, List.setIfInBounds_toArray, List.set_cons_zero, List.set_cons_succ]
              refine wpAnyH_ready (rs := [15]) (by kernel_rfl) (by simp) (AllReadyH.cons rfl (fun K hK => ?_) AllReadyH.nil)
              obtain ⟨_, q1, _, q2⟩ := cells_two HT5.out.gr
              go_simp
              have HT6 := Lib.hid (HT5.out.put (.slice (some ⟨g7, 0, none⟩) (k + 1) c7))
              clear q1 q2
              refine hK.out _ _ trivial (fun _ => ?_)
              clear hK K
              try simp only [List.getElem_toArray, List.getElem_cons_zero, List.getElem_cons_succ, Act.put, List.setIfInBounds_toArray, List.set_cons_zero, List.set_cons_succ]
              refine wpAnyH_take (i := 16) (v := ?_) rfl (by kernel_rfl) (by kernel_rfl) (by kernel_rfl) (fun _ _ _ h => h) (Or.inl ⟨by rfl, ?_⟩) hS ?_
              rotate_left
              · intro wz hSw; (try dsimp only at hSw); go_simp; (try with_reducible rfl)
              try simp only [List.getElem_toArray, List.getElem_cons_zero, List.getElem_cons_succ, Act.put, List.setIfInBounds_toArray, List.set_cons_zero, List.set_cons_succ]
              refine wpAnyH_ready (rs := [17]) (by kernel_rfl) (by simp) (AllReadyH.cons rfl (fun K hK => ?_) AllReadyH.nil)
              obtain ⟨_, q1, _, q2⟩ := cells_two HT6.out.gs
              go_simp
              have HT7 := Lib.hid (HT6.out.swap.put (.slice (some ⟨g13, 0, none⟩) (k + 1) c13)).swap
              clear q1 q2
              refine hK.out _ _ trivial (fun _ => ?_)
              clear hK K
              try simp only [List.getElem_toArray, List.getElem_cons_zero, List.getElem_cons_succ, Act.put, List.setIfInBounds_toArray, List.set_cons_zero, List.set_cons_succ]
              refine wpAnyH_done (by kernel_rfl) ?_ _
              go_wp2_with fail
              go_meet
              rw [rowK_snoc, starK_snoc]
              exact ⟨_, _, HT7⟩
          ·
            go_simp
            have HT2 := Lib.hid (HT1.out.lay (.cells #[.int .i64 (k : Int), .int .i64 ((k : Int) + 1)] 43))
            have hl6 := Lay.made (wr.drew) (k : Int) ((k : Int) + 1)
            try simp only [World.size_alloc, World.size_drew] at hl6
            have HL6 := Lib.hid hl6
            clear hl6
            refine hK.out _ _ trivial (fun _ => ?_)
            clear hK K
            try simp only [List.getElem_toArray, List.getElem_cons_zero, List.getElem_cons_succ, Act.put, List.setIfInBounds_toArray, List.set_cons_zero, List.set_cons_succ]
            refine wpAnyH_ready (rs := [1, 12]) (by kernel_rfl) (by simp) (AllReadyH.cons rfl (fun K hK => ?_) (AllReadyH.cons rfl (fun K hK => ?_) AllReadyH.nil))
            ·
              have q1 : World.cell? (World.alloc (wr) (.cells #[.int .i64 (k : Int), .int .i64 ((k : Int) + 1)] 43)) ⟨w.heap.size, 1, none⟩ = some Vr := (cells_two HT2.out.gr).2.1
              go_simp
              clear q1
              refine hK.out _ _ trivial (fun _ => ?_)
              clear hK K
              try simp only [List.getElem_toArray, List.getElem_cons_zero, List.getElem_cons_succ, Act.put, List.setIfInBounds_toArray, List.set_cons_zero, List.set_cons_succ]
              refine wpAnyH_ready (rs := [7, 12]) (by kernel_rfl) (by simp) (AllReadyH.cons rfl (fun K hK => ?_) (AllReadyH.cons rfl (fun K hK => ?_) AllReadyH.nil))
              ·
                refine step_append_lies _ rfl (.tmp 27) (.tmp 32) 22 rfl w.heap.size 43 i0 (.agg #[.int .i64 0, .int .i64 0]) 2 16 Try.underlying22 hi0 hz0 hz1 hz2 rfl (by decide) Vr k (pcells (rowK k)) rfl (by have h := HT2.out.r; rw [hlr] at h; exact h) ⟨_, 0, none⟩ 1 1 [.int .i64 (k : Int), .int .i64 ((k : Int) + 1)] rfl rfl HL6.out.2 (by simp [Value.oneCell']) (by omega) (by simp [maxLen]; omega) (by omega) (HSZ.out _ HT2.out.bel) _ rfl ?_
                intro g7 c7 w7 ho7 hg7 hor7 hlt7
                have ht3 := HT2.out.more (by rw [hlr]; exact ho7) hg7 hor7
                rw [hlr] at ht3
                have HT3 := Lib.hid ht3
                clear ht3
                clear ho7 hg7 hor7 hlt7
                refine hK.out _ _ trivial (fun _ => ?_)
                clear hK K
                try simp only [List.getElem_toArray, List.getElem_cons_zero, List.getElem_cons_succ, Act.put, List.setIfInBounds_toArray, List.set_cons_zero, List.set_cons_succ]
                refine wpAnyH_take (i := 14) (v := ?_) rfl (by kernel_rfl) (by kernel_rfl) (by kernel_rfl) (fun _ _ _ h => h) (Or.inl ⟨by rfl, ?_⟩) hS ?_
                rotate_left
                · intro wz hSw; (try dsimp only at hSw); go_simp; (try with_reducible rfl)
                try simp only [List.getElem_toArray, List.getElem_cons_zero, List.getElem_cons_succ, Act.put, List.setIfInBounds_toArray, List.set_cons_zero, List.set_cons_succ]
                refine wpAnyH_ready (rs := [12]) (by kernel_rfl) (by simp) (AllReadyH.cons rfl (fun K hK => ?_) AllReadyH.nil)
                go_simp
                have HT4 := Lib.hid (HT3.out.lay (.cells #[.int .i64 0, .int .i64 ((k : Int) + 1)] 43))
                have hl12 := Lay.made (w7) 0 ((k : Int) + 1)
                try simp only [World.size_alloc, World.size_drew] at hl12
                have HL12 := Lib.hid hl12
                clear hl12
                have HL6 := Lib.hid (HL6.out.below ((Below.refl _ _).alloc (Nat.le_refl _) (.cells #[.int .i64 0, .int .i64 ((k : Int) + 1)] 43)))
                refine hK.out _ _ trivial (fun _ => ?_)
                clear hK K
                try simp only [List.getElem_toArray, List.getElem_cons_zero, List.getElem_cons_succ, Act.put, List.setIfInBounds_toArray, List.set_cons_zero, List.set_cons_succ]
                refine wpAnyH_ready (rs := [13]) (by kernel_rfl) (by simp) (AllReadyH.cons rfl (fun K hK => ?_) AllReadyH.nil)
                refine step_append_lies _ rfl (.tmp 35) (.tmp 38) 22 rfl w.heap.size 43 i0 (.agg #[.int .i64 0, .int .i64 0]) 2 16 Try.underlying22 hi0 hz0 hz1 hz2 rfl (by decide) Vs k (pcells (starK k)) rfl (by have h := HT4.out.s; rw [hls] at h; exact h) ⟨_, 0, none⟩ 1 1 [.int .i64 0, .int .i64 ((k : Int) + 1)] rfl rfl HL12.out.2 (by simp [Value.oneCell']) (by omega) (by simp [maxLen]; omega) (by omega) (HSZ.out _ HT4.out.bel) _ rfl ?_
                intro g13 c13 w13 ho13 hg13 hor13 hlt13
                have ht5 := (HT4.out.swap.more (by rw [hls]; exact ho13) hg13 hor13).swap
                rw [hls] at ht5
                have HT5 := Lib.hid ht5
                clear ht5
                clear ho13 hg13 hor13 hlt13
                refine hK.out _ _ trivial (fun _ => ?_)
                clear hK K
                try simp only [List.getElem_toArray, List.getElem_cons_zero, List.getElem_cons_succ, Act.put, List.setIfInBounds_toArray, List.set_cons_zero, List.set_cons_succ]
                refine wpAnyH_ready (rs := [15]) (by kernel_rfl) (by simp) (AllReadyH.cons rfl (fun K hK => ?_) AllReadyH.nil)
                obtain ⟨_, q1, _, q2⟩ := cells_two HT5.out.gr
                go_simp
                have HT6 := Lib.hid (HT5.out.put (.slice (some ⟨g7, 0, none⟩) (k + 1) c7))
                clear q1 q2
                refine hK.out _ _ trivial (fun _ => ?_)
                clear hK K
                try simp only [List.getElem_toArray, List.getElem_cons_zero, List.getElem_cons_succ, Act.put, List.setIfInBounds_toArray, List.set_cons_zero, List.set_cons_succ]
                refine wpAnyH_take (i := 16) (v := ?_) rfl (by kernel_rfl) (by kernel_rfl) (by kernel_rfl) (fun _ _ _ h => h) (Or.inl ⟨by rfl, ?_⟩) hS ?_
                rotate_left
                · intro wz hSw; (try dsimp only at hSw); go_simp; (try with_reducible rfl)
                try simp only [List.getElem_toArray, List.getElem_cons_zero, List.getElem_cons_succ, Act.put, List.setIfInBounds_toArray, List.set_cons_zero, List.set_cons_succ]
                refine wpAnyH_ready (rs := [17]) (by kernel_rfl) (by simp) (AllReadyH.cons rfl (fun K hK => ?_) AllReadyH.nil)
                obtain ⟨_, q1, _, q2⟩ := cells_two HT6.out.gs
                go_simp
                have HT7 := Lib.hid (HT6.out.swap.put (.slice (some ⟨g13, 0, none⟩) (k + 1) c13)).swap
                clear q1 q2
                refine hK.out _ _ trivial (fun _ => ?_)
                clear hK K
                try simp only [List.getElem_toArray, List.getElem_cons_zero, List.getElem_cons_succ, Act.put, List.setIfInBounds_toArray, List.set_cons_zero, List.set_cons_succ]
                refine wpAnyH_done (by kernel_rfl) ?_ _
                go_wp2_with fail
                go_meet
                rw [rowK_snoc, starK_snoc]
                exact ⟨_, _, HT7⟩
              ·
                go_simp
                have HT3 := Lib.hid (HT2.out.lay (.cells #[.int .i64 0, .int .i64 ((k : Int) + 1)] 43))
                have hl12 := Lay.made (World.alloc (wr.drew) (.cells #[.int .i64 (k : Int), .int .i64 ((k : Int) + 1)] 43)) 0 ((k : Int) + 1)
                try simp only [World.size_alloc, World.size_drew] at hl12
                have HL12 := Lib.hid hl12
                clear hl12
                have HL6 := Lib.hid (HL6.out.below ((Below.refl _ _).alloc (Nat.le_refl _) (.cells #[.int .i64 0, .int .i64 ((k : Int) + 1)] 43)))
                refine hK.out _ _ trivial (fun _ => ?_)
                clear hK K
                try simp only [List.getElem_toArray, List.getElem_cons_zero, List.getElem_cons_succ, Act.put, List.setIfInBounds_toArray, List.set_cons_zero, List.set_cons_succ]
                refine wpAnyH_ready (rs := [7]) (by kernel_rfl) (by simp) (AllReadyH.cons rfl (fun K hK => ?_) AllReadyH.nil)
                refine step_append_lies _ rfl (.tmp 27) (.tmp 32) 22 rfl w.heap.size 43 i0 (.agg #[.int .i64 0, .int .i64 0]) 2 16 Try.underlying22 hi0 hz0 hz1 hz2 rfl (by decide) Vr k (pcells (rowK k)) rfl (by have h := HT3.out.r; rw [hlr] at h; exact h) ⟨_, 0, none⟩ 1 1 [.int .i64 (k : Int), .int .i64 ((k : Int) + 1)] rfl rfl HL6.out.2 (by simp [Value.oneCell']) (by omega) (by simp [maxLen]; omega) (by omega) (HSZ.out _ HT3.out.bel) _ rfl ?_
                intro g7 c7 w7 ho7 hg7 hor7 hlt7
                have ht4 := HT3.out.more (by rw [hlr]; exact ho7) hg7 hor7
                rw [hlr] at ht4
                have HT4 := Lib.hid ht4
                clear ht4
                have HL12 := Lib.hid (HL12.out.grown hg7 (fun e => by have h := HVR.out _ e; (try simp only [World.size_alloc, World.size_drew] at h); omega))
                clear ho7 hg7 hor7 hlt7
                refine hK.out _ _ trivial (fun _ => ?_)
                clear hK K
                try simp only [List.getElem_toArray, List.getElem_cons_zero, List.getElem_cons_succ, Act.put, List.setIfInBounds_toArray, List.set_cons_zero, List.set_cons_succ]
                refine wpAnyH_take (i := 14) (v := ?_) rfl (by kernel_rfl) (by kernel_rfl) (by kernel_rfl) (fun _ _ _ h => h) (Or.inl ⟨by rfl, ?_⟩) hS ?_
                rotate_left
                · intro wz hSw; (try dsimp only at hSw); go_simp; (try with_reducible rfl)
                try simp only [List.getElem_toArray, List.getElem_cons_zero, List.getElem_cons_succ, Act.put, List.setIfInBounds_toArray, List.set_cons_zero, List.set_cons_succ]
                refine wpAnyH_ready (rs := [13]) (by kernel_rfl) (by simp) (AllReadyH.cons rfl (fun K hK => ?_) AllReadyH.nil)
                refine step_append_lies _ rfl (.tmp 35) (.tmp 38) 22 rfl w.heap.size 43 i0 (.agg #[.int .i64 0, .int .i64 0]) 2 16 Try.underlying22 hi0 hz0 hz1 hz2 rfl (by decide) Vs k (pcells (starK k)) rfl (by have h := HT4.out.s; rw [hls] at h; exact h) ⟨_, 0, none⟩ 1 1 [.int .i64 0, .int .i64 ((k : Int) + 1)] rfl rfl HL12.out.2 (by simp [Value.oneCell']) (by omega) (by simp [maxLen]; omega) (by omega) (HSZ.out _ HT4.out.bel) _ rfl ?_
                intro g13 c13 w13 ho13 hg13 hor13 hlt13
                have ht5 := (HT4.out.swap.more (by rw [hls]; exact ho13) hg13 hor13).swap
                rw [hls] at ht5
                have HT5 := Lib.hid ht5
                clear ht5
                clear ho13 hg13 hor13 hlt13
                refine hK.out _ _ trivial (fun _ => ?_)
                clear hK K
                try simp only [List.getElem_toArray, List.getElem_cons_zero, List.getElem_cons_succ, Act.put, List.setIfInBounds_toArray, List.set_cons_zero, List.set_cons_succ]
                refine wpAnyH_ready (rs := [15]) (by kernel_rfl) (by simp) (AllReadyH.cons rfl (fun K hK => ?_) AllReadyH.nil)
                obtain ⟨_, q1, _, q2⟩ := cells_two HT5.out.gr
                go_simp
                have HT6 := Lib.hid (HT5.out.put (.slice (some ⟨g7, 0, none⟩) (k + 1) c7))
                clear q1 q2
                refine hK.out _ _ trivial (fun _ => ?_)
                clear hK K
                try simp only [List.getElem_toArray, List.getElem_cons_zero, List.getElem_cons_succ, Act.put, List.setIfInBounds_toArray, List.set_cons_zero, List.set_cons_succ]
                refine wpAnyH_take (i := 16) (v := ?_) rfl (by kernel_rfl) (by kernel_rfl) (by kernel_rfl) (fun _ _ _ h => h) (Or.inl ⟨by rfl, ?_⟩) hS ?_
                rotate_left
                · intro wz hSw; (try dsimp only at hSw); go_simp; (try with_reducible rfl)
                try simp only [List.getElem_toArray, List.getElem_cons_zero, List.getElem_cons_succ, Act.put, List.setIfInBounds_toArray, List.set_cons_zero, List.set_cons_succ]
                refine wpAnyH_ready (rs := [17]) (by kernel_rfl) (by simp) (AllReadyH.cons rfl (fun K hK => ?_) AllReadyH.nil)
                obtain ⟨_, q1, _, q2⟩ := cells_two HT6.out.gs
                go_simp
                have HT7 := Lib.hid (HT6.out.swap.put (.slice (some ⟨g13, 0, none⟩) (k + 1) c13)).swap
                clear q1 q2
                refine hK.out _ _ trivial (fun _ => ?_)
                clear hK K
                try simp only [List.getElem_toArray, List.getElem_cons_zero, List.getElem_cons_succ, Act.put, List.setIfInBounds_toArray, List.set_cons_zero, List.set_cons_succ]
                refine wpAnyH_done (by kernel_rfl) ?_ _
                go_wp2_with fail
                go_meet
                rw [rowK_snoc, starK_snoc]
                exact ⟨_, _, HT7⟩
            ·
              go_simp
              have HT3 := Lib.hid (HT2.out.lay (.cells #[.int .i64 0, .int .i64 ((k : Int) + 1)] 43))
              have hl12 := Lay.made (World.alloc (wr.drew) (.cells #[.int .i64 (k : Int), .int .i64 ((k : Int) + 1)] 43)) 0 ((k : Int) + 1)
              try simp only [World.size_alloc, World.size_drew] at hl12
              have HL12 := Lib.hid hl12
              clear hl12
              have HL6 := Lib.hid (HL6.out.below ((Below.refl _ _).alloc (Nat.le_refl _) (.cells #[.int .i64 0, .int .i64 ((k : Int) + 1)] 43)))
              refine hK.out _ _ trivial (fun _ => ?_)
              clear hK K
              try simp only [List.getElem_toArray, List.getElem_cons_zero, List.getElem_cons_succ, Act.put, List.setIfInBounds_toArray, List.set_cons_zero, List.set_cons_succ]
              refine wpAnyH_ready (rs := [1]) (by kernel_rfl) (by simp) (AllReadyH.cons rfl (fun K hK => ?_) AllReadyH.nil)
              have q1 : World.cell? (World.alloc (World.alloc (wr) (.cells #[.int .i64 (k : Int), .int .i64 ((k : Int) + 1)] 43)) (.cells #[.int .i64 0, .int .i64 ((k : Int) + 1)] 43)) ⟨w.heap.size, 1, none⟩ = some Vr := (cells_two HT3.out.gr).2.1
              go_simp
              clear q1
              refine hK.out _ _ trivial (fun _ => ?_)
              clear hK K
              try simp only [List.getElem_toArray, List.getElem_cons_zero, List.getElem_cons_succ, Act.put, List.setIfInBounds_toArray, List.set_cons_zero, List.set_cons_succ]
              refine wpAnyH_ready (rs := [7]) (by kernel_rfl) (by simp) (AllReadyH.cons rfl (fun K hK => ?_) AllReadyH.nil)
              refine step_append_lies _ rfl (.tmp 27) (.tmp 32) 22 rfl w.heap.size 43 i0 (.agg #[.int .i64 0, .int .i64 0]) 2 16 Try.underlying22 hi0 hz0 hz1 hz2 rfl (by decide) Vr k (pcells (rowK k)) rfl (by have h := HT3.out.r; rw [hlr] at h; exact h) ⟨_, 0, none⟩ 1 1 [.int .i64 (k : Int), .int .i64 ((k : Int) + 1)] rfl rfl HL6.out.2 (by simp [Value.oneCell']) (by omega) (by simp [maxLen]; omega) (by omega) (HSZ.out _ HT3.out.bel) _ rfl ?_
              intro g7 c7 w7 ho7 hg7 hor7 hlt7
              have ht4 := HT3.out.more (by rw [hlr]; exact ho7) hg7 hor7
              rw [hlr] at ht4
              have HT4 := Lib.hid ht4
              clear ht4
              have HL12 := Lib.hid (HL12.out.grown hg7 (fun e => by have h := HVR.out _ e; (try simp only [World.size_alloc, World.size_drew] at h); omega))
              clear ho7 hg7 hor7 hlt7
              refine hK.out _ _ trivial (fun _ => ?_)
              clear hK K
              try simp only [List.getElem_toArray, List.getElem_cons_zero, List.getElem_cons_succ, Act.put, List.setIfInBounds_toArray, List.set_cons_zero, List.set_cons_succ]
              refine wpAnyH_take (i := 14) (v := ?_) rfl (by kernel_rfl) (by kernel_rfl) (by kernel_rfl) (fun _ _ _ h => h) (Or.inl ⟨by rfl, ?_⟩) hS ?_
              rotate_left
              · intro wz hSw; (try dsimp only at hSw); go_simp; (try with_reducible rfl)
              try simp only [List.getElem_toArray, List.getElem_cons_zero, List.getElem_cons_succ, Act.put, List.setIfInBounds_toArray, List.set_cons_zero, List.set_cons_succ]
              refine wpAnyH_ready (rs := [13]) (by kernel_rfl) (by simp) (AllReadyH.cons rfl (fun K hK => ?_) AllReadyH.nil)
              refine step_append_lies _ rfl (.tmp 35) (.tmp 38) 22 rfl w.heap.size 43 i0 (.agg #[.int .i64 0, .int .i64 0]) 2 16 Try.underlying22 hi0 hz0 hz1 hz2 rfl (by decide) Vs k (pcells (starK k)) rfl (by have h := HT4.out.s; rw [hls] at h; exact h) ⟨_, 0, none⟩ 1 1 [.int .i64 0, .int .i64 ((k : Int) + 1)] rfl rfl HL12.out.2 (by simp [Value.oneCell']) (by omega) (by simp [maxLen]; omega) (by omega) (HSZ.out _ HT4.out.bel) _ rfl ?_
              intro g13 c13 w13 ho13 hg13 hor13 hlt13
              have ht5 := (HT4.out.swap.more (by rw [hls]; exact ho13) hg13 hor13).swap
              rw [hls] at ht5
              have HT5 := Lib.hid ht5
              clear ht5
              clear ho13 hg13 hor13 hlt13
              refine hK.out _ _ trivial (fun _ => ?_)
              clear hK K
              try simp only [List.getElem_toArray, List.getElem_cons_zero, List.getElem_cons_succ, Act.put, List.setIfInBounds_toArray, List.set_cons_zero, List.set_cons_succ]
              refine wpAnyH_ready (rs := [15]) (by kernel_rfl) (by simp) (AllReadyH.cons rfl (fun K hK => ?_) AllReadyH.nil)
              obtain ⟨_, q1, _, q2⟩ := cells_two HT5.out.gr
              go_simp
              have HT6 := Lib.hid (HT5.out.put (.slice (some ⟨g7, 0, none⟩) (k + 1) c7))
              clear q1 q2
              refine hK.out _ _ trivial (fun _ => ?_)
              clear hK K
              try simp only [List.getElem_toArray, List.getElem_cons_zero, List.getElem_cons_succ, Act.put, List.setIfInBounds_toArray, List.set_cons_zero, List.set_cons_succ]
              refine wpAnyH_take (i := 16) (v := ?_) rfl (by kernel_rfl) (by kernel_rfl) (by kernel_rfl) (fun _ _ _ h => h) (Or.inl ⟨by rfl, ?_⟩) hS ?_
              rotate_left
              · intro wz hSw; (try dsimp only at hSw); go_simp; (try with_reducible rfl)
              try simp only [List.getElem_toArray, List.getElem_cons_zero, List.getElem_cons_succ, Act.put, List.setIfInBounds_toArray, List.set_cons_zero, List.set_cons_succ]
              refine wpAnyH_ready (rs := [17]) (by kernel_rfl) (by simp) (AllReadyH.cons rfl (fun K hK => ?_) AllReadyH.nil)
              obtain ⟨_, q1, _, q2⟩ := cells_two HT6.out.gs
              go_simp
              have HT7 := Lib.hid (HT6.out.swap.put (.slice (some ⟨g13, 0, none⟩) (k + 1) c13)).swap
              clear q1 q2
              refine hK.out _ _ trivial (fun _ => ?_)
              clear hK K
              try simp only [List.getElem_toArray, List.getElem_cons_zero, List.getElem_cons_succ, Act.put, List.setIfInBounds_toArray, List.set_cons_zero, List.set_cons_succ]
              refine wpAnyH_done (by kernel_rfl) ?_ _
              go_wp2_with fail
              go_meet
              rw [rowK_snoc, starK_snoc]
              exact ⟨_, _, HT7⟩
          ·
            go_simp
            have HT2 := Lib.hid (HT1.out.lay (.cells #[.int .i64 0, .int .i64 ((k : Int) + 1)] 43))
            have hl12 := Lay.made (wr.drew) 0 ((k : Int) + 1)
            try simp only [World.size_alloc, World.size_drew] at hl12
            have HL12 := Lib.hid hl12
            clear hl12
            refine hK.out _ _ trivial (fun _ => ?_)
            clear hK K
            try simp only [List.getElem_toArray, List.getElem_cons_zero, List.getElem_cons_succ, Act.put, List.setIfInBounds_toArray, List.set_cons_zero, List.set_cons_succ]
            refine wpAnyH_ready (rs := [1, 6]) (by kernel_rfl) (by simp) (AllReadyH.cons rfl (fun K hK => ?_) (AllReadyH.cons rfl (fun K hK => ?_) AllReadyH.nil))
            ·
              have q1 : World.cell? (World.alloc (wr) (.cells #[.int .i64 0, .int .i64 ((k : Int) + 1)] 43)) ⟨w.heap.size, 1, none⟩ = some Vr := (cells_two HT2.out.gr).2.1
              go_simp
              clear q1
              refine hK.out _ _ trivial (fun _ => ?_)
              clear hK K
              try simp only [List.getElem_toArray, List.getElem_cons_zero, List.getElem_cons_succ, Act.put, List.setIfInBounds_toArray, List.set_cons_zero, List.set_cons_succ]
              refine wpAnyH_ready (rs := [6]) (by kernel_rfl) (by simp) (AllReadyH.cons rfl (fun K hK => ?_) AllReadyH.nil)
              go_simp
              have HT3 := Lib.hid (HT2.out.lay (.cells #[.int .i64 (k : Int), .int .i64 ((k : Int) + 1)] 43))
              have hl6 := Lay.made (World.alloc (wr.drew) (.cells #[.int .i64 0, .int .i64 ((k : Int) + 1)] 43)) (k : Int) ((k : Int) + 1)
              try simp only [World.size_alloc, World.size_drew] at hl6
              have HL6 := Lib.hid hl6
              clear hl6
              have HL12 := Lib.hid (HL12.out.below ((Below.refl _ _).alloc (Nat.le_refl _) (.cells #[.int .i64 (k : Int), .int .i64 ((k : Int) + 1)] 43)))
              refine hK.out _ _ trivial (fun _ => ?_)
              clear hK K
              try simp only [List.getElem_toArray, List.getElem_cons_zero, List.getElem_cons_succ, Act.put, List.setIfInBounds_toArray, List.set_cons_zero, List.set_cons_succ]
              refine wpAnyH_ready (rs := [7]) (by kernel_rfl) (by simp) (AllReadyH.cons rfl (fun K hK => ?_) AllReadyH.nil)
              refine step_append_lies _ rfl (.tmp 27) (.tmp 32) 22 rfl w.heap.size 43 i0 (.agg #[.int .i64 0, .int .i64 0]) 2 16 Try.underlying22 hi0 hz0 hz1 hz2 rfl (by decide) Vr k (pcells (rowK k)) rfl (by have h := HT3.out.r; rw [hlr] at h; exact h) ⟨_, 0, none⟩ 1 1 [.int .i64 (k : Int), .int .i64 ((k : Int) + 1)] rfl rfl HL6.out.2 (by simp [Value.oneCell']) (by omega) (by simp [maxLen]; omega) (by omega) (HSZ.out _ HT3.out.bel) _ rfl ?_
              intro g7 c7 w7 ho7 hg7 hor7 hlt7
              have ht4 := HT3.out.more (by rw [hlr]; exact ho7) hg7 hor7
              rw [hlr] at ht4
              have HT4 := Lib.hid ht4
              clear ht4
              have HL12 := Lib.hid (HL12.out.grown hg7 (fun e => by have h := HVR.out _ e; (try simp only [World.size_alloc, World.size_drew] at h); omega))
              clear ho7 hg7 hor7 hlt7
              refine hK.out _ _ trivial (fun _ => ?_)
              clear hK K
              try simp only [List.getElem_toArray, List.getElem_cons_zero, List.getElem_cons_succ, Act.put, List.setIfInBounds_toArray, List.set_cons_zero, List.set_cons_succ]
              refine wpAnyH_take (i := 14) (v := ?_) rfl (by kernel_rfl) (by kernel_rfl) (by kernel_rfl) (fun _ _ _ h => h) (Or.inl ⟨by rfl, ?_⟩) hS ?_
              rotate_left
              · intro wz hSw; (try dsimp only at hSw); go_simp; (try with_reducible rfl)
              try simp only [List.getElem_toArray, List.getElem_cons_zero, List.getElem_cons_succ, Act.put, List.setIfInBounds_toArray, List.set_cons_zero, List.set_cons_succ]
              refine wpAnyH_ready (rs := [13]) (by kernel_rfl) (by simp) (AllReadyH.cons rfl (fun K hK => ?_) AllReadyH.nil)
              refine step_append_lies _ rfl (.tmp 35) (.tmp 38) 22 rfl w.heap.size 43 i0 (.agg #[.int .i64 0, .int .i64 0]) 2 16 Try.underlying22 hi0 hz0 hz1 hz2 rfl (by decide) Vs k (pcells (starK k)) rfl (by have h := HT4.out.s; rw [hls] at h; exact h) ⟨_, 0, none⟩ 1 1 [.int .i64 0, .int .i64 ((k : Int) + 1)] rfl rfl HL12.out.2 (by simp [Value.oneCell']) (by omega) (by simp [maxLen]; omega) (by omega) (HSZ.out _ HT4.out.bel) _ rfl ?_
              intro g13 c13 w13 ho13 hg13 hor13 hlt13
              have ht5 := (HT4.out.swap.more (by rw [hls]; exact ho13) hg13 hor13).swap
              rw [hls] at ht5
              have HT5 := Lib.hid ht5
              clear ht5
              clear ho13 hg13 hor13 hlt13
              refine hK.out _ _ trivial (fun _ => ?_)
              clear hK K
              try simp only [List.getElem_toArray, List.getElem_cons_zero, List.getElem_cons_succ, Act.put, List.setIfInBounds_toArray, List.set_cons_zero, List.set_cons_succ]
              refine wpAnyH_ready (rs := [15]) (by kernel_rfl) (by simp) (AllReadyH.cons rfl (fun K hK => ?_) AllReadyH.nil)
              obtain ⟨_, q1, _, q2⟩ := cells_two HT5.out.gr
              go_simp
              have HT6 := Lib.hid (HT5.out.put (.slice (some ⟨g7, 0, none⟩) (k + 1) c7))
              clear q1 q2
              refine hK.out _ _ trivial (fun _ => ?_)
              clear hK K
              try simp only [List.getElem_toArray, List.getElem_cons_zero, List.getElem_cons_succ, Act.put, List.setIfInBounds_toArray, List.set_cons_zero, List.set_cons_succ]
              refine wpAnyH_take (i := 16) (v := ?_) rfl (by kernel_rfl) (by kernel_rfl) (by kernel_rfl) (fun _ _ _ h => h) (Or.inl ⟨by rfl, ?_⟩) hS ?_
              rotate_left
              · intro wz hSw; (try dsimp only at hSw); go_simp; (try with_reducible rfl)
              try simp only [List.getElem_toArray, List.getElem_cons_zero, List.getElem_cons_succ, Act.put, List.setIfInBounds_toArray, List.set_cons_zero, List.set_cons_succ]
              refine wpAnyH_ready (rs := [17]) (by kernel_rfl) (by simp) (AllReadyH.cons rfl (fun K hK => ?_) AllReadyH.nil)
              obtain ⟨_, q1, _, q2⟩ := cells_two HT6.out.gs
              go_simp
              have HT7 := Lib.hid (HT6.out.swap.put (.slice (some ⟨g13, 0, none⟩) (k + 1) c13)).swap
              clear q1 q2
              refine hK.out _ _ trivial (fun _ => ?_)
              clear hK K
              try simp only [List.getElem_toArray, List.getElem_cons_zero, List.getElem_cons_succ, Act.put, List.setIfInBounds_toArray, List.set_cons_zero, List.set_cons_succ]
              refine wpAnyH_done (by kernel_rfl) ?_ _
              go_wp2_with fail
              go_meet
              rw [rowK_snoc, starK_snoc]
              exact ⟨_, _, HT7⟩
            ·
              go_simp
              have HT3 := Lib.hid (HT2.out.lay (.cells #[.int .i64 (k : Int), .int .i64 ((k : Int) + 1)] 43))
              have hl6 := Lay.made (World.alloc (wr.drew) (.cells #[.int .i64 0, .int .i64 ((k : Int) + 1)] 43)) (k : Int) ((k : Int) + 1)
              try simp only [World.size_alloc, World.size_drew] at hl6
              have HL6 := Lib.hid hl6
              clear hl6
              have HL12 := Lib.hid (HL12.out.below ((Below.refl _ _).alloc (Nat.le_refl _) (.cells #[.int .i64 (k : Int), .int .i64 ((k : Int) + 1)] 43)))
              refine hK.out _ _ trivial (fun _ => ?_)
              clear hK K
              try simp only [List.getElem_toArray, List.getElem_cons_zero, List.getElem_cons_succ, Act.put, List.setIfInBounds_toArray, List.set_cons_zero, List.set_cons_succ]
              refine wpAnyH_ready (rs := [1]) (by kernel_rfl) (by simp) (AllReadyH.cons rfl (fun K hK => ?_) AllReadyH.nil)
              have q1 : World.cell? (World.alloc (World.alloc (wr) (.cells #[.int .i64 0, .int .i64 ((k : Int) + 1)] 43)) (.cells #[.int .i64 (k : Int), .int .i64 ((k : Int) + 1)] 43)) ⟨w.heap.size, 1, none⟩ = some Vr := (cells_two HT3.out.gr).2.1
              go_simp
              clear q1
              refine hK.out _ _ trivial (fun _ => ?_)
              clear hK K
              try simp only [List.getElem_toArray, List.getElem_cons_zero, List.getElem_cons_succ, Act.put, List.setIfInBounds_toArray, List.set_cons_zero, List.set_cons_succ]
              refine wpAnyH_ready (rs := [7]) (by kernel_rfl) (by simp) (AllReadyH.cons rfl (fun K hK => ?_) AllReadyH.nil)
              refine step_append_lies _ rfl (.tmp 27) (.tmp 32) 22 rfl w.heap.size 43 i0 (.agg #[.int .i64 0, .int .i64 0]) 2 16 Try.underlying22 hi0 hz0 hz1 hz2 rfl (by decide) Vr k (pcells (rowK k)) rfl (by have h := HT3.out.r; rw [hlr] at h; exact h) ⟨_, 0, none⟩ 1 1 [.int .i64 (k : Int), .int .i64 ((k : Int) + 1)] rfl rfl HL6.out.2 (by simp [Value.oneCell']) (by omega) (by simp [maxLen]; omega) (by omega) (HSZ.out _ HT3.out.bel) _ rfl ?_
              intro g7 c7 w7 ho7 hg7 hor7 hlt7
              have ht4 := HT3.out.more (by rw [hlr]; exact ho7) hg7 hor7
              rw [hlr] at ht4
              have HT4 := Lib.hid ht4
              clear ht4
              have HL12 := Lib.hid (HL12.out.grown hg7 (fun e => by have h := HVR.out _ e; (try simp only [World.size_alloc, World.size_drew] at h); omega))
              clear ho7 hg7 hor7 hlt7
              refine hK.out _ _ trivial (fun _ => ?_)
              clear hK K
              try simp only [List.getElem_toArray, List.getElem_cons_zero, List.getElem_cons_succ, Act.put, List.setIfInBounds_toArray, List.set_cons_zero, List.set_cons_succ]
              refine wpAnyH_take (i := 14) (v := ?_) rfl (by kernel_rfl) (by kernel_rfl) (by kernel_rfl) (fun _ _ _ h => h) (Or.inl ⟨by rfl, ?_⟩) hS ?_
              rotate_left
              · intro wz hSw; (try dsimp only at hSw); go_simp; (try with_reducible rfl)
              try simp only [List.getElem_toArray, List.getElem_cons_zero, List.getElem_cons_succ, Act.put, List.setIfInBounds_toArray, List.set_cons_zero, List.set_cons_succ]
              refine wpAnyH_ready (rs := [13]) (by kernel_rfl) (by simp) (AllReadyH.cons rfl (fun K hK => ?_) AllReadyH.nil)
              refine step_append_lies _ rfl (.tmp 35) (.tmp 38) 22 rfl w.heap.size 43 i0 (.agg #[.int .i64 0, .int .i64 0]) 2 16 Try.underlying22 hi0 hz0 hz1 hz2 rfl (by decide) Vs k (pcells (starK k)) rfl (by have h := HT4.out.s; rw [hls] at h; exact h) ⟨_, 0, none⟩ 1 1 [.int .i64 0, .int .i64 ((k : Int) + 1)] rfl rfl HL12.out.2 (by simp [Value.oneCell']) (by omega) (by simp [maxLen]; omega) (by omega) (HSZ.out _ HT4.out.bel) _ rfl ?_
              intro g13 c13 w13 ho13 hg13 hor13 hlt13
              have ht5 := (HT4.out.swap.more (by rw [hls]; exact ho13) hg13 hor13).swap
              rw [hls] at ht5
              have HT5 := Lib.hid ht5
              clear ht5
              clear ho13 hg13 hor13 hlt13
              refine hK.out _ _ trivial (fun _ => ?_)
              clear hK K
              try simp only [List.getElem_toArray, List.getElem_cons_zero, List.getElem_cons_succ, Act.put, List.setIfInBounds_toArray, List.set_cons_zero, List.set_cons_succ]
              refine wpAnyH_ready (rs := [15]) (by kernel_rfl) (by simp) (AllReadyH.cons rfl (fun K hK => ?_) AllReadyH.nil)
              obtain ⟨_, q1, _, q2⟩ := cells_two HT5.out.gr
              go_simp
              have HT6 := Lib.hid (HT5.out.put (.slice (some ⟨g7, 0, none⟩) (k + 1) c7))
              clear q1 q2
              refine hK.out _ _ trivial (fun _ => ?_)
              clear hK K
              try simp only [List.getElem_toArray, List.getElem_cons_zero, List.getElem_cons_succ, Act.put, List.setIfInBounds_toArray, List.set_cons_zero, List.set_cons_succ]
              refine wpAnyH_take (i := 16) (v := ?_) rfl (by kernel_rfl) (by kernel_rfl) (by kernel_rfl) (fun _ _ _ h => h) (Or.inl ⟨by rfl, ?_⟩) hS ?_
              rotate_left
              · intro wz hSw; (try dsimp only at hSw); go_simp; (try with_reducible rfl)
              try simp only [List.getElem_toArray, List.getElem_cons_zero, List.getElem_cons_succ, Act.put, List.setIfInBounds_toArray, List.set_cons_zero, List.set_cons_succ]
              refine wpAnyH_ready (rs := [17]) (by kernel_rfl) (by simp) (AllReadyH.cons rfl (fun K hK => ?_) AllReadyH.nil)
              obtain ⟨_, q1, _, q2⟩ := cells_two HT6.out.gs
              go_simp
              have HT7 := Lib.hid (HT6.out.swap.put (.slice (some ⟨g13, 0, none⟩) (k + 1) c13)).swap
              clear q1 q2
              refine hK.out _ _ trivial (fun _ => ?_)
              clear hK K
              try simp only [List.getElem_toArray, List.getElem_cons_zero, List.getElem_cons_succ, Act.put, List.setIfInBounds_toArray, List.set_cons_zero, List.set_cons_succ]
              refine wpAnyH_done (by kernel_rfl) ?_ _
              go_wp2_with fail
              go_meet
              rw [rowK_snoc, starK_snoc]
              exact ⟨_, _, HT7⟩
        ·
          go_simp
          have HT2 := Lib.hid (HT1.out.lay (.cells #[.int .i64 0, .int .i64 ((k : Int) + 1)] 43))
          have hl12 := Lay.made (wr.drew) 0 ((k : Int) + 1)
          try simp only [World.size_alloc, World.size_drew] at hl12
          have HL12 := Lib.hid hl12
          clear hl12
          refine hK.out _ _ trivial (fun _ => ?_)
          clear hK K
          try simp only [List.getElem_toArray, List.getElem_cons_zero, List.getElem_cons_succ, Act.put, List.setIfInBounds_toArray, List.set_cons_zero, List.set_cons_succ]
          refine wpAnyH_ready (rs := [1, 6, 9]) (by kernel_rfl) (by simp) (AllReadyH.cons rfl (fun K hK => ?_) (AllReadyH.cons rfl (fun K hK => ?_) (AllReadyH.cons rfl (fun K hK => ?_) AllReadyH.nil)))
          ·
            have q1 : World.cell? (World.alloc (wr) (.cells #[.int .i64 0, .int .i64 ((k : Int) + 1)] 43)) ⟨w.heap.size, 1, none⟩ = some Vr := (cells_two HT2.out.gr).2.1
            go_simp
            clear q1
            refine hK.out _ _ trivial (fun _ => ?_)
            clear hK K
            try simp only [List.getElem_toArray, List.getElem_cons_zero, List.getElem_cons_succ, Act.put, List.setIfInBounds_toArray, List.set_cons_zero, List.set_cons_succ]
            refine wpAnyH_ready (rs := [6, 9]) (by kernel_rfl) (by simp) (AllReadyH.cons rfl (fun K hK => ?_) (AllReadyH.cons rfl (fun K hK => ?_) AllReadyH.nil))
            ·
              go_simp
              have HT3 := Lib.hid (HT2.out.lay (.cells #[.int .i64 (k : Int), .int .i64 ((k : Int) + 1)] 43))
              have hl6 := Lay.made (World.alloc (wr.drew) (.cells #[.int .i64 0, .int .i64 ((k : Int) + 1)] 43)) (k : Int) ((k : Int) + 1)
              try simp only [World.size_alloc, World.size_drew] at hl6
              have HL6 := Lib.hid hl6
              clear hl6
              have HL12 := Lib.hid (HL12.out.below ((Below.refl _ _).alloc (Nat.le_refl _) (.cells #[.int .i64 (k : Int), .int .i64 ((k : Int) + 1)] 43)))
              refine hK.out _ _ trivial (fun _ => ?_)
              clear hK K
              try simp only [List.getElem_toArray, List.getElem_cons_zero, List.getElem_cons_succ, Act.put, List.setIfInBounds_toArray, List.set_cons_zero, List.set_cons_succ]
              refine wpAnyH_ready (rs := [7, 9]) (by kernel_rfl) (by simp) (AllReadyH.cons rfl (fun K hK => ?_) (AllReadyH.cons rfl (fun K hK => ?_) AllReadyH.nil))
              ·
                refine step_append_lies _ rfl (.tmp 27) (.tmp 32) 22 rfl w.heap.size 43 i0 (.agg #[.int .i64 0, .int .i64 0]) 2 16 Try.underlying22 hi0 hz0 hz1 hz2 rfl (by decide) Vr k (pcells (rowK k)) rfl (by have h := HT3.out.r; rw [hlr] at h; exact h) ⟨_, 0, none⟩ 1 1 [.int .i64 (k : Int), .int .i64 ((k : Int) + 1)] rfl rfl HL6.out.2 (by simp [Value.oneCell']) (by omega) (by simp [maxLen]; omega) (by omega) (HSZ.out _ HT3.out.bel) _ rfl ?_
                intro g7 c7 w7 ho7 hg7 hor7 hlt7
                have ht4 := HT3.out.more (by rw [hlr]; exact ho7) hg7 hor7
                rw [hlr] at ht4
                have HT4 := Lib.hid ht4
                clear ht4
                have HL12 := Lib.hid (HL12.out.grown hg7 (fun e => by have h := HVR.out _ e; (try simp only [World.size_alloc, World.size_drew] at h); omega))
                clear ho7 hg7 hor7 hlt7
                refine hK.out _ _ trivial (fun _ => ?_)
                clear hK K
                try simp only [List.getElem_toArray, List.getElem_cons_zero, List.getElem_cons_succ, Act.put, List.setIfInBounds_toArray, List.set_cons_zero, List.set_cons_succ]
                refine wpAnyH_take (i := 14) (v := ?_) rfl (by kernel_rfl) (by kernel_rfl) (by kernel_rfl) (fun _ _ _ h => h) (Or.inl ⟨by rfl, ?_⟩) hS ?_
                rotate_left
                · intro wz hSw; (try dsimp only at hSw); go_simp; (try with_reducible rfl)
                try simp only [List.getElem_toArray, List.getElem_cons_zero, List.getElem_cons_succ, Act.put, List.setIfInBounds_toArray, List.set_cons_zero, List.set_cons_succ]
                refine wpAnyH_ready (rs := [9]) (by kernel_rfl) (by simp) (AllReadyH.cons rfl (fun K hK => ?_) AllReadyH.nil)
                have q1 : World.cell? (w7) ⟨w.heap.size + 1, 1, none⟩ = some Vs := (cells_two HT4.out.gs).2.1
                go_simp
                clear q1
                refine hK.out _ _ trivial (fun _ => ?_)
                clear hK K
                try simp only [List.getElem_toArray, List.getElem_cons_zero, List.getElem_cons_succ, Act.put, List.setIfInBounds_toArray, List.set_cons_zero, List.set_cons_succ]
                refine wpAnyH_ready (rs := [13]) (by kernel_rfl) (by simp) (AllReadyH.cons rfl (fun K hK => ?_) AllReadyH.nil)
                refine step_append_lies _ rfl (.tmp 35) (.tmp 38) 22 rfl w.heap.size 43 i0 (.agg #[.int .i64 0, .int .i64 0]) 2 16 Try.underlying22 hi0 hz0 hz1 hz2 rfl (by decide) Vs k (pcells (starK k)) rfl (by have h := HT4.out.s; rw [hls] at h; exact h) ⟨_, 0, none⟩ 1 1 [.int .i64 0, .int .i64 ((k : Int) + 1)] rfl rfl HL12.out.2 (by simp [Value.oneCell']) (by omega) (by simp [maxLen]; omega) (by omega) (HSZ.out _ HT4.out.bel) _ rfl ?_
                intro g13 c13 w13 ho13 hg13 hor13 hlt13
                have ht5 := (HT4.out.swap.more (by rw [hls]; exact ho13) hg13 hor13).swap
                rw [hls] at ht5
                have HT5 := Lib.hid ht5
                clear ht5
                clear ho13 hg13 hor13 hlt13
                refine hK.out _ _ trivial (fun _ => ?_)
                clear hK K
                try simp only [List.getElem_toArray, List.getElem_cons_zero, List.getElem_cons_succ, Act.put, List.setIfInBounds_toArray, List.set_cons_zero, List.set_cons_succ]
                refine wpAnyH_ready (rs := [15]) (by kernel_rfl) (by simp) (AllReadyH.cons rfl (fun K hK => ?_) AllReadyH.nil)
                obtain ⟨_, q1, _, q2⟩ := cells_two HT5.out.gr
                go_simp
                have HT6 := Lib.hid (HT5.out.put (.slice (some ⟨g7, 0, none⟩) (k + 1) c7))
                clear q1 q2
                refine hK.out _ _ trivial (fun _ => ?_)
                clear hK K
                try simp only [List.getElem_toArray, List.getElem_cons_zero, List.getElem_cons_succ, Act.put, List.setIfInBounds_toArray, List.set_cons_zero, List.set_cons_succ]
                refine wpAnyH_take (i := 16) (v := ?_) rfl (by kernel_rfl) (by kernel_rfl) (by kernel_rfl) (fun _ _ _ h => h) (Or.inl ⟨by rfl, ?_⟩) hS ?_
                rotate_left
                · intro wz hSw; (try dsimp only at hSw); go_simp; (try with_reducible rfl)
                try simp only [List.getElem_toArray, List.getElem_cons_zero, List.getElem_cons_succ, Act.put, List.setIfInBounds_toArray, List.set_cons_zero, List.set_cons_succ]
                refine wpAnyH_ready (rs := [17]) (by kernel_rfl) (by simp) (AllReadyH.cons rfl (fun K hK => ?_) AllReadyH.nil)
                obtain ⟨_, q1, _, q2⟩ := cells_two HT6.out.gs
                go_simp
                have HT7 := Lib.hid (HT6.out.swap.put (.slice (some ⟨g13, 0, none⟩) (k + 1) c13)).swap
                clear q1 q2
                refine hK.out _ _ trivial (fun _ => ?_)
                clear hK K
                try simp only [List.getElem_toArray, List.getElem_cons_zero, List.getElem_cons_succ, Act.put, List.setIfInBounds_toArray, List.set_cons_zero, List.set_cons_succ]
                refine wpAnyH_done (by kernel_rfl) ?_ _
                go_wp2_with fail
                go_meet
                rw [rowK_snoc, starK_snoc]
                exact ⟨_, _, HT7⟩
              ·
                have q1 : World.cell? (World.alloc (World.alloc (wr) (.cells #[.int .i64 0, .int .i64 ((k : Int) + 1)] 43)) (.cells #[.int .i64 (k : Int), .int .i64 ((k : Int) + 1)] 43)) ⟨w.heap.size + 1, 1, none⟩ = some Vs := (cells_two HT3.out.gs).2.1
                go_simp
                clear q1
                refine hK.out _ _ trivial (fun _ => ?_)
                clear hK K
                try simp only [List.getElem_toArray, List.getElem_cons_zero, List.getElem_cons_succ, Act.put, List.setIfInBounds_toArray, List.set_cons_zero, List.set_cons_succ]
                refine wpAnyH_ready (rs := [7]) (by kernel_rfl) (by simp) (AllReadyH.cons rfl (fun K hK => ?_) AllReadyH.nil)
                refine step_append_lies _ rfl (.tmp 27) (.tmp 32) 22 rfl w.heap.size 43 i0 (.agg #[.int .i64 0, .int .i64 0]) 2 16 Try.underlying22 hi0 hz0 hz1 hz2 rfl (by decide) Vr k (pcells (rowK k)) rfl (by have h := HT3.out.r; rw [hlr] at h; exact h) ⟨_, 0, none⟩ 1 1 [.int .i64 (k : Int), .int .i64 ((k : Int) + 1)] rfl rfl HL6.out.2 (by simp [Value.oneCell']) (by omega) (by simp [maxLen]; omega) (by omega) (HSZ.out _ HT3.out.bel) _ rfl ?_
                intro g7 c7 w7 ho7 hg7 hor7 hlt7
                have ht4 := HT3.out.more (by rw [hlr]; exact ho7) hg7 hor7
                rw [hlr] at ht4
                have HT4 := Lib.hid ht4
                clear ht4
                have HL12 := Lib.hid (HL12.out.grown hg7 (fun e => by have h := HVR.out _ e; (try simp only [World.size_alloc, World.size_drew] at h); omega))
                clear ho7 hg7 hor7 hlt7
                refine hK.out _ _ trivial (fun _ => ?_)
                clear hK K
                try simp only [List.getElem_toArray, List.getElem_cons_zero, List.getElem_cons_succ, Act.put, List.setIfInBounds_toArray, List.set_cons_zero, List.set_cons_succ]
                refine wpAnyH_take (i := 14) (v := ?_) rfl (by kernel_rfl) (by kernel_rfl) (by kernel_rfl) (fun _ _ _ h => h) (Or.inl ⟨by rfl, ?_⟩) hS ?_
                rotate_left
                · intro wz hSw; (try dsimp only at hSw); go_simp; (try with_reducible rfl)
                try simp only [List.getElem_toArray, List.getElem_cons_zero, List.getElem_cons_succ, Act.put, List.setIfInBounds_toArray, List.set_cons_zero, List.set_cons_succ]
                refine wpAnyH_ready (rs := [13]) (by kernel_rfl) (by simp) (AllReadyH.cons rfl (fun K hK => ?_) AllReadyH.nil)
                refine step_append_lies _ rfl (.tmp 35) (.tmp 38) 22 rfl w.heap.size 43 i0 (.agg #[.int .i64 0, .int .i64 0]) 2 16 Try.underlying22 hi0 hz0 hz1 hz2 rfl (by decide) Vs k (pcells (starK k)) rfl (by have h := HT4.out.s; rw [hls] at h; exact h) ⟨_, 0, none⟩ 1 1 [.int .i64 0, .int .i64 ((k : Int) + 1)] rfl rfl HL12.out.2 (by simp [Value.oneCell']) (by omega) (by simp [maxLen]; omega) (by omega) (HSZ.out _ HT4.out.bel) _ rfl ?_
                intro g13 c13 w13 ho13 hg13 hor13 hlt13
                have ht5 := (HT4.out.swap.more (by rw [hls]; exact ho13) hg13 hor13).swap
                rw [hls] at ht5
                have HT5 := Lib.hid ht5
                clear ht5
                clear ho13 hg13 hor13 hlt13
                refine hK.out _ _ trivial (fun _ => ?_)
                clear hK K
                try simp only [List.getElem_toArray, List.getElem_cons_zero, List.getElem_cons_succ, Act.put, List.setIfInBounds_toArray, List.set_cons_zero, List.set_cons_succ]
                refine wpAnyH_ready (rs := [15]) (by kernel_rfl) (by simp) (AllReadyH.cons rfl (fun K hK => ?_) AllReadyH.nil)
                obtain ⟨_, q1, _, q2⟩ := cells_two HT5.out.gr
                go_simp
                have HT6 := Lib.hid (HT5.out.put (.slice (some ⟨g7, 0, none⟩) (k + 1) c7))
                clear q1 q2
                refine hK.out _ _ trivial (fun _ => ?_)
                clear hK K
                try simp only [List.getElem_toArray, List.getElem_cons_zero, List.getElem_cons_succ, Act.put, List.setIfInBounds_toArray, List.set_cons_zero, List.set_cons_succ]
                refine wpAnyH_take (i := 16) (v := ?_) rfl (by kernel_rfl) (by kernel_rfl) (by kernel_rfl) (fun _ _ _ h => h) (Or.inl ⟨by rfl, ?_⟩) hS ?_
                rotate_left
                · intro wz hSw; (try dsimp only at hSw); go_simp; (try with_reducible rfl)
                try simp only [List.getElem_toArray, List.getElem_cons_zero, List.getElem_cons_succ, Act.put, List.setIfInBounds_toArray, List.set_cons_zero, List.set_cons_succ]
                refine wpAnyH_ready (rs := [17]) (by kernel_rfl) (by simp) (AllReadyH.cons rfl (fun K hK => ?_) AllReadyH.nil)
                obtain ⟨_, q1, _, q2⟩ := cells_two HT6.out.gs
                go_simp
                have HT7 := Lib.hid (HT6.out.swap.put (.slice (some ⟨g13, 0, none⟩) (k + 1) c13)).swap
                clear q1 q2
                refine hK.out _ _ trivial (fun _ => ?_)
                clear hK K
                try simp only [List.getElem_toArray, List.getElem_cons_zero, List.getElem_cons_succ, Act.put, List.setIfInBounds_toArray, List.set_cons_zero, List.set_cons_succ]
                refine wpAnyH_done (by kernel_rfl) ?_ _
                go_wp2_with fail
                go_meet
                rw [rowK_snoc, starK_snoc]
                exact ⟨_, _, HT7⟩
            ·
              have q1 : World.cell? (World.alloc (wr) (.cells #[.int .i64 0, .int .i64 ((k : Int) + 1)] 43)) ⟨w.heap.size + 1, 1, none⟩ = some Vs := (cells_two HT2.out.gs).2.1
              go_simp
              clear q1
              refine hK.out _ _ trivial (fun _ => ?_)
              clear hK K
              try simp only [List.getElem_toArray, List.getElem_cons_zero, List.getElem_cons_succ, Act.put, List.setIfInBounds_toArray, List.set_cons_zero, List.set_cons_succ]
              refine wpAnyH_ready (rs := [6]) (by kernel_rfl) (by simp) (AllReadyH.cons rfl (fun K hK => ?_) AllReadyH.nil)
              go_simp
              have HT3 := Lib.hid (HT2.out.lay (.cells #[.int .i64 (k : Int), .int .i64 ((k : Int) + 1)] 43))
              have hl6 := Lay.made (World.alloc (wr.drew) (.cells #[.int .i64 0, .int .i64 ((k : Int) + 1)] 43)) (k : Int) ((k : Int) + 1)
              try simp only [World.size_alloc, World.size_drew] at hl6
              have HL6 := Lib.hid hl6
              clear hl6
              have HL12 := Lib.hid (HL12.out.below ((Below.refl _ _).alloc (Nat.le_refl _) (.cells #[.int .i64 (k : Int), .int .i64 ((k : Int) + 1)] 43)))
              refine hK.out _ _ trivial (fun _ => ?_)
              clear hK K
              try simp only [List.getElem_toArray, List.getElem_cons_zero, List.getElem_cons_succ, Act.put, List.setIfInBounds_toArray, List.set_cons_zero, List.set_cons_succ]
              refine wpAnyH_ready (rs := [7]) (by kernel_rfl) (by simp) (AllReadyH.cons rfl (fun K hK => ?_) AllReadyH.nil)
              refine step_append_lies _ rfl (.tmp 27) (.tmp 32) 22 rfl w.heap.size 43 i0 (.agg #[.int .i64 0, .int .i64 0]) 2 16 Try.underlying22 hi0 hz0 hz1 hz2 rfl (by decide) Vr k (pcells (rowK k)) rfl (by have h := HT3.out.r; rw [hlr] at h; exact h) ⟨_, 0, none⟩ 1 1 [.int .i64 (k : Int), .int .i64 ((k : Int) + 1)] rfl rfl HL6.out.2 (by simp [Value.oneCell']) (by omega) (by simp [maxLen]; omega) (by omega) (HSZ.out _ HT3.out.bel) _ rfl ?_
              intro g7 c7 w7 ho7 hg7 hor7 hlt7
              have ht4 := HT3.out.more (by rw [hlr]; exact ho7) hg7 hor7
              rw [hlr] at ht4
              have HT4 := Lib.hid ht4
              clear ht4
              have HL12 := Lib.hid (HL12.out.grown hg7 (fun e => by have h := HVR.out _ e; (try simp only [World.size_alloc, World.size_drew] at h); omega))
              clear ho7 hg7 hor7 hlt7
              refine hK.out _ _ trivial (fun _ => ?_)
              clear hK K
              try simp only [List.getElem_toArray, List.getElem_cons_zero, List.getElem_cons_succ, Act.put, List.setIfInBounds_toArray, List.set_cons_zero, List.set_cons_succ]
              refine wpAnyH_take (i := 14) (v := ?_) rfl (by kernel_rfl) (by kernel_rfl) (by kernel_rfl) (fun _ _ _ h => h) (Or.inl ⟨by rfl, ?_⟩) hS ?_
              rotate_left
              · intro wz hSw; (try dsimp only at hSw); go_simp; (try with_reducible rfl)
              try simp only [List.getElem_toArray, List.getElem_cons_zero, List.getElem_cons_succ, Act.put, List.setIfInBounds_toArray, List.set_cons_zero, List.set_cons_succ]
              refine wpAnyH_ready (rs := [13]) (by kernel_rfl) (by simp) (AllReadyH.cons rfl (fun K hK => ?_) AllReadyH.nil)
              refine step_append_lies _ rfl (.tmp 35) (.tmp 38) 22 rfl w.heap.size 43 i0 (.agg #[.int .i64 0, .int .i64 0]) 2 16 Try.underlying22 hi0 hz0 hz1 hz2 rfl (by decide) Vs k (pcells (starK k)) rfl (by have h := HT4.out.s; rw [hls] at h; exact h) ⟨_, 0, none⟩ 1 1 [.int .i64 0, .int .i64 ((k : Int) + 1)] rfl rfl HL12.out.2 (by simp [Value.oneCell']) (by omega) (by simp [maxLen]; omega) (by omega) (HSZ.out _ HT4.out.bel) _ rfl ?_
              intro g13 c13 w13 ho13 hg13 hor13 hlt13
              have ht5 := (HT4.out.swap.more (by rw [hls]; exact ho13) hg13 hor13).swap
              rw [hls] at ht5
              have HT5 := Lib.hid ht5
              clear ht5
              clear ho13 hg13 hor13 hlt13
              refine hK.out _ _ trivial (fun _ => ?_)
              clear hK K
              try simp only [List.getElem_toArray, List.getElem_cons_zero, List.getElem_cons_succ, Act.put, List.setIfInBounds_toArray, List.set_cons_zero, List.set_cons_succ]
              refine wpAnyH_ready (rs := [15]) (by kernel_rfl) (by simp) (AllReadyH.cons rfl (fun K hK => ?_) AllReadyH.nil)
              obtain ⟨_, q1, _, q2⟩ := cells_two HT5.out.gr
              go_simp
              have HT6 := Lib.hid (HT5.out.put (.slice (some ⟨g7, 0, none⟩) (k + 1) c7))
              clear q1 q2
              refine hK.out _ _ trivial (fun _ => ?_)
              clear hK K
              try simp only [List.getElem_toArray, List.getElem_cons_zero, List.getElem_cons_succ, Act.put, List.setIfInBounds_toArray, List.set_cons_zero, List.set_cons_succ]
              refine wpAnyH_take (i := 16) (v := ?_) rfl (by kernel_rfl) (by kernel_rfl) (by kernel_rfl) (fun _ _ _ h => h) (Or.inl ⟨by rfl, ?_⟩) hS ?_
              rotate_left
              · intro wz hSw; (try dsimp only at hSw); go_simp; (try with_reducible rfl)
              try simp only [List.getElem_toArray, List.getElem_cons_zero, List.getElem_cons_succ, Act.put, List.setIfInBounds_toArray, List.set_cons_zero, List.set_cons_succ]
              refine wpAnyH_ready (rs := [17]) (by kernel_rfl) (by simp) (AllReadyH.cons rfl (fun K hK => ?_) AllReadyH.nil)
              obtain ⟨_, q1, _, q2⟩ := cells_two HT6.out.gs
              go_simp
              have HT7 := Lib.hid (HT6.out.swap.put (.slice (some ⟨g13, 0, none⟩) (k + 1) c13)).swap
              clear q1 q2
              refine hK.out _ _ trivial (fun _ => ?_)
              clear hK K
              try simp only [List.getElem_toArray, List.getElem_cons_zero, List.getElem_cons_succ, Act.put, List.setIfInBounds_toArray, List.set_cons_zero, List.set_cons_succ]
              refine wpAnyH_done (by kernel_rfl) ?_ _
              go_wp2_with fail
              go_meet
              rw [rowK_snoc, starK_snoc]
              exact ⟨_, _, HT7⟩
          ·
            go_simp
            have HT3 := Lib.hid (HT2.out.lay (.cells #[.int .i64 (k : Int), .int .i64 ((k : Int) + 1)] 43))
            have hl6 := Lay.made (World.alloc (wr.drew) (.cells #[.int .i64 0, .int .i64 ((k : Int) + 1)] 43)) (k : Int) ((k : Int) + 1)
            try simp only [World.size_alloc, World.size_drew] at hl6
            have HL6 := Lib.hid hl6
            clear hl6
            have HL12 := Lib.hid (HL12.out.below ((Below.refl _ _).alloc (Nat.le_refl _) (.cells #[.int .i64 (k : Int), .int .i64 ((k : Int) + 1)] 43)))
            refine hK.out _ _ trivial (fun _ => ?_)
            clear hK K
            try simp only [List.getElem_toArray, List.getElem_cons_zero, List.getElem_cons_succ, Act.put, List.setIfInBounds_toArray, List.set_cons_zero, List.set_cons_succ]
            refine wpAnyH_ready (rs := [1, 9]) (by kernel_rfl) (by simp) (AllReadyH.cons rfl (fun K hK => ?_) (AllReadyH.cons rfl (fun K hK => ?_) AllReadyH.nil))
            ·
              have q1 : World.cell? (World.alloc (World.alloc (wr) (.cells #[.int .i64 0, .int .i64 ((k : Int) + 1)] 43)) (.cells #[.int .i64 (k : Int), .int .i64 ((k : Int) + 1)] 43)) ⟨w.heap.size, 1, none⟩ = some Vr := (cells_two HT3.out.gr).2.1
              go_simp
              clear q1
              refine hK.out _ _ trivial (fun _ => ?_)
              clear hK K
              try simp only [List.getElem_toArray, List.getElem_cons_zero, List.getElem_cons_succ, Act.put, List.setIfInBounds_toArray, List.set_cons_zero, List.set_cons_succ]
              refine wpAnyH_ready (rs := [7, 9]) (by kernel_rfl) (by simp) (AllReadyH.cons rfl (fun K hK => ?_) (AllReadyH.cons rfl (fun K hK => ?_) AllReadyH.nil))
              ·
                refine step_append_lies _ rfl (.tmp 27) (.tmp 32) 22 rfl w.heap.size 43 i0 (.agg #[.int .i64 0, .int .i64 0]) 2 16 Try.underlying22 hi0 hz0 hz1 hz2 rfl (by decide) Vr k (pcells (rowK k)) rfl (by have h := HT3.out.r; rw [hlr] at h; exact h) ⟨_, 0, none⟩ 1 1 [.int .i64 (k : Int), .int .i64 ((k : Int) + 1)] rfl rfl HL6.out.2 (by simp [Value.oneCell']) (by omega) (by simp [maxLen]; omega) (by omega) (HSZ.out _ HT3.out.bel) _ rfl ?_
                intro g7 c7 w7 ho7 hg7 hor7 hlt7
                have ht4 := HT3.out.more (by rw [hlr]; exact ho7) hg7 hor7
                rw [hlr] at ht4
                have HT4 := Lib.hid ht4
                clear ht4
                have HL12 := Lib.hid (HL12.out.grown hg7 (fun e => by have h := HVR.out _ e; (try simp only [World.size_alloc, World.size_drew] at h); omega))
                clear ho7 hg7 hor7 hlt7
                refine hK.out _ _ trivial (fun _ => ?_)
                clear hK K
                try simp only [List.getElem_toArray, List.getElem_cons_zero, List.getElem_cons_succ, Act.put, List.setIfInBounds_toArray, List.set_cons_zero, List.set_cons_succ]
                refine wpAnyH_take (i := 14) (v := ?_) rfl (by kernel_rfl) (by kernel_rfl) (by kernel_rfl) (fun _ _ _ h => h) (Or.inl ⟨by rfl, ?_⟩) hS ?_
                rotate_left
                · intro wz hSw; (try dsimp only at hSw); go_simp; (try with_reducible rfl)
                try simp only [List.getElem_toArray, List.getElem_cons_zero, List.getElem_cons_succ, Act.put, List.setIfInBounds_toArray, List.set_cons_zero, List.set_cons_succ]
                refine wpAnyH_ready (rs := [9]) (by kernel_rfl) (by simp) (AllReadyH.cons rfl (fun K hK => ?_) AllReadyH.nil)
                have q1 : World.cell? (w7) ⟨w.heap.size + 1, 1, none⟩ = some Vs := (cells_two HT4.out.gs).2.1
                go_simp
                clear q1
                refine hK.out _ _ trivial (fun _ => ?_)
                clear hK K
                try simp only [List.getElem_toArray, List.getElem_cons_zero, List.getElem_cons_succ, Act.put, List.setIfInBounds_toArray, List.set_cons_zero, List.set_cons_succ]
                refine wpAnyH_ready (rs := [13]) (by kernel_rfl) (by simp) (AllReadyH.cons rfl (fun K hK => ?_) AllReadyH.nil)
                refine step_append_lies _ rfl (.tmp 35) (.tmp 38) 22 rfl w.heap.size 43 i0 (.agg #[.int .i64 0, .int .i64 0]) 2 16 Try.underlying22 hi0 hz0 hz1 hz2 rfl (by decide) Vs k (pcells (starK k)) rfl (by have h := HT4.out.s; rw [hls] at h; exact h) ⟨_, 0, none⟩ 1 1 [.int .i64 0, .int .i64 ((k : Int) + 1)] rfl rfl HL12.out.2 (by simp [Value.oneCell']) (by omega) (by simp [maxLen]; omega) (by omega) (HSZ.out _ HT4.out.bel) _ rfl ?_
                intro g13 c13 w13 ho13 hg13 hor13 hlt13
                have ht5 := (HT4.out.swap.more (by rw [hls]; exact ho13) hg13 hor13).swap
                rw [hls] at ht5
                have HT5 := Lib.hid ht5
                clear ht5
                clear ho13 hg13 hor13 hlt13
                refine hK.out _ _ trivial (fun _ => ?_)
                clear hK K
                try simp only [List.getElem_toArray, List.getElem_cons_zero, List.getElem_cons_succ, Act.put, List.setIfInBounds_toArray, List.set_cons_zero, List.set_cons_succ]
                refine wpAnyH_ready (rs := [15]) (by kernel_rfl) (by simp) (AllReadyH.cons rfl (fun K hK => ?_) AllReadyH.nil)
                obtain ⟨_, q1, _, q2⟩ := cells_two HT5.out.gr
                go_simp
                have HT6 := Lib.hid (HT5.out.put (.slice (some ⟨g7, 0, none⟩) (k + 1) c7))
                clear q1 q2
                refine hK.out _ _ trivial (fun _ => ?_)
                clear hK K
                try simp only [List.getElem_toArray, List.getElem_cons_zero, List.getElem_cons_succ, Act.put, List.setIfInBounds_toArray, List.set_cons_zero, List.set_cons_succ]
                refine wpAnyH_take (i := 16) (v := ?_) rfl (by kernel_rfl) (by kernel_rfl) (by kernel_rfl) (fun _ _ _ h => h) (Or.inl ⟨by rfl, ?_⟩) hS ?_
                rotate_left
                · intro wz hSw; (try dsimp only at hSw); go_simp; (try with_reducible rfl)
                try simp only [List.getElem_toArray, List.getElem_cons_zero, List.getElem_cons_succ, Act.put, List.setIfInBounds_toArray, List.set_cons_zero, List.set_cons_succ]
                refine wpAnyH_ready (rs := [17]) (by kernel_rfl) (by simp) (AllReadyH.cons rfl (fun K hK => ?_) AllReadyH.nil)
                obtain ⟨_, q1, _, q2⟩ := cells_two HT6.out.gs
                go_simp
                have HT7 := Lib.hid (HT6.out.swap.put (.slice (some ⟨g13, 0, none⟩) (k + 1) c13)).swap
                clear q1 q2
                refine hK.out _ _ trivial (fun _ => ?_)
                clear hK K
                try simp only [List.getElem_toArray, List.getElem_cons_zero, List.getElem_cons_succ, Act.put, List.setIfInBounds_toArray, List.set_cons_zero, List.set_cons_succ]
                refine wpAnyH_done (by kernel_rfl) ?_ _
                go_wp2_with fail
                go_meet
                rw [rowK_snoc, starK_snoc]
                exact ⟨_, _, HT7⟩
              ·
                have q1 : World.cell? (World.alloc (World.alloc (wr) (.cells #[.int .i64 0, .int .i64 ((k : Int) + 1)] 43)) (.cells #[.int .i64 (k : Int), .int .i64 ((k : Int) + 1)] 43)) ⟨w.heap.size + 1, 1, none⟩ = some Vs := (cells_two HT3.out.gs).2.1
                go_simp
                clear q1
                refine hK.out _ _ trivial (fun _ => ?_)
                clear hK K
                try simp only [List.getElem_toArray, List.getElem_cons_zero, List.getElem_cons_succ, Act.put, List.setIfInBounds_toArray, List.set_cons_zero, List.set_cons_succ]
                refine wpAnyH_ready (rs := [7]) (by kernel_rfl) (by simp) (AllReadyH.cons rfl (fun K hK => ?_) AllReadyH.nil)
                refine step_append_lies _ rfl (.tmp 27) (.tmp 32) 22 rfl w.heap.size 43 i0 (.agg #[.int .i64 0, .int .i64 0]) 2 16 Try.underlying22 hi0 hz0 hz1 hz2 rfl (by decide) Vr k (pcells (rowK k)) rfl (by have h := HT3.out.r; rw [hlr] at h; exact h) ⟨_, 0, none⟩ 1 1 [.int .i64 (k : Int), .int .i64 ((k : Int) + 1)] rfl rfl HL6.out.2 (by simp [Value.oneCell']) (by omega) (by simp [maxLen]; omega) (by omega) (HSZ.out _ HT3.out.bel) _ rfl ?_
                intro g7 c7 w7 ho7 hg7 hor7 hlt7
                have ht4 := HT3.out.more (by rw [hlr]; exact ho7) hg7 hor7
                rw [hlr] at ht4
                have HT4 := Lib.hid ht4
                clear ht4
                have HL12 := Lib.hid (HL12.out.grown hg7 (fun e => by have h := HVR.out _ e; (try simp only [World.size_alloc, World.size_drew] at h); omega))
                clear ho7 hg7 hor7 hlt7
                refine hK.out _ _ trivial (fun _ => ?_)
                clear hK K
                try simp only [List.getElem_toArray, List.getElem_cons_zero, List.getElem_cons_succ, Act.put, List.setIfInBounds_toArray, List.set_cons_zero, List.set_cons_succ]
                refine wpAnyH_take (i := 14) (v := ?_) rfl (by kernel_rfl) (by kernel_rfl) (by kernel_rfl) (fun _ _ _ h => h) (Or.inl ⟨by rfl, ?_⟩) hS ?_
                rotate_left
                · intro wz hSw; (try dsimp only at hSw); go_simp; (try with_reducible rfl)
                try simp only [List.getElem_toArray, List.getElem_cons_zero, List.getElem_cons_succ, Act.put, List.setIfInBounds_toArray, List.set_cons_zero, List.set_cons_succ]
                refine wpAnyH_ready (rs := [13]) (by kernel_rfl) (by simp) (AllReadyH.cons rfl (fun K hK => ?_) AllReadyH.nil)
                refine step_append_lies _ rfl (.tmp 35) (.tmp 38) 22 rfl w.heap.size 43 i0 (.agg #[.int .i64 0, .int .i64 0]) 2 16 Try.underlying22 hi0 hz0 hz1 hz2 rfl (by decide) Vs k (pcells (starK k)) rfl (by have h := HT4.out.s; rw [hls] at h; exact h) ⟨_, 0, none⟩ 1 1 [.int .i64 0, .int .i64 ((k : Int) + 1)] rfl rfl HL12.out.2 (by simp [Value.oneCell']) (by omega) (by simp [maxLen]; omega) (by omega) (HSZ.out _ HT4.out.bel) _ rfl ?_
                intro g13 c13 w13 ho13 hg13 hor13 hlt13
                have ht5 := (HT4.out.swap.more (by rw [hls]; exact ho13) hg13 hor13).swap
                rw [hls] at ht5
                have HT5 := Lib.hid ht5
                clear ht5
                clear ho13 hg13 hor13 hlt13
                refine hK.out _ _ trivial (fun _ => ?_)
                clear hK K
                try simp only [List.getElem_toArray, List.getElem_cons_zero, List.getElem_cons_succ, Act.put, List.setIfInBounds_toArray, List.set_cons_zero, List.set_cons_succ]
                refine wpAnyH_ready (rs := [15]) (by kernel_rfl) (by simp) (AllReadyH.cons rfl (fun K hK => ?_) AllReadyH.nil)
                obtain ⟨_, q1, _, q2⟩ := cells_two HT5.out.gr
                go_simp
                have HT6 := Lib.hid (HT5.out.put (.slice (some ⟨g7, 0, none⟩) (k + 1) c7))
                clear q1 q2
                refine hK.out _ _ trivial (fun _ => ?_)
                clear hK K
                try simp only [List.getElem_toArray, List.getElem_cons_zero, List.getElem_cons_succ, Act.put, List.setIfInBounds_toArray, List.set_cons_zero, List.set_cons_succ]
                refine wpAnyH_take (i := 16) (v := ?_) rfl (by kernel_rfl) (by kernel_rfl) (by kernel_rfl) (fun _ _ _ h => h) (Or.inl ⟨by rfl, ?_⟩) hS ?_
                rotate_left
                · intro wz hSw; (try dsimp only at hSw); go_simp; (try with_reducible rfl)
                try simp only [List.getElem_toArray, List.getElem_cons_zero, List.getElem_cons_succ, Act.put, List.setIfInBounds_toArray, List.set_cons_zero, List.set_cons_succ]
                refine wpAnyH_ready (rs := [17]) (by kernel_rfl) (by simp) (AllReadyH.cons rfl (fun K hK => ?_) AllReadyH.nil)
                obtain ⟨_, q1, _, q2⟩ := cells_two HT6.out.gs
                go_simp
                have HT7 := Lib.hid (HT6.out.swap.put (.slice (some ⟨g13, 0, none⟩) (k + 1) c13)).swap
                clear q1 q2
                refine hK.out _ _ trivial (fun _ => ?_)
                clear hK K
                try simp only [List.getElem_toArray, List.getElem_cons_zero, List.getElem_cons_succ, Act.put, List.setIfInBounds_toArray, List.set_cons_zero, List.set_cons_succ]
                refine wpAnyH_done (by kernel_rfl) ?_ _
                go_wp2_with fail
                go_meet
                rw [rowK_snoc, starK_snoc]
                exact ⟨_, _, HT7⟩
            ·
              have q1 : World.cell? (World.alloc (World.alloc (wr) (.cells #[.int .i64 0, .int .i64 ((k : Int) + 1)] 43)) (.cells #[.int .i64 (k : Int), .int .i64 ((k : Int) + 1)] 43)) ⟨w.heap.size + 1, 1, none⟩ = some Vs := (cells_two HT3.out.gs).2.1
              go_simp
              clear q1
              refine hK.out _ _ trivial (fun _ => ?_)
              clear hK K
              try simp only [List.getElem_toArray, List.getElem_cons_zero, List.getElem_cons_succ, Act.put, List.setIfInBounds_toArray, List.set_cons_zero, List.set_cons_succ]
              refine wpAnyH_ready (rs := [1]) (by kernel_rfl) (by simp) (AllReadyH.cons rfl (fun K hK => ?_) AllReadyH.nil)
              have q1 : World.cell? (World.alloc (World.alloc (wr) (.cells #[.int .i64 0, .int .i64 ((k : Int) + 1)] 43)) (.cells #[.int .i64 (k : Int), .int .i64 ((k : Int) + 1)] 43)) ⟨w.heap.size, 1, none⟩ = some Vr := (cells_two HT3.out.gr).2.1
              go_simp
              clear q1
              refine hK.out _ _ trivial (fun _ => ?_)
              clear hK K
              try simp only [List.getElem_toArray, List.getElem_cons_zero, List.getElem_cons_succ, Act.put, List.setIfInBounds_toArray, List.set_cons_zero, List.set_cons_succ]
              refine wpAnyH_ready (rs := [7]) (by kernel_rfl) (by simp) (AllReadyH.cons rfl (fun K hK => ?_) AllReadyH.nil)
              refine step_append_lies _ rfl (.tmp 27) (.tmp 32) 22 rfl w.heap.size 43 i0 (.agg #[.int .i64 0, .int .i64 0]) 2 16 Try.underlying22 hi0 hz0 hz1 hz2 rfl (by decide) Vr k (pcells (rowK k)) rfl (by have h := HT3.out.r; rw [hlr] at h; exact h) ⟨_, 0, none⟩ 1 1 [.int .i64 (k : Int), .int .i64 ((k : Int) + 1)] rfl rfl HL6.out.2 (by simp [Value.oneCell']) (by omega) (by simp [maxLen]; omega) (by omega) (HSZ.out _ HT3.out.bel) _ rfl ?_
              intro g7 c7 w7 ho7 hg7 hor7 hlt7
              have ht4 := HT3.out.more (by rw [hlr]; exact ho7) hg7 hor7
              rw [hlr] at ht4
              have HT4 := Lib.hid ht4
              clear ht4
              have HL12 := Lib.hid (HL12.out.grown hg7 (fun e => by have h := HVR.out _ e; (try simp only [World.size_alloc, World.size_drew] at h); omega))
              clear ho7 hg7 hor7 hlt7
              refine hK.out _ _ trivial (fun _ => ?_)
              clear hK K
              try simp only [List.getElem_toArray, List.getElem_cons_zero, List.getElem_cons_succ, Act.put, List.setIfInBounds_toArray, List.set_cons_zero, List.set_cons_succ]
              refine wpAnyH_take (i := 14) (v := ?_) rfl (by kernel_rfl) (by kernel_rfl) (by kernel_rfl) (fun _ _ _ h => h) (Or.inl ⟨by rfl, ?_⟩) hS ?_
              rotate_left
              · intro wz hSw; (try dsimp only at hSw); go_simp; (try with_reducible rfl)
              try simp only [List.getElem_toArray, List.getElem_cons_zero, List.getElem_cons_succ, Act.put, List.setIfInBounds_toArray, List.set_cons_zero, List.set_cons_succ]
              refine wpAnyH_ready (rs := [13]) (by kernel_rfl) (by simp) (AllReadyH.cons rfl (fun K hK => ?_) AllReadyH.nil)
              refine step_append_lies _ rfl (.tmp 35) (.tmp 38) 22 rfl w.heap.size 43 i0 (.agg #[.int .i64 0, .int .i64 0]) 2 16 Try.underlying22 hi0 hz0 hz1 hz2 rfl (by decide) Vs k (pcells (starK k)) rfl (by have h := HT4.out.s; rw [hls] at h; exact h) ⟨_, 0, none⟩ 1 1 [.int .i64 0, .int .i64 ((k : Int) + 1)] rfl rfl HL12.out.2 (by simp [Value.oneCell']) (by omega) (by simp [maxLen]; omega) (by omega) (HSZ.out _ HT4.out.bel) _ rfl ?_
              intro g13 c13 w13 ho13 hg13 hor13 hlt13
              have ht5 := (HT4.out.swap.more (by rw [hls]; exact ho13) hg13 hor13).swap
              rw [hls] at ht5
              have HT5 := Lib.hid ht5
              clear ht5
              clear ho13 hg13 hor13 hlt13
              refine hK.out _ _ trivial (fun _ => ?_)
              clear hK K
              try simp only [List.getElem_toArray, List.getElem_cons_zero, List.getElem_cons_succ, Act.put, List.setIfInBounds_toArray, List.set_cons_zero, List.set_cons_succ]
              refine wpAnyH_ready (rs := [15]) (by kernel_rfl) (by simp) (AllReadyH.cons rfl (fun K hK => ?_) AllReadyH.nil)
              obtain ⟨_, q1, _, q2⟩ := cells_two HT5.out.gr
              go_simp
              have HT6 := Lib.hid (HT5.out.put (.slice (some ⟨g7, 0, none⟩) (k + 1) c7))
              clear q1 q2
              refine hK.out _ _ trivial (fun _ => ?_)
              clear hK K
              try simp only [List.getElem_toArray, List.getElem_cons_zero, List.getElem_cons_succ, Act.put, List.setIfInBounds_toArray, List.set_cons_zero, List.set_cons_succ]
              refine wpAnyH_take (i := 16) (v := ?_) rfl (by kernel_rfl) (by kernel_rfl) (by kernel_rfl) (fun _ _ _ h => h) (Or.inl ⟨by rfl, ?_⟩) hS ?_
              rotate_left
              · intro wz hSw; (try dsimp only at hSw); go_simp; (try with_reducible rfl)
              try simp only [List.getElem_toArray, List.getElem_cons_zero, List.getElem_cons_succ, Act.put, List.setIfInBounds_toArray, List.set_cons_zero, List.set_cons_succ]
              refine wpAnyH_ready (rs := [17]) (by kernel_rfl) (by simp) (AllReadyH.cons rfl (fun K hK => ?_) AllReadyH.nil)
              obtain ⟨_, q1, _, q2⟩ := cells_two HT6.out.gs
              go_simp
              have HT7 := Lib.hid (HT6.out.swap.put (.slice (some ⟨g13, 0, none⟩) (k + 1) c13)).swap
              clear q1 q2
              refine hK.out _ _ trivial (fun _ => ?_)
              clear hK K
              try simp only [List.getElem_toArray, List.getElem_cons_zero, List.getElem_cons_succ, Act.put, List.setIfInBounds_toArray, List.set_cons_zero, List.set_cons_succ]
              refine wpAnyH_done (by kernel_rfl) ?_ _
              go_wp2_with fail
              go_meet
              rw [rowK_snoc, starK_snoc]
              exact ⟨_, _, HT7⟩
          ·
            have q1 : World.cell? (World.alloc (wr) (.cells #[.int .i64 0, .int .i64 ((k : Int) + 1)] 43)) ⟨w.heap.size + 1, 1, none⟩ = some Vs := (cells_two HT2.out.gs).2.1
            go_simp
            clear q1
            refine hK.out _ _ trivial (fun _ => ?_)
            clear hK K
            try simp only [List.getElem_toArray, List.getElem_cons_zero, List.getElem_cons_succ, Act.put, List.setIfInBounds_toArray, List.set_cons_zero, List.set_cons_succ]
            refine wpAnyH_ready (rs := [1, 6]) (by kernel_rfl) (by simp) (AllReadyH.cons rfl (fun K hK => ?_) (AllReadyH.cons rfl (fun K hK => ?_) AllReadyH.nil))
            ·
              have q1 : World.cell? (World.alloc (wr) (.cells #[.int .i64 0, .int .i64 ((k : Int) + 1)] 43)) ⟨w.heap.size, 1, none⟩ = some Vr := (cells_two HT2.out.gr).2.1
              go_simp
              clear q1
              refine hK.out _ _ trivial (fun _ => ?_)
              clear hK K
              try simp only [List.getElem_toArray, List.getElem_cons_zero, List.getElem_cons_succ, Act.put, List.setIfInBounds_toArray, List.set_cons_zero, List.set_cons_succ]
              refine wpAnyH_ready (rs := [6]) (by kernel_rfl) (by simp) (AllReadyH.cons rfl (fun K hK => ?_) AllReadyH.nil)
              go_simp
              have HT3 := Lib.hid (HT2.out.lay (.cells #[.int .i64 (k : Int), .int .i64 ((k : Int) + 1)] 43))
              have hl6 := Lay.made (World.alloc (wr.drew) (.cells #[.int .i64 0, .int .i64 ((k : Int) + 1)] 43)) (k : Int) ((k : Int) + 1)
              try simp only [World.size_alloc, World.size_drew] at hl6
              have HL6 := Lib.hid hl6
              clear hl6
              have HL12 := Lib.hid (HL12.out.below ((Below.refl _ _).alloc (Nat.le_refl _) (.cells #[.int .i64 (k : Int), .int .i64 ((k : Int) + 1)] 43)))
              refine hK.out _ _ trivial (fun _ => ?_)
              clear hK K
              try simp only [List.getElem_toArray, List.getElem_cons_zero, List.getElem_cons_succ, Act.put, List.setIfInBounds_toArray, List.set_cons_zero, List.set_cons_succ]
              refine wpAnyH_ready (rs := [7]) (by kernel_rfl) (by simp) (AllReadyH.cons rfl (fun K hK => ?_) AllReadyH.nil)
              refine step_append_lies _ rfl (.tmp 27) (.tmp 32) 22 rfl w.heap.size 43 i0 (.agg #[.int .i64 0, .int .i64 0]) 2 16 Try.underlying22 hi0 hz0 hz1 hz2 rfl (by decide) Vr k (pcells (rowK k)) rfl (by have h := HT3.out.r; rw [hlr] at h; exact h) ⟨_, 0, none⟩ 1 1 [.int .i64 (k : Int), .int .i64 ((k : Int) + 1)] rfl rfl HL6.out.2 (by simp [Value.oneCell']) (by omega) (by simp [maxLen]; omega) (by omega) (HSZ.out _ HT3.out.bel) _ rfl ?_
              intro g7 c7 w7 ho7 hg7 hor7 hlt7
              have ht4 := HT3.out.more (by rw [hlr]; exact ho7) hg7 hor7
              rw [hlr] at ht4
              have HT4 := Lib.hid ht4
              clear ht4
              have HL12 := Lib.hid (HL12.out.grown hg7 (fun e => by have h := HVR.out _ e; (try simp only [World.size_alloc, World.size_drew] at h); omega))
              clear ho7 hg7 hor7 hlt7
              refine hK.out _ _ trivial (fun _ => ?_)
              clear hK K
              try simp only [List.getElem_toArray, List.getElem_cons_zero, List.getElem_cons_succ, Act.put, List.setIfInBounds_toArray, List.set_cons_zero, List.set_cons_succ]
              refine wpAnyH_take (i := 14) (v := ?_) rfl (by kernel_rfl) (by kernel_rfl) (by kernel_rfl) (fun _ _ _ h => h) (Or.inl ⟨by rfl, ?_⟩) hS ?_
              rotate_left
              · intro wz hSw; (try dsimp only at hSw); go_simp; (try with_reducible rfl)
              try simp only [List.getElem_toArray, List.getElem_cons_zero, List.getElem_cons_succ, Act.put, List.setIfInBounds_toArray, List.set_cons_zero, List.set_cons_succ]
              refine wpAnyH_ready (rs := [13]) (by kernel_rfl) (by simp) (AllReadyH.cons rfl (fun K hK => ?_) AllReadyH.nil)
              refine step_append_lies _ rfl (.tmp 35) (.tmp 38) 22 rfl w.heap.size 43 i0 (.agg #[.int .i64 0, .int .i64 0]) 2 16 Try.underlying22 hi0 hz0 hz1 hz2 rfl (by decide) Vs k (pcells (starK k)) rfl (by have h := HT4.out.s; rw [hls] at h; exact h) ⟨_, 0, none⟩ 1 1 [.int .i64 0, .int .i64 ((k : Int) + 1)] rfl rfl HL12.out.2 (by simp [Value.oneCell']) (by omega) (by simp [maxLen]; omega) (by omega) (HSZ.out _ HT4.out.bel) _ rfl ?_
              intro g13 c13 w13 ho13 hg13 hor13 hlt13
              have ht5 := (HT4.out.swap.more (by rw [hls]; exact ho13) hg13 hor13).swap
              rw [hls] at ht5
              have HT5 := Lib.hid ht5
              clear ht5
              clear ho13 hg13 hor13 hlt13
              refine hK.out _ _ trivial (fun _ => ?_)
              clear hK K
              try simp only [List.getElem_toArray, List.getElem_cons_zero, List.getElem_cons_succ, Act.put, List.setIfInBounds_toArray, List.set_cons_zero, List.set_cons_succ]
              refine wpAnyH_ready (rs := [15]) (by kernel_rfl) (by simp) (AllReadyH.cons rfl (fun K hK => ?_) AllReadyH.nil)
              obtain ⟨_, q1, _, q2⟩ := cells_two HT5.out.gr
              go_simp
              have HT6 := Lib.hid (HT5.out.put (.slice (some ⟨g7, 0, none⟩) (k + 1) c7))
              clear q1 q2
              refine hK.out _ _ trivial (fun _ => ?_)
              clear hK K
              try simp only [List.getElem_toArray, List.getElem_cons_zero, List.getElem_cons_succ, Act.put, List.setIfInBounds_toArray, List.set_cons_zero, List.set_cons_succ]
              refine wpAnyH_take (i := 16) (v := ?_) rfl (by kernel_rfl) (by kernel_rfl) (by kernel_rfl) (fun _ _ _ h => h) (Or.inl ⟨by rfl, ?_⟩) hS ?_
              rotate_left
              · intro wz hSw; (try dsimp only at hSw); go_simp; (try with_reducible rfl)
              try simp only [List.getElem_toArray, List.getElem_cons_zero, List.getElem_cons_succ, Act.put, List.setIfInBounds_toArray, List.set_cons_zero, List.set_cons_succ]
              refine wpAnyH_ready (rs := [17]) (by kernel_rfl) (by simp) (AllReadyH.cons rfl (fun K hK => ?_) AllReadyH.nil)
              obtain ⟨_, q1, _, q2⟩ := cells_two HT6.out.gs
              go_simp
              have HT7 := Lib.hid (HT6.out.swap.put (.slice (some ⟨g13, 0, none⟩) (k + 1) c13)).swap
              clear q1 q2
              refine hK.out _ _ trivial (fun _ => ?_)
              clear hK K
              try simp only [List.getElem_toArray, List.getElem_cons_zero, List.getElem_cons_succ, Act.put, List.setIfInBounds_toArray, List.set_cons_zero, List.set_cons_succ]
              refine wpAnyH_done (by kernel_rfl) ?_ _
              go_wp2_with fail
              go_meet
              rw [rowK_snoc, starK_snoc]
              exact ⟨_, _, HT7⟩
            ·
              go_simp
              have HT3 := Lib.hid (HT2.out.lay (.cells #[.int .i64 (k : Int), .int .i64 ((k : Int) + 1)] 43))
              have hl6 := Lay.made (World.alloc (wr.drew) (.cells #[.int .i64 0, .int .i64 ((k : Int) + 1)] 43)) (k : Int) ((k : Int) + 1)
              try simp only [World.size_alloc, World.size_drew] at hl6
              have HL6 := Lib.hid hl6
              clear hl6
              have HL12 := Lib.hid (HL12.out.below ((Below.refl _ _).alloc (Nat.le_refl _) (.cells #[.int .i64 (k : Int), .int .i64 ((k : Int) + 1)] 43)))
              refine hK.out _ _ trivial (fun _ => ?_)
              clear hK K
              try simp only [List.getElem_toArray, List.getElem_cons_zero, List.getElem_cons_succ, Act.put, List.setIfInBounds_toArray, List.set_cons_zero, List.set_cons_succ]
              refine wpAnyH_ready (rs := [1]) (by kernel_rfl) (by simp) (AllReadyH.cons rfl (fun K hK => ?_) AllReadyH.nil)
              have q1 : World.cell? (World.alloc (World.alloc (wr) (.cells #[.int .i64 0, .int .i64 ((k : Int) + 1)] 43)) (.cells #[.int .i64 (k : Int), .int .i64 ((k : Int) + 1)] 43)) ⟨w.heap.size, 1, none⟩ = some Vr := (cells_two HT3.out.gr).2.1
              go_simp
              clear q1
              refine hK.out _ _ trivial (fun _ => ?_)
              clear hK K
              try simp only [List.getElem_toArray, List.getElem_cons_zero, List.getElem_cons_succ, Act.put, List.setIfInBounds_toArray, List.set_cons_zero, List.set_cons_succ]
              refine wpAnyH_ready (rs := [7]) (by kernel_rfl) (by simp) (AllReadyH.cons rfl (fun K hK => ?_) AllReadyH.nil)
              refine step_append_lies _ rfl (.tmp 27) (.tmp 32) 22 rfl w.heap.size 43 i0 (.agg #[.int .i64 0, .int .i64 0]) 2 16 Try.underlying22 hi0 hz0 hz1 hz2 rfl (by decide) Vr k (pcells (rowK k)) rfl (by have h := HT3.out.r; rw [hlr] at h; exact h) ⟨_, 0, none⟩ 1 1 [.int .i64 (k : Int), .int .i64 ((k : Int) + 1)] rfl rfl HL6.out.2 (by simp [Value.oneCell']) (by omega) (by simp [maxLen]; omega) (by omega) (HSZ.out _ HT3.out.bel) _ rfl ?_
              intro g7 c7 w7 ho7 hg7 hor7 hlt7
              have ht4 := HT3.out.more (by rw [hlr]; exact ho7) hg7 hor7
              rw [hlr] at ht4
              have HT4 := Lib.hid ht4
              clear ht4
              have HL12 := Lib.hid (HL12.out.grown hg7 (fun e => by have h := HVR.out _ e; (try simp only [World.size_alloc, World.size_drew] at h); omega))
              clear ho7 hg7 hor7 hlt7
              refine hK.out _ _ trivial (fun _ => ?_)
              clear hK K
              try simp only [List.getElem_toArray, List.getElem_cons_zero, List.getElem_cons_succ, Act.put, List.setIfInBounds_toArray, List.set_cons_zero, List.set_cons_succ]
              refine wpAnyH_take (i := 14) (v := ?_) rfl (by kernel_rfl) (by kernel_rfl) (by kernel_rfl) (fun _ _ _ h => h) (Or.inl ⟨by rfl, ?_⟩) hS ?_
              rotate_left
              · intro wz hSw; (try dsimp only at hSw); go_simp; (try with_reducible rfl)
              try simp only [List.getElem_toArray, List.getElem_cons_zero, List.getElem_cons_succ, Act.put, List.setIfInBounds_toArray, List.set_cons_zero, List.set_cons_succ]
              refine wpAnyH_ready (rs := [13]) (by kernel_rfl) (by simp) (AllReadyH.cons rfl (fun K hK => ?_) AllReadyH.nil)
              refine step_append_lies _ rfl (.tmp 35) (.tmp 38) 22 rfl w.heap.size 43 i0 (.agg #[.int .i64 0, .int .i64 0]) 2 16 Try.underlying22 hi0 hz0 hz1 hz2 rfl (by decide) Vs k (pcells (starK k)) rfl (by have h := HT4.out.s; rw [hls] at h; exact h) ⟨_, 0, none⟩ 1 1 [.int .i64 0, .int .i64 ((k : Int) + 1)] rfl rfl HL12.out.2 (by simp [Value.oneCell']) (by omega) (by simp [maxLen]; omega) (by omega) (HSZ.out _ HT4.out.bel) _ rfl ?_
              intro g13 c13 w13 ho13 hg13 hor13 hlt13
              have ht5 := (HT4.out.swap.more (by rw [hls]; exact ho13) hg13 hor13).swap
              rw [hls] at ht5
              have HT5 := Lib.hid ht5
              clear ht5
              clear ho13 hg13 hor13 hlt13
              refine hK.out _ _ trivial (fun _ => ?_)
              clear hK K
              try simp only [List.getElem_toArray, List.getElem_cons_zero, List.getElem_cons_succ, Act.put, List.setIfInBounds_toArray, List.set_cons_zero, List.set_cons_succ]
              refine wpAnyH_ready (rs := [15]) (by kernel_rfl) (by simp) (AllReadyH.cons rfl (fun K hK => ?_) AllReadyH.nil)
              obtain ⟨_, q1, _, q2⟩ := cells_two HT5.out.gr
              go_simp
              have HT6 := Lib.hid (HT5.out.put (.slice (some ⟨g7, 0, none⟩) (k + 1) c7))
              clear q1 q2
              refine hK.out _ _ trivial (fun _ => ?_)
              clear hK K
              try simp only [List.getElem_toArray, List.getElem_cons_zero, List.getElem_cons_succ, Act.put, List.setIfInBounds_toArray, List.set_cons_zero, List.set_cons_succ]
              refine wpAnyH_take (i := 16) (v := ?_) rfl (by kernel_rfl) (by kernel_rfl) (by kernel_rfl) (fun _ _ _ h => h) (Or.inl ⟨by rfl, ?_⟩) hS ?_
              rotate_left
              · intro wz hSw; (try dsimp only at hSw); go_simp; (try with_reducible rfl)
              try simp only [List.getElem_toArray, List.getElem_cons_zero, List.getElem_cons_succ, Act.put, List.setIfInBounds_toArray, List.set_cons_zero, List.set_cons_succ]
              refine wpAnyH_ready (rs := [17]) (by kernel_rfl) (by simp) (AllReadyH.cons rfl (fun K hK => ?_) AllReadyH.nil)
              obtain ⟨_, q1, _, q2⟩ := cells_two HT6.out.gs
              go_simp
              have HT7 := Lib.hid (HT6.out.swap.put (.slice (some ⟨g13, 0, none⟩) (k + 1) c13)).swap
              clear q1 q2
              refine hK.out _ _ trivial (fun _ => ?_)
              clear hK K
              try simp only [List.getElem_toArray, List.getElem_cons_zero, List.getElem_cons_succ, Act.put, List.setIfInBounds_toArray, List.set_cons_zero, List.set_cons_succ]
              refine wpAnyH_done (by kernel_rfl) ?_ _
              go_wp2_with fail
              go_meet
              rw [rowK_snoc, starK_snoc]
              exact ⟨_, _, HT7⟩
      case rest =>
        obtain ⟨Vr', Vs', HT2⟩ := hcut
        go_wp2_with fail
        go_roundw
        case rel => exact ⟨k + 1, Vr', Vs', by omega, by go_num, HT2⟩
        case measure => simp [intOf]; omega
    · obtain rfl : k = 199 := by omega
      have t1 : decide (((199 : Nat) : Int) + 1 < 200) = false := by decide
      obtain ⟨Br, cr, hVr, hrd, _, _⟩ := own_rdP HT.out.r
      obtain ⟨Bs, cs, hVs, hsd, _, _⟩ := own_rdP HT.out.s
      rw [rowK_length] at hVr
      rw [starK_length] at hVs
      obtain ⟨g0, g1, _, _⟩ := cells_two HT.out.gr
      obtain ⟨s0, s1, _, _⟩ := cells_two HT.out.gs
      rw [hVr] at g1
      rw [hVs] at s1
      have hl1 := lt_of_block HT.out.gr
      have hl2 := lt_of_block HT.out.gs
      have HJ : Hid (∀ w', Below wr.heap.size wr w' → w'.cell? ⟨w.heap.size, 0, none⟩ = some (.int .i64 200) ∧ w'.cell? ⟨w.heap.size, 1, none⟩ = some (.slice Br 199 cr)) := fun w' hb =>
        ⟨by rw [hb.cell (by exact hl1)]; exact g0, by rw [hb.cell (by exact hl1)]; exact g1⟩
      have HK : Hid (∀ w', Below wr.heap.size wr w' → w'.cell? ⟨w.heap.size + 1, 0, none⟩ = some (.int .i64 200) ∧ w'.cell? ⟨w.heap.size + 1, 1, none⟩ = some (.slice Bs 199 cs)) := fun w' hb =>
        ⟨by rw [hb.cell (by exact hl2)]; exact s0, by rw [hb.cell (by exact hl2)]; exact s1⟩
      have HRD := Lib.hid hrd
      have HSD := Lib.hid hsd
      have HBW := Lib.hid HT.out.bel
      clear hVr hVs hrd hsd s0 s1 HT
      go_wp2_with fail
      refine (walk_any Br cr 199 200 v (rowK 199) wr HRD.out (rowK_length 199).symm rowK_right hv200).mono ?_
      rintro e w1 ⟨k1, go, co, Bu, s, rfl, ho, _, _, _, hs, hsl, _, hb⟩
      have hor : s.order = desc v v ++ asc v (199 - v) := by rw [hs] at hsl ⊢; exact row_order hv200 hsl
      have hlen : s.order.length = 200 := by rw [hor, List.length_append]; unfold desc asc; rw [List.length_map, List.length_map, List.length_range, List.length_range]; omega
      have HB1 := Lib.hid hb
      have HLC : Hid (∀ w', Below w1.heap.size w1 w' → ∀ i, i < 200 → w'.cell? ⟨go, i, none⟩ = some (.int .i64 ((if i ≤ v then v - i else i : Nat) : Int))) := fun w' hb' i hi =>
        OwnL.at_ (row_below ho hb') (by rw [hor]; exact long_at hv200 hi)
      rw [hlen]
      clear ho hs hsl hb hor hlen g0 g1
      obtain ⟨g0, g1⟩ := HJ.out w1 HB1.out
      go_wp2_with fail
      refine (path_any Br cr 199 200 0 199 (rowK 199) w1 (HRD.out.below HB1.out) (rowK_length 199).symm rowK_right (by decide) (by decide)).mono ?_
      rintro e w2 ⟨hb, hpp⟩
      rcases hpp with ⟨hneg, _⟩ | ⟨D, gp, cp, pl, hgd, hpl, hplen, _, hown, rfl⟩
      · exfalso
        rw [row_gd (by decide)] at hneg
        omega
      have hD : D = 199 := by rw [row_gd (by decide)] at hgd; omega
      subst hD
      have hpl1 : pl = (prunP (tabG 200 (rowK 199)) (distOf (tabG 200 (rowK 199)) 200 199) 0 199).1 := congrArg Prod.fst hpl
      have HB2 := Lib.hid (next_below HB1.out hb)
      have HPC : Hid (∀ w', Below w2.heap.size w2 w' → ∀ i, i < 200 → w'.cell? ⟨gp, i, none⟩ = some (.int .i64 (i : Int))) := fun w' hb' i hi =>
        OwnL.at_ (row_below hown hb') (by rw [hpl1]; exact row_path (by omega))
      have HLC2 : Hid (∀ w', Below w2.heap.size w2 w' → ∀ i, i < 200 → w'.cell? ⟨go, i, none⟩ = some (.int .i64 ((if i ≤ v then v - i else i : Nat) : Int))) := fun w' hb' i hi => HLC.out w' (next_below hb hb') i hi
      rw [hplen]
      clear hown hpl hpl1 hplen hgd hb g0 g1 HLC
      obtain ⟨s0, s1⟩ := HK.out w2 HB2.out
      go_wp2_with fail
      refine (walk_any Bs cs 199 200 0 (starK 199) w2 (HSD.out.below HB2.out) (starK_length 199).symm starK_right (by decide)).mono ?_
      rintro e w3 ⟨k3, gm, cm, Bm, sm, rfl, ho, hu, _, _, hs, hsl, hG, hb⟩
      have hor : sm.order = List.range 200 := by rw [hs] at hsl ⊢; exact star_order hsl
      have hlen : sm.order.length = 200 := by rw [hor]; exact List.length_range
      have HB3 := Lib.hid (next_below HB2.out hb)
      have HMC : Hid (∀ i, i < 200 → w3.cell? ⟨gm, i, none⟩ = some (.int .i64 (i : Int))) := fun i hi =>
        OwnL.at_ ho (by rw [hor, List.getElem?_range hi])
      have HUC : Hid (∀ i, 0 < i → i < 200 → w3.cell? ⟨Bm, i, none⟩ = some (.int .i64 0)) := fun i h0 hi => by
        have hgu : gd sm.up i = 0 := by rw [hs] at hsl ⊢; exact star_up hsl h0 hi
        rw [← hgu, cell_of hu]
        simp [zs, zv, gd, List.getD, List.getElem?_eq_getElem (show i < sm.up.length by rw [hG.len]; exact hi)]
      have HLC3 : Hid (∀ i, i < 200 → w3.cell? ⟨go, i, none⟩ = some (.int .i64 ((if i ≤ v then v - i else i : Nat) : Int))) := fun i hi => HLC2.out w3 hb i hi
      have HPC3 : Hid (∀ i, i < 200 → w3.cell? ⟨gp, i, none⟩ = some (.int .i64 (i : Int))) := fun i hi => HPC.out w3 hb i hi
      rw [hlen]
      clear ho hu hs hsl hG hb hor hlen s0 s1 HLC2 HPC
      go_wp2_with fail
      go_loopw [86] (fun s86 wn => ∃ i : Nat, i ≤ 200 ∧ s86 = .int .i64 i ∧ wn = w3) (fun s86 _ => 200 - (intOf s86).toNat)
      case atStart => exact ⟨0, by omega, rfl, rfl⟩
      case round =>
        obtain ⟨i, hi, rfl, rfl⟩ := hrel
        by_cases h2 : i < 200
        · have t2 : decide ((i : Int) < 200) = true := by simp; omega
          have hi0 : (0 : Int) ≤ (i : Int) := by omega
          have hi1 : (i : Int) < 200 := by omega
          have c0 := HLC3.out i h2
          have c1 := HPC3.out i h2
          have c2 := HMC.out i h2
          have eii : ((i : Int) != (i : Int)) = false := by simp
          by_cases hiv : i ≤ v
          · rw [if_pos hiv, show ((v - i : Nat) : Int) = (v : Int) - (i : Int) by omega] at c0
            have dg : decide ((v : Int) < (i : Int)) = false := by rw [decide_eq_false_iff_not]; omega
            have dg2 : decide (v < i) = false := by rw [decide_eq_false_iff_not]; omega
            have evv : ((v : Int) - (i : Int) != (v : Int) - (i : Int)) = false := by simp
            by_cases h0 : i = 0
            · subst h0
              go_wp2_with fail
              go_roundw
              case rel => exact ⟨1, by omega, by go_num, by first | rfl | trivial⟩
              case measure => simp [intOf]
            · have c3 := HUC.out i (by omega) h2
              have d0 : decide ((0 : Int) < (i : Int)) = true := by simp; omega
              go_wp2_with fail
              go_roundw
              case rel => exact ⟨i + 1, by omega, by go_num, by first | rfl | trivial⟩
              case measure => simp [intOf]; omega
          · rw [if_neg hiv] at c0
            have dg : decide ((v : Int) < (i : Int)) = true := by rw [decide_eq_true_iff]; omega
            have dg2 : decide (v < i) = true := by rw [decide_eq_true_iff]; omega
            have c3 := HUC.out i (by omega) h2
            have d0 : decide ((0 : Int) < (i : Int)) = true := by simp; omega
            go_wp2_with fail
            go_roundw
            case rel => exact ⟨i + 1, by omega, by go_num, by first | rfl | trivial⟩
            case measure => simp [intOf]; omega
        · obtain rfl : i = 200 := by omega
          have t2 : decide (((200 : Nat) : Int) < 200) = false := by decide
          obtain ⟨g0, g1⟩ := HJ.out wr HB3.out
          go_wp2_with fail
          refine (parts_any Br cr 199 200 (rowK 199) wr (HRD.out.below HB3.out) (rowK_length 199).symm rowK_right).mono ?_
          rintro e w4 ⟨Bp, k2, capp, us, rfl, hk2, _, hb⟩
          have hk1 : k2 = 1 := by rw [hk2]; exact row_parts
          subst hk1
          have HB4 := Lib.hid (next_below HB3.out hb)
          clear hb hk2 g0 g1
          go_wp2_with fail
          refine (awake_any w4).mono ?_
          rintro e w5 ⟨rfl, hb5⟩
          go_wp2_with fail
          go_ret
          exact ⟨rfl, HBW.out.trans ((next_below HB4.out hb5).mono HBW.out.size)⟩
end Go.Proofs.Ytpkiogcedfmodaa
