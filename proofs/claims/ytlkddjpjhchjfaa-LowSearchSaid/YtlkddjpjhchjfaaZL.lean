/- DE DF DG DH DI: several texts in one. -/
import Derived.Test.YtlkddjpjhchjfaaDC
import Derived.Test.YtlkddjpjhchjfaaW11
namespace Go.Proofs.Ytlkddjpjhchjfaa
section
set_option maxRecDepth 100000
open Go.RowKit

/-- Lists of edges that are read. -/
def RdPP (w : World) (A : Option Addr) (G : List (List (Int × Int))) : Prop := ∀ (j : Nat) (x : List (Int × Int)), G[j]? = some x → ∃ (ad : Addr) (B : Option Addr) (c : Nat), A = some ad ∧ ad.block < w.heap.size ∧ w.cell? (ad.add j) = some (.slice B x.length c) ∧ RdP w B x
theorem RdPP.below {w w' : World} {A : Option Addr} {G : List (List (Int × Int))} (h : RdPP w A G) (hb : Below w.heap.size w w') : RdPP w' A G := fun j x hj => by
  obtain ⟨ad, B, c, e, hl, hc, hr⟩ := h j x hj
  exact ⟨ad, B, c, e, Nat.lt_of_lt_of_le hl hb.size, by rw [hb.cell (by rw [block_add]; exact hl)]; exact hc, hr.below hb⟩
theorem Blks.rd {w : World} {base : Nat} {V : Value} {us : List Value} {G : List (List (Int × Int))} (h : Blks w base V us G) : ∃ A c, V = .slice A G.length c ∧ RdPP w A G := by
  rcases Joins.ownsRow_forms h.row with ⟨e, h0⟩ | ⟨g, cap, e⟩
  · refine ⟨none, 0, by rw [e, h0], fun j x hj => ?_⟩
    have := (List.getElem?_eq_some_iff.1 hj).1
    omega
  · refine ⟨_, cap, e, fun j x hj => ?_⟩
    have hjl : j < us.length := by have := (List.getElem?_eq_some_iff.1 hj).1; have := h.len; omega
    obtain ⟨u, hu⟩ : ∃ u, us[j]? = some u := ⟨_, List.getElem?_eq_getElem hjl⟩
    have hrow := h.row
    rw [e] at hrow
    have hc := hrow.cells rfl j u hu
    obtain ⟨B, c, rfl, hr, _⟩ := own_rdP (h.each j u x hu hj)
    exact ⟨_, B, c, rfl, (hrow.lt g rfl).2, hc, hr⟩
theorem blocks_yes (A0 : Option Addr) (c n N : Nat) (E : List (Int × Int)) (w : World) (hr : RdP w A0 E) (hn : n = E.length) (hg : rightG (N : Nat) E = true) :
    Calls Try.prog 22 #[.agg #[.int .i64 (N : Nat), .slice A0 n c]] w fun e w' => ∃ (A1 : Option Addr) (c1 : Nat), e = .returned (.tuple #[.slice A1 (blkG N E).length c1, .int .i64 0]) ∧ RdPP w' A1 (blkG N E) ∧ (∃ A U F O, BlkS N E A U F O) ∧ (blkG N E).length ≤ n ∧ Below w.heap.size w w' := by
  refine (blocks_any A0 c n N E w hr hn hg).mono ?_
  rintro e w' ⟨V, us, A, U, F, O, rfl, hB, hS, hb⟩
  obtain ⟨A1, c1, rfl, hR⟩ := hB.rd
  exact ⟨A1, c1, rfl, hR, ⟨A, U, F, O, hS⟩, by rw [hS.blk hg, hn]; exact blkO_le _ _ _, hb⟩
/-- The blocks of one edge alone. -/
def bridG (G : List (List (Int × Int))) : List (Int × Int) := G.flatMap fun b => if b.length = 1 then b else []
theorem bridG_snoc {G : List (List (Int × Int))} {k : Nat} {b : List (Int × Int)} (h : G[k]? = some b) : bridG (G.take (k + 1)) = bridG (G.take k) ++ (if b.length = 1 then b else []) := by
  unfold bridG
  rw [List.take_add_one, h]
  simp
theorem bridG_le : ∀ G : List (List (Int × Int)), (bridG G).length ≤ G.length
  | [] => Nat.le_refl _
  | b :: G => by
    have := bridG_le G
    show ((if b.length = 1 then b else []) ++ bridG G).length ≤ G.length + 1
    rw [List.length_append]
    split
    · omega
    · simp; omega
set_option maxHeartbeats 16000000 in
theorem bridges_yes (A0 : Option Addr) (c n N : Nat) (E : List (Int × Int)) (w : World) (hr : RdP w A0 E) (hn : n = E.length) (hg : rightG (N : Nat) E = true) :
    Calls Try.prog 16 #[.agg #[.int .i64 (N : Nat), .slice A0 n c]] w fun e w' => ∃ (A1 : Option Addr) (c1 : Nat), e = .returned (.tuple #[.slice A1 (bridG (blkG N E)).length c1, .int .i64 0]) ∧ RdP w' A1 (bridG (blkG N E)) ∧ (∃ A U F O, BlkS N E A U F O) ∧ (bridG (blkG N E)).length ≤ n ∧ Below w.heap.size w w' := by
  have hn6 : n ≤ 594 := by have := (rightG_bounds hg).2.2; omega
  obtain ⟨X, hX⟩ : ∃ X, X = w.alloc (.cells #[.int .i64 (N : Nat), .slice A0 n c] 24) := ⟨_, rfl⟩
  have hb : Below w.heap.size w X := by rw [hX]; exact (Below.refl _ _).alloc (Nat.le_refl _) _
  have hXS : w.heap.size < X.heap.size := by rw [hX]; simp
  obtain ⟨j0, j1, _, _⟩ := cells_two (w := X) (by rw [hX]; exact heap_alloc_new w _)
  have HS := Lib.hid (blocks_yes A0 c n N E X (hr.below hb) hn hg)
  have HX := Lib.hid hX
  have HB := Lib.hid hb
  have HXS := Lib.hid hXS
  obtain ⟨i1, hi1, hy0, hy1, hy2⟩ := info_partsI pinfo5
  clear hr hn hg hX hb hXS
  go_enter Try.func16, Try.ntmps16
  go_wp2_with fail
  rw [← HX.out]
  refine HS.out.mono ?_
  rintro e W ⟨A1, c1, rfl, hR, hS, hlen, hbW⟩
  have HR := Lib.hid hR
  have HS2 := Lib.hid hS
  have HBW := Lib.hid hbW
  obtain ⟨G, hG⟩ : ∃ G, blkG N E = G := ⟨_, rfl⟩
  rw [hG] at HR hlen ⊢
  have HGQ := Lib.hid hG
  obtain ⟨lg, hlg⟩ : ∃ lg, G.length = lg := ⟨_, rfl⟩
  rw [hlg] at hlen ⊢
  have HLG := Lib.hid hlg
  have HO0 : Hid (W.ownsRow W.heap.size 51 2 (.slice none 0 0) (bridG (G.take 0)).length (pcells (bridG (G.take 0)))) := World.ownsRow_nil _ _ _ _
  have HB0 := Lib.hid (Below.refl W.heap.size W)
  clear hR hS hbW hG hlg j0 j1 HS
  go_wp2_with fail
  go_loopw [19, 6] (fun s19 s6 wr => ∃ (k : Nat) (V : Value), k ≤ lg ∧ s19 = .int .i64 k ∧ s6 = V ∧ Hid (wr.ownsRow W.heap.size 51 2 V (bridG (G.take k)).length (pcells (bridG (G.take k)))) ∧ Hid (Below W.heap.size W wr)) (fun s19 _ _ => lg - (intOf s19).toNat)
  case atStart => exact ⟨0, _, Nat.zero_le _, rfl, rfl, HO0, HB0⟩
  case round =>
    obtain ⟨k, V, hk, rfl, rfl, hO, hbel⟩ := hrel
    by_cases h1 : k < lg
    · have t1 : decide ((k : Int) < (lg : Int)) = true := by simp; omega
      have hK0 : (0 : Int) ≤ (k : Int) := by omega
      have hK1 : (k : Int) < (lg : Nat) := by omega
      obtain ⟨b, hb⟩ : ∃ b, G[k]? = some b := ⟨_, List.getElem?_eq_getElem (by rw [HLG.out]; exact h1)⟩
      obtain ⟨ad, Bx, cx, rfl, hal, hc, hrb⟩ := (HR.out.below hbel.out) k b hb
      have hsn := bridG_snoc hb
      have hle := bridG_le (G.take k)
      rw [List.length_take] at hle
      clear hb
      by_cases h2 : b.length = 1
      · have t2 : ((b.length : Int) == 1) = true := by simp; omega
        match b, h2 with
        | [(x, y)], _ =>
          rw [if_pos (show [(x, y)].length = 1 from rfl)] at hsn
          obtain ⟨ad2, rfl, hal2, p0, p1⟩ := hrb 0 (x, y) rfl
          simp only [Nat.zero_mul] at p0 p1
          have hadd : ad2.add 0 = ad2 := by cases ad2; rfl
          rw [hadd] at p0 p1
          have hsn2 : bridG (G.take (k + 1)) = bridG (G.take k) ++ [(x, y)] := hsn
          have HSN := Lib.hid hsn2
          have HFA := Lib.hid (hO.out.alloc (.cells #[.int .i64 x, .int .i64 y] 51))
          have HLT : Hid (∀ (i : Nat) (u : Value), [Value.int .i64 x, .int .i64 y][i]? = some u → (wr.alloc (.cells #[.int .i64 x, .int .i64 y] 51)).cell? ((⟨wr.heap.size, 0, none⟩ : Addr).add i) = some u) := fun i u hi => by
            rw [← hi, add_off, World.cell?_alloc_at _ _ _ _ rfl]
            simp
          obtain ⟨lb, hlb⟩ : ∃ lb, (bridG (G.take k)).length = lb := ⟨_, rfl⟩
          rw [hlb] at HFA hle
          have HLB := Lib.hid hlb
          have hws := hbel.out.size
          have hbw : lb ≤ 594 := by omega
          clear hsn hsn2 hrb hal hal2 hlb hle t2
          go_wp2_with (at_builtin; refine wpList_append_lies _ rfl (.tmp 26) (.tmp 30) 22 rfl W.heap.size 51 i1 (.agg #[.int .i64 0, .int .i64 0]) 2 16 Try.underlying22 hi1 hy0 hy1 hy2 rfl (by decide) _ lb (pcells (bridG (G.take k))) rfl HFA.out ⟨wr.heap.size, 0, none⟩ 1 1 [.int .i64 x, .int .i64 y] (by simp [Act.eval]) rfl HLT.out (by simp [Value.oneCell']) (by omega) (by simp [maxLen]; omega) (by omega) (by simp; omega) (wr.heap.size + 1) (by simp) ?_; intro g7 c7 w7 hr7 hg7 ho7 hlt7; have HR7 := Lib.hid hr7; have HG7 := Lib.hid hg7; clear hr7 hg7 ho7 hlt7)
          go_roundw
          case rel =>
            refine ⟨k + 1, _, by omega, by go_num, rfl, ?_, ?_⟩
            · show World.ownsRow _ _ _ _ _ _ _
              rw [HSN.out, List.length_append, HLB.out, pcells_one]
              exact HR7.out
            · exact (hbel.out.alloc hws _).grown HG7.out (by simp; omega) (fun q e => (HFA.out.lt q e).1)
          case measure => simp [intOf]; omega
      · have t2 : ((b.length : Int) == 1) = false := by simp; omega
        rw [if_neg h2, List.append_nil] at hsn
        have HSN := Lib.hid hsn
        obtain ⟨lb, hlb⟩ : ∃ lb, b.length = lb := ⟨_, rfl⟩
        rw [hlb] at hc t2
        clear hsn hlb h2 hrb hle
        go_wp2_with fail
        go_roundw
        case rel => exact ⟨k + 1, _, by omega, by go_num, rfl, by rw [HSN.out]; exact hO, hbel⟩
        case measure => simp [intOf]; omega
    · obtain rfl : lg = k := by omega
      have t1 : decide ((lg : Int) < (lg : Int)) = false := by simp
      go_wp2_with fail
      go_ret2
      have h9 := hO.out
      rw [show G.take lg = G by rw [← HLG.out]; exact List.take_length] at h9
      obtain ⟨A2, c2, rfl, hR2, _⟩ := own_rdP h9
      rw [HGQ.out]
      exact ⟨A2, c2, rfl, hR2, HS2.out, by have := bridG_le G; rw [HLG.out] at this; omega, (HB.out.trans ((HBW.out.trans (hbel.out.mono HBW.out.size)).mono (Nat.le_of_lt HXS.out)))⟩
end
section
set_option maxRecDepth 100000
open Go.RowKit

theorem blkO_mem {L : List (Int × Int)} {own : Nat → Nat} {k : Nat} {b : List (Int × Int)} {e : Int × Int} (hk : k ≤ L.length) (hb : b ∈ blkO L own k) (he : e ∈ b) : e ∈ L := by
  unfold blkO gath at hb
  rw [List.mem_map] at hb
  obtain ⟨l, hl, rfl⟩ := hb
  obtain ⟨h, _, rfl⟩ := List.mem_map.1 hl
  obtain ⟨i, hi, rfl⟩ := List.mem_map.1 he
  have hik : i < k := List.mem_range.1 (List.mem_filter.1 hi).1
  rw [show L.getD i (0, 0) = L[i]'(by omega) by simp [List.getD, show i < L.length by omega]]
  exact List.getElem_mem _
theorem BlkS.in_ {N : Nat} {E : List (Int × Int)} {A : List Nat} {U : Nat → Option Nat} {F : Nat → Nat} {O : List Int} (hg : rightG (N : Nat) E = true) (h : BlkS N E A U F O) {b : List (Int × Int)} (hb : b ∈ blkG N E) : b.length ≤ E.length ∧ ∀ e ∈ b, e ∈ E ∧ ∃ x y : Nat, e = ((x : Int), (y : Int)) ∧ x < N ∧ y < N ∧ x < y := by
  rw [h.blk hg] at hb
  refine ⟨?_, fun e he => ?_⟩
  · obtain ⟨j, hj⟩ := List.getElem?_of_mem hb
    exact blkO_sz hj
  · have hm := blkO_mem (Nat.le_refl _) hb he
    have h1 := rightG_mem hg hm
    obtain ⟨a, c⟩ := e
    simp only at h1
    exact ⟨hm, a.toNat, c.toNat, by simp; omega, by omega, by omega, by omega⟩
/-- Is a vertex one of these edges'? -/
def onB (b : List (Int × Int)) (x : Nat) : Bool := b.any fun e => e.1 == (x : Int) || e.2 == (x : Int)
/-- In how many blocks it is. -/
def inC (G : List (List (Int × Int))) (x : Nat) : Nat := (G.filter fun b => onB b x).length
/-- All that are in more than one. -/
def cutG (N : Nat) (G : List (List (Int × Int))) : List Nat := (List.range N).filter fun x => decide (1 < inC G x)
def cutP (G : List (List (Int × Int))) (v : Nat) : List Nat := (List.range v).filter fun x => decide (1 < inC G x)
theorem cutP_step (G : List (List (Int × Int))) (v : Nat) : cutP G (v + 1) = cutP G v ++ (if 1 < inC G v then [v] else []) := by
  unfold cutP
  rw [List.range_succ, List.filter_append]
  congr 1
  by_cases h : 1 < inC G v <;> simp [h]
theorem cutP_le (G : List (List (Int × Int))) (v : Nat) : (cutP G v).length ≤ v := by
  have := List.length_filter_le (fun x => decide (1 < inC G x)) (List.range v)
  rw [List.length_range] at this
  exact this
theorem inC_snoc {G : List (List (Int × Int))} {i : Nat} {b : List (Int × Int)} (h : G[i]? = some b) (x : Nat) : inC (G.take (i + 1)) x = inC (G.take i) x + (if onB b x then 1 else 0) := by
  unfold inC
  rw [List.take_add_one, h, Option.toList_some, List.filter_append, List.length_append]
  congr 1
  cases hb : onB b x <;> simp [hb]
theorem inC_le (G : List (List (Int × Int))) (x : Nat) : inC G x ≤ G.length := List.length_filter_le _ _
/-- The counts while the i-th block is gone through, those of S having been met. -/
structure CI (N : Nat) (G : List (List (Int × Int))) (i : Nat) (S : Nat → Bool) (IN LA : List Int) : Prop where
  l1 : IN.length = N
  l2 : LA.length = N
  cnt : ∀ x, x < N → gd IN x = ((inC (G.take i) x + (if S x then 1 else 0) : Nat) : Int)
  yes : ∀ x, x < N → S x = true → gd LA x = ((i + 1 : Nat) : Int)
  no : ∀ x, x < N → S x = false → 0 ≤ gd LA x ∧ gd LA x ≤ (i : Int)
theorem CI.start (N : Nat) (G : List (List (Int × Int))) : CI N G 0 (fun _ => false) (List.replicate N 0) (List.replicate N 0) :=
  ⟨by simp, by simp, fun x hx => by simp [gd, List.getD, hx, inC], fun x _ h => (by cases h), fun x hx _ => by simp [gd, List.getD, hx]⟩
section
variable {N i : Nat} {G : List (List (Int × Int))} {S : Nat → Bool} {IN LA : List Int}
theorem CI.congr {S' : Nat → Bool} (h : CI N G i S IN LA) (e : ∀ x, S' x = S x) : CI N G i S' IN LA := by
  have : S' = S := funext e
  rw [this]
  exact h
theorem CI.new {v : Nat} (h : CI N G i S IN LA) (hv : v < N) (hs : S v = false) {z : Int} (hz : z = gd IN v + 1) : CI N G i (fun x => x == v || S x) (IN.set v z) (LA.set v ((i + 1 : Nat) : Int)) := by
  have g1 : ∀ x, gd (IN.set v z) x = if x = v then z else gd IN x := fun x => gd_set (by rw [h.l1]; exact hv)
  have g2 : ∀ x, gd (LA.set v ((i + 1 : Nat) : Int)) x = if x = v then ((i + 1 : Nat) : Int) else gd LA x := fun x => gd_set (by rw [h.l2]; exact hv)
  refine ⟨by rw [List.length_set]; exact h.l1, by rw [List.length_set]; exact h.l2, fun x hx => ?_, fun x hx hS => ?_, fun x hx hS => ?_⟩
  · rw [g1]
    by_cases e : x = v
    · subst e
      rw [if_pos rfl, hz, h.cnt x hx, hs]
      simp
    · rw [if_neg e, h.cnt x hx]
      simp [e]
  · rw [g2]
    by_cases e : x = v
    · rw [if_pos e]
    · rw [if_neg e]
      exact h.yes x hx (by simpa [e] using hS)
  · have e : x ≠ v := fun e => by subst e; simp at hS
    rw [g2, if_neg e]
    exact h.no x hx (by simpa [e] using hS)
theorem CI.old {v : Nat} (h : CI N G i S IN LA) (hs : S v = true) : CI N G i (fun x => x == v || S x) IN LA := h.congr fun x => by
  by_cases e : x = v
  · subst e; simp [hs]
  · simp [e]
theorem CI.next {b : List (Int × Int)} (h : CI N G i (onB b) IN LA) (hb : G[i]? = some b) : CI N G (i + 1) (fun _ => false) IN LA := by
  refine ⟨h.l1, h.l2, fun x hx => ?_, fun x _ h => (by cases h), fun x hx _ => ?_⟩
  · rw [h.cnt x hx, inC_snoc hb]
    simp
  · cases hs : onB b x with
    | true => rw [h.yes x hx hs]; omega
    | false => have := h.no x hx hs; omega
end
theorem onB_snoc {b : List (Int × Int)} {j a c : Nat} (h : b[j]? = some ((a : Int), (c : Int))) (x : Nat) : onB (b.take (j + 1)) x = (x == c || (x == a || onB (b.take j) x)) := by
  have h2 : ∀ y : Nat, ((y : Int) == (x : Int)) = (x == y) := fun y => by
    by_cases e : x = y
    · subst e; simp
    · have h3 : ¬ (y : Int) = (x : Int) := by omega
      rw [beq_eq_false_iff_ne.2 h3, beq_eq_false_iff_ne.2 e]
  unfold onB
  rw [List.take_add_one, h, Option.toList_some, List.any_append]
  simp only [List.any_cons, List.any_nil, Bool.or_false, h2]
  cases (List.take j b).any fun e => e.1 == (x : Int) || e.2 == (x : Int) <;> cases (x == a) <;> cases (x == c) <;> rfl
theorem gd_at5 (O : List Int) (v : Nat) (h : v < O.length) : O[v]? = some (gd O v) := gd_at O v h
theorem ix0 (a b : Int) (w : World) : (Instr.index 51 (.agg #[.int .i64 a, .int .i64 b]) (.int .i64 0)).run Try.prog w = .ok (.int .i64 a) w := by kernel_rfl
theorem ix1 (a b : Int) (w : World) : (Instr.index 51 (.agg #[.int .i64 a, .int .i64 b]) (.int .i64 1)).run Try.prog w = .ok (.int .i64 b) w := by kernel_rfl
/-- The rows of counts. -/
structure CO (W0 : World) (p q N : Nat) (G : List (List (Int × Int))) (i : Nat) (S : Nat → Bool) (w : World) : Prop where
  ci : ∃ IN LA, OwnZ w p IN ∧ OwnZ w q LA ∧ CI N G i S IN LA
  bel : Below W0.heap.size W0 w
theorem CO.below {W0 w w' : World} {p q N i : Nat} {G : List (List (Int × Int))} {S : Nat → Bool} (h : CO W0 p q N G i S w) (hb : Below w.heap.size w w') : CO W0 p q N G i S w' := by
  obtain ⟨⟨IN, LA, a, b, c⟩, d⟩ := h
  exact ⟨⟨IN, LA, blk_below a hb, blk_below b hb, c⟩, next_below d hb⟩
set_option maxHeartbeats 64000000 in
theorem cuts_yes (A0 : Option Addr) (c n N : Nat) (E : List (Int × Int)) (w : World) (hr : RdP w A0 E) (hn : n = E.length) (hg : rightG (N : Nat) E = true) :
    Calls Try.prog 20 #[.agg #[.int .i64 (N : Nat), .slice A0 n c]] w fun e w' => ∃ (A1 : Option Addr) (c1 : Nat), e = .returned (.tuple #[.slice A1 (cutG N (blkG N E)).length c1, .int .i64 0]) ∧ RdZ w' A1 (iz (cutG N (blkG N E))) ∧ (∃ A U F O, BlkS N E A U F O) ∧ Below w.heap.size w w' := by
  have hn6 : n ≤ 594 := by have := (rightG_bounds hg).2.2; omega
  have hN2 : N ≤ 200 := by have := (rightG_bounds hg).2.1; omega
  obtain ⟨X, hX⟩ : ∃ X, X = w.alloc (.cells #[.int .i64 (N : Nat), .slice A0 n c] 24) := ⟨_, rfl⟩
  have hb : Below w.heap.size w X := by rw [hX]; exact (Below.refl _ _).alloc (Nat.le_refl _) _
  have hXS : w.heap.size < X.heap.size := by rw [hX]; simp
  obtain ⟨j0, j1, _, _⟩ := cells_two (w := X) (by rw [hX]; exact heap_alloc_new w _)
  have HJ : Hid (∀ w', Below X.heap.size X w' → w'.cell? ⟨w.heap.size, 0, none⟩ = some (.int .i64 (N : Nat))) := fun w' hb =>
    by rw [hb.cell (by show w.heap.size < _; omega)]; exact j0
  have HS := Lib.hid (blocks_yes A0 c n N E X (hr.below hb) hn hg)
  have HG := Lib.hid hg
  have HN := Lib.hid hn
  have HX := Lib.hid hX
  have HB := Lib.hid hb
  have HXS := Lib.hid hXS
  obtain ⟨i0, hi0, hz0, hz1, hz2⟩ := info_partsI i64info
  clear hr hn hg hX hb hXS
  go_enter Try.func20, Try.ntmps20
  go_wp2_with fail
  rw [← HX.out]
  refine HS.out.mono ?_
  rintro e W ⟨A1, c1, rfl, hR, hS, hlen, hbW⟩
  have HR := Lib.hid hR
  have HS2 := Lib.hid hS
  have HBW := Lib.hid hbW
  obtain ⟨G, hG⟩ : ∃ G, blkG N E = G := ⟨_, rfl⟩
  rw [hG] at HR hlen ⊢
  have HGQ := Lib.hid hG
  have HED2 : Hid (∀ b ∈ G, b.length ≤ n ∧ ∀ e ∈ b, ∃ x y : Nat, e = ((x : Int), (y : Int)) ∧ x < N ∧ y < N) := by
    obtain ⟨A, U, F, O, hS9⟩ := hS
    intro b hb
    rw [← hG] at hb
    obtain ⟨h1, h2⟩ := hS9.in_ HG.out hb
    refine ⟨by rw [HN.out]; exact h1, fun e he => ?_⟩
    obtain ⟨_, x, y, h3, h4, h5, _⟩ := h2 e he
    exact ⟨x, y, h3, h4, h5⟩
  obtain ⟨lg, hlg⟩ : ∃ lg, G.length = lg := ⟨_, rfl⟩
  rw [hlg] at hlen ⊢
  have HLG := Lib.hid hlg
  have HWS : Hid (w.heap.size < W.heap.size) := by have := hbW.size; have := HXS.out; show _ < _; omega
  clear hR hS hbW hG hlg j0 j1 HS
  have j0 := HJ.out W HBW.out
  go_upto_region 4 with fail
  go_cut [6, 7] from 25 to 31 (fun s6 s7 wx => ∃ p q : Nat, s6 = .slice (some ⟨p, 0, none⟩) N N ∧ s7 = .slice (some ⟨q, 0, none⟩) N N ∧ p ≠ q ∧ W.heap.size ≤ p ∧ W.heap.size ≤ q ∧ Hid (CO W p q N G 0 (fun _ => false) wx))
  case first =>
    have hmk := fun w => make_ints N (by omega) w
    have HFF : Hid (CO W W.heap.size (W.heap.size + 1) N G 0 (fun _ => false) ((W.drew.alloc (.cells (zs (List.replicate N 0)).toArray 3)).alloc (.cells (zs (List.replicate N 0)).toArray 3))) := by
      refine ⟨⟨_, _, ?_, ?_, CI.start N G⟩, ?_⟩
      · exact two_first W.drew _ _
      · exact two_second W.drew _ _
      · exact ((Below.refl _ W).drew.alloc (by simp) _).alloc (by simp) _
    have HFG : Hid (CO W (W.heap.size + 1) W.heap.size N G 0 (fun _ => false) ((W.drew.alloc (.cells (zs (List.replicate N 0)).toArray 3)).alloc (.cells (zs (List.replicate N 0)).toArray 3))) := by
      refine ⟨⟨_, _, ?_, ?_, CI.start N G⟩, ?_⟩
      · exact two_second W.drew _ _
      · exact two_first W.drew _ _
      · exact ((Below.refl _ W).drew.alloc (by simp) _).alloc (by simp) _
    refine wp_region_held_drew (S := fun w' => w'.cell? ⟨w.heap.size, 0, none⟩ = some (.int .i64 (N : Nat))) (by kernel_rfl) j0 (fun hS => ?_)
    refine wpAnyH_take (i := 0) (v := ?_) rfl (by kernel_rfl) (by kernel_rfl) (by kernel_rfl) (fun _ _ _ h => h) (Or.inl ⟨by rfl, ?_⟩) hS ?_
    rotate_left
    · intro wz hSw; (try dsimp only at hSw); have s1 := hSw; go_simp; (try with_reducible rfl)
    try simp only [List.getElem_toArray, List.getElem_cons_zero, List.getElem_cons_succ, Act.put, List.setIfInBounds_toArray, List.set_cons_zero, List.set_cons_succ]
    refine wpAnyH_take (i := 1) (v := ?_) rfl (by kernel_rfl) (by kernel_rfl) (by kernel_rfl) (fun _ _ _ h => h) (Or.inl ⟨by rfl, ?_⟩) hS ?_
    rotate_left
    · intro wz hSw; (try dsimp only at hSw); have s1 := hSw; go_simp; (try with_reducible rfl)
    try simp only [List.getElem_toArray, List.getElem_cons_zero, List.getElem_cons_succ, Act.put, List.setIfInBounds_toArray, List.set_cons_zero, List.set_cons_succ]
    refine wpAnyH_take (i := 3) (v := ?_) rfl (by kernel_rfl) (by kernel_rfl) (by kernel_rfl) (fun _ _ _ h => h) (Or.inl ⟨by rfl, ?_⟩) hS ?_
    rotate_left
    · intro wz hSw; (try dsimp only at hSw); have s1 := hSw; go_simp; (try with_reducible rfl)
    try simp only [List.getElem_toArray, List.getElem_cons_zero, List.getElem_cons_succ, Act.put, List.setIfInBounds_toArray, List.set_cons_zero, List.set_cons_succ]
    refine wpAnyH_take (i := 4) (v := ?_) rfl (by kernel_rfl) (by kernel_rfl) (by kernel_rfl) (fun _ _ _ h => h) (Or.inl ⟨by rfl, ?_⟩) hS ?_
    rotate_left
    · intro wz hSw; (try dsimp only at hSw); have s1 := hSw; go_simp; (try with_reducible rfl)
    try simp only [List.getElem_toArray, List.getElem_cons_zero, List.getElem_cons_succ, Act.put, List.setIfInBounds_toArray, List.set_cons_zero, List.set_cons_succ]
    refine wpAnyH_ready (rs := [2, 5]) (by kernel_rfl) (by simp) (AllReadyH.cons rfl (fun K hK => ?_) (AllReadyH.cons rfl (fun K hK => ?_) AllReadyH.nil))
    · go_simp
      have hS := (World.cell?_alloc_lt W.drew (.cells (zs (List.replicate N 0)).toArray 3) _ HWS.out).trans hS
      refine hK.out _ _ hS (fun _ => ?_)
      clear hK K
      try simp only [List.getElem_toArray, List.getElem_cons_zero, List.getElem_cons_succ, Act.put, List.setIfInBounds_toArray, List.set_cons_zero, List.set_cons_succ]
      refine wpAnyH_take (i := 6) (v := ?_) rfl (by kernel_rfl) (by kernel_rfl) (by kernel_rfl) (fun _ _ _ h => h) (Or.inl ⟨by rfl, ?_⟩) hS ?_
      rotate_left
      · intro wz hSw; (try dsimp only at hSw); have s1 := hSw; go_simp; (try with_reducible rfl)
      try simp only [List.getElem_toArray, List.getElem_cons_zero, List.getElem_cons_succ, Act.put, List.setIfInBounds_toArray, List.set_cons_zero, List.set_cons_succ]
      refine wpAnyH_ready (rs := [5]) (by kernel_rfl) (by simp) (AllReadyH.cons rfl (fun K hK => ?_) AllReadyH.nil)
      go_simp
      have hS := (World.cell?_alloc_lt (W.drew.alloc (.cells (zs (List.replicate N 0)).toArray 3)) (.cells (zs (List.replicate N 0)).toArray 3) _ (by simp; have := HWS.out; omega)).trans hS
      refine hK.out _ _ hS (fun _ => ?_)
      clear hK K
      try simp only [List.getElem_toArray, List.getElem_cons_zero, List.getElem_cons_succ, Act.put, List.setIfInBounds_toArray, List.set_cons_zero, List.set_cons_succ]
      refine wpAnyH_take (i := 7) (v := ?_) rfl (by kernel_rfl) (by kernel_rfl) (by kernel_rfl) (fun _ _ _ h => h) (Or.inl ⟨by rfl, ?_⟩) hS ?_
      rotate_left
      · intro wz hSw; (try dsimp only at hSw); have s1 := hSw; go_simp; (try with_reducible rfl)
      try simp only [List.getElem_toArray, List.getElem_cons_zero, List.getElem_cons_succ, Act.put, List.setIfInBounds_toArray, List.set_cons_zero, List.set_cons_succ]
      refine wpAnyH_done (by kernel_rfl) ?_ _
      go_wp2_with fail
      go_meet
      exact ⟨W.heap.size, W.heap.size + 1, rfl, rfl, by omega, by omega, by omega, HFF⟩
    · go_simp
      have hS := (World.cell?_alloc_lt W.drew (.cells (zs (List.replicate N 0)).toArray 3) _ HWS.out).trans hS
      refine hK.out _ _ hS (fun _ => ?_)
      clear hK K
      try simp only [List.getElem_toArray, List.getElem_cons_zero, List.getElem_cons_succ, Act.put, List.setIfInBounds_toArray, List.set_cons_zero, List.set_cons_succ]
      refine wpAnyH_ready (rs := [2]) (by kernel_rfl) (by simp) (AllReadyH.cons rfl (fun K hK => ?_) AllReadyH.nil)
      go_simp
      have hS := (World.cell?_alloc_lt (W.drew.alloc (.cells (zs (List.replicate N 0)).toArray 3)) (.cells (zs (List.replicate N 0)).toArray 3) _ (by simp; have := HWS.out; omega)).trans hS
      refine hK.out _ _ hS (fun _ => ?_)
      clear hK K
      try simp only [List.getElem_toArray, List.getElem_cons_zero, List.getElem_cons_succ, Act.put, List.setIfInBounds_toArray, List.set_cons_zero, List.set_cons_succ]
      refine wpAnyH_take (i := 6) (v := ?_) rfl (by kernel_rfl) (by kernel_rfl) (by kernel_rfl) (fun _ _ _ h => h) (Or.inl ⟨by rfl, ?_⟩) hS ?_
      rotate_left
      · intro wz hSw; (try dsimp only at hSw); have s1 := hSw; go_simp; (try with_reducible rfl)
      try simp only [List.getElem_toArray, List.getElem_cons_zero, List.getElem_cons_succ, Act.put, List.setIfInBounds_toArray, List.set_cons_zero, List.set_cons_succ]
      refine wpAnyH_take (i := 7) (v := ?_) rfl (by kernel_rfl) (by kernel_rfl) (by kernel_rfl) (fun _ _ _ h => h) (Or.inl ⟨by rfl, ?_⟩) hS ?_
      rotate_left
      · intro wz hSw; (try dsimp only at hSw); have s1 := hSw; go_simp; (try with_reducible rfl)
      try simp only [List.getElem_toArray, List.getElem_cons_zero, List.getElem_cons_succ, Act.put, List.setIfInBounds_toArray, List.set_cons_zero, List.set_cons_succ]
      refine wpAnyH_done (by kernel_rfl) ?_ _
      go_wp2_with fail
      go_meet
      exact ⟨W.heap.size + 1, W.heap.size, rfl, rfl, by omega, by omega, by omega, HFG⟩
  case rest =>
    obtain ⟨p, q, rfl, rfl, hpq, hp, hq, HC0⟩ := hcut
    have HPQ := Lib.hid hpq
    go_upto_region 5 with fail
    go_wp2_with fail
    go_loopw [33] (fun s33 wr => ∃ i : Nat, i ≤ lg ∧ s33 = .int .i64 i ∧ Hid (CO W p q N G i (fun _ => false) wr)) (fun s33 _ => lg - (intOf s33).toNat)
    case atStart => exact ⟨0, Nat.zero_le _, rfl, HC0⟩
    case round =>
      clear HC0
      obtain ⟨i, hi, rfl, hC⟩ := hrel
      by_cases h1 : i < lg
      · have t1 : decide ((i : Int) < (lg : Int)) = true := by simp; omega
        have hI0 : (0 : Int) ≤ (i : Int) := by omega
        have hI1 : (i : Int) < (lg : Nat) := by omega
        obtain ⟨b, hb⟩ : ∃ b, G[i]? = some b := ⟨_, List.getElem?_eq_getElem (by rw [HLG.out]; exact h1)⟩
        obtain ⟨ad, Bx, cx, rfl, hal, hc, hrb0⟩ := HR.out i b hb
        replace hc : wr.cell? (ad.add i) = some (.slice Bx b.length cx) := by rw [hC.out.bel.cell (by rw [block_add]; exact hal)]; exact hc
        have HRB : Hid (∀ w', Below W.heap.size W w' → RdP w' Bx b) := fun w' hb => hrb0.below hb
        have HEB := Lib.hid (HED2.out b (List.mem_of_getElem? hb)).2
        have HGB := Lib.hid hb
        have hbl : b.length ≤ 594 := by have := (HED2.out b (List.mem_of_getElem? hb)).1; omega
        obtain ⟨lb, hlb⟩ : ∃ lb, b.length = lb := ⟨_, rfl⟩
        rw [hlb] at hc hbl
        have HLB := Lib.hid hlb
        have HC1 : Hid (CO W p q N G i (onB (b.take 0)) wr) := hC
        clear hb hrb0 hlb
        obtain ⟨wo, hwo⟩ : ∃ wo, wo = wr := ⟨_, rfl⟩
        go_wp2_with fail
        clear hc
        go_loopw [40] (fun s40 wn => ∃ j : Nat, j ≤ lb ∧ s40 = .int .i64 j ∧ Hid (CO W p q N G i (onB (b.take j)) wn)) (fun s40 _ => lb - (intOf s40).toNat)
        case atStart => exact ⟨0, Nat.zero_le _, rfl, HC1⟩
        case round =>
          clear HC1 hwo
          obtain ⟨j, hj, rfl, hC2⟩ := hrel
          by_cases h2 : j < lb
          · have t2 : decide ((j : Int) < (lb : Int)) = true := by simp; omega
            have hJ0 : (0 : Int) ≤ (j : Int) := by omega
            have hJ1 : (j : Int) < (lb : Nat) := by omega
            obtain ⟨e, he⟩ : ∃ e, b[j]? = some e := ⟨_, List.getElem?_eq_getElem (by rw [HLB.out]; exact h2)⟩
            obtain ⟨x, y, rfl, hx, hy⟩ := HEB.out e (List.mem_of_getElem? he)
            obtain ⟨ad3, rfl, hal3, p0, p1⟩ := HRB.out wr hC2.out.bel j _ he
            simp only at p0 p1
            have HSN := Lib.hid (onB_snoc he)
            have HCX : Hid (CO W p q N G i (onB (b.take j)) (wr.alloc (.cells #[.int .i64 (x : Nat), .int .i64 (y : Nat)] 51))) := hC2.out.below ((Below.refl _ _).alloc (Nat.le_refl _) _)
            have k0 := ix0 (x : Int) (y : Int)
            have k1 := ix1 (x : Int) (y : Int)
            clear he hal3
            go_wp2_with fail
            clear p0 p1
            go_loopw [45] (fun s45 wn => ∃ (t : Nat) (S : Nat → Bool), t ≤ 2 ∧ s45 = .int .i64 t ∧ Hid (CO W p q N G i S wn) ∧ Hid (∀ z, S z = ((decide (2 ≤ t) && z == y) || ((decide (1 ≤ t) && z == x) || onB (b.take j) z)))) (fun s45 _ => 2 - (intOf s45).toNat)
            case atStart => exact ⟨0, _, by omega, rfl, HCX, fun z => by simp⟩
            case round =>
              clear HCX
              obtain ⟨t, S, ht, rfl, hC3, hS3⟩ := hrel
              match t, ht with
              | 0, _ =>
                have t3 : decide ((0 : Int) < 2) = true := by decide
                obtain ⟨IN, LA, hO1, hO2, hCI⟩ := hC3.out.ci
                have hV0 : (0 : Int) ≤ (x : Int) := by omega
                have hV1 : (x : Int) < (N : Nat) := by omega
                have d2 := OwnZ.at_ hO2 (gd_at LA x (by rw [hCI.l2]; exact hx))
                have HCI := Lib.hid hCI
                have HSS : Hid (∀ z, (z == x || S z) = ((decide (2 ≤ 0 + 1) && z == y) || ((decide (1 ≤ 0 + 1) && z == x) || onB (b.take j) z))) := fun z => by
                  rw [hS3.out z]
                  cases (z == x) <;> cases (z == y) <;> cases (onB (b.take j) z) <;> simp
                cases hSv : S x with
                | true =>
                  have hyy := hCI.yes x hx hSv
                  obtain ⟨la, hla⟩ : ∃ la : Int, gd LA x = la := ⟨_, rfl⟩
                  rw [hla] at hyy d2
                  have e1 : (la != (i : Int) + 1) = false := by simp; omega
                  have HC4 : Hid (CO W p q N G i (fun z => z == x || S z) wr) := ⟨⟨IN, LA, hO1, hO2, hCI.old hSv⟩, hC3.out.bel⟩
                  clear hO1 hO2 hCI hS3 hC3 hla hyy hSv
                  go_wp2_with fail
                  go_roundw
                  case rel => exact ⟨0 + 1, _, by omega, by go_num, HC4, HSS.out⟩
                  case measure => simp [intOf]
                | false =>
                  have hyy := hCI.no x hx hSv
                  obtain ⟨la, hla⟩ : ∃ la : Int, gd LA x = la := ⟨_, rfl⟩
                  rw [hla] at hyy d2
                  have e1 : (la != (i : Int) + 1) = true := by simp; omega
                  have hcn := hCI.cnt x hx
                  obtain ⟨cv, hcv⟩ : ∃ cv : Nat, inC (G.take i) x + (if S x then 1 else 0) = cv := ⟨_, rfl⟩
                  have hcb : cv ≤ 1000 := by
                    have h8 := inC_le (G.take i) x
                    rw [List.length_take] at h8
                    rw [hSv] at hcv
                    simp at hcv
                    omega
                  rw [hcv] at hcn
                  have d1 := OwnZ.at_ hO1 (gd_at IN x (by rw [hCI.l1]; exact hx))
                  rw [hcn] at d1
                  have f1 : wr.frozen? ⟨p, x, none⟩ = false := free_of hO1 _
                  have HC4 : Hid (∀ Z, Z = (wr.setCell ⟨p, x, none⟩ (.int .i64 ((cv : Int) + 1))).setCell ⟨q, x, none⟩ (.int .i64 ((i : Int) + 1)) → CO W p q N G i (fun z => z == x || S z) Z) := fun Z hZ => by
                    have h9 := hCI.new hx hSv (z := (cv : Int) + 1) (by rw [hcn])
                    subst hZ
                    refine ⟨⟨_, _, ?_, ?_, h9⟩, (hC3.out.bel.setCell (by exact hp) _).setCell (by exact hq) _⟩
                    · exact (Below.heap_setCell _ _ _ _ (by exact HPQ.out)).trans (OwnZ.set hO1 _)
                    · have h7 : OwnZ (wr.setCell ⟨p, x, none⟩ (.int .i64 ((cv : Int) + 1))) q LA := (Below.heap_setCell _ _ _ _ (by exact fun e => HPQ.out e.symm)).trans hO2
                      have h6 := OwnZ.set (v := x) h7 ((i : Int) + 1)
                      rw [show (((i + 1 : Nat) : Int)) = (i : Int) + 1 by omega]
                      exact h6
                  have f2 : (wr.setCell ⟨p, x, none⟩ (.int .i64 ((cv : Int) + 1))).frozen? ⟨q, x, none⟩ = false := by
                    have h7 : OwnZ (wr.setCell ⟨p, x, none⟩ (.int .i64 ((cv : Int) + 1))) q LA := (Below.heap_setCell _ _ _ _ (by exact fun e => HPQ.out e.symm)).trans hO2
                    exact free_of h7 _
                  clear hO1 hO2 hCI hS3 hC3 hla hyy hcv hcn hSv
                  go_wp2_with fail
                  go_roundw
                  case rel => exact ⟨0 + 1, _, by omega, by go_num, HC4.out _ rfl, HSS.out⟩
                  case measure => simp [intOf]
              | 1, _ =>
                have t3 : decide ((1 : Int) < 2) = true := by decide
                obtain ⟨IN, LA, hO1, hO2, hCI⟩ := hC3.out.ci
                have hV0 : (0 : Int) ≤ (y : Int) := by omega
                have hV1 : (y : Int) < (N : Nat) := by omega
                have d2 := OwnZ.at_ hO2 (gd_at LA y (by rw [hCI.l2]; exact hy))
                have HCI := Lib.hid hCI
                have HSS : Hid (∀ z, (z == y || S z) = ((decide (2 ≤ 1 + 1) && z == y) || ((decide (1 ≤ 1 + 1) && z == x) || onB (b.take j) z))) := fun z => by
                  rw [hS3.out z]
                  cases (z == x) <;> cases (z == y) <;> cases (onB (b.take j) z) <;> simp
                cases hSv : S y with
                | true =>
                  have hyy := hCI.yes y hy hSv
                  obtain ⟨la, hla⟩ : ∃ la : Int, gd LA y = la := ⟨_, rfl⟩
                  rw [hla] at hyy d2
                  have e1 : (la != (i : Int) + 1) = false := by simp; omega
                  have HC4 : Hid (CO W p q N G i (fun z => z == y || S z) wr) := ⟨⟨IN, LA, hO1, hO2, hCI.old hSv⟩, hC3.out.bel⟩
                  clear hO1 hO2 hCI hS3 hC3 hla hyy hSv
                  go_wp2_with fail
                  go_roundw
                  case rel => exact ⟨1 + 1, _, by omega, by go_num, HC4, HSS.out⟩
                  case measure => simp [intOf]
                | false =>
                  have hyy := hCI.no y hy hSv
                  obtain ⟨la, hla⟩ : ∃ la : Int, gd LA y = la := ⟨_, rfl⟩
                  rw [hla] at hyy d2
                  have e1 : (la != (i : Int) + 1) = true := by simp; omega
                  have hcn := hCI.cnt y hy
                  obtain ⟨cv, hcv⟩ : ∃ cv : Nat, inC (G.take i) y + (if S y then 1 else 0) = cv := ⟨_, rfl⟩
                  have hcb : cv ≤ 1000 := by
                    have h8 := inC_le (G.take i) y
                    rw [List.length_take] at h8
                    rw [hSv] at hcv
                    simp at hcv
                    omega
                  rw [hcv] at hcn
                  have d1 := OwnZ.at_ hO1 (gd_at IN y (by rw [hCI.l1]; exact hy))
                  rw [hcn] at d1
                  have f1 : wr.frozen? ⟨p, y, none⟩ = false := free_of hO1 _
                  have HC4 : Hid (∀ Z, Z = (wr.setCell ⟨p, y, none⟩ (.int .i64 ((cv : Int) + 1))).setCell ⟨q, y, none⟩ (.int .i64 ((i : Int) + 1)) → CO W p q N G i (fun z => z == y || S z) Z) := fun Z hZ => by
                    have h9 := hCI.new hy hSv (z := (cv : Int) + 1) (by rw [hcn])
                    subst hZ
                    refine ⟨⟨_, _, ?_, ?_, h9⟩, (hC3.out.bel.setCell (by exact hp) _).setCell (by exact hq) _⟩
                    · exact (Below.heap_setCell _ _ _ _ (by exact HPQ.out)).trans (OwnZ.set hO1 _)
                    · have h7 : OwnZ (wr.setCell ⟨p, y, none⟩ (.int .i64 ((cv : Int) + 1))) q LA := (Below.heap_setCell _ _ _ _ (by exact fun e => HPQ.out e.symm)).trans hO2
                      have h6 := OwnZ.set (v := y) h7 ((i : Int) + 1)
                      rw [show (((i + 1 : Nat) : Int)) = (i : Int) + 1 by omega]
                      exact h6
                  have f2 : (wr.setCell ⟨p, y, none⟩ (.int .i64 ((cv : Int) + 1))).frozen? ⟨q, y, none⟩ = false := by
                    have h7 : OwnZ (wr.setCell ⟨p, y, none⟩ (.int .i64 ((cv : Int) + 1))) q LA := (Below.heap_setCell _ _ _ _ (by exact fun e => HPQ.out e.symm)).trans hO2
                    exact free_of h7 _
                  clear hO1 hO2 hCI hS3 hC3 hla hyy hcv hcn hSv
                  go_wp2_with fail
                  go_roundw
                  case rel => exact ⟨1 + 1, _, by omega, by go_num, HC4.out _ rfl, HSS.out⟩
                  case measure => simp [intOf]
              | 2, _ =>
                have t3 : decide ((2 : Int) < 2) = false := by decide
                have HC5 : Hid (CO W p q N G i (onB (b.take (j + 1))) wr) := by
                  obtain ⟨⟨IN, LA, a1, a2, a3⟩, a4⟩ := hC3.out
                  refine ⟨⟨IN, LA, a1, a2, a3.congr fun z => ?_⟩, a4⟩
                  rw [HSN.out z, hS3.out z]
                  simp
                clear hC3 hS3
                go_wp2_with fail
                go_roundw
                case rel => exact ⟨j + 1, by omega, by go_num, HC5⟩
                case measure => simp [intOf]; omega
          · obtain rfl : lb = j := by omega
            have t2 : decide ((lb : Int) < (lb : Int)) = false := by simp
            have HC6 : Hid (CO W p q N G (i + 1) (fun _ => false) wr) := by
              obtain ⟨⟨IN, LA, a1, a2, a3⟩, a4⟩ := hC2.out
              refine ⟨⟨IN, LA, a1, a2, CI.next (b := b) ?_ HGB.out⟩, a4⟩
              rw [← HLB.out, List.take_length] at a3
              exact a3
            clear hC2
            go_wp2_with fail
            go_roundw
            case rel => exact ⟨i + 1, by omega, by go_num, HC6⟩
            case measure => simp [intOf]; omega
      · obtain rfl : lg = i := by omega
        have t1 : decide ((lg : Int) < (lg : Int)) = false := by simp
        obtain ⟨⟨IN, LA, hO1, _, hCI⟩, hbel⟩ := hC.out
        obtain ⟨Wf, hWf⟩ : ∃ Wf, Wf = wr := ⟨_, rfl⟩
        rw [← hWf] at hO1 hbel ⊢
        have HO1 := Lib.hid hO1
        have HBF := Lib.hid hbel
        have HIN : Hid (∀ x, x < N → IN[x]? = some ((inC G x : Nat) : Int)) := fun x hx => by
          rw [gd_at IN x (by rw [hCI.l1]; exact hx), hCI.cnt x hx, show G.take lg = G by rw [← HLG.out]; exact List.take_length]
          simp
        have HR0 : Hid (Wf.ownsRow Wf.heap.size 3 1 (.slice none 0 0) (cutP G 0).length (zs (iz (cutP G 0)))) := World.ownsRow_nil _ _ _ _
        have HB0 := Lib.hid (Below.refl Wf.heap.size Wf)
        clear hO1 hCI hbel hC hWf
        go_wp2_with fail
        go_loopw [71, 14] (fun s71 s14 wn => ∃ (v : Nat) (V : Value), v ≤ N ∧ s71 = .int .i64 v ∧ s14 = V ∧ Hid (wn.ownsRow Wf.heap.size 3 1 V (cutP G v).length (zs (iz (cutP G v)))) ∧ Hid (Below Wf.heap.size Wf wn)) (fun s71 _ _ => N - (intOf s71).toNat)
        case atStart => exact ⟨0, _, Nat.zero_le _, rfl, rfl, HR0, HB0⟩
        case round =>
          clear HR0 HB0
          obtain ⟨v, V, hv, rfl, rfl, hO, hb⟩ := hrel
          by_cases h3 : v < N
          · have t3 : decide ((v : Int) < (N : Int)) = true := by simp; omega
            have hV0 : (0 : Int) ≤ (v : Int) := by omega
            have hV1 : (v : Int) < (N : Nat) := by omega
            have d1 := OwnZ.at_ (blk_below HO1.out hb.out) (HIN.out v h3)
            have hst := cutP_step G v
            have hle := cutP_le G v
            obtain ⟨cv, hcv⟩ : ∃ cv, inC G v = cv := ⟨_, rfl⟩
            rw [hcv] at d1 hst
            by_cases h4 : 1 < cv
            · have t4 : decide ((1 : Int) < (cv : Int)) = true := by simp; omega
              have t5 : decide (1 < cv) = true := by simp; omega
              rw [if_pos h4] at hst
              have HST := Lib.hid hst
              have HFA := Lib.hid (hO.out.alloc (.cells #[.int .i64 (v : Nat)] 3))
              have HLT : Hid (∀ (i : Nat) (u : Value), [Value.int .i64 (v : Nat)][i]? = some u → (wr.alloc (.cells #[.int .i64 (v : Nat)] 3)).cell? ((⟨wr.heap.size, 0, none⟩ : Addr).add i) = some u) := fun i u hi => by
                rw [← hi, add_off, World.cell?_alloc_at _ _ _ _ rfl]
                simp
              obtain ⟨lc, hlc⟩ : ∃ lc, (cutP G v).length = lc := ⟨_, rfl⟩
              rw [hlc] at HFA hle
              have HLC := Lib.hid hlc
              have hws := hb.out.size
              clear hst hcv hlc h4
              go_wp2_with (at_builtin; refine wpList_append_lies _ rfl (.tmp 78) (.tmp 80) 35 rfl Wf.heap.size 3 i0 (.int .i64 0) 1 8 Try.underlying35 hi0 hz0 hz1 hz2 rfl (by decide) _ lc (zs (iz (cutP G v))) rfl HFA.out ⟨wr.heap.size, 0, none⟩ 1 1 [.int .i64 (v : Nat)] (by simp [Act.eval]) rfl HLT.out (by simp [Value.oneCell']) (by omega) (by simp [maxLen]; omega) (by omega) (by simp; omega) (wr.heap.size + 1) (by simp) ?_; intro g7 c7 w7 hr7 hg7 ho7 hlt7; have HR7 := Lib.hid hr7; have HG7 := Lib.hid hg7; clear hr7 hg7 ho7 hlt7)
              go_roundw
              case rel =>
                refine ⟨v + 1, _, by omega, by go_num, rfl, ?_, ?_⟩
                · show World.ownsRow _ _ _ _ _ _ _
                  rw [HST.out, List.length_append, HLC.out, show zs (iz (cutP G v ++ [v])) = zs (iz (cutP G v)) ++ [.int .i64 (v : Nat)] by simp [zs, iz, zv]]
                  exact HR7.out
                · exact (hb.out.alloc hws _).grown HG7.out (by simp; omega) (fun q e => (HFA.out.lt q e).1)
              case measure => simp [intOf]; omega
            · have t4 : decide ((1 : Int) < (cv : Int)) = false := by simp; omega
              have t5 : decide (1 < cv) = false := by simp; omega
              rw [if_neg h4, List.append_nil] at hst
              have HST := Lib.hid hst
              clear hst hcv h4
              go_wp2_with fail
              go_roundw
              case rel => exact ⟨v + 1, _, by omega, by go_num, rfl, by rw [HST.out]; exact hO, hb⟩
              case measure => simp [intOf]; omega
          · obtain rfl : N = v := by omega
            have t3 : decide ((N : Int) < (N : Int)) = false := by simp
            go_wp2_with fail
            go_ret2
            rw [HGQ.out]
            have h9 := hO.out
            obtain ⟨A2, c2, rfl⟩ : ∃ A2 c2, u14 = .slice A2 (cutP G N).length c2 := by
              rcases Joins.ownsRow_forms h9 with ⟨e, h0⟩ | ⟨g, cap, e⟩
              · exact ⟨none, 0, by rw [e, h0]⟩
              · exact ⟨_, cap, e⟩
            exact ⟨A2, c2, rfl, owns_rd h9, HS2.out, HB.out.trans ((HBW.out.trans ((HBF.out.trans (hb.out.mono HBF.out.size)).mono HBW.out.size)).mono (Nat.le_of_lt HXS.out))⟩
end
section
set_option maxRecDepth 100000
open Go.RowKit

/-- What a search tells, as it is read. -/
def RdL (w : World) (A : Option Addr) (L : List (Int × Int × Int)) : Prop := ∀ (q : Nat) (x : Int × Int × Int), L[q]? = some x → ∃ ad, A = some ad ∧ ad.block < w.heap.size ∧ w.cell? (ad.add (q * 3)) = some (.int .i64 x.1) ∧ w.cell? ⟨(ad.add (q * 3)).block, (ad.add (q * 3)).off + 1, none⟩ = some (.int .i64 x.2.1) ∧ w.cell? ⟨(ad.add (q * 3)).block, (ad.add (q * 3)).off + 2, none⟩ = some (.int .i64 x.2.2)
theorem RdL.below {w w' : World} {A : Option Addr} {L : List (Int × Int × Int)} (h : RdL w A L) (hb : Below w.heap.size w w') : RdL w' A L := fun q x hq => by
  obtain ⟨ad, e, hl, h0, h1, h2⟩ := h q x hq
  have hc : ∀ a : Addr, a.block = ad.block → w'.cell? a = w.cell? a := fun a e => hb.cell (by rw [e]; exact hl)
  exact ⟨ad, e, Nat.lt_of_lt_of_le hl hb.size, by rw [hc _ (block_add ad _)]; exact h0, (hc _ (by show (ad.add (q * 3)).block = _; exact block_add ad _)).trans h1, (hc _ (by show (ad.add (q * 3)).block = _; exact block_add ad _)).trans h2⟩
theorem OwnT.rd {w : World} {B : Nat} {L : List (Int × Int × Int)} (h : OwnT w B L) : RdL w (some ⟨B, 0, none⟩) L := fun q x hq => by
  obtain ⟨a, b, c⟩ := h.at_ hq
  refine ⟨_, rfl, lt_of_block h, ?_, ?_, ?_⟩
  · rw [add_off]; exact a
  · rw [add_off]; exact b
  · rw [add_off]; exact c
theorem own_rdL {w : World} {base n c : Nat} {A : Option Addr} {L : List (Int × Int × Int)} (h : w.ownsRow base 57 3 (.slice A n c) n (tcells L)) : RdL w A L := by
  intro q x hq
  have hql := (List.getElem?_eq_some_iff.1 hq).1
  have hlen := h.1
  rw [tcells_length] at hlen
  rcases Joins.ownsRow_forms h with ⟨e, h0⟩ | ⟨g, cap, e⟩
  · omega
  · injection e with e1 e2 e3
    subst e1
    obtain ⟨t0, t1, t2⟩ := tcells_at L q x hq
    refine ⟨_, rfl, (h.lt g rfl).2, ?_, ?_, ?_⟩
    · exact h.cells rfl _ _ t0
    · have := h.cells rfl _ _ t1
      rw [add_off] at this ⊢
      exact this
    · have := h.cells rfl _ _ t2
      rw [add_off] at this ⊢
      exact this
theorem eqLow (a b e c d f : Int) (w : World) : (Op.equalIn 10000 57 (.agg #[.int .i64 a, .int .i64 b, .int .i64 e]) (.agg #[.int .i64 c, .int .i64 d, .int .i64 f])).run Try.prog w = .ok (a == c && b == d && e == f) w := by
  have u3 := Try.underlying3
  have a3 := Try.isAgg3
  have z3 := Try.sizeOf3
  rw [show (10000 : Nat) = 9999 + 1 from rfl, Op.equalIn]
  simp only [Sem.run_bind, run_underlying Try.underlying57, Result.andThen_ok]
  have hst : Try.prog.stoodInHeld 57 = false := by kernel_rfl
  go_simp
  by_cases h1 : a = c <;> by_cases h2 : b = d <;> by_cases h3 : e = f <;> simp [h1, h2, h3]
attribute [local go_sem] eqLow
set_option maxHeartbeats 8000000 in
theorem sameL_any (A B : Option Addr) (c d n m : Nat) (L M : List (Int × Int × Int)) (w : World) (hl : RdL w A L) (hm : RdL w B M) (hL : n ≤ 1000000) (hM : m ≤ 1000000) (hn : n = L.length) (hmm : m = M.length) :
    Calls Try.prog 18 #[.slice A n c, .slice B m d] w fun e w' => e = .returned (.bool (decide (L = M))) ∧ Below w.heap.size w w' := by
  have hgu : Try.prog.eqGuardType Try.prog.depth 57 = false := by kernel_rfl
  have HL := Lib.hid hl
  have HM := Lib.hid hm
  have HN := Lib.hid hn
  have HMM := Lib.hid hmm
  clear hl hm hn hmm
  obtain ⟨r, hr⟩ : ∃ r, decide (L = M) = r := ⟨_, rfl⟩
  have HR := Lib.hid hr
  rw [hr]
  clear hr
  by_cases hnm : n = m
  · subst hnm
    have t0 : ((n : Int) != (n : Int)) = false := by simp
    go_enter Try.func18, Try.ntmps18
    go_wp2_with fail
    go_loopw [13] (fun s wr => ∃ k : Nat, k ≤ n ∧ s = .int .i64 k ∧ Hid (L.take k = M.take k) ∧ Hid (Below w.heap.size w wr)) (fun s _ => n - (intOf s).toNat)
    case atStart => exact ⟨0, Nat.zero_le _, rfl, rfl, Lib.hid (Below.refl _ _)⟩
    case round =>
      obtain ⟨k, hk, rfl, hT, hb⟩ := hrel
      by_cases h1 : k < n
      · have t1 : decide ((k : Int) < (n : Int)) = true := by simp; omega
        have hI0 : (0 : Int) ≤ (k : Int) := by omega
        have hI1 : (k : Int) < (n : Nat) := by omega
        obtain ⟨x, hx⟩ : ∃ x, L[k]? = some x := ⟨_, List.getElem?_eq_getElem (by rw [← HN.out]; exact h1)⟩
        obtain ⟨y, hy⟩ : ∃ y, M[k]? = some y := ⟨_, List.getElem?_eq_getElem (by rw [← HMM.out]; exact h1)⟩
        obtain ⟨a1, rfl, ha1, p0, p1, p2⟩ := (HL.out.below hb.out) k x hx
        obtain ⟨a2, rfl, ha2, q0, q1, q2⟩ := (HM.out.below hb.out) k y hy
        obtain ⟨x0, x1, x2⟩ := x
        obtain ⟨y0, y1, y2⟩ := y
        have HX := Lib.hid hx
        have HY := Lib.hid hy
        have HQ := Lib.hid (fun q : Nat => below_drewN hb.out q)
        simp only [] at p0 p1 p2 q0 q1 q2
        clear hx hy
        by_cases hxy : (x0, x1, x2) = (y0, y1, y2)
        · have hT2 : Hid (L.take (k + 1) = M.take (k + 1)) := by
            show _ = _
            rw [List.take_add_one, List.take_add_one, hT.out, HX.out, HY.out, hxy]
          injection hxy with e0 e1
          injection e1 with e1 e2
          subst e0; subst e1; subst e2
          have d1 : (x0 == x0) = true := by simp
          have d2 : (x1 == x1) = true := by simp
          have d3 : (x2 == x2) = true := by simp
          go_upto_region 6 with fail
          go_quiet (fail)
          go_wp2_with fail
          go_roundw
          case rel => exact ⟨k + 1, by omega, by go_num, hT2, Lib.hid (HQ.out _)⟩
          case measure => simp [intOf]; omega
        · have hrf : Hid (r = false) := by
            show _ = _
            rw [← HR.out, decide_eq_false_iff_not]
            intro e
            subst e
            have e := HX.out.symm.trans HY.out
            injection e with e
            exact hxy e
          have hnq : (x0 == y0 && x1 == y1 && x2 == y2) = false := by
            rw [Bool.eq_false_iff]
            intro e
            simp only [Bool.and_eq_true, beq_iff_eq] at e
            exact hxy (by rw [e.1.1, e.1.2, e.2])
          obtain ⟨b0, hb0⟩ : ∃ b0, (x0 == y0) = b0 := ⟨_, rfl⟩
          obtain ⟨b1, hb1⟩ : ∃ b1, (x1 == y1) = b1 := ⟨_, rfl⟩
          obtain ⟨b2, hb2⟩ : ∃ b2, (x2 == y2) = b2 := ⟨_, rfl⟩
          rw [hb0, hb1, hb2] at hnq
          clear hxy
          cases b0 with
          | false =>
            clear hb1 hb2 hnq
            go_upto_region 6 with fail
            go_quiet (fail)
            go_wp2_with fail
            go_ret
            exact ⟨by rw [hrf.out]; rfl, HQ.out _⟩
          | true =>
            cases b1 with
            | false =>
              clear hb2 hnq
              go_upto_region 6 with fail
              go_quiet (fail)
              go_wp2_with fail
              go_ret
              exact ⟨by rw [hrf.out]; rfl, HQ.out _⟩
            | true =>
              cases b2 with
              | false =>
                clear hnq
                go_upto_region 6 with fail
                go_quiet (fail)
                go_wp2_with fail
                go_ret
                exact ⟨by rw [hrf.out]; rfl, HQ.out _⟩
              | true => cases hnq
      · obtain rfl : n = k := by omega
        have t1 : decide ((n : Int) < (n : Int)) = false := by simp
        have hrt : Hid (r = true) := by
          show _ = _
          rw [← HR.out, decide_eq_true_iff]
          have h := hT.out
          rw [List.take_of_length_le (by rw [← HN.out]; exact Nat.le_refl _), List.take_of_length_le (by rw [← HMM.out]; exact Nat.le_refl _)] at h
          exact h
        go_wp2_with fail
        go_ret
        exact ⟨by rw [hrt.out]; rfl, hb.out⟩
  · have t0 : ((n : Int) != (m : Int)) = true := by simp; omega
    have hrf : Hid (r = false) := by
      show _ = _
      rw [← HR.out, decide_eq_false_iff_not]
      intro e
      subst e
      exact hnm (HN.out.trans HMM.out.symm)
    go_enter Try.func18, Try.ntmps18
    go_wp2_with fail
    go_ret
    exact ⟨by rw [hrf.out]; rfl, Below.refl _ _⟩
set_option maxHeartbeats 4000000 in
theorem samePP_any (A B : Option Addr) (c d n m : Nat) (L M : List (List (Int × Int))) (w : World) (hl : RdPP w A L) (hm : RdPP w B M) (bl : ∀ xs ∈ L, xs.length ≤ 1000000) (bm : ∀ xs ∈ M, xs.length ≤ 1000000) (hL : n ≤ 1000000) (hM : m ≤ 1000000) (hn : n = L.length) (hmm : m = M.length) :
    Calls Try.prog 25 #[.slice A n c, .slice B m d] w fun e w' => e = .returned (.bool (decide (L = M))) ∧ Below w.heap.size w w' := by
  have HL := Lib.hid hl
  have HM := Lib.hid hm
  have HN := Lib.hid hn
  have HMM := Lib.hid hmm
  have BL := Lib.hid bl
  have BM := Lib.hid bm
  by_cases hnm : n = m
  · subst hnm
    have hd : ((n : Int) == (n : Int)) = true := by simp
    have HE : Hid (L.length = M.length) := show _ = _ by rw [← hn, ← hmm]
    clear hl hm hn hmm bl bm hd
    obtain ⟨r, hr⟩ : ∃ r, decide (L = M) = r := ⟨_, rfl⟩
    have HR := Lib.hid hr
    rw [hr]
    clear hr
    go_enter Try.func25, Try.ntmps25
    go_wp2_with fail
    go_loopw [5] (fun s wr => ∃ k : Nat, k ≤ n ∧ s = .int .i64 k ∧ Hid (∀ q, q < k → L[q]? = M[q]?) ∧ Hid (Below w.heap.size w wr)) (fun s _ => n - (intOf s).toNat)
    case atStart => exact ⟨0, Nat.zero_le _, rfl, fun q h => absurd h (by omega), Lib.hid (Below.refl _ _)⟩
    case round =>
      obtain ⟨k, hk, rfl, hK, hbel⟩ := hrel
      by_cases hlt : k < n
      · obtain ⟨x, hx⟩ : ∃ x, L[k]? = some x := ⟨_, List.getElem?_eq_getElem (by rw [← HN.out]; exact hlt)⟩
        obtain ⟨y, hy⟩ : ∃ y, M[k]? = some y := ⟨_, List.getElem?_eq_getElem (by rw [← HMM.out]; exact hlt)⟩
        obtain ⟨ad, X, cx, rfl, hal, c1, rx⟩ := (HL.out.below hbel.out) k x hx
        obtain ⟨bd, Y, cy, rfl, hbl, c2, ry⟩ := (HM.out.below hbel.out) k y hy
        have HX := Lib.hid hx
        have HY := Lib.hid hy
        have hI0 : (0 : Int) ≤ (k : Int) := by omega
        have hI1 : (k : Int) < (n : Nat) := by omega
        obtain ⟨v, hv⟩ : ∃ v, decide (x = y) = v := ⟨_, rfl⟩
        have HV := Lib.hid hv
        have HS : Hid (∀ w', Below wr.heap.size wr w' → Calls Try.prog 19 #[.slice X x.length cx, .slice Y y.length cy] w' fun e w'' => e = .returned (.bool v) ∧ Below w'.heap.size w' w'') := by
          intro w' hb
          rw [← hv]
          exact samePr_any X Y cx cy x.length y.length x y w' (rx.below hb) (ry.below hb) (BL.out x (List.mem_of_getElem? hx)) (BM.out y (List.mem_of_getElem? hy)) rfl rfl
        have HKP : Hid (∀ w', Below wr.heap.size wr w' → w'.cell? (ad.add k) = some (.slice X x.length cx) ∧ w'.cell? (bd.add k) = some (.slice Y y.length cy) ∧ Below wr.heap.size wr w') := fun w' hb =>
          ⟨by rw [hb.cell (by rw [block_add]; exact hal)]; exact c1, by rw [hb.cell (by rw [block_add]; exact hbl)]; exact c2, hb⟩
        have hD := HKP.out wr.drew (Below.refl _ _).drew
        generalize x.length = lx at *
        generalize y.length = ly at *
        clear hx hy rx ry hv c1 c2
        go_upto_region 6 with fail
        cases v
        · go_region_held3 (fun w' => w'.cell? (ad.add k) = some (.slice X lx cx) ∧ w'.cell? (bd.add k) = some (.slice Y ly cy) ∧ Below wr.heap.size wr w')
            (first | exact hS | exact hD)
            (first | (go_at_call 19; refine (HS.out _ (‹_ ∧ _ ∧ Below wr.heap.size wr _›).2.2).mono ?_; rintro e wn ⟨rfl, hb⟩; have hS := HKP.out wn (next_below (‹_ ∧ _ ∧ Below wr.heap.size wr _›).2.2 hb)))
          all_goals go_wp2_with fail
          all_goals go_ret
          all_goals
            refine ⟨?_, next_below hbel.out hS.2.2⟩
            have hxy : x ≠ y := of_decide_eq_false HV.out
            have hdec : decide (L = M) = false := decide_eq_false (fun e => hxy (by have h1 := HX.out; rw [e, HY.out] at h1; exact (Option.some.inj h1).symm))
            rw [← HR.out, hdec]
            rfl
        · go_region_held3 (fun w' => w'.cell? (ad.add k) = some (.slice X lx cx) ∧ w'.cell? (bd.add k) = some (.slice Y ly cy) ∧ Below wr.heap.size wr w')
            (first | exact hS | exact hD)
            (first | (go_at_call 19; refine (HS.out _ (‹_ ∧ _ ∧ Below wr.heap.size wr _›).2.2).mono ?_; rintro e wn ⟨rfl, hb⟩; have hS := HKP.out wn (next_below (‹_ ∧ _ ∧ Below wr.heap.size wr _›).2.2 hb)))
          all_goals go_wp2_with fail
          all_goals go_roundw
          case rel =>
            refine ⟨k + 1, by omega, by go_num, fun q hq => ?_, Lib.hid (next_below hbel.out hS.2.2)⟩
            by_cases hqk : q = k
            · subst hqk
              rw [HX.out, HY.out, of_decide_eq_true HV.out]
            · exact hK.out q (by omega)
          case measure => simp [intOf]; omega
      · obtain rfl : k = n := by omega
        go_wp2_with fail
        go_ret
        refine ⟨?_, hbel.out⟩
        have he : L = M := by
          apply List.ext_getElem?
          intro q
          by_cases hq : q < k
          · exact hK.out q hq
          · rw [List.getElem?_eq_none (by rw [← HN.out]; omega), List.getElem?_eq_none (by rw [← HMM.out]; omega)]
        rw [← HR.out, decide_eq_true he]
        rfl
  · have hd : ((n : Int) == (m : Int)) = false := by simp; omega
    have he : Hid (decide (L = M) = false) := by
      show _ = _
      exact decide_eq_false (fun h => hnm (by rw [hn, hmm, h]))
    clear hl hm hn hmm bl bm
    go_enter Try.func25, Try.ntmps25
    go_wp2_with fail
    go_ret
    rw [he.out]
    exact ⟨rfl, Below.refl _ _⟩
end
section
set_option maxRecDepth 100000
open Go.RowKit

def lowB (T : List (List Int)) (U : Nat → Option Nat) (num F : Nat → Nat) (v : Nat) : Bool :=
  decide (F v ≤ num v) && (T.getD v []).all (fun x => (U x.toNat != some v || decide (F v ≤ F x.toNat)) && (U x.toNat == some v || U v == some x.toNat || decide (F v ≤ num x.toNat))) &&
  (F v == num v || (T.getD v []).any fun x => (U x.toNat == some v && F v == F x.toNat) || (U x.toNat != some v && U v != some x.toNat && F v == num x.toNat))
theorem lowfix_of {T : List (List Int)} {U : Nat → Option Nat} {num F : Nat → Nat} {v : Nat} (hn : ∀ x ∈ T.getD v [], ∃ y : Nat, x = (y : Int)) (h : lowB T U num F v = true) : LowFix (adj T) U num F v := by
  unfold lowB at h
  rw [Bool.and_eq_true, Bool.and_eq_true, decide_eq_true_iff, List.all_eq_true] at h
  obtain ⟨⟨h1, h2⟩, h3⟩ := h
  refine ⟨h1, fun w ha hu => ?_, fun w ha hu hv => ?_, ?_⟩
  · have := h2 _ ha
    simp [hu] at this
    exact this
  · have := h2 _ ha
    simp [hu, hv] at this
    exact this
  · rw [Bool.or_eq_true, beq_iff_eq, List.any_eq_true] at h3
    rcases h3 with h3 | ⟨x, hx, h3⟩
    · exact .inl h3
    · obtain ⟨y, rfl⟩ := hn x hx
      refine .inr ⟨y, hx, ?_⟩
      simpa [and_assoc] using h3
def E5 : List (Int × Int) := [(0, 1), (0, 2), (1, 2), (2, 3), (2, 4), (3, 4), (4, 5)]
def T5 : List (List Int) := [[1, 2], [0, 2], [0, 1, 3, 4], [2, 4], [2, 3, 5], [4]]
theorem tab5 : tabG 6 E5 = T5 := by decide
theorem right5 : rightG ((6 : Nat) : Int) E5 = true := by decide
def A5 : List Nat := [0, 1, 2, 3, 4, 5]
def s5 : St := ⟨[-1, 0, 1, 2, 3, 4], A5, []⟩
theorem walk5 : wrun T5 6 0 14 = s5 := by rfl
def U5 : Nat → Option Nat := stepU s5 (fun _ => none)
def F5 (v : Nat) : Nat := ([1, 1, 1, 3, 3, 6] : List Nat).getD v 7
def O5 : List Int := [0, 1, 1, 3, 3, 5]
def L5 : List (Int × Int × Int) := [(1, -1, 1), (2, 0, 1), (3, 1, 1), (4, 2, 3), (5, 3, 3), (6, 4, 6)]
def G5 : List (List (Int × Int)) := [[(0, 1), (0, 2), (1, 2)], [(2, 3), (2, 4), (3, 4)], [(4, 5)]]
theorem met5 : MetR T5 6 6 A5 U5 := by
  have h1 : MetR T5 6 1 A5 U5 := by
    have h := MetR.step (T := T5) (N := 6) (k := 0) (m := 14) .zero (by simp) (by rw [walk5]; rfl)
    rw [walk5] at h
    exact h
  exact ((((h1.skip (by decide)).skip (by decide)).skip (by decide)).skip (by decide)).skip (by decide)
theorem low5 (v : Nat) : LowFix (adj T5) U5 (numF A5) F5 v := by
  by_cases hv : v < 6
  · have hn : ∀ x ∈ T5.getD v [], ∃ y : Nat, x = (y : Int) := by
      intro x hx
      have h0 : ∀ l ∈ T5, ∀ x ∈ l, (0 : Int) ≤ x := by decide
      have hm : T5.getD v [] ∈ T5 := by
        rw [List.getD_eq_getElem?_getD, List.getElem?_eq_getElem (show v < T5.length from hv)]
        exact List.getElem_mem _
      exact ⟨x.toNat, by have := h0 _ hm x hx; omega⟩
    refine lowfix_of hn ?_
    match v, hv with
    | 0, _ => decide
    | 1, _ => decide
    | 2, _ => decide
    | 3, _ => decide
    | 4, _ => decide
    | 5, _ => decide
  · have hno : ∀ w, ¬ adj T5 v w := fun w h => by
      unfold adj at h
      rw [List.getD_eq_getElem?_getD, List.getElem?_eq_none (show T5.length ≤ v by show 6 ≤ v; omega)] at h
      cases h
    have he : F5 v = numF A5 v := by
      unfold F5 numF
      rw [List.getD_eq_getElem?_getD, List.getElem?_eq_none (by show 6 ≤ v; omega)]
      have : List.idxOf v A5 = 6 := by
        rw [List.idxOf_eq_length (by unfold A5; simp; omega)]
        rfl
      rw [this]
      rfl
    exact ⟨Nat.le_of_eq he, fun w h => absurd h (hno w), fun w h => absurd h (hno w), .inl he⟩
theorem srch5 {A : List Nat} {U : Nat → Option Nat} {F : Nat → Nat} (h : NR (tabG 6 E5) 6 6 A U) (l : ∀ v, LowFix (adj (tabG 6 E5)) U (numF A) F v) : A = A5 ∧ U = U5 ∧ (∀ v, F v = F5 v) ∧ lowL 6 A U F = L5 := by
  have hg := right5
  have Fo := NR.forest hg h
  have hm := h.met
  rw [tab5] at hm l Fo
  obtain ⟨rfl, rfl⟩ := hm.uniq met5
  have hF : ∀ v, F v = F5 v := fun v => lowfix_eq Fo l low5 (M := A5.length + 1) (numF_le A5) v
  refine ⟨rfl, rfl, hF, ?_⟩
  have : F = F5 := funext hF
  rw [this]
  decide
theorem blk5 {A : List Nat} {U : Nat → Option Nat} {F : Nat → Nat} {O : List Int} (h : BlkS 6 E5 A U F O) : blkG 6 E5 = G5 := by
  rw [h.blk right5]
  obtain ⟨rfl, rfl, hF, _⟩ := srch5 h.nr h.lf
  have hF : F = F5 := funext hF
  subst hF
  have hi : ∀ v, v < 6 → v ∈ A5.take 6 := by decide
  have g0 := h.oi.root 0 (hi 0 (by omega)) (by decide)
  have g1 := h.oi.yes 1 (hi 1 (by omega)) 0 (by decide) (by decide)
  have g2 := h.oi.no 2 (hi 2 (by omega)) 1 (by decide) (by decide)
  have g3 := h.oi.yes 3 (hi 3 (by omega)) 2 (by decide) (by decide)
  have g4 := h.oi.no 4 (hi 4 (by omega)) 3 (by decide) (by decide)
  have g5 := h.oi.yes 5 (hi 5 (by omega)) 4 (by decide) (by decide)
  have hO : O = O5 := by
    apply List.ext_getElem?
    intro i
    by_cases hi : i < 6
    · rw [gd_at O i (by rw [h.oi.len]; exact hi), gd_at O5 i hi]
      match i, hi with
      | 0, _ => rw [g0]; rfl
      | 1, _ => rw [g1]; rfl
      | 2, _ => rw [g2, g1]; rfl
      | 3, _ => rw [g3]; rfl
      | 4, _ => rw [g4, g3]; rfl
      | 5, _ => rw [g5]; rfl
    · rw [List.getElem?_eq_none (by rw [h.oi.len]; omega), List.getElem?_eq_none (by show 6 ≤ i; omega)]
  subst hO
  decide
theorem brid5 : bridG G5 = [(4, 5)] := by decide
theorem cut5 : cutG 6 G5 = [2, 4] := by decide
end
section
set_option maxRecDepth 100000
open Go.RowKit

theorem lit_rdP {w : World} {g : Nat} {E : List (Int × Int)} (h : w.heap[g]? = some (.cells (pcells E).toArray 51 (0, 0))) : RdP w (some ⟨g, 0, none⟩) E := by
  intro q e hq
  obtain ⟨h0, h1⟩ := pcells_at E q e hq
  refine ⟨_, rfl, lt_of_block h, ?_, ?_⟩
  · rw [add_off, cell_of h]; simpa [zv] using h0
  · rw [add_off, cell_of h]; simpa [zv] using h1
theorem lit_rdZ {w : World} {g : Nat} {xs : List Int} (h : w.heap[g]? = some (.cells (zs xs).toArray 3 (0, 0))) : RdZ w (some ⟨g, 0, none⟩) xs := by
  intro q x hq
  refine ⟨_, rfl, lt_of_block h, ?_⟩
  rw [add_off, cell_of h]
  simp [zs, zv, hq]
theorem lit_rdPP (w : World) : RdPP ((((w.alloc (.cells (pcells [(0, 1), (0, 2), (1, 2)]).toArray 51)).alloc (.cells (pcells [(2, 3), (2, 4), (3, 4)]).toArray 51)).alloc (.cells (pcells [(4, 5)]).toArray 51)).alloc
    (.cells #[.slice (some ⟨w.heap.size, 0, none⟩) 3 3, .slice (some ⟨w.heap.size + 1, 0, none⟩) 3 3, .slice (some ⟨w.heap.size + 1 + 1, 0, none⟩) 1 1] 22)) (some ⟨w.heap.size + 1 + 1 + 1, 0, none⟩) G5 := by
  obtain ⟨W1, h1⟩ : ∃ W1, W1 = w.alloc (.cells (pcells [(0, 1), (0, 2), (1, 2)]).toArray 51) := ⟨_, rfl⟩
  obtain ⟨W2, h2⟩ : ∃ W2, W2 = W1.alloc (.cells (pcells [(2, 3), (2, 4), (3, 4)]).toArray 51) := ⟨_, rfl⟩
  obtain ⟨W3, h3⟩ : ∃ W3, W3 = W2.alloc (.cells (pcells [(4, 5)]).toArray 51) := ⟨_, rfl⟩
  have z1 : W1.heap.size = w.heap.size + 1 := by rw [h1]; simp
  have z2 : W2.heap.size = w.heap.size + 1 + 1 := by rw [h2]; simp [z1]
  have z3 : W3.heap.size = w.heap.size + 1 + 1 + 1 := by rw [h3]; simp [z2]
  have r1 : RdP W1 (some ⟨w.heap.size, 0, none⟩) [(0, 1), (0, 2), (1, 2)] := by rw [h1]; exact lit_rdP (heap_alloc_new w _)
  have r2 : RdP W2 (some ⟨w.heap.size + 1, 0, none⟩) [(2, 3), (2, 4), (3, 4)] := by rw [h2, ← z1]; exact lit_rdP (heap_alloc_new W1 _)
  have r3 : RdP W3 (some ⟨w.heap.size + 1 + 1, 0, none⟩) [(4, 5)] := by rw [h3, ← z2]; exact lit_rdP (heap_alloc_new W2 _)
  rw [← h1, ← h2, ← h3]
  have hb2 : Below W1.heap.size W1 W2 := by rw [h2]; exact (Below.refl _ _).alloc (Nat.le_refl _) _
  have hb3 : Below W2.heap.size W2 W3 := by rw [h3]; exact (Below.refl _ _).alloc (Nat.le_refl _) _
  have hb4 : Below W3.heap.size W3 (W3.alloc (.cells #[.slice (some ⟨w.heap.size, 0, none⟩) 3 3, .slice (some ⟨w.heap.size + 1, 0, none⟩) 3 3, .slice (some ⟨w.heap.size + 1 + 1, 0, none⟩) 1 1] 22)) := (Below.refl _ _).alloc (Nat.le_refl _) _
  have hn := heap_alloc_new W3 (.cells #[.slice (some ⟨w.heap.size, 0, none⟩) 3 3, .slice (some ⟨w.heap.size + 1, 0, none⟩) 3 3, .slice (some ⟨w.heap.size + 1 + 1, 0, none⟩) 1 1] 22)
  rw [z3] at hn
  intro j x hj
  match j, hj with
  | 0, hj =>
    simp [G5] at hj; subst hj
    exact ⟨_, _, _, rfl, lt_of_block hn, by rw [add_off, cell_of hn]; rfl, ((r1.below hb2).below hb3).below hb4⟩
  | 1, hj =>
    simp [G5] at hj; subst hj
    exact ⟨_, _, _, rfl, lt_of_block hn, by rw [add_off, cell_of hn]; rfl, (r2.below hb3).below hb4⟩
  | 2, hj =>
    simp [G5] at hj; subst hj
    exact ⟨_, _, _, rfl, lt_of_block hn, by rw [add_off, cell_of hn]; rfl, r3.below hb4⟩
set_option maxHeartbeats 32000000 in
theorem awake5_any (w : World) : Calls Try.prog 12 #[] w fun e w' => e = .returned (.bool true) ∧ Below w.heap.size w w' := by
  obtain ⟨W0, hW0⟩ : ∃ W0, W0 = w.alloc (.cells (pcells E5).toArray 51) := ⟨_, rfl⟩
  obtain ⟨W, hW⟩ : ∃ W, W = W0.alloc (.cells #[.int .i64 6, .slice (some ⟨w.heap.size, 0, none⟩) 7 7] 24) := ⟨_, rfl⟩
  have hz0 : W0.heap.size = w.heap.size + 1 := by rw [hW0]; simp
  have hb0 : Below w.heap.size w W0 := by rw [hW0]; exact (Below.refl _ _).alloc (Nat.le_refl _) _
  have hb1 : Below W0.heap.size W0 W := by rw [hW]; exact (Below.refl _ _).alloc (Nat.le_refl _) _
  have hr0 : RdP W0 (some ⟨w.heap.size, 0, none⟩) E5 := by rw [hW0]; exact lit_rdP (heap_alloc_new w _)
  have hbox : W.heap[w.heap.size + 1]? = some (.cells #[.int .i64 6, .slice (some ⟨w.heap.size, 0, none⟩) 7 7] 24 (0, 0)) := by rw [hW, ← hz0]; exact heap_alloc_new W0 _
  obtain ⟨j0, j1, _, _⟩ := cells_two hbox
  have hWl : w.heap.size + 1 < W.heap.size := lt_of_block hbox
  have HJ : Hid (∀ w', Below W.heap.size W w' → w'.cell? ⟨w.heap.size + 1, 0, none⟩ = some (.int .i64 6) ∧ w'.cell? ⟨w.heap.size + 1, 1, none⟩ = some (.slice (some ⟨w.heap.size, 0, none⟩) 7 7)) := fun w' hb =>
    ⟨by rw [hb.cell (by show w.heap.size + 1 < _; omega)]; exact j0, by rw [hb.cell (by show w.heap.size + 1 < _; omega)]; exact j1⟩
  have HR := Lib.hid (hr0.below hb1)
  have HBW : Hid (Below w.heap.size w W) := next_below hb0 hb1
  have HW : Hid (W = (w.alloc (.cells #[.int .i64 0, .int .i64 1, .int .i64 0, .int .i64 2, .int .i64 1, .int .i64 2, .int .i64 2, .int .i64 3, .int .i64 2, .int .i64 4, .int .i64 3, .int .i64 4, .int .i64 4, .int .i64 5] 51)).alloc (.cells #[.int .i64 6, .slice (some ⟨w.heap.size, 0, none⟩) 7 7] 24)) := by
    show _ = _
    rw [hW, hW0]
    rfl
  obtain ⟨iL, hiL, hl0, hl1, hl2⟩ := info_partsI lowinfo
  clear hW hW0 hz0 hb0 hb1 hr0 hbox
  go_enter Try.func12, Try.ntmps12
  go_upto_region 2 with fail
  rw [← HW.out]
  go_wp2_with fail
  refine (search_any (some ⟨w.heap.size, 0, none⟩) 7 7 6 E5 W HR.out rfl right5).mono ?_
  rintro e w1 ⟨B, A, U, F, rfl, hO, hNR, hLF, _, hbb1⟩
  have hT1 := hO.rd
  rw [(srch5 hNR hLF).2.2.2] at hT1
  have HT1 := Lib.hid hT1
  have HB1 := Lib.hid hbb1
  clear hO hNR hLF hbb1 hT1 j0 j1
  obtain ⟨j0, j1⟩ := HJ.out w1 HB1.out
  go_wp2_with fail
  refine (bridges_yes (some ⟨w.heap.size, 0, none⟩) 7 7 6 E5 w1 (HR.out.below HB1.out) rfl right5).mono ?_
  rintro e w2 ⟨A2, c2, rfl, hR2, hS2, _, hb2⟩
  obtain ⟨a2, u2, f2, o2, hS2⟩ := hS2
  rw [blk5 hS2, brid5] at hR2 ⊢
  have HGQ := Lib.hid (blk5 hS2)
  have HT2 := Lib.hid (HT1.out.below hb2)
  have HR2 := Lib.hid hR2
  have HB2 := Lib.hid (next_below HB1.out hb2)
  clear hR2 hS2 hb2 HT1 HB1 j0 j1
  obtain ⟨j0, j1⟩ := HJ.out w2 HB2.out
  go_wp2_with fail
  refine (cuts_yes (some ⟨w.heap.size, 0, none⟩) 7 7 6 E5 w2 (HR.out.below HB2.out) rfl right5).mono ?_
  rintro e w3 ⟨A3, c3, rfl, hR3, _, hb3⟩
  rw [HGQ.out, cut5] at hR3 ⊢
  have HT3 := Lib.hid (HT2.out.below hb3)
  have HR23 := Lib.hid (HR2.out.below hb3)
  have HR3 := Lib.hid hR3
  have HB3 := Lib.hid (next_below HB2.out hb3)
  clear hR3 hb3 HT2 HR2 HB2 j0 j1
  obtain ⟨j0, j1⟩ := HJ.out w3 HB3.out
  go_wp2_with fail
  refine (blocks_yes (some ⟨w.heap.size, 0, none⟩) 7 7 6 E5 w3 (HR.out.below HB3.out) rfl right5).mono ?_
  rintro e w4 ⟨A4, c4, rfl, hR4, _, _, hb4⟩
  rw [HGQ.out] at hR4 ⊢
  have HT4 := Lib.hid (HT3.out.below hb4)
  have HR24 := Lib.hid (HR23.out.below hb4)
  have HR34 := Lib.hid (HR3.out.below hb4)
  have HR4 := Lib.hid hR4
  have HB4 := Lib.hid (next_below HB3.out hb4)
  clear hR4 hb4 HT3 HR23 HR3 HB3 j0 j1
  obtain ⟨w5, hw5⟩ : ∃ w5, w5 = w4.alloc (.cells #[.int .i64 1, .int .i64 (-1), .int .i64 1, .int .i64 2, .int .i64 0, .int .i64 1, .int .i64 3, .int .i64 1, .int .i64 1, .int .i64 4, .int .i64 2, .int .i64 3, .int .i64 5, .int .i64 3, .int .i64 3, .int .i64 6, .int .i64 4, .int .i64 6] 73) := ⟨_, rfl⟩
  have hb5 : Below w4.heap.size w4 w5 := by rw [hw5]; exact (Below.refl _ _).alloc (Nat.le_refl _) _
  have hlit : w5.heap[w4.heap.size]? = some (.cells (tcells L5).toArray 73 (0, 0)) := by rw [hw5]; exact heap_alloc_new w4 _
  have HLI : Hid (∀ w', Below w5.heap.size w5 w' → ∀ (k : Nat) (x : Int × Int × Int), L5[k]? = some x → w'.cell? ⟨w4.heap.size, k * 3, none⟩ = some (.int .i64 x.1) ∧ w'.cell? ⟨w4.heap.size, k * 3 + 1, none⟩ = some (.int .i64 x.2.1) ∧ w'.cell? ⟨w4.heap.size, k * 3 + 2, none⟩ = some (.int .i64 x.2.2)) := by
    intro w' hb k x hx
    have hl := blk_below hlit hb
    obtain ⟨a, b, c⟩ := tcells_at L5 k x hx
    exact ⟨by rw [cell_of hl]; simpa [zv] using a, by rw [cell_of hl]; simpa [zv] using b, by rw [cell_of hl]; simpa [zv] using c⟩
  have HB5 := Lib.hid (next_below HB4.out hb5)
  have HT5 := Lib.hid (HT4.out.below hb5)
  have HR25 := Lib.hid (HR24.out.below hb5)
  have HR35 := Lib.hid (HR34.out.below hb5)
  have HR45 := Lib.hid (HR4.out.below hb5)
  have HW5 := Lib.hid hw5
  have HQ0 : Hid (w5.ownsRow w5.heap.size 57 3 (.slice none 0 0) 0 (tcells (L5.take 0))) := World.ownsRow_nil _ _ _ _
  have HBB0 := Lib.hid (Below.refl w5.heap.size w5)
  clear hb5 hlit hw5 HT4 HR24 HR34 HR4 HB4
  go_upto_region 8 with fail
  rw [← HW5.out]
  go_loopw [50, 10] (fun s50 s10 wr => ∃ (k : Nat) (V : Value), k ≤ 6 ∧ s50 = .int .i64 k ∧ s10 = V ∧ Hid (wr.ownsRow w5.heap.size 57 3 V k (tcells (L5.take k))) ∧ Hid (Below w5.heap.size w5 wr)) (fun s50 _ _ => 6 - (intOf s50).toNat)
  case atStart => exact ⟨0, _, Nat.zero_le _, rfl, rfl, HQ0, HBB0⟩
  case round =>
    clear HQ0 HBB0
    obtain ⟨k, V, hk, rfl, rfl, hO, hb⟩ := hrel
    by_cases h1 : k < 6
    · have t1 : decide ((k : Int) < 6) = true := by simp; omega
      have hK0 : (0 : Int) ≤ (k : Int) := by omega
      have hK1 : (k : Int) < (6 : Nat) := by omega
      have hK2 : (k : Int) < 6 := by omega
      obtain ⟨x, hx⟩ : ∃ x, L5[k]? = some x := ⟨_, List.getElem?_eq_getElem (show k < L5.length from h1)⟩
      obtain ⟨c0, c1, c2⟩ := HLI.out wr hb.out k x hx
      have hst : L5.take (k + 1) = L5.take k ++ [x] := by rw [List.take_add_one, hx]; rfl
      have htc : ∀ (L : List (Int × Int × Int)) (x : Int × Int × Int), tcells (L ++ [x]) = tcells L ++ [.int .i64 x.1, .int .i64 x.2.1, .int .i64 x.2.2] := fun L x => by
        induction L with
        | nil => rfl
        | cons y L ih => show _ :: _ :: _ :: tcells (L ++ [x]) = _; rw [ih]; rfl
      obtain ⟨x0, x1, x2⟩ := x
      simp only at c0 c1 c2
      have HST : Hid (tcells (L5.take (k + 1)) = tcells (L5.take k) ++ [.int .i64 x0, .int .i64 x1, .int .i64 x2]) := by show _ = _; rw [hst, htc]
      have hO2 := (hO.out.alloc (.cells #[.int .i64 x0, .int .i64 x1, .int .i64 x2] 73)).alloc (.cells #[.int .i64 x0, .int .i64 x1, .int .i64 x2] 57)
      have HFA := Lib.hid hO2
      have hws := hb.out.size
      have HLT : Hid (∀ (i : Nat) (u : Value), [Value.int .i64 x0, .int .i64 x1, .int .i64 x2][i]? = some u → ((wr.alloc (.cells #[.int .i64 x0, .int .i64 x1, .int .i64 x2] 73)).alloc (.cells #[.int .i64 x0, .int .i64 x1, .int .i64 x2] 57)).cell? ((⟨wr.heap.size + 1, 0, none⟩ : Addr).add i) = some u) := fun i u hi => by
        rw [← hi, add_off, World.cell?_alloc_at _ _ _ _ (by simp)]
        simp
      clear hx hst htc hO2
      go_wp2_with (at_builtin; refine wpList_append_lies _ rfl (.tmp 54) (.tmp 62) 27 rfl w5.heap.size 57 iL (.agg #[.int .i64 0, .int .i64 0, .int .i64 0]) 3 24 Try.underlying27 hiL hl0 hl1 hl2 rfl (by decide) _ k (tcells (L5.take k)) rfl HFA.out ⟨wr.heap.size + 1, 0, none⟩ 1 1 [.int .i64 x0, .int .i64 x1, .int .i64 x2] (by simp [Act.eval]) rfl HLT.out (by simp [Value.oneCell']) (by omega) (by simp [maxLen]; omega) (by omega) (by simp; omega) (wr.heap.size + 1 + 1) (by simp) ?_; intro g7 c7 w7 hr7 hg7 ho7 hlt7; have HR7 := Lib.hid hr7; have HG7 := Lib.hid hg7; clear hr7 hg7 ho7 hlt7)
      go_roundw
      case rel =>
        refine ⟨k + 1, _, by omega, by go_num, rfl, ?_, ?_⟩
        · show World.ownsRow _ _ _ _ _ _ _
          rw [HST.out]
          exact HR7.out
        · exact ((hb.out.alloc hws _).alloc (by simp; omega) _).grown HG7.out (by simp; omega) (fun q e => (HFA.out.lt q e).1)
      case measure => simp [intOf]; omega
    · obtain rfl : k = 6 := by omega
      obtain ⟨AV, cv, rfl⟩ : ∃ AV cv, u10 = .slice AV 6 cv := by
        rcases Joins.ownsRow_forms hO.out with ⟨e, h0⟩ | ⟨g, cap, e⟩
        · exact absurd h0 (by decide)
        · exact ⟨_, cap, e⟩
      have hRW : RdL wr AV L5 := own_rdL hO.out
      have HRW := Lib.hid hRW
      have HBX := Lib.hid (next_below HB5.out hb.out)
      have HT6 := Lib.hid (HT5.out.below hb.out)
      have HR26 := Lib.hid (HR25.out.below hb.out)
      have HR36 := Lib.hid (HR35.out.below hb.out)
      have HR46 := Lib.hid (HR45.out.below hb.out)
      clear hRW hO hb HT5 HR25 HR35 HR45 HLI HB5
      go_wp2_with fail
      refine (sameL_any (some ⟨B, 0, none⟩) AV 6 cv 6 6 L5 L5 wr HT6.out HRW.out (by omega) (by omega) rfl rfl).mono ?_
      rintro e w7 ⟨he, hb7⟩
      have he : e = .returned (.bool true) := he
      subst he
      have HBY := Lib.hid (next_below HBX.out hb7)
      have hb8 := next_below hb7 ((Below.refl _ w7).alloc (Nat.le_refl _) (.cells #[.int .i64 4, .int .i64 5] 51))
      have HR27 := Lib.hid (HR26.out.below hb8)
      have HR37 := Lib.hid (HR36.out.below hb8)
      have HR47 := Lib.hid (HR46.out.below hb8)
      have HBZ := Lib.hid (next_below HBX.out hb8)
      have HL1 : Hid (RdP (w7.alloc (.cells #[.int .i64 4, .int .i64 5] 51)) (some ⟨w7.heap.size, 0, none⟩) [(4, 5)]) := lit_rdP (heap_alloc_new w7 _)
      clear hb7 hb8 HT6 HRW HR26 HR36 HR46 HBX HBY
      go_wp2_with fail
      refine (samePr_any A2 (some ⟨w7.heap.size, 0, none⟩) c2 1 1 1 [(4, 5)] [(4, 5)] _ HR27.out HL1.out (by omega) (by omega) rfl rfl).mono ?_
      rintro e w8 ⟨he, hb9⟩
      have he : e = .returned (.bool true) := he
      subst he
      have hb10 := next_below hb9 ((Below.refl _ w8).alloc (Nat.le_refl _) (.cells (zs [2, 4]).toArray 3))
      have HR38 := Lib.hid (HR37.out.below hb10)
      have HR48 := Lib.hid (HR47.out.below hb10)
      have HBZ2 := Lib.hid (next_below HBZ.out hb10)
      have HL2 : Hid (RdZ (w8.alloc (.cells (zs [2, 4]).toArray 3)) (some ⟨w8.heap.size, 0, none⟩) [2, 4]) := lit_rdZ (heap_alloc_new w8 _)
      clear hb9 hb10 HR27 HR37 HR47 HL1 HBZ
      go_wp2_with fail
      refine (sameZ_any A3 (some ⟨w8.heap.size, 0, none⟩) c3 2 2 2 [2, 4] [2, 4] _ HR38.out HL2.out (by omega) (by omega) rfl rfl).mono ?_
      rintro e w9 ⟨he, hb11⟩
      have he : e = .returned (.bool true) := he
      subst he
      have HR49 := Lib.hid (HR48.out.below hb11)
      have HBZ3 := Lib.hid (next_below HBZ2.out hb11)
      have HL3 := Lib.hid (lit_rdPP w9)
      have HB3 : Hid (Below w9.heap.size w9 ((((w9.alloc (.cells (pcells [(0, 1), (0, 2), (1, 2)]).toArray 51)).alloc (.cells (pcells [(2, 3), (2, 4), (3, 4)]).toArray 51)).alloc (.cells (pcells [(4, 5)]).toArray 51)).alloc
    (.cells #[.slice (some ⟨w9.heap.size, 0, none⟩) 3 3, .slice (some ⟨w9.heap.size + 1, 0, none⟩) 3 3, .slice (some ⟨w9.heap.size + 1 + 1, 0, none⟩) 1 1] 22))) := ((((Below.refl _ w9).alloc (Nat.le_refl _) _).alloc (by simp) _).alloc (by simp; omega) _).alloc (by simp; omega) _
      clear hb11 HR38 HR48 HL2 HBZ2
      go_wp2_with fail
      refine (samePP_any A4 (some ⟨w9.heap.size + 1 + 1 + 1, 0, none⟩) c4 3 3 3 G5 G5 _ (HR49.out.below HB3.out) HL3.out (by decide) (by decide) (by omega) (by omega) rfl rfl).mono ?_
      rintro e w10 ⟨he, hb12⟩
      have he : e = .returned (.bool true) := he
      subst he
      have HBZ4 := Lib.hid (next_below HBZ3.out (next_below HB3.out hb12))
      clear hb12
      go_wp2_with fail
      go_ret
      exact ⟨rfl, next_below HBW.out HBZ4.out⟩
end
end Go.Proofs.Ytlkddjpjhchjfaa
