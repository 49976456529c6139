/- BridgeNone: beside no web, and beside all edges (layer 8). -/
import Derived.Test.YtlkfpphahfendaaH19
import Derived.Test.YtlkfpphahfendaaW14
import Derived.Test.YtlkfpphahfendaaU5
import Derived.Test.YtlkfpphahfendaaU7
import Derived.Test.YtlkfpphahfendaaH16
import Derived.Test.YtlkfpphahfendaaW31
namespace Go.Proofs.Ytlkfpphahfendaa
set_option maxRecDepth 100000
open Go.RowKit

section
open Go.RowKit

theorem onW_nil (v : Nat) : onW [] v = false := rfl
theorem none_rest {n : Nat} {E : List (Int × Int)} (hg : rightG (n : Nat) E = true) : Rest n [] E E (fun v => (rT (onW []) E n E.length).getD v 0) := by
  have hin : ∀ e ∈ E, 0 ≤ e.1 ∧ e.1 < e.2 ∧ e.2 < n := fun e he => by
    obtain ⟨q, hq⟩ := List.getElem?_of_mem he
    exact rightG_edge hg hq
  have hin2 : ∀ e ∈ E, 0 ≤ e.1 ∧ e.1 < n ∧ 0 ≤ e.2 ∧ e.2 < n := fun e he => by have := hin e he; omega
  exact ⟨hin, rightG_nodup hg, (List.filter_eq_self.2 (fun e _ => by simp)).symm, rT_lt _ _ n hin2 _, rT_iff _ _ n hin2 _⟩
theorem edge_rch8 {N : Nat} {E : List (Int × Int)} (hg : rightG (N : Nat) E = true) {p q : Nat} (hp : p < N) (h : adj (tabG N E) p q) : Rch N E p q := by
  have hd := dist_is hg hp
  have := hd.step p hp (by rw [hd.zero]; exact Int.le_refl _) q h
  exact this.1
/-- To hang together is to be come to. -/
theorem cn_rch {n : Nat} {E : List (Int × Int)} (hg : rightG (n : Nat) E = true) : ∀ (k u v : Nat), u < n → v < n → cnR (onW []) E k u v → Rch n E u v
  | 0, u, v, hu, hv, h => by
    have h : u = v := h
    subst h
    exact Rch.rfl_ hg hu
  | k + 1, u, v, hu, hv, h => by
    have ih := cn_rch hg k
    cases he : E[k]? with
    | none =>
      have h : (match E[k]? with | none => cnR (onW []) E k u v | some e => _) := h
      rw [he] at h
      exact ih u v hu hv h
    | some e =>
      obtain ⟨p, q, rfl, h1, h2, _, _⟩ := (none_rest hg).get he
      rw [cnR_off he rfl] at h
      obtain ⟨a1, a2, _, _⟩ := edge_adj hg he
      have e1 := edge_rch8 hg h1 a1
      have e2 := edge_rch8 hg h2 a2
      rcases h with h | ⟨c1, c2⟩ | ⟨c1, c2⟩
      · exact ih u v hu hv h
      · exact Rch.trans_ hg hu h1 hv (ih u p hu h1 c1) (Rch.trans_ hg h1 h2 hv e1 (Rch.symm_ hg hv h2 (ih v q hv h2 c2)))
      · exact Rch.trans_ hg hu h2 hv (ih u q hu h2 c1) (Rch.trans_ hg h2 h1 hv e2 (Rch.symm_ hg hv h1 (ih v p hv h1 c2)))
theorem adj_edge {n : Nat} {E : List (Int × Int)} (hg : rightG (n : Nat) E = true) {u v : Nat} (hu : u < n) (hv : v < n) (h : adj (tabG n E) u v) : ∃ (k p q : Nat), E[k]? = some ((p : Int), (q : Int)) ∧ (p = u ∧ q = v ∨ p = v ∧ q = u) := by
  have hh := (hasG_adj hg hu hv).2 h
  unfold hasG at hh
  rw [decide_eq_true_iff] at hh
  obtain ⟨k, hk⟩ := List.getElem?_of_mem hh
  rcases Nat.lt_or_ge u v with h1 | h1
  · refine ⟨k, u, v, ?_, .inl ⟨rfl, rfl⟩⟩
    rw [hk, show min (u : Int) v = u by omega, show max (u : Int) v = v by omega]
  · refine ⟨k, v, u, ?_, .inr ⟨rfl, rfl⟩⟩
    rw [hk, show min (u : Int) v = v by omega, show max (u : Int) v = u by omega]
theorem rch_root {n : Nat} {E : List (Int × Int)} {r : Nat → Nat} (hg : rightG (n : Nat) E = true) (hR : Rest n [] E E r) {u : Nat} (hu : u < n) : ∀ (d v : Nat), v < n → gd (distOf (tabG n E) n u) v = (d : Int) → r u = r v
  | 0, v, hv, h => by rw [(dist_is hg hu).only v hv h]
  | d + 1, v, hv, h => by
    obtain ⟨x, hx, ha, hd⟩ := (dist_is hg hu).from_ v hv (by omega)
    rw [rch_root hg hR hu d x hx (by omega)]
    obtain ⟨k, p, q, he, hc⟩ := adj_edge hg hx hv ha
    have hj := hR.joined he rfl rfl
    rcases hc with ⟨rfl, rfl⟩ | ⟨rfl, rfl⟩
    · exact hj
    · exact hj.symm
theorem root_rch {n : Nat} {E : List (Int × Int)} {r : Nat → Nat} (hg : rightG (n : Nat) E = true) (hR : Rest n [] E E r) {u v : Nat} (hu : u < n) (hv : v < n) : r u = r v ↔ Rch n E u v := by
  constructor
  · intro h
    exact cn_rch hg _ u v hu hv ((hR.iff u v hu hv).1 h)
  · intro h
    unfold Rch at h
    exact rch_root hg hR hu (gd (distOf (tabG n E) n u) v).toNat v hv (by omega)
theorem own_none {n : Nat} {E : List (Int × Int)} {r : Nat → Nat} (hR : Rest n [] E E r) {k p q : Nat} (he : E[k]? = some ((p : Int), (q : Int))) : ownF n (onW []) r E k = r p := (hR.own_end he (.inl rfl) rfl).1
/-- As many fragments as parts that have an edge. -/
theorem none_count {n : Nat} {E : List (Int × Int)} (hg : rightG (n : Nat) E = true) : (fragsF n E []).length = ((prun (tabG n E) n n).2.filter fun p => decide (1 < p.length)).length := by
  have hok : (leftP [] E E.length).2 = ([] : List (Int × Int)).length := (web_ok hg).2 ⟨rightG_of8 ⟨(rightG_bounds hg).1, (rightG_bounds hg).2.1⟩ (by simp) (by simp) List.Pairwise.nil, by simp⟩
  have hL : (leftP [] E E.length).1 = E := by
    rw [(leftP_rest (rightG_nodup hg) hok).2]
    simp
  have hR := none_rest hg
  unfold fragsF
  rw [hL]
  generalize (fun v => (rT (onW []) E n E.length).getD v 0) = r at hR ⊢
  rw [List.length_map, fragsO_length]
  have hI := pinv hg n (Nat.le_refl _)
  generalize (prun (tabG n E) n n).2 = P at hI ⊢
  generalize (prun (tabG n E) n n).1 = M at hI
  have e1 : (firsts (ownF n (onW []) r E) E.length).length = ((firsts (ownF n (onW []) r E) E.length).map (ownF n (onW []) r E)).length := by rw [List.length_map]
  have e2 : (P.filter fun p => decide (1 < p.length)).length = ((P.filter fun p => decide (1 < p.length)).map fun p => r (p.getD 0 0).toNat).length := by rw [List.length_map]
  rw [e1, e2]
  refine List.Perm.length_eq ((List.perm_ext_iff_of_nodup ?_ ?_).2 ?_)
  · rw [List.Nodup, List.pairwise_map]
    have hp : (firsts (ownF n (onW []) r E) E.length).Pairwise (· < ·) := List.pairwise_lt_range.filter _
    refine List.Pairwise.imp_of_mem ?_ hp
    intro a b ha hb hab
    exact (mem_firsts.1 hb).2 a hab
  · rw [List.Nodup, List.pairwise_map]
    refine List.Pairwise.filter _ ?_
    rw [List.pairwise_iff_getElem]
    intro i j hi hj hij e
    obtain ⟨a, ha, hp, hp0⟩ := hI.part i P[i] (List.getElem?_eq_getElem hi)
    obtain ⟨b, hb, hq, hq0⟩ := hI.part j P[j] (List.getElem?_eq_getElem hj)
    rw [show P[i].getD 0 0 = (a : Int) by rw [List.getD_eq_getElem?_getD, hp0]; rfl, show P[j].getD 0 0 = (b : Int) by rw [List.getD_eq_getElem?_getD, hq0]; rfl] at e
    simp only [Int.toNat_natCast] at e
    have hab := (root_rch hg hR ha hb).1 e
    have h1 : (b : Int) ∈ P[i] := by rw [hp]; exact reachN_mem.2 ⟨hb, hab⟩
    have h2 : (b : Int) ∈ P[j] := List.mem_of_getElem? hq0
    have := hI.once i j P[i] P[j] (b : Int) (List.getElem?_eq_getElem hi) (List.getElem?_eq_getElem hj) h1 h2
    omega
  · intro x
    rw [List.mem_map, List.mem_map]
    constructor
    · rintro ⟨h, hh, rfl⟩
      have hhm := (mem_firsts.1 hh).1
      obtain ⟨e, he⟩ : ∃ e, E[h]? = some e := ⟨_, List.getElem?_eq_getElem hhm⟩
      obtain ⟨p, q, rfl, h1, h2, _, _⟩ := hR.get he
      obtain ⟨a1, _, hpq, _⟩ := edge_adj hg he
      obtain ⟨i, pt, hpt, hm⟩ := (hI.cover p h1).1 (hI.asked p h1)
      obtain ⟨a, ha, hpe, hp0⟩ := hI.part i pt hpt
      have hm1 : p < n ∧ 0 ≤ gd (distOf (tabG n E) n a) p := by rw [hpe] at hm; exact reachN_mem.1 hm
      have hm2 : (q : Int) ∈ pt := by
        rw [hpe]
        exact reachN_mem.2 ⟨h2, Rch.trans_ hg ha h1 h2 hm1.2 (edge_rch8 hg h1 a1)⟩
      refine ⟨pt, List.mem_filter.2 ⟨List.mem_of_getElem? hpt, ?_⟩, ?_⟩
      · rw [decide_eq_true_iff]
        match pt, hm, hm2 with
        | [], hm, _ => cases hm
        | [z], hm, hm2 =>
          simp at hm hm2
          omega
        | _ :: _ :: _, _, _ => simp
      · rw [show pt.getD 0 0 = (a : Int) by rw [List.getD_eq_getElem?_getD, hp0]; rfl, Int.toNat_natCast, own_none hR he]
        exact (root_rch hg hR ha h1).2 hm1.2
    · rintro ⟨pt, hpt, rfl⟩
      obtain ⟨hpm, hpl⟩ := List.mem_filter.1 hpt
      rw [decide_eq_true_iff] at hpl
      obtain ⟨i, hi⟩ := List.getElem?_of_mem hpm
      obtain ⟨a, ha, hpe, hp0⟩ := hI.part i pt hi
      rw [show pt.getD 0 0 = (a : Int) by rw [List.getD_eq_getElem?_getD, hp0]; rfl, Int.toNat_natCast]
      have h1 : pt[1]? = some pt[1] := List.getElem?_eq_getElem hpl
      generalize pt[1] = z at h1
      have hzm : z ∈ pt := List.mem_of_getElem? h1
      have hzm2 := hzm
      rw [hpe] at hzm2
      obtain ⟨v, rfl⟩ := reachN_all hzm2
      obtain ⟨hvn, hv0⟩ := reachN_mem.1 hzm2
      have hne : v ≠ a := by
        intro e
        subst e
        have hup := reachN_up (distOf (tabG n E) n v) n
        rw [← hpe, List.pairwise_iff_getElem] at hup
        have h01 := hup 0 1 (by omega) hpl (by omega)
        obtain ⟨_, e0⟩ := List.getElem?_eq_some_iff.1 hp0
        obtain ⟨_, e1⟩ := List.getElem?_eq_some_iff.1 h1
        omega
      have hpos : 0 < gd (distOf (tabG n E) n a) v := by
        rcases Int.lt_or_eq_of_le hv0 with h | h
        · exact h
        · exact absurd ((dist_is hg ha).only v hvn h.symm) hne
      obtain ⟨y, hy, hadj, _⟩ := (dist_is hg ha).from_ v hvn hpos
      obtain ⟨k, p, q, he, hc⟩ := adj_edge hg hy hvn hadj
      have hra : r a = r v := (root_rch hg hR ha hvn).2 hv0
      have hk := (List.getElem?_eq_some_iff.1 he).1
      have hown : ownF n (onW []) r E k = r a := by
        rw [own_none hR he, hra]
        have hj := hR.joined he rfl rfl
        rcases hc with ⟨_, rfl⟩ | ⟨rfl, _⟩
        · exact hj
        · rfl
      obtain ⟨f, hf, hfo, _⟩ := first_of (ownF n (onW []) r E) E.length k hk
      exact ⟨f, hf, hfo.trans hown⟩
theorem none_feet {n : Nat} {E : List (Int × Int)} : ∀ x ∈ fragsF n E [], x.2 = [] := by
  intro x hx
  unfold fragsF fragsO at hx
  rw [List.map_map, List.mem_map] at hx
  obtain ⟨l, _, rfl⟩ := hx
  have h1 : ∀ e : Int × Int, feetOf (onW []) e = [] := fun e => rfl
  have h2 : (l.flatMap fun i => feetOf (onW []) ((leftP [] E E.length).1.getD i (0, 0))) = [] := by
    rw [List.flatMap_eq_nil_iff]
    intro i _
    exact h1 _
  show Lib.compact (srtZ (l.flatMap fun i => feetOf (onW []) ((leftP [] E E.length).1.getD i (0, 0)))) = []
  rw [h2]
  have h3 : srtZ [] = [] := by simp [srtZ]
  rw [h3]
  rfl
theorem all_none {n : Nat} {E : List (Int × Int)} (hg : rightG (n : Nat) E = true) : fragsT (n : Nat) E E = ([], 0) := by
  have hok : (leftP E E E.length).2 = E.length := (web_ok hg).2 ⟨hg, fun e he => he⟩
  unfold fragsT
  rw [if_neg (by rw [hg]; simp), if_pos hok]
  have hL : (leftP E E E.length).1 = [] := by
    rw [(leftP_rest (rightG_nodup hg) hok).2, List.filter_eq_nil_iff]
    intro e he
    simpa using he
  unfold fragsF
  rw [hL]
  rfl
theorem none_ok {n : Nat} {E : List (Int × Int)} (hg : rightG (n : Nat) E = true) : fragsT (n : Nat) E [] = (fragsF n E [], 0) := by
  have hok : (leftP [] E E.length).2 = ([] : List (Int × Int)).length := (web_ok hg).2 ⟨rightG_of8 ⟨(rightG_bounds hg).1, (rightG_bounds hg).2.1⟩ (by simp) (by simp) List.Pairwise.nil, by simp⟩
  unfold fragsT
  rw [if_neg (by rw [hg]; simp), if_pos hok]
  rfl
end
/-- A graph that is looked at here. -/
def rightS (N : Int) (E : List (Int × Int)) : Bool := rightG N E && decide (N ≤ 30)
theorem rightS_any (A : Option Addr) (c n : Nat) (N : Int) (E : List (Int × Int)) (w : World) (hr : RdP w A E) (hn : n = E.length) :
    Calls Try.prog 16 #[.agg #[.int .i64 N, .slice A n c]] w fun e w' => e = .returned (.bool (rightS N E)) ∧ Below w.heap.size w w' := by
  obtain ⟨X, hX⟩ : ∃ X, X = w.alloc (.cells #[.int .i64 N, .slice A n c] 24) := ⟨_, rfl⟩
  have hb : Below w.heap.size w X := by rw [hX]; exact (Below.refl _ _).alloc (Nat.le_refl _) _
  have hXS : w.heap.size < X.heap.size := by rw [hX]; simp
  obtain ⟨j0, j1, _, _⟩ := cells_two (w := X) (by rw [hX]; exact heap_alloc_new w _)
  have HJ : Hid (∀ w', Below X.heap.size X w' → w'.cell? ⟨w.heap.size, 0, none⟩ = some (.int .i64 N) ∧ w'.cell? ⟨w.heap.size, 1, none⟩ = some (.slice A n c)) := fun w' hb =>
    ⟨by rw [hb.cell (by show w.heap.size < _; omega)]; exact j0, by rw [hb.cell (by show w.heap.size < _; omega)]; exact j1⟩
  have HR := right_any A c n N E X (hr.below hb) hn
  obtain ⟨p, hp⟩ : ∃ p, rightG N E = p := ⟨_, rfl⟩
  unfold rightS
  rw [hp] at HR ⊢
  have HR := Lib.hid HR
  have HX := Lib.hid hX
  have HB := Lib.hid hb
  clear hr hn hX hb hp
  cases h30 : decide (N ≤ 30)
  all_goals
    have h31 : decide (N ≤ 30) = decide (N ≤ 30) := rfl
    clear h31
    go_enter Try.func16, Try.ntmps16
    go_wp2_with fail
    rw [← HX.out]
    refine HR.out.mono ?_
    rintro e w1 ⟨rfl, hb1⟩
    have HB1 := Lib.hid hb1
    clear hb1
    obtain ⟨k0, k1⟩ := HJ.out w1 HB1.out
    cases p
    all_goals
      go_wp2_with fail
      go_ret
      exact ⟨rfl, HB.out.trans (HB1.out.mono (Nat.le_of_lt hXS))⟩
set_option maxHeartbeats 16000000 in
theorem none_walk_g (A : Option Addr) (c n : Nat) (N : Int) (E : List (Int × Int)) (w : World) (hr : RdP w A E) (hn : n = E.length) (hcn : n ≤ c) (hcc : c ≤ 9223372036854775807) :
    Calls Try.prog 7 #[.agg #[.int .i64 N, .slice A n c]] w fun e w' => e = .returned (.bool true) ∧ Below w.heap.size w w' := by
  obtain ⟨X, hX⟩ : ∃ X, X = w.alloc (.cells #[.int .i64 N, .slice A n c] 24) := ⟨_, rfl⟩
  have hb : Below w.heap.size w X := by rw [hX]; exact (Below.refl _ _).alloc (Nat.le_refl _) _
  have hXS : w.heap.size < X.heap.size := by rw [hX]; simp
  obtain ⟨j0, j1, _, _⟩ := cells_two (w := X) (by rw [hX]; exact heap_alloc_new w _)
  have HJ : Hid (∀ w', Below X.heap.size X w' → w'.cell? ⟨w.heap.size, 0, none⟩ = some (.int .i64 N) ∧ w'.cell? ⟨w.heap.size, 1, none⟩ = some (.slice A n c)) := fun w' hb =>
    ⟨by rw [hb.cell (by show w.heap.size < _; omega)]; exact j0, by rw [hb.cell (by show w.heap.size < _; omega)]; exact j1⟩
  have HR := rightS_any A c n N E X (hr.below hb) hn
  obtain ⟨p, hp⟩ : ∃ p, rightS N E = p := ⟨_, rfl⟩
  rw [hp] at HR
  have HR := Lib.hid HR
  have HE := Lib.hid (hr.below hb)
  have HN := Lib.hid hn
  have HX := Lib.hid hX
  have HB := Lib.hid hb
  have HP := Lib.hid hp
  clear hr hn hX hb hp
  go_enter Try.func7, Try.ntmps7
  go_wp2_with fail
  rw [← HX.out]
  refine HR.out.mono ?_
  rintro e w1 ⟨rfl, hb1⟩
  have HB1 := Lib.hid hb1
  clear hb1 j0 j1 HR
  cases p with
  | false =>
    go_wp2_with fail
    refine (awake_any w1).mono ?_
    rintro e w2 ⟨rfl, hb2⟩
    go_wp2_with fail
    go_ret
    exact ⟨rfl, HB.out.trans ((next_below HB1.out hb2).mono (Nat.le_of_lt hXS))⟩
  | true =>
    have hp := HP.out
    unfold rightS at hp
    rw [Bool.and_eq_true] at hp
    have hg := hp.1
    have hn6 : n ≤ 594 := by rw [HN.out]; exact (rightG_bounds hg).2.2
    obtain ⟨Nn, rfl⟩ := Int.eq_ofNat_of_zero_le (rightG_bounds hg).1
    have HG := Lib.hid hg
    clear hp hg
    obtain ⟨j0, j1⟩ := HJ.out w1 HB1.out
    have HT := fragsTT A none c 0 n 0 (Nn : Nat) E [] w1 (HE.out.below HB1.out) (fun q e hq => by simp at hq) HN.out rfl (Nat.le_refl _) (by omega)
    rw [none_ok HG.out] at HT
    have HT := Lib.hid HT
    go_wp2_with fail
    refine HT.out.mono ?_
    rintro e w2 ⟨A2, l2, c2, rfl, hl2, r2, hb⟩
    have HB2 := Lib.hid (next_below HB1.out hb)
    have R2 := Lib.hid r2
    have HL2 := Lib.hid hl2
    have hl2b : l2 ≤ 1000 := by
      have h1 := (fragsT_small (Nn : Nat) E [] (by rw [← HN.out]; omega)).1
      rw [none_ok HG.out] at h1
      rw [hl2]
      exact h1
    clear hb r2 hl2 HT j0 j1
    obtain ⟨j0, j1⟩ := HJ.out w2 HB2.out
    have HT := fragsTT A A c c n n (Nn : Nat) E E w2 (HE.out.below HB2.out) (HE.out.below HB2.out) HN.out HN.out hcn hcc
    rw [all_none HG.out] at HT
    have HT := Lib.hid HT
    go_wp2_with fail
    refine HT.out.mono ?_
    rintro e w3 ⟨A3, l3, c3, rfl, hl3, _, hb⟩
    obtain rfl : l3 = 0 := hl3
    have HB3 := Lib.hid (next_below HB2.out hb)
    have R2 := Lib.hid (R2.out.below hb)
    clear hb HT j0 j1
    obtain ⟨j0, j1⟩ := HJ.out w3 HB3.out
    have HPT := Lib.hid (parts_any A c n Nn E w3 (HE.out.below HB3.out) HN.out HG.out)
    go_wp2_with fail
    refine HPT.out.mono ?_
    rintro e w4 ⟨Bp, kp, capp, us, rfl, hkp, hpr, hb⟩
    have HB4 := Lib.hid (next_below HB3.out hb)
    have R2 := Lib.hid (R2.out.below hb)
    have RP := Lib.hid hpr.rd
    have hkb : kp ≤ 200 := by
      rw [hkp]
      have h1 := prun_out (tabG Nn E) Nn Nn
      have h2 := (rightG_bounds HG.out).2.1
      omega
    have HKP := Lib.hid hkp
    have HB40 := Lib.hid (Below.refl w4.heap.size w4)
    obtain ⟨P, hP⟩ : ∃ P, (prun (tabG Nn E) Nn Nn).2 = P := ⟨_, rfl⟩
    rw [hP] at RP HKP
    have HCN := none_count HG.out
    rw [hP] at HCN
    have HCN := Lib.hid HCN
    clear hb HPT j0 j1 hkp hpr hP
    go_wp2_with fail
    go_loopw [40, 7] (fun s40 s7 wr => ∃ (i t : Nat), i ≤ kp ∧ t ≤ i ∧ s40 = .int .i64 i ∧ s7 = .int .i64 t ∧ Hid (t = ((P.take i).filter fun p => decide (1 < p.length)).length) ∧ Hid (wr = w4)) (fun s40 _ _ => kp - (intOf s40).toNat)
    case atStart => exact ⟨0, 0, Nat.zero_le _, Nat.le_refl _, rfl, rfl, rfl, rfl⟩
    case round =>
      obtain ⟨i, t, hi, hti, rfl, rfl, ht, hw⟩ := hrel
      rw [hw.out]
      clear hw
      by_cases h1 : i < kp
      · have t1 : decide ((i : Int) < (kp : Int)) = true := by simp; omega
        have hI0 : (0 : Int) ≤ (i : Int) := by omega
        have hI1 : (i : Int) < (kp : Nat) := by omega
        obtain ⟨xs, hx⟩ : ∃ xs, P[i]? = some xs := ⟨_, List.getElem?_eq_getElem (by rw [← HKP.out]; exact h1)⟩
        obtain ⟨ad, Bx, cx, rfl, _, q0, _⟩ := RP.out i xs hx
        have hst : ((P.take (i + 1)).filter fun p => decide (1 < p.length)).length = t + (if 1 < xs.length then 1 else 0) := by
          rw [List.take_add_one, hx, List.filter_append, List.length_append, ← ht.out]
          by_cases h : 1 < xs.length <;> simp [h]
        have HST := Lib.hid hst
        obtain ⟨lx, hlx⟩ : ∃ lx, xs.length = lx := ⟨_, rfl⟩
        rw [hlx] at q0 HST
        clear hst hx hlx
        by_cases h2 : 1 < lx
        · have d1 : decide ((1 : Int) < (lx : Int)) = true := by simp; omega
          have d2 : decide (1 < lx) = true := by simp; omega
          have hw1 : IntKind.i64.wrap ((t : Int) + 1) = ((t + 1 : Nat) : Int) := (IntWalk.i64_in _ (by omega)).trans (by omega)
          go_wp2_with fail
          go_roundw
          case rel => exact ⟨i + 1, t + 1, by omega, by omega, by go_num, by go_num, by rw [HST.out, if_pos h2]; rfl, Lib.hid trivial⟩
          case measure => simp [intOf]; omega
        · have d1 : decide ((1 : Int) < (lx : Int)) = false := by simp; omega
          have d2 : decide (1 < lx) = false := by simp; omega
          go_wp2_with fail
          go_roundw
          case rel => exact ⟨i + 1, t, by omega, by omega, by go_num, rfl, by rw [HST.out, if_neg h2]; rfl, Lib.hid trivial⟩
          case measure => simp [intOf]; omega
      · obtain rfl : i = kp := by omega
        have t1 : decide ((i : Int) < (i : Int)) = false := by simp
        have HTL : Hid (t = l2) := by
          show _ = _
          rw [ht.out, HL2.out, HKP.out, List.take_length]
          exact HCN.out.symm
        clear ht
        go_wp2_with fail
        go_loopw [52] (fun s52 wr => ∃ j : Nat, j ≤ l2 ∧ s52 = .int .i64 j ∧ Hid (Below w4.heap.size w4 wr)) (fun s52 _ => l2 - (intOf s52).toNat)
        case atStart => exact ⟨0, Nat.zero_le _, rfl, HB40⟩
        case round =>
          obtain ⟨j, hj, rfl, hbel⟩ := hrel
          by_cases h3 : j < l2
          · have t3 : decide ((j : Int) < (l2 : Int)) = true := by simp; omega
            have hJ0 : (0 : Int) ≤ (j : Int) := by omega
            have hJ1 : (j : Int) < (l2 : Nat) := by omega
            obtain ⟨x, hx⟩ : ∃ x, (fragsF Nn E [])[j]? = some x := ⟨_, List.getElem?_eq_getElem (by have h : l2 = (fragsF Nn E []).length := HL2.out; omega)⟩
            obtain ⟨ad, B1, B2, x1, x2, rfl, hal, q0, q1, _, _⟩ := (R2.out.below hbel.out) j x hx
            have h0 : x.2.length = 0 := by rw [none_feet x (List.mem_of_getElem? hx)]; rfl
            rw [h0] at q1
            obtain ⟨lx, hlx⟩ : ∃ lx, x.1.length = lx := ⟨_, rfl⟩
            rw [hlx] at q0
            have HBA := Lib.hid (next_below hbel.out ((Below.refl _ _).alloc (Nat.le_refl _) (.cells #[.slice B1 lx x1, .slice B2 0 x2] 43)))
            clear hx h0 hlx hal
            go_wp2_with fail
            go_roundw
            case rel => exact ⟨j + 1, by omega, by go_num, HBA⟩
            case measure => simp [intOf]; omega
          · obtain rfl : j = l2 := by omega
            have t3 : decide ((j : Int) < (j : Int)) = false := by simp
            have e1 : ((j : Int) == (t : Int)) = true := by rw [HTL.out]; simp
            have e2 : (j == t) = true := by rw [HTL.out]; simp
            go_wp2_with fail
            refine (awake_any wr).mono ?_
            rintro e w9 ⟨rfl, hb⟩
            have HB9 := Lib.hid (next_below HB4.out (next_below hbel.out hb))
            clear hb
            go_wp2_with fail
            go_ret
            exact ⟨rfl, HB.out.trans (HB9.out.mono (Nat.le_of_lt hXS))⟩
theorem none_walk (v0 : Value) (w : World) (h0 : OkGraph w v0) : Calls Try.prog 7 #[v0] w fun e w' => e = .returned (.bool true) ∧ Below w.heap.size w w' := by
  obtain ⟨N, A, c, E, rfl, _, _, hr, h1, h2, _⟩ := h0
  exact none_walk_g A c E.length N E w hr rfl h1 h2
end Go.Proofs.Ytlkfpphahfendaa
