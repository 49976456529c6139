/- BridgeWays: between feet there is a way (layer 8). -/
import Derived.Test.YtlkfpphahfendaaH20
import Derived.Test.YtlkfpphahfendaaH21
import Derived.Test.YtlkfpphahfendaaW16
namespace Go.Proofs.Ytlkfpphahfendaa
set_option maxRecDepth 100000
open Go.RowKit


/-- What is known of a graph, a web in it, and what is left. -/
theorem rest_of {n : Nat} {E W : List (Int × Int)} (h : rightG (n : Nat) E = true) (hok : (leftP W E E.length).2 = W.length) : Rest n W E (leftP W E E.length).1 (fun v => (rT (onW W) (leftP W E E.length).1 n (leftP W E E.length).1.length).getD v 0) := by
  obtain ⟨_, h2⟩ := leftP_rest (rightG_nodup h) hok
  have hin : ∀ e ∈ E, 0 ≤ e.1 ∧ e.1 < e.2 ∧ e.2 < n := fun e he => by
    obtain ⟨q, hq⟩ := List.getElem?_of_mem he
    exact rightG_edge h hq
  have hin2 : ∀ e ∈ (leftP W E E.length).1, 0 ≤ e.1 ∧ e.1 < n ∧ 0 ≤ e.2 ∧ e.2 < n := fun e he => by
    rw [h2] at he
    have := hin e (List.mem_filter.1 he).1
    omega
  exact ⟨hin, rightG_nodup h, h2, rT_lt _ _ n hin2 _, rT_iff _ _ n hin2 _⟩
/-- Each fragment is all that hangs together with an edge that is left, and its feet. -/
theorem frag_is {n : Nat} {E W : List (Int × Int)} (h : rightG (n : Nat) E = true) (hok : (leftP W E E.length).2 = W.length) {x : List (Int × Int) × List Int} (hx : x ∈ fragsF n E W) : ∃ e, e ∈ E ∧ e ∉ W ∧ x = (grp W E e, feetR W (grp W E e) n) := by
  have hR := rest_of h hok
  rw [fragsF_ref h hok] at hx
  obtain ⟨q, h1, h2, _⟩ := refS_inv hR E.length (Nat.le_refl _)
  rw [h2, List.mem_map] at hx
  obtain ⟨i, hi, rfl⟩ := hx
  have hq : q = (leftP W E E.length).1.length := by rw [← h1, List.take_length, ← hR.is]
  have hiq := (mem_firsts.1 hi).1
  have hm : (leftP W E E.length).1.getD i (0, 0) ∈ (leftP W E E.length).1 := by
    rw [List.getD_eq_getElem?_getD, List.getElem?_eq_getElem (by omega)]
    exact List.getElem_mem _
  obtain ⟨a, b⟩ := hR.mem.1 hm
  exact ⟨_, a, b, rfl⟩
def okEnd (W : List (Int × Int)) (a b v : Int) : Bool := !onZ W v || v == a || v == b
def wayE (W G : List (Int × Int)) (a b : Int) : List (Int × Int) := G.filter fun e => okEnd W a b e.1 && okEnd W a b e.2
theorem sub_right {N : Int} {E H : List (Int × Int)} (h : rightG N E = true) (hs : H.Sublist E) : rightG N H = true := by
  obtain ⟨b1, b2, b3⟩ := rightG_bounds h
  refine rightG_of8 ⟨b1, b2⟩ (Nat.le_trans hs.length_le b3) (fun e he => ?_) ((rightG_pw8 h).sublist hs)
  obtain ⟨q, hq⟩ := List.getElem?_of_mem (hs.subset he)
  exact rightG_edge h hq
theorem wayE_sub (W E : List (Int × Int)) (e0 : Int × Int) (a b : Int) : (wayE W (grp W E e0) a b).Sublist E := by
  unfold wayE grp
  exact List.filter_sublist.trans List.filter_sublist
theorem edge_way {n : Nat} {H : List (Int × Int)} (hH : rightG (n : Nat) H = true) {p q : Nat} (hm : ((p : Int), (q : Int)) ∈ H) : p < n ∧ q < n ∧ Rch n H p q ∧ Rch n H q p := by
  obtain ⟨k, hk⟩ := List.getElem?_of_mem hm
  obtain ⟨a1, a2, a3, a4⟩ := edge_adj hH hk
  exact ⟨by omega, a4, edge_rch8 hH (by omega) a1, edge_rch8 hH a4 a2⟩
theorem chain_way {n : Nat} {E W L H : List (Int × Int)} {r : Nat → Nat} (hR : Rest n W E L r) (hH : rightG (n : Nat) H = true) {key : Nat} (hin : ∀ (p q : Nat) (i : Nat), L[i]? = some ((p : Int), (q : Int)) → onW W p = false → onW W q = false → r p = key → ((p : Int), (q : Int)) ∈ H) :
    ∀ (k u v : Nat), k ≤ L.length → u < n → v < n → r u = key → cnR (onW W) L k u v → Rch n H u v
  | 0, u, v, _, hu, hv, _, h => by
    have h : u = v := h
    subst h
    exact Rch.rfl_ hH hu
  | k + 1, u, v, hk, hu, hv, hr, h => by
    have ih := chain_way hR hH hin k
    cases he : L[k]? with
    | none =>
      have h : (match L[k]? with | none => cnR (onW W) L k u v | some e => _) := h
      rw [he] at h
      exact ih u v (by omega) hu hv hr h
    | some e =>
      obtain ⟨p, q, rfl, h1, h2, _, _⟩ := hR.get he
      cases ho : onW W p || onW W q with
      | true =>
        rw [cnR_on he ho] at h
        exact ih u v (by omega) hu hv hr h
      | false =>
        rw [cnR_off he ho] at h
        obtain ⟨op, oq⟩ : onW W p = false ∧ onW W q = false := by simpa using ho
        have hpq := hR.joined he op oq
        have hup : ∀ x y, x < n → y < n → cnR (onW W) L k x y → r x = r y := fun x y hx hy hc => by
          rw [hR.iff x y hx hy]
          have := cnR_up hc (L.length - k)
          rwa [show k + (L.length - k) = L.length by omega] at this
        rcases h with h | ⟨c1, c2⟩ | ⟨c1, c2⟩
        · exact ih u v (by omega) hu hv hr h
        · have e1 := hup u p hu h1 c1
          have e2 := hup v q hv h2 c2
          obtain ⟨_, _, w1, w2⟩ := edge_way hH (hin p q k he op oq (by omega))
          exact Rch.trans_ hH hu h1 hv (ih u p (by omega) hu h1 hr c1) (Rch.trans_ hH h1 h2 hv w1 (Rch.symm_ hH hv h2 (ih v q (by omega) hv h2 (by omega) c2)))
        · have e1 := hup u q hu h2 c1
          have e2 := hup v p hv h1 c2
          obtain ⟨_, _, w1, w2⟩ := edge_way hH (hin p q k he op oq (by omega))
          exact Rch.trans_ hH hu h2 hv (ih u q (by omega) hu h2 hr c1) (Rch.trans_ hH h2 h1 hv w2 (Rch.symm_ hH hv h1 (ih v p (by omega) hv h1 (by omega) c2)))
/-- Between two feet there is a way. -/
theorem feet_way {n : Nat} {E W L : List (Int × Int)} {r : Nat → Nat} (hg : rightG (n : Nat) E = true) (hR : Rest n W E L r) {e0 : Int × Int} (he0 : e0 ∈ L) {a b : Nat} (ha : (a : Int) ∈ feetR W (grp W E e0) n) (hb : (b : Int) ∈ feetR W (grp W E e0) n) (hab : a < b) : a < n ∧ b < n ∧ Rch n (wayE W (grp W E e0) (a : Int) (b : Int)) a b := by
  have hH := sub_right hg (wayE_sub W E e0 (a : Int) (b : Int))
  obtain ⟨i0, hi0⟩ := List.getElem?_of_mem he0
  obtain ⟨a', ha1, ea, ha2, ha3⟩ := feetR_mem.1 ha
  have ea : a = a' := by omega
  subst ea
  obtain ⟨b', hb1, eb, hb2, hb3⟩ := feetR_mem.1 hb
  have eb : b = b' := by omega
  subst eb
  have hends : ∀ v : Nat, onZ (grp W E e0) (v : Int) = true → ∃ (i : Nat) (e : Int × Int), L[i]? = some e ∧ e ∈ grp W E e0 ∧ EndOf e (v : Int) ∧ ownF n (onW W) r L i = ownF n (onW W) r L i0 := by
    intro v hv
    unfold onZ at hv
    rw [List.any_eq_true] at hv
    obtain ⟨e, he, h1⟩ := hv
    obtain ⟨i, hi, ho⟩ := hR.own_cn hi0 (grp_mem.1 he).2
    exact ⟨i, e, hi, he, by simpa [EndOf] using h1, ho⟩
  obtain ⟨i, e, hi, hei, hea, hoi⟩ := hends a ha3
  obtain ⟨j, f, hj, hfj, hfb, hoj⟩ := hends b hb3
  have hinH : ∀ e, e ∈ grp W E e0 → okEnd W (a : Int) (b : Int) e.1 = true → okEnd W (a : Int) (b : Int) e.2 = true → e ∈ wayE W (grp W E e0) (a : Int) (b : Int) := fun e he h1 h2 => List.mem_filter.2 ⟨he, by rw [h1, h2]; rfl⟩
  refine ⟨ha1, hb1, ?_⟩
  have hki := (List.getElem?_eq_some_iff.1 hi).1
  have hoff : ∀ (i : Nat) (e : Int × Int) (v u : Nat), L[i]? = some e → e ∈ grp W E e0 → EndOf e (v : Int) → onW W v = true → EndOf e (u : Int) → onW W u = false → okEnd W (a : Int) (b : Int) (v : Int) = true → v < n → u < n → Rch n (wayE W (grp W E e0) (a : Int) (b : Int)) v u := by
    intro i e v u hi he hv ov hu ou hok hvn hun
    obtain ⟨p, q, rfl, _, _, _, _⟩ := hR.get hi
    have hne : v ≠ u := fun e => by rw [e, ou] at ov; cases ov
    have hku : okEnd W (a : Int) (b : Int) (u : Int) = true := by
      unfold okEnd
      rw [show onZ W (u : Int) = false from ou]
      rfl
    rcases hv with hv | hv <;> rcases hu with hu | hu
    · have h1 : (p : Int) = v := hv
      have h2 : (p : Int) = u := hu
      omega
    · have h1 : (p : Int) = v := hv
      have h2 : (q : Int) = u := hu
      have e1 : p = v := by omega
      have e2 : q = u := by omega
      subst e1; subst e2
      exact (edge_way hH (hinH _ he hok hku)).2.2.1
    · have h1 : (q : Int) = v := hv
      have h2 : (p : Int) = u := hu
      have e1 : q = v := by omega
      have e2 : p = u := by omega
      subst e1; subst e2
      exact (edge_way hH (hinH _ he hku hok)).2.2.2
    · have h1 : (q : Int) = v := hv
      have h2 : (q : Int) = u := hu
      omega
  have hka : okEnd W (a : Int) (b : Int) (a : Int) = true := by simp [okEnd]
  have hkb : okEnd W (a : Int) (b : Int) (b : Int) = true := by simp [okEnd]
  rcases hR.ends hi with ⟨u, hu, ou⟩ | hu
  · obtain ⟨e1, l1⟩ := hR.own_end hi hu ou
    rcases hR.ends hj with ⟨v, hv, ov⟩ | hv
    · obtain ⟨e2, l2⟩ := hR.own_end hj hv ov
      have huv : r u = r v := by omega
      have w1 := hoff i e a u hi hei hea ha2 hu ou hka ha1 l1
      have w2 := hoff j f b v hj hfj hfb hb2 hv ov hkb hb1 l2
      have w3 : Rch n (wayE W (grp W E e0) (a : Int) (b : Int)) u v := by
        refine chain_way hR hH (key := r u) ?_ L.length u v (Nat.le_refl _) l1 l2 rfl ((hR.iff u v l1 l2).1 huv)
        intro p q k hk op oq hrp
        have hown := (hR.own_end hk (.inl rfl) op).1
        have hc : Cn W E e0 ((p : Int), (q : Int)) := (hR.own_iff hi0 hk).1 (by omega)
        refine hinH _ (grp_mem.2 ⟨(hR.mem.1 (List.mem_of_getElem? hk)).1, hc⟩) ?_ ?_
        · unfold okEnd
          rw [show onZ W (p : Int) = false from op]
          rfl
        · unfold okEnd
          rw [show onZ W (q : Int) = false from oq]
          rfl
      exact Rch.trans_ hH ha1 l1 hb1 w1 (Rch.trans_ hH l1 l2 hb1 w3 (Rch.symm_ hH hb1 l2 w2))
    · have h2 := hR.own_on hj hv
      have r1 := hR.lt u l1
      omega
  · have h1 := hR.own_on hi hu
    rcases hR.ends hj with ⟨v, hv, ov⟩ | hv
    · obtain ⟨e2, l2⟩ := hR.own_end hj hv ov
      have r2 := hR.lt v l2
      omega
    · have h2 := hR.own_on hj hv
      have hij : i = j := by omega
      subst hij
      rw [hi] at hj
      injection hj with hj
      subst hj
      obtain ⟨p, q, rfl, _, _, _, _⟩ := hR.get hi
      have hlt := hR.inn _ (hR.mem.1 (List.mem_of_getElem? hi)).1
      simp only at hlt
      have hp : p = a ∧ q = b := by
        rcases hea with h3 | h3 <;> rcases hfb with h4 | h4 <;> simp only at h3 h4 <;> omega
      obtain ⟨rfl, rfl⟩ := hp
      exact (edge_way hH (hinH _ hei hka hkb)).2.2.1
theorem mkd_sub {E : List (Int × Int)} {bs : List Bool} {n : Nat} (hn : n = E.length) : (mkd E bs n).Sublist E := by
  subst hn
  unfold mkd
  have h := (List.filter_sublist (p := fun i => bs.getD i false) (l := List.range E.length)).map fun i => E.getD i (0, 0)
  rwa [range_getD] at h
/-- What is chosen is a web. -/
theorem chosen_web {n : Nat} {N : Int} {E : List (Int × Int)} {bs : List Bool} (hg : rightG N E = true) (hn : n = E.length) : (leftP (mkd E bs n) E E.length).2 = (mkd E bs n).length ∧ ∀ e ∈ mkd E bs n, 0 ≤ e.1 ∧ e.1 < e.2 ∧ e.2 < N := by
  have hs := mkd_sub (bs := bs) hn
  refine ⟨(web_ok hg).2 ⟨sub_right hg hs, fun e he => hs.subset he⟩, fun e he => ?_⟩
  obtain ⟨q, hq⟩ := List.getElem?_of_mem (hs.subset he)
  exact rightG_edge hg hq
/-- Edges so far along which one may go. -/
def wayP (W G : List (Int × Int)) (a b : Int) (t : Nat) : List (Int × Int) := wayE W (G.take t) a b
theorem wayP_step {W G : List (Int × Int)} {a b : Int} {t : Nat} {e : Int × Int} (he : G[t]? = some e) : wayP W G a b (t + 1) = if (okEnd W a b e.1 && okEnd W a b e.2) = true then wayP W G a b t ++ [e] else wayP W G a b t := by
  unfold wayP wayE
  rw [List.take_add_one, he, List.filter_append]
  split
  · rename_i h
    simp [h]
  · rename_i h
    have h : (okEnd W a b e.1 && okEnd W a b e.2) = false := by simpa using h
    simp [h]
theorem wayP_le (W G : List (Int × Int)) (a b : Int) (t : Nat) : (wayP W G a b t).length ≤ t := by
  unfold wayP wayE
  exact Nat.le_trans (List.length_filter_le _ _) (by rw [List.length_take]; omega)
theorem pcells_len {w : World} {base n c : Nat} {B : Option Addr} {E : List (Int × Int)} (h : w.ownsRow base 44 2 (.slice B n c) n (pcells E)) : n = E.length ∧ RdP w B E := by
  have h1 := h.1
  rw [pcells_length] at h1
  obtain ⟨B', c', ev, hr, _, _⟩ := own_rdP h
  injection ev with e1 e2 e3
  subst e1
  exact ⟨by omega, hr⟩
set_option maxHeartbeats 64000000 in
theorem ways_walk_g (A B : Option Addr) (c d n m : Nat) (N : Int) (E : List (Int × Int)) (bs : List Bool) (w : World) (hE : RdP w A E) (hB : RdB w B bs) (hn : n = E.length) (hm : m = bs.length) :
    Calls Try.prog 5 #[.agg #[.int .i64 N, .slice A n c], .slice B m d] w fun e w' => e = .returned (.bool true) ∧ Below w.heap.size w w' := by
  obtain ⟨X, hX⟩ : ∃ X, X = w.alloc (.cells #[.int .i64 N, .slice A n c] 24) := ⟨_, rfl⟩
  have hb : Below w.heap.size w X := by rw [hX]; exact (Below.refl _ _).alloc (Nat.le_refl _) _
  have hXS : w.heap.size < X.heap.size := by rw [hX]; simp
  obtain ⟨j0, j1, _, _⟩ := cells_two (w := X) (by rw [hX]; exact heap_alloc_new w _)
  have HJ : Hid (∀ w', Below X.heap.size X w' → w'.cell? ⟨w.heap.size, 0, none⟩ = some (.int .i64 N) ∧ w'.cell? ⟨w.heap.size, 1, none⟩ = some (.slice A n c)) := fun w' hb =>
    ⟨by rw [hb.cell (by show w.heap.size < _; omega)]; exact j0, by rw [hb.cell (by show w.heap.size < _; omega)]; exact j1⟩
  have HR := rightS_any A c n N E X (hE.below hb) hn
  obtain ⟨p, hp⟩ : ∃ p, rightS N E = p := ⟨_, rfl⟩
  rw [hp] at HR
  have HR := Lib.hid HR
  have HE := Lib.hid (hE.below hb)
  have HBS := Lib.hid (hB.below hb)
  have HN := Lib.hid hn
  have HM := Lib.hid hm
  have HX := Lib.hid hX
  have HB := Lib.hid hb
  have HP := Lib.hid hp
  have HXS := Lib.hid hXS
  obtain ⟨i4, hi4, hz0, hz1, hz2⟩ := info_partsI pairinfo
  clear hE hB hn hm hX hb hp hXS
  go_enter Try.func5, Try.ntmps5
  go_wp2_with fail
  rw [← HX.out]
  refine HR.out.mono ?_
  rintro e w1 ⟨rfl, hb1⟩
  have HB1 := Lib.hid hb1
  clear hb1 j0 j1 HR
  cases p with
  | false =>
    go_wp2_with fail
    refine (awake_any w1).mono ?_
    rintro e w2 ⟨rfl, hb2⟩
    go_wp2_with fail
    go_ret
    exact ⟨rfl, HB.out.trans ((next_below HB1.out hb2).mono (Nat.le_of_lt HXS.out))⟩
  | true =>
    have hp := HP.out
    unfold rightS at hp
    rw [Bool.and_eq_true] at hp
    have hg := hp.1
    have hn6 : n ≤ 594 := by rw [HN.out]; exact (rightG_bounds hg).2.2
    obtain ⟨Nn, rfl⟩ := Int.eq_ofNat_of_zero_le (rightG_bounds hg).1
    have hN2 : Nn ≤ 200 := by have := (rightG_bounds hg).2.1; omega
    have HG := Lib.hid hg
    obtain ⟨V, hV⟩ : ∃ V, mkd E bs n = V := ⟨_, rfl⟩
    have hweb := chosen_web (bs := bs) hg HN.out
    rw [hV] at hweb
    have HWEB := Lib.hid hweb
    have hVl : V.length ≤ 594 := by rw [← hV]; exact Nat.le_trans (mkd_le E bs n) hn6
    have HCH := chosen_any A B c d n m (Nn : Nat) E bs w1 (HE.out.below HB1.out) (HBS.out.below HB1.out) HN.out HM.out (by omega)
    rw [hV] at HCH
    have HCH := Lib.hid HCH
    have HVL := Lib.hid hVl
    clear hp hg hweb hV hVl
    obtain ⟨j0, j1⟩ := HJ.out w1 HB1.out
    go_wp2_with fail
    refine HCH.out.mono ?_
    rintro e w2 ⟨Bw, lw, cw, rfl, hrow, hb⟩
    obtain ⟨hlw, hrw⟩ := pcells_len hrow
    have hcap := row_cap hrow
    have HB2 := Lib.hid (next_below HB1.out hb)
    have RW := Lib.hid hrw
    have HLW := Lib.hid hlw
    have hlb : lw ≤ 594 := by rw [hlw]; exact HVL.out
    clear hrow hb hrw hlw HCH j0 j1
    obtain ⟨j0, j1⟩ := HJ.out w2 HB2.out
    have HON := Lib.hid (onW_any Bw cw Nn lw V w2 RW.out HLW.out (by omega) (by omega) HWEB.out.2)
    go_wp2_with fail
    refine HON.out.mono ?_
    rintro e w3 ⟨rfl, hob, hb⟩
    have HIS : Hid (RdO w3 (some ⟨w2.heap.size, 0, none⟩) Nn (onW V)) := hob.rd (fun v hv => by
      have h9 : V.take lw = V := by rw [HLW.out]; exact List.take_length
      simp [onL, hv, h9])
    have HB3 := Lib.hid (next_below HB2.out hb)
    have RW := Lib.hid (RW.out.below hb)
    clear hob hb HON j0 j1
    obtain ⟨j0, j1⟩ := HJ.out w3 HB3.out
    have HT := fragsTT A Bw c cw n lw (Nn : Nat) E V w3 (HE.out.below HB3.out) RW.out HN.out HLW.out hcap.1 hcap.2
    have hft : fragsT (Nn : Nat) E V = (fragsF Nn E V, 0) := by
      unfold fragsT
      rw [if_neg (by rw [HG.out]; simp), if_pos HWEB.out.1]
      rfl
    have hsm := fragsT_small (Nn : Nat) E V (by rw [← HN.out]; omega)
    rw [hft] at HT hsm
    have HT := Lib.hid HT
    have HSM := Lib.hid hsm
    clear hft hsm
    go_wp2_with fail
    refine HT.out.mono ?_
    rintro e w4 ⟨A4, l4, c4, rfl, hl4, r4, hb⟩
    have HB4 := Lib.hid (next_below HB3.out hb)
    have R4 := Lib.hid r4
    have HIS := Lib.hid (HIS.out.below hb)
    have hl4b : l4 ≤ 1000 := by rw [hl4]; exact HSM.out.1
    have HL4 := Lib.hid hl4
    have HB40 := Lib.hid (Below.refl w4.heap.size w4)
    have HJ4 : Hid (∀ w', Below w4.heap.size w4 w' → w'.cell? ⟨w.heap.size, 0, none⟩ = some (.int .i64 Nn)) := fun w' h => (HJ.out w' (next_below HB4.out h)).1
    clear hb r4 hl4 HT j0 j1
    go_wp2_with fail
    go_loopw [41] (fun s41 wr => ∃ i : Nat, i ≤ l4 ∧ s41 = .int .i64 i ∧ Hid (Below w4.heap.size w4 wr)) (fun s41 _ => l4 - (intOf s41).toNat)
    case atStart => exact ⟨0, Nat.zero_le _, rfl, HB40⟩
    case round =>
      obtain ⟨i, hi, rfl, hbel⟩ := hrel
      by_cases h1 : i < l4
      · have t1 : decide ((i : Int) < (l4 : Int)) = true := by simp; omega
        have hI0 : (0 : Int) ≤ (i : Int) := by omega
        have hI1 : (i : Int) < (l4 : Nat) := by omega
        obtain ⟨x, hx⟩ : ∃ x, (fragsF Nn E V)[i]? = some x := ⟨_, List.getElem?_eq_getElem (by have h : l4 = (fragsF Nn E V).length := HL4.out; omega)⟩
        obtain ⟨ad, B1, B2, x1, x2, rfl, hal, q0, q1, g1, g2⟩ := (R4.out.below hbel.out) i x hx
        obtain ⟨e0, he0, hew, hxe⟩ := frag_is HG.out HWEB.out.1 (List.mem_of_getElem? hx)
        have hxs := HSM.out.2 x (List.mem_of_getElem? hx)
        obtain ⟨G, F⟩ := x
        simp only [Prod.mk.injEq] at hxe
        simp only at q0 q1 g1 g2 hxs
        have HGE := Lib.hid hxe
        have hel : e0 ∈ (leftP V E E.length).1 := (rest_of HG.out HWEB.out.1).mem.2 ⟨he0, hew⟩
        have HEL := Lib.hid hel
        obtain ⟨lg, hlg⟩ : ∃ lg, G.length = lg := ⟨_, rfl⟩
        obtain ⟨lf, hlf⟩ : ∃ lf, F.length = lf := ⟨_, rfl⟩
        rw [hlg] at q0 hxs
        rw [hlf] at q1 hxs
        have HLG := Lib.hid hlg
        have HLF := Lib.hid hlf
        obtain ⟨Y, hY⟩ : ∃ Y, Y = wr.alloc (.cells #[.slice B1 lg x1, .slice B2 lf x2] 43) := ⟨_, rfl⟩
        have hbY : Below wr.heap.size wr Y := by rw [hY]; exact (Below.refl _ _).alloc (Nat.le_refl _) _
        have hEB : Y.heap[wr.heap.size]? = some (.cells #[.slice B1 lg x1, .slice B2 lf x2] 43 (0, 0)) := by rw [hY]; exact heap_alloc_new wr _
        have HG1 := Lib.hid (g1.below hbY)
        have HG2 := Lib.hid (g2.below hbY)
        have HBY := Lib.hid (next_below hbel.out hbY)
        have HYY := Lib.hid hY
        clear hx hxe he0 hew hel hlg hlf hbY hY hal g1 g2 hbel
        go_upto_region 11 with fail
        rw [← HYY.out]
        obtain ⟨pf, hpf⟩ : ∃ pf, wr.heap.size = pf := ⟨_, rfl⟩
        rw [hpf] at hEB ⊢
        have HYF : Hid (Y = wr.alloc (.cells #[.slice B1 lg x1, .slice B2 lf x2] 43)) := HYY
        clear q0 q1 hpf HYY HYF
        obtain ⟨r0, r1, _, _⟩ := cells_two hEB
        have hpl := lt_of_block hEB
        have HF : Hid (∀ w', Below Y.heap.size Y w' → w'.cell? ⟨pf, 0, none⟩ = some (.slice B1 lg x1) ∧ w'.cell? ⟨pf, 1, none⟩ = some (.slice B2 lf x2)) := fun w' hb => ⟨by rw [hb.cell (by exact hpl)]; exact r0, by rw [hb.cell (by exact hpl)]; exact r1⟩
        have HY0 := Lib.hid (Below.refl Y.heap.size Y)
        clear hEB
        go_wp2_with fail
        clear r0 r1
        go_loopw [48] (fun s48 wn => ∃ p : Nat, p ≤ lf ∧ s48 = .int .i64 p ∧ Hid (Below Y.heap.size Y wn)) (fun s48 _ => lf - (intOf s48).toNat)
        case atStart => exact ⟨0, Nat.zero_le _, rfl, HY0⟩
        case round =>
          obtain ⟨p, hp, rfl, hbp⟩ := hrel
          by_cases h2 : p < lf
          · have t2 : decide ((p : Int) < (lf : Int)) = true := by simp; omega
            have hP0 : (0 : Int) ≤ (p : Int) := by omega
            have hP1 : (p : Int) < (lf : Nat) := by omega
            obtain ⟨a, hfa⟩ : ∃ a, F[p]? = some a := ⟨_, List.getElem?_eq_getElem (by rw [HLF.out]; exact h2)⟩
            obtain ⟨bd, rfl, _, q0⟩ := (HG2.out.below hbp.out) p a hfa
            have hma := List.mem_of_getElem? hfa
            rw [HGE.out.2] at hma
            obtain ⟨a', ha1, rfl, _, _⟩ := feetR_mem.1 hma
            have HMA := Lib.hid hma
            obtain ⟨k0, k1⟩ := HF.out wr hbp.out
            clear hfa hma
            go_wp2_with fail
            clear q0 k0 k1
            go_loopw [55] (fun s55 wn => ∃ q : Nat, q ≤ lf ∧ s55 = .int .i64 q ∧ Hid (Below Y.heap.size Y wn)) (fun s55 _ => lf - (intOf s55).toNat)
            case atStart => exact ⟨0, Nat.zero_le _, rfl, hbp⟩
            case round =>
              clear hbp
              obtain ⟨q, hq, rfl, hbq⟩ := hrel
              by_cases h3 : q < lf
              · have t3 : decide ((q : Int) < (lf : Int)) = true := by simp; omega
                have hQ0 : (0 : Int) ≤ (q : Int) := by omega
                have hQ1 : (q : Int) < (lf : Nat) := by omega
                obtain ⟨b, hfb⟩ : ∃ b, F[q]? = some b := ⟨_, List.getElem?_eq_getElem (by rw [HLF.out]; exact h3)⟩
                obtain ⟨bd', ebd, _, q0⟩ := (HG2.out.below hbq.out) q b hfb
                injection ebd with ebd
                subst ebd
                have hmb := List.mem_of_getElem? hfb
                rw [HGE.out.2] at hmb
                obtain ⟨b', hb1, rfl, _, _⟩ := feetR_mem.1 hmb
                have HMB := Lib.hid hmb
                obtain ⟨k0, k1⟩ := HF.out wr hbq.out
                have hNc := HJ4.out wr (next_below HBY.out hbq.out)
                clear hfb hmb
                by_cases hab : a' < b'
                · have d1 : decide ((b' : Int) ≤ (a' : Int)) = false := by simp; omega
                  have d2 : decide (b' ≤ a') = false := by simp; omega
                  obtain ⟨_, _, hway⟩ := feet_way HG.out (rest_of HG.out HWEB.out.1) HEL.out HMA.out HMB.out hab
                  rw [← HGE.out.1] at hway
                  have HWAY := Lib.hid hway
                  have hrH : rightG (Nn : Nat) (wayE V G (a' : Int) (b' : Int)) = true := by rw [HGE.out.1]; exact sub_right HG.out (wayE_sub _ _ _ _ _)
                  have HRH := Lib.hid hrH
                  obtain ⟨Z, hZ⟩ : ∃ Z, Z = wr.alloc (.cells #[.int .i64 Nn, .slice none 0 0] 24) := ⟨_, rfl⟩
                  have hbZ : Below wr.heap.size wr Z := by rw [hZ]; exact (Below.refl _ _).alloc (Nat.le_refl _) _
                  have HPH : Hid (Z.heap[wr.heap.size]? = some (.cells #[.int .i64 Nn, .slice none 0 0] 24 (0, 0))) := by show _ = _; rw [hZ]; exact heap_alloc_new wr _
                  have HH0 : Hid (Z.ownsRow wr.heap.size 44 2 (.slice none 0 0) 0 (pcells (wayP V G (a' : Int) (b' : Int) 0))) := World.ownsRow_nil _ _ _ _
                  have HBZ := Lib.hid hbZ
                  have HZ := Lib.hid hZ
                  have hYw := hbq.out.size
                  clear hway hrH hbZ hZ
                  go_upto_region 19 with fail
                  rw [← HZ.out]
                  obtain ⟨z, hz⟩ : ∃ z, wr.heap.size = z := ⟨_, rfl⟩
                  clear q0 k0 k1 hNc
                  obtain ⟨k0, k1⟩ := HF.out Z (hbq.out.trans (HBZ.out.mono hYw))
                  have HBQ := Lib.hid hbq.out
                  rw [hz] at HBZ HPH HH0 hYw ⊢
                  clear HZ
                  go_wp2_with fail
                  clear k0 k1
                  go_loopw [68] (fun s68 wn => ∃ (t lh ch : Nat) (Bh : Option Addr), t ≤ lg ∧ lh ≤ t ∧ s68 = .int .i64 t ∧ Hid (wn.heap[z]? = some (.cells #[.int .i64 Nn, .slice Bh lh ch] 24 (0, 0))) ∧ Hid (wn.ownsRow z 44 2 (.slice Bh lh ch) lh (pcells (wayP V G (a' : Int) (b' : Int) t))) ∧ Hid (Below z wr wn)) (fun s68 _ => lg - (intOf s68).toNat)
                  case atStart => exact ⟨0, 0, 0, none, Nat.zero_le _, Nat.le_refl _, rfl, HPH, HH0, HBZ⟩
                  case round =>
                    clear hbq
                    obtain ⟨t, lh, ch, Bh, ht, hlt, rfl, hbox, hrow, hbt⟩ := hrel
                    have hbtY : Below Y.heap.size Y wr := HBQ.out.trans (hbt.out.mono hYw)
                    by_cases h4 : t < lg
                    · have t4 : decide ((t : Int) < (lg : Int)) = true := by simp; omega
                      have hT0 : (0 : Int) ≤ (t : Int) := by omega
                      have hT1 : (t : Int) < (lg : Nat) := by omega
                      obtain ⟨e, he⟩ : ∃ e, G[t]? = some e := ⟨_, List.getElem?_eq_getElem (by rw [HLG.out]; exact h4)⟩
                      have hst := wayP_step (W := V) (a := (a' : Int)) (b := (b' : Int)) he
                      have heE : e ∈ E := by
                        have := List.mem_of_getElem? he
                        rw [HGE.out.1] at this
                        exact (grp_mem.1 this).1
                      have hin := (rest_of HG.out HWEB.out.1).inn e heE
                      obtain ⟨gd1, rfl, _, p0, p1⟩ := (HG1.out.below hbtY) t e he
                      obtain ⟨ex, ey⟩ := e
                      simp only at hin p0 p1 hst
                      obtain ⟨x, rfl⟩ := Int.eq_ofNat_of_zero_le hin.1
                      obtain ⟨y, rfl⟩ := Int.eq_ofNat_of_zero_le (show 0 ≤ ey by omega)
                      obtain ⟨px, hpx⟩ : ∃ p, onW V x = p := ⟨_, rfl⟩
                      obtain ⟨py, hpy⟩ : ∃ p, onW V y = p := ⟨_, rfl⟩
                      obtain ⟨pa, hpa⟩ : ∃ p, (x == a') = p := ⟨_, rfl⟩
                      obtain ⟨pb, hpb⟩ : ∃ p, (x == b') = p := ⟨_, rfl⟩
                      obtain ⟨qa, hqa⟩ : ∃ p, (y == a') = p := ⟨_, rfl⟩
                      obtain ⟨qb, hqb⟩ : ∃ p, (y == b') = p := ⟨_, rfl⟩
                      have hcst : ∀ u v : Nat, ((u : Int) == (v : Int)) = (u == v) := fun u v => by rw [Bool.eq_iff_iff]; simp; omega
                      have hpa2 : ((x : Int) == (a' : Int)) = pa := (hcst _ _).trans hpa
                      have hpb2 : ((x : Int) == (b' : Int)) = pb := (hcst _ _).trans hpb
                      have hqa2 : ((y : Int) == (a' : Int)) = qa := (hcst _ _).trans hqa
                      have hqb2 : ((y : Int) == (b' : Int)) = qb := (hcst _ _).trans hqb
                      have hok1 : okEnd V (a' : Int) (b' : Int) (x : Int) = (!px || pa || pb) := by unfold okEnd; rw [show onZ V (x : Int) = px from hpx, hpa2, hpb2]
                      have hok2 : okEnd V (a' : Int) (b' : Int) (y : Int) = (!py || qa || qb) := by unfold okEnd; rw [show onZ V (y : Int) = py from hpy, hqa2, hqb2]
                      rw [hok1, hok2] at hst
                      have HST := Lib.hid hst
                      obtain ⟨b3, e3, _, o0⟩ := (HIS.out.below (next_below HBY.out hbtY)) x (by omega)
                      injection e3 with e3
                      subst e3
                      obtain ⟨b3, e3, _, o1⟩ := (HIS.out.below (next_below HBY.out hbtY)) y (by omega)
                      injection e3 with e3
                      subst e3
                      rw [hpx] at o0
                      rw [hpy] at o1
                      rw [add_off] at o0 o1
                      obtain ⟨U, hU⟩ : ∃ U, U = wr.alloc (.cells #[.int .i64 (x : Nat), .int .i64 (y : Nat)] 44) := ⟨_, rfl⟩
                      have hbU : Below wr.heap.size wr U := by rw [hU]; exact (Below.refl _ _).alloc (Nat.le_refl _) _
                      have hEB : U.heap[wr.heap.size]? = some (.cells #[.int .i64 (x : Nat), .int .i64 (y : Nat)] 44 (0, 0)) := by rw [hU]; exact heap_alloc_new wr _
                      have hzw : z < wr.heap.size := lt_of_block hbox.out
                      have HBU := Lib.hid (hbt.out.trans (hbU.mono (by omega)))
                      have HXU := Lib.hid (blk_below hbox.out hbU)
                      have HRU := Lib.hid (row_below hrow.out hbU)
                      have o2 : U.cell? ⟨w2.heap.size, x, none⟩ = some (.bool px) := by rw [hbU.cell (World.block_lt_of_cell? _ _ o0)]; exact o0
                      have o3 : U.cell? ⟨w2.heap.size, y, none⟩ = some (.bool py) := by rw [hbU.cell (World.block_lt_of_cell? _ _ o1)]; exact o1
                      have HU := Lib.hid hU
                      obtain ⟨z0, z1⟩ : (0 : Int) ≤ (x : Int) ∧ (x : Int) < (Nn : Nat) := by omega
                      obtain ⟨z2, z3⟩ : (0 : Int) ≤ (y : Int) ∧ (y : Int) < (Nn : Nat) := by omega
                      clear he hst heE hin hpx hpy hok1 hok2 o0 o1 hU hbU hcst hbox hrow hbt hbtY
                      go_upto_region 22 with fail
                      rw [← HU.out]
                      obtain ⟨pe, hpe⟩ : ∃ pe, wr.heap.size = pe := ⟨_, rfl⟩
                      rw [hpe] at hEB hzw ⊢
                      clear HU hpe p0 p1
                      obtain ⟨r0, r1, _, _⟩ := cells_two hEB
                      go_cut [109] from 69 to 116 (fun s109 wx => s109 = .bool ((!px || pa || pb) && (!py || qa || qb)) ∧ wx = U)
                      case first =>
                        cases px
                        · skip
                          cases py
                          · skip
                            go_wp2_with fail
                            go_meet
                            exact ⟨rfl, rfl⟩
                          · skip
                            cases qa
                            · skip
                              cases qb
                              · skip
                                go_wp2_with fail
                                go_meet
                                exact ⟨rfl, rfl⟩
                              · skip
                                go_wp2_with fail
                                go_meet
                                exact ⟨rfl, rfl⟩
                            · skip
                              go_wp2_with fail
                              go_meet
                              exact ⟨rfl, rfl⟩
                        · skip
                          cases pa
                          · skip
                            cases pb
                            · skip
                              go_wp2_with fail
                              go_meet
                              exact ⟨rfl, rfl⟩
                            · skip
                              cases py
                              · skip
                                go_wp2_with fail
                                go_meet
                                exact ⟨rfl, rfl⟩
                              · skip
                                cases qa
                                · skip
                                  cases qb
                                  · skip
                                    go_wp2_with fail
                                    go_meet
                                    exact ⟨rfl, rfl⟩
                                  · skip
                                    go_wp2_with fail
                                    go_meet
                                    exact ⟨rfl, rfl⟩
                                · skip
                                  go_wp2_with fail
                                  go_meet
                                  exact ⟨rfl, rfl⟩
                          · skip
                            cases py
                            · skip
                              go_wp2_with fail
                              go_meet
                              exact ⟨rfl, rfl⟩
                            · skip
                              cases qa
                              · skip
                                cases qb
                                · skip
                                  go_wp2_with fail
                                  go_meet
                                  exact ⟨rfl, rfl⟩
                                · skip
                                  go_wp2_with fail
                                  go_meet
                                  exact ⟨rfl, rfl⟩
                              · skip
                                go_wp2_with fail
                                go_meet
                                exact ⟨rfl, rfl⟩
                      case rest =>
                        obtain ⟨rfl, rfl⟩ := hcut
                        obtain ⟨okk, hokk⟩ : ∃ okk, ((!px || pa || pb) && (!py || qa || qb)) = okk := ⟨_, rfl⟩
                        rw [hokk] at HST ⊢
                        clear hokk hpa hpb hqa hqb hpa2 hpb2 hqa2 hqb2 o2 o3
                        cases okk
                        · have hsame : wayP V G (a' : Int) (b' : Int) (t + 1) = wayP V G (a' : Int) (b' : Int) t := by rw [HST.out]; simp
                          clear r0 r1
                          go_wp2_with fail
                          go_roundw
                          case rel => exact ⟨t + 1, lh, ch, Bh, by omega, by omega, by go_num, HXU, by rw [hsame]; exact HRU, HBU⟩
                          case measure => simp [intOf]; omega
                        · have HSN : Hid (wayP V G (a' : Int) (b' : Int) (t + 1) = wayP V G (a' : Int) (b' : Int) t ++ [((x : Int), (y : Int))]) := by show _ = _; rw [HST.out]; simp
                          obtain ⟨m0, m1, _, _⟩ := cells_two HXU.out
                          have hul := lt_of_block hEB
                          have hzl := lt_of_block HXU.out
                          have hnz : (Value.slice Bh lh ch).ownBlock ≠ some z := own_ne8 HRU.out HXU.out (by decide)
                          have HFA := Lib.hid (HRU.out.alloc (.cells #[.int .i64 (x : Nat), .int .i64 (y : Nat)] 44))
                          have HLT : Hid (∀ (i : Nat) (u : Value), [Value.int .i64 (x : Nat), .int .i64 (y : Nat)][i]? = some u → (wc.alloc (.cells #[.int .i64 (x : Nat), .int .i64 (y : Nat)] 44)).cell? ((⟨wc.heap.size, 0, none⟩ : Addr).add i) = some u) := fun i u hi => by
                            rw [← hi, add_off, World.cell?_alloc_at _ _ _ _ rfl]
                            simp
                          have HNB : Hid (∀ w', (wc.alloc (.cells #[.int .i64 (x : Nat), .int .i64 (y : Nat)] 44)).grownBy w' (Value.slice Bh lh ch).ownBlock → w'.heap[z]? = some (.cells #[.int .i64 Nn, .slice Bh lh ch] 24 (0, 0))) := fun w' hg' => by
                            rw [hg'.block z (by simp; omega) (fun e => hnz e.symm)]
                            exact (((Below.refl wc.heap.size wc).alloc (Nat.le_refl _) _).block z hzl).trans HXU.out
                          clear hnz
                          go_wp2_with (at_builtin; refine wpList_append_lies _ rfl (.tmp 111) (.tmp 113) 22 rfl z 44 i4 (.agg #[.int .i64 0, .int .i64 0]) 2 16 Try.underlying22 hi4 hz0 hz1 hz2 rfl (by decide) _ lh (pcells (wayP V G (a' : Int) (b' : Int) t)) rfl HFA.out ⟨wc.heap.size, 0, none⟩ 1 1 [.int .i64 (x : Nat), .int .i64 (y : Nat)] (by simp [Act.eval]) rfl HLT.out (by simp [Value.oneCell']) (by omega) (by simp [maxLen]; omega) (by omega) (by simp; omega) (wc.heap.size + 1) (by simp) ?_; intro g7 c7 w7 hr7 hg7 ho7 hlt7; have hz7 := HNB.out w7 hg7; obtain ⟨s0, s1, s2, s3⟩ := cells_two hz7)
                          have HB7 := Lib.hid (((HBU.out.alloc (by have := HBU.out.size; omega) _).grown hg7 (by simp; omega) (fun q e => (HFA.out.lt q e).1)).setCell (p := ⟨z, 1, none⟩) (Nat.le_refl _) (.slice (some ⟨g7, 0, none⟩) (lh + 1) c7))
                          have hg7z : g7 ≠ z := fun e => own_ne8 hr7 hz7 (by decide) (by rw [e]; rfl)
                          have HX7 : Hid ((w7.setCell ⟨z, 1, none⟩ (.slice (some ⟨g7, 0, none⟩) (lh + 1) c7)).heap[z]? = some (.cells #[.int .i64 Nn, .slice (some ⟨g7, 0, none⟩) (lh + 1) c7] 24 (0, 0))) := by
                            show _ = _
                            rw [Go.Joins.block_setCell hz7]
                            rfl
                          have HV7 : Hid ((w7.setCell ⟨z, 1, none⟩ (.slice (some ⟨g7, 0, none⟩) (lh + 1) c7)).ownsRow z 44 2 (.slice (some ⟨g7, 0, none⟩) (lh + 1) c7) (lh + 1) (pcells (wayP V G (a' : Int) (b' : Int) (t + 1)))) := by
                            show World.ownsRow _ _ _ _ _ _ _
                            rw [HSN.out, pcells_snoc]
                            exact row_far hr7 (p := ⟨z, 1, none⟩) hg7z _
                          clear hr7 hg7 hz7 ho7 s0 s1 s2 s3 m0 m1 r0 r1
                          go_wp2_with fail
                          go_roundw
                          case rel => exact ⟨t + 1, lh + 1, c7, _, by omega, by omega, by go_num, HX7, HV7, HB7⟩
                          case measure => simp [intOf]; omega
                    · obtain rfl : t = lg := by omega
                      have t4 : decide ((t : Int) < (t : Int)) = false := by simp
                      have hfull : wayP V G (a' : Int) (b' : Int) t = wayE V G (a' : Int) (b' : Int) := by unfold wayP; rw [← HLG.out, List.take_length]
                      have hrow2 := hrow.out
                      rw [hfull] at hrow2
                      obtain ⟨hlh, hrdh⟩ := pcells_len hrow2
                      have HPA := Lib.hid (path_any Bh ch lh Nn a' b' (wayE V G (a' : Int) (b' : Int)) wr hrdh hlh HRH.out ha1 hb1)
                      obtain ⟨m0, m1, _, _⟩ := cells_two hbox.out
                      have HBT := Lib.hid hbtY
                      clear hfull hrow2 hlh hrdh hbtY
                      go_wp2_with fail
                      refine HPA.out.mono ?_
                      rintro e w9 ⟨hb9, hres⟩
                      have HB9 := Lib.hid (next_below HBT.out hb9)
                      rcases hres with ⟨hneg, _⟩ | ⟨D, go, co, o, _, _, _, _, _, rfl⟩
                      · have h5 := Rch.symm_ HRH.out ha1 hb1 HWAY.out
                        unfold Rch at h5
                        omega
                      · clear hb9 m0 m1
                        go_wp2_with fail
                        go_roundw
                        case rel => exact ⟨q + 1, by omega, by go_num, HB9⟩
                        case measure => simp [intOf]; omega
                · have d1 : decide ((b' : Int) ≤ (a' : Int)) = true := by simp; omega
                  have d2 : decide (b' ≤ a') = true := by simp; omega
                  go_wp2_with fail
                  go_roundw
                  case rel => exact ⟨q + 1, by omega, by go_num, hbq⟩
                  case measure => simp [intOf]; omega
              · obtain rfl : q = lf := by omega
                have t3 : decide ((q : Int) < (q : Int)) = false := by simp
                go_wp2_with fail
                go_roundw
                case rel => exact ⟨p + 1, by omega, by go_num, hbq⟩
                case measure => simp [intOf]; omega
          · obtain rfl : p = lf := by omega
            have t2 : decide ((p : Int) < (p : Int)) = false := by simp
            go_wp2_with fail
            go_roundw
            case rel => exact ⟨i + 1, by omega, by go_num, Lib.hid (next_below HBY.out hbp.out)⟩
            case measure => simp [intOf]; omega
      · obtain rfl : i = l4 := by omega
        have t1 : decide ((i : Int) < (i : Int)) = false := by simp
        go_wp2_with fail
        refine (awake_any wr).mono ?_
        rintro e w9 ⟨rfl, hb⟩
        have HB9 := Lib.hid (next_below HB4.out (next_below hbel.out hb))
        clear hb
        go_wp2_with fail
        go_ret
        exact ⟨rfl, HB.out.trans (HB9.out.mono (Nat.le_of_lt HXS.out))⟩
theorem ways_walk (v0 v1 : Value) (w : World) (h0 : OkGraph w v0) (h1 : OkBools w v1) : Calls Try.prog 5 #[v0, v1] w fun e w' => e = .returned (.bool true) ∧ Below w.heap.size w w' := by
  obtain ⟨N, A, c, E, rfl, _, _, hr, _, _, _⟩ := h0
  obtain ⟨B, d, bs, rfl, hb, _, _⟩ := h1
  exact ways_walk_g A B c d E.length bs.length N E bs w hr hb rfl rfl
end Go.Proofs.Ytlkfpphahfendaa
