/- The law PermCycles (layer 3): its walk. -/
import Derived.Test.YtgldlanfbkgfjaaP10
import Derived.Test.YtgldlanfbkgfjaaPI
import Derived.Test.YtgldlanfbkgfjaaWM
import Derived.Deep.RegionHeld
namespace Go.Proofs.Ytgldlanfbkgfjaa
open Go.RowKit

/-- What has been seen. -/
def seenF (S : List Nat) : Int → Option Int := fun z => if z ∈ iz S then some 1 else none
theorem seenF_push (S : List Nat) (x : Nat) : upd (seenF S) (x : Int) 1 = seenF (S ++ [x]) := by
  funext z
  unfold upd seenF
  by_cases h : z = (x : Int)
  · subst h
    rw [if_pos rfl, if_pos (iz_mem.2 (by simp))]
  · rw [if_neg h]
    have h1 : z ∈ iz (S ++ [x]) ↔ z ∈ iz S := by
      unfold iz
      rw [List.map_append, List.mem_append]
      simp [h]
    by_cases h2 : z ∈ iz S
    · rw [if_pos h2, if_pos (h1.2 h2)]
    · rw [if_neg h2, if_neg (fun h3 => h2 (h1.1 h3))]
theorem seenF_no {S : List Nat} {x : Nat} (h : x ∉ S) : seenF S (x : Int) = none := by
  unfold seenF
  rw [if_neg (fun h2 => h (iz_mem.1 h2))]
/-- The first things of the cycles. -/
def heads (n : Nat) (p : List Nat) : List Nat := (List.range n).filter (leastB p)
theorem cycs_heads (n : Nat) (p : List Nat) : cycs p n = (heads n p).map (orb p) := rfl
/-- The first thing of the cycle ahead of the k-th one. -/
def lastZ (n : Nat) (p : List Nat) (k : Nat) : Int := if k = 0 then -1 else (((heads n p).getD (k - 1) 0 : Nat) : Int)
theorem lastZ_lt {n k v : Nat} {p : List Nat} (h : (heads n p)[k]? = some v) : lastZ n p k < (v : Int) := by
  unfold lastZ
  by_cases h0 : k = 0
  · rw [if_pos h0]; omega
  · rw [if_neg h0]
    obtain ⟨hl, hv⟩ := List.getElem?_eq_some_iff.1 h
    have hs : (heads n p).Pairwise (· < ·) := List.pairwise_lt_range.filter _
    have := List.pairwise_iff_getElem.1 hs (k - 1) k (by omega) hl (by omega)
    rw [hv] at this
    have e : (heads n p).getD (k - 1) 0 = (heads n p)[k - 1]'(by omega) := by simp [List.getD, show k - 1 < (heads n p).length by omega]
    rw [e]
    omega
theorem lastZ_next {n k v : Nat} {p : List Nat} (h : (heads n p)[k]? = some v) : lastZ n p (k + 1) = (v : Int) := by
  unfold lastZ
  rw [if_neg (by omega)]
  simp [List.getD, h]
theorem heads_mem {n k v : Nat} {p : List Nat} (h : (heads n p)[k]? = some v) : v < n ∧ leastB p v = true := by
  have := List.mem_of_getElem? h
  unfold heads at this
  rw [List.mem_filter, List.mem_range] at this
  exact this
/-- The things of the first k cycles, and the first i of the next one. -/
def upto (n : Nat) (p : List Nat) (k : Nat) : List Nat := ((cycs p n).take k).flatten
theorem upto_next {n k v : Nat} {p : List Nat} (h : (heads n p)[k]? = some v) : upto n p (k + 1) = upto n p k ++ orb p v := by
  unfold upto
  rw [List.take_add_one, cycs_heads, List.getElem?_map, h]
  simp
theorem upto_sub (n : Nat) (p : List Nat) (k : Nat) : (upto n p k).Sublist (cycs p n).flatten := by
  unfold upto
  have e : (cycs p n).flatten = ((cycs p n).take k).flatten ++ ((cycs p n).drop k).flatten := by rw [← List.flatten_append, List.take_append_drop]
  rw [e]
  exact List.sublist_append_left _ _
theorem upto_len {n : Nat} {p : List Nat} (hp : Perm n p) (k : Nat) : (upto n p k).length ≤ n :=
  nod_le n _ ((flat_nodup hp n (Nat.le_refl _)).sublist (upto_sub n p k)) (fun x hx => flat_lt hp n (Nat.le_refl _) ((upto_sub n p k).subset hx))
theorem upto_new {n k v i : Nat} {p : List Nat} (hp : Perm n p) (h : (heads n p)[k]? = some v) (hi : i < per p v) : it p v i ∉ upto n p k ++ (orb p v).take i := by
  have h1 : (upto n p (k + 1)).Nodup := (flat_nodup hp n (Nat.le_refl _)).sublist (upto_sub n p (k + 1))
  rw [upto_next h] at h1
  have e : orb p v = (orb p v).take i ++ (it p v i :: (orb p v).drop (i + 1)) := by
    have h3 := orb_at (p := p) (v := v) (k := i) hi
    obtain ⟨h4, h5⟩ := List.getElem?_eq_some_iff.1 h3
    rw [← h5, List.getElem_cons_drop, List.take_append_drop]
  rw [e, ← List.append_assoc] at h1
  intro hm
  exact (List.nodup_append.1 h1).2.2 _ hm _ (List.mem_cons_self ..) rfl
theorem nod_len : ∀ {D l : List Nat}, D.Nodup → (∀ x ∈ D, x ∈ l) → D.length ≤ l.length
  | [], _, _, _ => Nat.zero_le _
  | a :: D, l, hn, h => by
    rw [List.nodup_cons] at hn
    have ha := h a (List.mem_cons_self ..)
    have ih := nod_len (D := D) (l := l.erase a) hn.2 (fun x hx => by
      have hne : x ≠ a := fun e => hn.1 (e ▸ hx)
      rw [List.mem_erase_of_ne hne]
      exact h x (List.mem_cons_of_mem _ hx))
    have hl := List.length_erase_of_mem ha
    have := List.length_pos_of_mem ha
    rw [List.length_cons]
    omega
theorem upto_all {n : Nat} {p : List Nat} (hp : Perm n p) : (upto n p (heads n p).length).length = n := by
  have e : upto n p (heads n p).length = (cycs p n).flatten := by
    unfold upto
    rw [List.take_of_length_le (by rw [cycs_heads, List.length_map]; exact Nat.le_refl _)]
  rw [e]
  refine Nat.le_antisymm (nod_le n _ (flat_nodup hp n (Nat.le_refl _)) (fun x hx => flat_lt hp n (Nat.le_refl _) hx)) ?_
  have h := nod_len (List.nodup_range (n := n)) (l := (cycs p n).flatten) (fun x hx => cycs_all hp (List.mem_range.1 hx))
  rwa [List.length_range] at h
theorem lens_next {n k v : Nat} {p : List Nat} (h : (heads n p)[k]? = some v) : lcmL (((cycs p n).take (k + 1)).map List.length) = Nat.lcm (lcmL (((cycs p n).take k).map List.length)) (per p v) := by
  rw [List.take_add_one, cycs_heads, List.getElem?_map, h, List.map_append]
  show lcmL (_ ++ [(orb p v).length]) = _
  rw [lcmL_snoc, orb_length]
/-- A number is stepped on to the least common multiple. -/
theorem step_on {s m t L : Nat} (hL : L = Nat.lcm s m) (hs : 0 < s) (ht : 1 ≤ t) (hle : s * t ≤ L) : (s * t % m = 0 → s * t = L) ∧ (s * t % m ≠ 0 → s * (t + 1) ≤ L) := by
  have hd1 : s ∣ L := by rw [hL]; exact Nat.dvd_lcm_left _ _
  have hd2 : m ∣ L := by rw [hL]; exact Nat.dvd_lcm_right _ _
  constructor
  · intro h
    have h1 : L ∣ s * t := by rw [hL]; exact Nat.lcm_dvd (Nat.dvd_mul_right _ _) (Nat.dvd_of_mod_eq_zero h)
    have h2 := Nat.le_of_dvd (Nat.mul_pos hs (by omega)) h1
    omega
  · intro h
    obtain ⟨q, rfl⟩ := hd1
    have hlt : t < q := by
      apply Classical.byContradiction
      intro hge
      have h3 : s * q ≤ s * t := Nat.mul_le_mul_left s (by omega)
      have h4 : s * t = s * q := by omega
      rw [h4] at h
      exact h (Nat.mod_eq_zero_of_dvd hd2)
    exact Nat.mul_le_mul_left s hlt

set_option maxRecDepth 100000 in
set_option maxHeartbeats 8000000 in
theorem cycles_main (A : Option Addr) (c n : Nat) (p : List Nat) (w : World) (hA : RdZ w A (iz p)) (hp : Perm n p) (hn : n ≤ 200) :
    Calls Try.prog 6 #[.slice A n c] w fun e w' => e = .returned (.bool true) ∧ Below w.heap.size w w' := by
  have RP := Lib.hid hA
  have HP := Lib.hid hp
  have HP1 := Lib.hid (perm_right hp hn)
  obtain ⟨ho1, ho2⟩ := ord_small hp hn
  obtain ⟨N, hN⟩ : ∃ N, N = ord n p := ⟨_, rfl⟩
  rw [← hN] at ho1 ho2
  have HORD := Lib.hid hN
  have hN2 : decide ((N : Int) < 1) = false := by rw [decide_eq_false_iff_not]; omega
  have hmm := @run_makeMap Try.prog
  have hcl : (cycs p n).length ≤ 200 := by have := cycs_len p n; omega
  obtain ⟨C, hC⟩ : ∃ C, C = (heads n p).length := ⟨_, rfl⟩
  have hCl : C = (cycs p n).length := by rw [hC, cycs_heads, List.length_map]
  rw [← hCl] at hcl
  have HC := Lib.hid hC
  have HCL : Hid (((cycs p n).map iz).length = C) := by show _ = _; rw [List.length_map, hCl]
  clear hA hp hN hC hCl
  go_enter Try.func6, Try.ntmps6
  go_wp2_with fail
  refine (rightP_any A c n (iz p) w RP.out (izl HP.out) (by omega)).mono ?_
  rintro e w1 ⟨rfl, hb⟩
  rw [HP1.out]
  have RP := Lib.hid (RP.out.below hb)
  have HB := Lib.hid hb
  clear  hb
  go_wp2_with fail
  refine (cyclesAll_yes A c n p w1 RP.out HP.out hn).mono ?_
  rintro e w2 ⟨V, us, rfl, hz, hb⟩
  have RP := Lib.hid (RP.out.below hb)
  have HB := Lib.hid (next_below HB.out hb)
  have PR := Lib.hid hz
  clear hz hb
  go_wp2_with fail
  refine (order_yes A c n p w2 RP.out HP.out hn).mono ?_
  rintro e w3 ⟨rfl, hb⟩
  rw [← HORD.out]
  have RP := Lib.hid (RP.out.below hb)
  have PR := Lib.hid (PR.out.below hb)
  have HB := Lib.hid (next_below HB.out hb)
  clear  hb
  have hrow := PR.out.1
  rw [HCL.out] at hrow
  obtain ⟨gA, gC, rfl⟩ : ∃ (gA : Option Addr) (gC : Nat), V = .slice gA C gC := by
    rcases Joins.ownsRow_forms hrow with ⟨rfl, h0⟩ | ⟨g, cap, rfl⟩
    · exact ⟨none, 0, by rw [h0]⟩
    · exact ⟨some ⟨g, 0, none⟩, cap, rfl⟩
  have HRD := Lib.hid PR.out.rd
  have hb0 : Below w3.heap.size w3 (w3.alloc (.map #[] 0)) := (Below.refl _ _).alloc (Nat.le_refl _) _
  have HM0 : Hid (MapZ (w3.alloc (.map #[] 0)) w3.heap.size (upto n p 0).length (seenF (upto n p 0)) (upto n p 0).length) := by
    have e : seenF (upto n p 0) = fun _ => none := by funext z; rfl
    show MapZ _ _ _ _ _
    rw [e]
    exact MapZ.made w3
  have HB0 := Lib.hid hb0
  have hl0 : lcmL (((cycs p n).take 0).map List.length) = 1 := rfl
  have hla0 : lastZ n p 0 = -1 := rfl
  clear hrow hb0
  go_wp2_with fail
  clear hmm
  go_loopw [8, 9, 40] (fun s8 s9 s40 wr => ∃ k : Nat, k ≤ C ∧ s8 = .int .i64 (lastZ n p k) ∧ s9 = .int .i64 ((lcmL (((cycs p n).take k).map List.length) : Nat) : Int) ∧ s40 = .int .i64 k ∧ Hid (MapZ wr w3.heap.size (upto n p k).length (seenF (upto n p k)) (upto n p k).length) ∧ Hid (Below w3.heap.size w3 wr)) (fun _ _ s40 _ => C - (intOf s40).toNat)
  case atStart => exact ⟨0, Nat.zero_le _, rfl, rfl, rfl, HM0, HB0⟩
  case round =>
    obtain ⟨k, hk, rfl, rfl, rfl, hM, hB⟩ := hrel
    by_cases h1 : k < C
    · have t1 : decide ((k : Int) < (C : Int)) = true := by simp; omega
      have hk0 : (0 : Int) ≤ (k : Int) := by omega
      have hk1 : (k : Int) < (C : Nat) := by omega
      obtain ⟨v, hv⟩ : ∃ v, (heads n p)[k]? = some v := ⟨_, List.getElem?_eq_getElem (by rw [← HC.out]; exact h1)⟩
      obtain ⟨hvn, hvl⟩ := heads_mem hv
      have hrow : ((cycs p n).map iz)[k]? = some (iz (orb p v)) := by rw [cycs_heads, List.map_map, List.getElem?_map, hv]; rfl
      obtain ⟨ad, Bc, cc, rfl, hal, e00, hrc⟩ := HRD.out k _ hrow
      rw [iz_length, orb_length] at e00
      have e0 := (hB.out.cell (p := ad.add k) (by rw [block_add]; exact hal)).trans e00
      clear e00
      have hm1 := per_pos p v
      have hm2 := (per_spec HP.out hvn).1
      obtain ⟨m, hm⟩ : ∃ m, m = per p v := ⟨_, rfl⟩
      rw [← hm] at e0 hm1 hm2
      obtain ⟨adc, rfl, hadc, _⟩ := hrc 0 ((v : Nat) : Int) (by simp [iz, orb_at (show 0 < per p v by omega), it])
      obtain ⟨adc', eac, _, c0⟩ := (hrc.below hB.out) 0 ((v : Nat) : Int) (by simp [iz, orb_at (show 0 < per p v by omega), it])
      injection eac with eac
      subst eac
      rw [add_none] at c0
      have tl := lastZ_lt hv
      have t2 : ((m : Int) == 0) = false := by simp; omega
      have t3 : decide ((v : Int) ≤ lastZ n p k) = false := by rw [decide_eq_false_iff_not]; omega
      have hm0 : (0 : Int) < (m : Nat) := by omega
      have hm00 : 0 < m := by omega
      have hLN := lens_next hv
      rw [← hm] at hLN
      have hpre := pre_small HP.out hn (pre := (cycs p n).take k) (rest := (cycs p n).drop k) (List.take_append_drop _ _).symm
      have hpre2 := pre_small HP.out hn (pre := (cycs p n).take (k + 1)) (rest := (cycs p n).drop (k + 1)) (List.take_append_drop _ _).symm
      rw [hLN] at hpre2
      obtain ⟨s, hs⟩ : ∃ s, s = lcmL (((cycs p n).take k).map List.length) := ⟨_, rfl⟩
      rw [← hs] at hpre hpre2 hLN
      obtain ⟨L, hL⟩ : ∃ L, L = Nat.lcm s m := ⟨_, rfl⟩
      rw [← hL] at hpre2 hLN
      have HS := Lib.hid hs
      have HLN := Lib.hid hLN
      have HL := Lib.hid hL
      have HMM := Lib.hid hm
      have HV := Lib.hid hv
      have HVL := Lib.hid hvl
      have HRC := Lib.hid hrc
      rw [← hs]
      obtain ⟨wo, rfl⟩ : ∃ wo, wo = wr := ⟨_, rfl⟩
      obtain ⟨la, hla⟩ : ∃ la, la = lastZ n p k := ⟨_, rfl⟩
      rw [← hla] at t3 ⊢
      have HM1 : Hid (MapZ wo w3.heap.size ((upto n p k ++ (orb p v).take 0)).length (seenF (upto n p k ++ (orb p v).take 0)) ((upto n p k ++ (orb p v).take 0)).length) := by
        show MapZ _ _ _ _ _
        simpa using hM.out
      have HBW := Lib.hid hB.out
      have HBD := Lib.hid (⟨hpre, hpre2⟩ : _ ∧ _)
      have HAC := Lib.hid hadc
      clear hs hLN hL hm hv hvl hrc hla tl hrow hM hB hpre hpre2 hal hadc
      go_wp2_with fail
      go_loopw [59] (fun s59 wr => ∃ i : Nat, i ≤ m ∧ s59 = .int .i64 i ∧ Hid (MapZ wr w3.heap.size (upto n p k ++ (orb p v).take i).length (seenF (upto n p k ++ (orb p v).take i)) (upto n p k ++ (orb p v).take i).length) ∧ Hid (Below w3.heap.size w3 wr)) (fun s59 _ => m - (intOf s59).toNat)
      case atStart => exact ⟨0, Nat.zero_le _, rfl, HM1, HBW⟩
      case round =>
        clear e0 c0
        obtain ⟨i, hi, rfl, hMi, hBi⟩ := hrel
        by_cases h2 : i < m
        · have t4 : decide ((i : Int) < (m : Int)) = true := by simp; omega
          have hi0 : (0 : Int) ≤ (i : Int) := by omega
          have hi1 : (i : Int) < (m : Nat) := by omega
          have hip : i < per p v := by rw [← HMM.out]; exact h2
          obtain ⟨x, hx⟩ : ∃ x, x = it p v i := ⟨_, rfl⟩
          obtain ⟨y, hy⟩ : ∃ y, y = it p v (i + 1) := ⟨_, rfl⟩
          obtain ⟨j, hj⟩ : ∃ j, j = (i + 1) % m := ⟨_, rfl⟩
          have hjm : j < m := by rw [hj]; exact Nat.mod_lt _ (by omega)
          have hyj : y = it p v j := by rw [hy, hj, it_mod HP.out hvn, HMM.out]
          have hxn : x < n := by rw [hx]; exact it_lt HP.out hvn i
          have hrcW := HRC.out.below hBi.out
          obtain ⟨a1, ea1, _, k1⟩ := hrcW i ((x : Nat) : Int) (by simp [iz, orb_at hip, hx])
          injection ea1 with ea1
          subst ea1
          obtain ⟨a2, ea2, _, k2⟩ := hrcW 0 ((v : Nat) : Int) (by simp [iz, orb_at (show 0 < per p v by omega), it])
          injection ea2 with ea2
          subst ea2
          rw [add_none] at k2
          obtain ⟨a3, ea3, _, k3⟩ := hrcW j ((y : Nat) : Int) (by simp [iz, orb_at (show j < per p v by rw [← HMM.out]; exact hjm), hyj])
          injection ea3 with ea3
          subst ea3
          obtain ⟨adp, rfl, _, k4⟩ := (RP.out.below hBi.out) x _ (iz_at (by rw [HP.out.len]; exact hxn))
          have hgy : gn p x = y := by rw [hx, hy]; rfl
          rw [hgy] at k4
          have hvx : v ≤ x := by
            have h := HVL.out
            unfold leastB at h
            exact (of_decide_eq_true h) x ((mem_orb HP.out hvn).2 ⟨i, hx.symm⟩)
          have hnew : x ∉ upto n p k ++ (orb p v).take i := by rw [hx]; exact upto_new HP.out HV.out hip
          have HSX := Lib.hid (seenF_no hnew)
          have HTK : Hid ((upto n p k ++ (orb p v).take (i + 1)) = (upto n p k ++ (orb p v).take i) ++ [x]) := by
            show _ = _
            rw [List.take_add_one, orb_at hip, hx, List.append_assoc]
            rfl
          have HXI : Hid (inI (x : Int)) := ⟨by omega, by omega⟩
          have HII : Hid (inI 1) := ⟨by omega, by omega⟩
          have HLK : Hid (∀ wz, MapZ wz w3.heap.size (upto n p k ++ (orb p v).take i).length (seenF (upto n p k ++ (orb p v).take i)) (upto n p k ++ (orb p v).take i).length → (Instr.lookup 51 (.map (some w3.heap.size)) (.int .i64 (x : Nat)) false).run Try.prog wz = .ok (.int .i64 0) wz) := fun wz hz => by
            have h := hz.look HXI.out
            rw [HSX.out] at h
            exact h
          have HSS : Hid ((wr.drew.cell? (adc.add i) = some (.int .i64 ((x : Nat) : Int)) ∧ wr.drew.cell? adc = some (.int .i64 ((v : Nat) : Int)) ∧ wr.drew.cell? (adp.add x) = some (.int .i64 ((y : Nat) : Int)) ∧ wr.drew.cell? (adc.add j) = some (.int .i64 ((y : Nat) : Int)) ∧ MapZ wr.drew w3.heap.size (upto n p k ++ (orb p v).take i).length (seenF (upto n p k ++ (orb p v).take i)) (upto n p k ++ (orb p v).take i).length)) := ⟨k1, k2, k4, k3, hMi.out⟩
          have hlenu : (upto n p k ++ (orb p v).take i).length ≤ 40000 := by
            rw [List.length_append, List.length_take, orb_length]
            have := upto_len HP.out k
            omega
          have HN6 : Hid (∀ w6, MapZ w6 w3.heap.size ((upto n p k ++ (orb p v).take i).length + 1) (upd (seenF (upto n p k ++ (orb p v).take i)) (x : Int) 1) (if (seenF (upto n p k ++ (orb p v).take i) (x : Int)).isSome then (upto n p k ++ (orb p v).take i).length else (upto n p k ++ (orb p v).take i).length + 1) → wr.drew.grownBy w6 (some w3.heap.size) →
              Hid (MapZ w6 w3.heap.size (upto n p k ++ (orb p v).take (i + 1)).length (seenF (upto n p k ++ (orb p v).take (i + 1))) (upto n p k ++ (orb p v).take (i + 1)).length) ∧ Hid (Below w3.heap.size w3 w6)) := fun w6 h6 hg6 => by
            refine ⟨?_, ?_⟩
            · show MapZ _ _ _ _ _
              rw [HTK.out, ← seenF_push, List.length_append, List.length_singleton]
              rw [HSX.out] at h6
              exact h6
            · exact (hBi.out.trans (⟨rfl, rfl, rfl, Nat.le_refl _, fun _ _ => rfl⟩ : Below w3.heap.size wr wr.drew)).grown hg6 hBi.out.size (fun k e => by injection e with e; omega)
          have u1 : decide ((x : Int) < (v : Int)) = false := by rw [decide_eq_false_iff_not]; omega
          have u2 : decide ((n : Int) ≤ (x : Int)) = false := by rw [decide_eq_false_iff_not]; omega
          have u3 : decide (x < v) = false := by rw [decide_eq_false_iff_not]; omega
          have u4 : decide (n ≤ x) = false := by rw [decide_eq_false_iff_not]; omega
          have u5 : IntKind.i64.wrap ((i : Int) + 1) = ((i + 1 : Nat) : Int) := (IntWalk.i64_in _ (by omega)).trans (by omega)
          have u6 : (((i + 1 : Nat) : Int)).tmod m = (j : Int) := by rw [hj]; rfl
          have u7 : ((y : Int) != (y : Int)) = false := by simp
          have u8 : ¬ m = 0 := by omega
          obtain ⟨i1, hi1e⟩ : ∃ i1, i1 = i + 1 := ⟨_, rfl⟩
          rw [← hi1e] at u5 u6
          have HI1 := Lib.hid hi1e
          have hx0 : (0 : Int) ≤ (x : Int) := by omega
          have hx1 : (x : Int) < (n : Nat) := by omega
          have hj0 : (0 : Int) ≤ (j : Int) := by omega
          have hj1 : (j : Int) < (m : Nat) := by omega
          have HMI := hMi
          clear hx hy hj hyj hgy hnew hi1e hvx hrcW hMi hBi hip hjm hxn
          go_wp2_with fail
          refine wp_region_held_drew (S := fun wz => wz.cell? (adc.add i) = some (.int .i64 ((x : Nat) : Int)) ∧ wz.cell? adc = some (.int .i64 ((v : Nat) : Int)) ∧ wz.cell? (adp.add x) = some (.int .i64 ((y : Nat) : Int)) ∧ wz.cell? (adc.add j) = some (.int .i64 ((y : Nat) : Int)) ∧ MapZ wz w3.heap.size (upto n p k ++ (orb p v).take i).length (seenF (upto n p k ++ (orb p v).take i)) (upto n p k ++ (orb p v).take i).length) (by kernel_rfl) HSS.out (fun hS => ?_)
          refine wpAnyH_take (i := 0) (v := ?_) rfl (by kernel_rfl) (by kernel_rfl) (by kernel_rfl) (fun _ _ _ h => h) (Or.inl ⟨by rfl, ?_⟩) hS ?_
          rotate_left
          · intro wz hSw; (try dsimp only at hSw); go_simp; (try with_reducible rfl)
          try simp only [List.getElem_toArray, List.getElem_cons_zero, List.getElem_cons_succ, Act.put, List.setIfInBounds_toArray, List.set_cons_zero, List.set_cons_succ]
          refine wpAnyH_take (i := 1) (v := ?_) rfl (by kernel_rfl) (by kernel_rfl) (by kernel_rfl) (fun _ _ _ h => h) (Or.inl ⟨by rfl, ?_⟩) hS ?_
          rotate_left
          · intro wz hSw; (try dsimp only at hSw); go_simp; (try with_reducible rfl)
          try simp only [List.getElem_toArray, List.getElem_cons_zero, List.getElem_cons_succ, Act.put, List.setIfInBounds_toArray, List.set_cons_zero, List.set_cons_succ]
          refine wpAnyH_take (i := 2) (v := ?_) rfl (by kernel_rfl) (by kernel_rfl) (by kernel_rfl) (fun _ _ _ h => h) (Or.inl ⟨by rfl, ?_⟩) hS ?_
          rotate_left
          · intro wz hSw; (try dsimp only at hSw); go_simp; (try with_reducible rfl)
          try simp only [List.getElem_toArray, List.getElem_cons_zero, List.getElem_cons_succ, Act.put, List.setIfInBounds_toArray, List.set_cons_zero, List.set_cons_succ]
          refine wpAnyH_take (i := 3) (v := ?_) rfl (by kernel_rfl) (by kernel_rfl) (by kernel_rfl) (fun _ _ _ h => h) (Or.inl ⟨by rfl, ?_⟩) hS ?_
          rotate_left
          · intro wz hSw; (try dsimp only at hSw); obtain ⟨q1, q2, q3, q4, q5⟩ := hSw; go_simp; (try with_reducible rfl)
          try simp only [List.getElem_toArray, List.getElem_cons_zero, List.getElem_cons_succ, Act.put, List.setIfInBounds_toArray, List.set_cons_zero, List.set_cons_succ]
          refine wpAnyH_take (i := 4) (v := ?_) rfl (by kernel_rfl) (by kernel_rfl) (by kernel_rfl) (fun _ _ _ h => h) (Or.inl ⟨by rfl, ?_⟩) hS ?_
          rotate_left
          · intro wz hSw; (try dsimp only at hSw); go_simp; (try with_reducible rfl)
          try simp only [List.getElem_toArray, List.getElem_cons_zero, List.getElem_cons_succ, Act.put, List.setIfInBounds_toArray, List.set_cons_zero, List.set_cons_succ]
          refine wpAnyH_take (i := 5) (v := ?_) rfl (by kernel_rfl) (by kernel_rfl) (by kernel_rfl) (fun _ _ _ h => h) (Or.inl ⟨by rfl, ?_⟩) hS ?_
          rotate_left
          · intro wz hSw; (try dsimp only at hSw); go_simp; (try with_reducible rfl)
          try simp only [List.getElem_toArray, List.getElem_cons_zero, List.getElem_cons_succ, Act.put, List.setIfInBounds_toArray, List.set_cons_zero, List.set_cons_succ]
          refine wpAnyH_take (i := 6) (v := ?_) rfl (by kernel_rfl) (by kernel_rfl) (by kernel_rfl) (fun _ _ _ h => h) (Or.inl ⟨by rfl, ?_⟩) hS ?_
          rotate_left
          · intro wz hSw; (try dsimp only at hSw); go_simp; (try with_reducible rfl)
          try simp only [List.getElem_toArray, List.getElem_cons_zero, List.getElem_cons_succ, Act.put, List.setIfInBounds_toArray, List.set_cons_zero, List.set_cons_succ]
          refine wpAnyH_take (i := 7) (v := ?_) rfl (by kernel_rfl) (by kernel_rfl) (by kernel_rfl) (fun _ _ _ h => h) (Or.inl ⟨by rfl, ?_⟩) hS ?_
          rotate_left
          · intro wz hSw; (try dsimp only at hSw); go_simp; (try with_reducible rfl)
          try simp only [List.getElem_toArray, List.getElem_cons_zero, List.getElem_cons_succ, Act.put, List.setIfInBounds_toArray, List.set_cons_zero, List.set_cons_succ]
          refine wpAnyH_take (i := 8) (v := ?_) rfl (by kernel_rfl) (by kernel_rfl) (by kernel_rfl) (fun _ _ _ h => h) (Or.inl ⟨by rfl, ?_⟩) hS ?_
          rotate_left
          · intro wz hSw; (try dsimp only at hSw); go_simp; (try with_reducible rfl)
          try simp only [List.getElem_toArray, List.getElem_cons_zero, List.getElem_cons_succ, Act.put, List.setIfInBounds_toArray, List.set_cons_zero, List.set_cons_succ]
          refine wpAnyH_take (i := 9) (v := ?_) rfl (by kernel_rfl) (by kernel_rfl) (by kernel_rfl) (fun _ _ _ h => h) (Or.inl ⟨by rfl, ?_⟩) hS ?_
          rotate_left
          · intro wz hSw; (try dsimp only at hSw); go_simp; (try with_reducible rfl)
          try simp only [List.getElem_toArray, List.getElem_cons_zero, List.getElem_cons_succ, Act.put, List.setIfInBounds_toArray, List.set_cons_zero, List.set_cons_succ]
          refine wpAnyH_take (i := 10) (v := ?_) rfl (by kernel_rfl) (by kernel_rfl) (by kernel_rfl) (fun _ _ _ h => h) (Or.inl ⟨by rfl, ?_⟩) hS ?_
          rotate_left
          · intro wz hSw; (try dsimp only at hSw); go_simp; (try with_reducible rfl)
          try simp only [List.getElem_toArray, List.getElem_cons_zero, List.getElem_cons_succ, Act.put, List.setIfInBounds_toArray, List.set_cons_zero, List.set_cons_succ]
          refine wpAnyH_take (i := 11) (v := ?_) rfl (by kernel_rfl) (by kernel_rfl) (by kernel_rfl) (fun _ _ _ h => h) (Or.inl ⟨by rfl, ?_⟩) hS ?_
          rotate_left
          · intro wz hSw; (try dsimp only at hSw); go_simp; (try with_reducible rfl)
          try simp only [List.getElem_toArray, List.getElem_cons_zero, List.getElem_cons_succ, Act.put, List.setIfInBounds_toArray, List.set_cons_zero, List.set_cons_succ]
          refine wpAnyH_take (i := 12) (v := ?_) rfl (by kernel_rfl) (by kernel_rfl) (by kernel_rfl) (fun _ _ _ h => h) (Or.inl ⟨by rfl, ?_⟩) hS ?_
          rotate_left
          · intro wz hSw; (try dsimp only at hSw); go_simp; (try with_reducible rfl)
          try simp only [List.getElem_toArray, List.getElem_cons_zero, List.getElem_cons_succ, Act.put, List.setIfInBounds_toArray, List.set_cons_zero, List.set_cons_succ]
          refine wpAnyH_take (i := 13) (v := ?_) rfl (by kernel_rfl) (by kernel_rfl) (by kernel_rfl) (fun _ _ _ h => h) (Or.inl ⟨by rfl, ?_⟩) hS ?_
          rotate_left
          · intro wz hSw; (try dsimp only at hSw); go_simp; (try with_reducible rfl)
          try simp only [List.getElem_toArray, List.getElem_cons_zero, List.getElem_cons_succ, Act.put, List.setIfInBounds_toArray, List.set_cons_zero, List.set_cons_succ]
          refine wpAnyH_take (i := 14) (v := ?_) rfl (by kernel_rfl) (by kernel_rfl) (by kernel_rfl) (fun _ _ _ h => h) (Or.inl ⟨by rfl, ?_⟩) hS ?_
          rotate_left
          · intro wz hSw; (try dsimp only at hSw); obtain ⟨q1, q2, q3, q4, q5⟩ := hSw; have q6 := HLK.out wz q5; go_simp; (try with_reducible rfl)
          try simp only [List.getElem_toArray, List.getElem_cons_zero, List.getElem_cons_succ, Act.put, List.setIfInBounds_toArray, List.set_cons_zero, List.set_cons_succ]
          refine wpAnyH_take (i := 15) (v := ?_) rfl (by kernel_rfl) (by kernel_rfl) (by kernel_rfl) (fun _ _ _ h => h) (Or.inl ⟨by rfl, ?_⟩) hS ?_
          rotate_left
          · intro wz hSw; (try dsimp only at hSw); go_simp; (try with_reducible rfl)
          try simp only [List.getElem_toArray, List.getElem_cons_zero, List.getElem_cons_succ, Act.put, List.setIfInBounds_toArray, List.set_cons_zero, List.set_cons_succ]
          refine wpAnyH_take (i := 16) (v := ?_) rfl (by kernel_rfl) (by kernel_rfl) (by kernel_rfl) (fun _ _ _ h => h) (Or.inl ⟨by rfl, ?_⟩) hS ?_
          rotate_left
          · intro wz hSw; (try dsimp only at hSw); go_simp; (try with_reducible rfl)
          try simp only [List.getElem_toArray, List.getElem_cons_zero, List.getElem_cons_succ, Act.put, List.setIfInBounds_toArray, List.set_cons_zero, List.set_cons_succ]
          refine wpAnyH_take (i := 17) (v := ?_) rfl (by kernel_rfl) (by kernel_rfl) (by kernel_rfl) (fun _ _ _ h => h) (Or.inl ⟨by rfl, ?_⟩) hS ?_
          rotate_left
          · intro wz hSw; (try dsimp only at hSw); go_simp; (try with_reducible rfl)
          try simp only [List.getElem_toArray, List.getElem_cons_zero, List.getElem_cons_succ, Act.put, List.setIfInBounds_toArray, List.set_cons_zero, List.set_cons_succ]
          refine wpAnyH_take (i := 18) (v := ?_) rfl (by kernel_rfl) (by kernel_rfl) (by kernel_rfl) (fun _ _ _ h => h) (Or.inl ⟨by rfl, ?_⟩) hS ?_
          rotate_left
          · intro wz hSw; (try dsimp only at hSw); go_simp; (try with_reducible rfl)
          try simp only [List.getElem_toArray, List.getElem_cons_zero, List.getElem_cons_succ, Act.put, List.setIfInBounds_toArray, List.set_cons_zero, List.set_cons_succ]
          refine wpAnyH_take (i := 19) (v := ?_) rfl (by kernel_rfl) (by kernel_rfl) (by kernel_rfl) (fun _ _ _ h => h) (Or.inl ⟨by rfl, ?_⟩) hS ?_
          rotate_left
          · intro wz hSw; (try dsimp only at hSw); go_simp; (try with_reducible rfl)
          try simp only [List.getElem_toArray, List.getElem_cons_zero, List.getElem_cons_succ, Act.put, List.setIfInBounds_toArray, List.set_cons_zero, List.set_cons_succ]
          refine wpAnyH_take (i := 20) (v := ?_) rfl (by kernel_rfl) (by kernel_rfl) (by kernel_rfl) (fun _ _ _ h => h) (Or.inl ⟨by rfl, ?_⟩) hS ?_
          rotate_left
          · intro wz hSw; (try dsimp only at hSw); go_simp; (try with_reducible rfl)
          try simp only [List.getElem_toArray, List.getElem_cons_zero, List.getElem_cons_succ, Act.put, List.setIfInBounds_toArray, List.set_cons_zero, List.set_cons_succ]
          refine wpAnyH_take (i := 21) (v := ?_) rfl (by kernel_rfl) (by kernel_rfl) (by kernel_rfl) (fun _ _ _ h => h) (Or.inl ⟨by rfl, ?_⟩) hS ?_
          rotate_left
          · intro wz hSw; (try dsimp only at hSw); obtain ⟨q1, q2, q3, q4, q5⟩ := hSw; go_simp; (try with_reducible rfl)
          try simp only [List.getElem_toArray, List.getElem_cons_zero, List.getElem_cons_succ, Act.put, List.setIfInBounds_toArray, List.set_cons_zero, List.set_cons_succ]
          refine wpAnyH_take (i := 22) (v := ?_) rfl (by kernel_rfl) (by kernel_rfl) (by kernel_rfl) (fun _ _ _ h => h) (Or.inl ⟨by rfl, ?_⟩) hS ?_
          rotate_left
          · intro wz hSw; (try dsimp only at hSw); go_simp; (try with_reducible rfl)
          try simp only [List.getElem_toArray, List.getElem_cons_zero, List.getElem_cons_succ, Act.put, List.setIfInBounds_toArray, List.set_cons_zero, List.set_cons_succ]
          refine wpAnyH_take (i := 23) (v := ?_) rfl (by kernel_rfl) (by kernel_rfl) (by kernel_rfl) (fun _ _ _ h => h) (Or.inl ⟨by rfl, ?_⟩) hS ?_
          rotate_left
          · intro wz hSw; (try dsimp only at hSw); go_simp; (try with_reducible rfl)
          try simp only [List.getElem_toArray, List.getElem_cons_zero, List.getElem_cons_succ, Act.put, List.setIfInBounds_toArray, List.set_cons_zero, List.set_cons_succ]
          refine wpAnyH_take (i := 24) (v := ?_) rfl (by kernel_rfl) (by kernel_rfl) (by kernel_rfl) (fun _ _ _ h => h) (Or.inl ⟨by rfl, ?_⟩) hS ?_
          rotate_left
          · intro wz hSw; (try dsimp only at hSw); go_simp; (try with_reducible rfl)
          try simp only [List.getElem_toArray, List.getElem_cons_zero, List.getElem_cons_succ, Act.put, List.setIfInBounds_toArray, List.set_cons_zero, List.set_cons_succ]
          refine wpAnyH_take (i := 25) (v := ?_) rfl (by kernel_rfl) (by kernel_rfl) (by kernel_rfl) (fun _ _ _ h => h) (Or.inl ⟨by rfl, ?_⟩) hS ?_
          rotate_left
          · intro wz hSw; (try dsimp only at hSw); go_simp; (try with_reducible rfl)
          try simp only [List.getElem_toArray, List.getElem_cons_zero, List.getElem_cons_succ, Act.put, List.setIfInBounds_toArray, List.set_cons_zero, List.set_cons_succ]
          refine wpAnyH_take (i := 26) (v := ?_) rfl (by kernel_rfl) (by kernel_rfl) (by kernel_rfl) (fun _ _ _ h => h) (Or.inl ⟨by rfl, ?_⟩) hS ?_
          rotate_left
          · intro wz hSw; (try dsimp only at hSw); go_simp; (try with_reducible rfl)
          try simp only [List.getElem_toArray, List.getElem_cons_zero, List.getElem_cons_succ, Act.put, List.setIfInBounds_toArray, List.set_cons_zero, List.set_cons_succ]
          refine wpAnyH_take (i := 27) (v := ?_) rfl (by kernel_rfl) (by kernel_rfl) (by kernel_rfl) (fun _ _ _ h => h) (Or.inl ⟨by rfl, ?_⟩) hS ?_
          rotate_left
          · intro wz hSw; (try dsimp only at hSw); go_simp; (try with_reducible rfl)
          try simp only [List.getElem_toArray, List.getElem_cons_zero, List.getElem_cons_succ, Act.put, List.setIfInBounds_toArray, List.set_cons_zero, List.set_cons_succ]
          refine wpAnyH_take (i := 28) (v := ?_) rfl (by kernel_rfl) (by kernel_rfl) (by kernel_rfl) (fun _ _ _ h => h) (Or.inl ⟨by rfl, ?_⟩) hS ?_
          rotate_left
          · intro wz hSw; (try dsimp only at hSw); go_simp; (try with_reducible rfl)
          try simp only [List.getElem_toArray, List.getElem_cons_zero, List.getElem_cons_succ, Act.put, List.setIfInBounds_toArray, List.set_cons_zero, List.set_cons_succ]
          refine wpAnyH_take (i := 29) (v := ?_) rfl (by kernel_rfl) (by kernel_rfl) (by kernel_rfl) (fun _ _ _ h => h) (Or.inl ⟨by rfl, ?_⟩) hS ?_
          rotate_left
          · intro wz hSw; (try dsimp only at hSw); obtain ⟨q1, q2, q3, q4, q5⟩ := hSw; go_simp; (try with_reducible rfl)
          try simp only [List.getElem_toArray, List.getElem_cons_zero, List.getElem_cons_succ, Act.put, List.setIfInBounds_toArray, List.set_cons_zero, List.set_cons_succ]
          refine wpAnyH_take (i := 30) (v := ?_) rfl (by kernel_rfl) (by kernel_rfl) (by kernel_rfl) (fun _ _ _ h => h) (Or.inl ⟨by rfl, ?_⟩) hS ?_
          rotate_left
          · intro wz hSw; (try dsimp only at hSw); go_simp; (try with_reducible rfl)
          try simp only [List.getElem_toArray, List.getElem_cons_zero, List.getElem_cons_succ, Act.put, List.setIfInBounds_toArray, List.set_cons_zero, List.set_cons_succ]
          refine wpAnyH_take (i := 31) (v := ?_) rfl (by kernel_rfl) (by kernel_rfl) (by kernel_rfl) (fun _ _ _ h => h) (Or.inl ⟨by rfl, ?_⟩) hS ?_
          rotate_left
          · intro wz hSw; (try dsimp only at hSw); go_simp; (try with_reducible rfl)
          try simp only [List.getElem_toArray, List.getElem_cons_zero, List.getElem_cons_succ, Act.put, List.setIfInBounds_toArray, List.set_cons_zero, List.set_cons_succ]
          refine wpAnyH_done (by kernel_rfl) ?_ _
          obtain ⟨q1, q2, q3, q4, q5⟩ := hS
          go_wp2_with (at_mapUpdate; refine wpList_putZ _ rfl _ _ _ rfl w3.heap.size _ _ _ rfl q5 (by omega) (x : Int) 1 rfl rfl HXI.out HII.out ?_; intro w6 hM6 hg6; obtain ⟨HM7, HB7⟩ := HN6.out w6 hM6 hg6)
          go_roundw
          case rel => exact ⟨i + 1, by omega, by rw [HI1.out], HM7, HB7⟩
          case measure => have := HI1.out; simp [intOf]; omega
        · obtain rfl : i = m := by omega
          have t4 : decide ((i : Int) < (i : Int)) = false := by simp
          obtain ⟨wm, rfl⟩ : ∃ wm, wm = wr := ⟨_, rfl⟩
          obtain ⟨⟨hs0, hs1⟩, hL0, hL1⟩ := HBD.out
          have hsL : s ≤ L := Nat.le_of_dvd hL0 (by rw [HL.out]; exact Nat.dvd_lcm_left _ _)
          have u8 : ¬ i = 0 := by omega
          have hs1' : s * 1 = s := Nat.mul_one s
          go_wp2_with fail
          go_loopw [9] (fun s9 wr => ∃ t : Nat, 1 ≤ t ∧ s * t ≤ L ∧ s9 = .int .i64 ((s * t : Nat) : Int) ∧ wr = wm) (fun s9 _ => L - (intOf s9).toNat)
          case atStart => exact ⟨1, by omega, by omega, by rw [hs1'], rfl⟩
          case round =>
            obtain ⟨t, ht1, ht2, rfl, rfl⟩ := hrel
            obtain ⟨g1, g2⟩ := step_on HL.out hs0 ht1 ht2
            obtain ⟨u, hu⟩ : ∃ u, u = s * t := ⟨_, rfl⟩
            obtain ⟨r, hr⟩ : ∃ r : Nat, u % i = r := ⟨_, rfl⟩
            have hr1 : ((u : Nat) : Int).tmod (i : Int) = (r : Int) := by rw [← hr]; rfl
            have hst : s * (t + 1) = u + s := by rw [hu, Nat.mul_succ]
            rw [hst] at g2
            rw [← hu] at ht2 g1 g2 ⊢
            rw [hr] at g1 g2
            by_cases h3 : r = 0
            · have e1 := g1 h3
              have v1 : ((r : Int) != 0) = false := by simp; omega
              have e2 := lastZ_next HV.out
              have HM8 : Hid (MapZ wr w3.heap.size (upto n p (k + 1)).length (seenF (upto n p (k + 1))) (upto n p (k + 1)).length) := by
                show MapZ _ _ _ _ _
                rw [upto_next HV.out]
                have h := hMi.out
                rw [List.take_of_length_le (by rw [orb_length, ← HMM.out]; exact Nat.le_refl _)] at h
                exact h
              have HE1 : Hid (lcmL (((cycs p n).take (k + 1)).map List.length) = u) := by show _ = _; rw [HLN.out, e1]
              have HE2 := Lib.hid e2
              clear hu hr hst e1 e2 g1 g2 hs1'
              go_wp2_with fail
              go_roundw
              case rel => exact ⟨k + 1, by omega, by rw [HE2.out], by rw [HE1.out], by go_num, HM8, hBi⟩
              case measure => simp [intOf]; omega
            · have e1 := g2 h3
              have v1 : ((r : Int) != 0) = true := by simp; omega
              have v2 : IntKind.i64.wrap ((u : Int) + (s : Int)) = ((u + s : Nat) : Int) := (IntWalk.i64_in _ (by omega)).trans (by omega)
              obtain ⟨u2, hu2⟩ : ∃ u2, u2 = u + s := ⟨_, rfl⟩
              rw [← hu2] at v2 hst
              have hst' : s * (t + 1) ≤ L := by rw [hst, hu2]; exact e1
              have HST := Lib.hid hst
              have hlt : u < u2 := by omega
              have hle : u2 ≤ L := by omega
              clear hu hr hst e1 g1 g2 hs1' hu2
              go_wp2_with fail
              go_roundw
              case rel => exact ⟨t + 1, by omega, hst', by rw [HST.out], by first | rfl | trivial⟩
              case measure => simp [intOf]; omega
    · obtain rfl : k = C := by omega
      have t1 : decide ((k : Int) < (k : Int)) = false := by simp
      have hup : (upto n p k).length = n := by
        have h := upto_all HP.out
        rwa [← HC.out] at h
      have hMe := hM.out
      rw [hup] at hMe
      have l3 := fun ty => hMe.len ty
      have hfin : lcmL (((cycs p n).take k).map List.length) = N := by
        rw [List.take_of_length_le (by have := HCL.out; rw [List.length_map] at this; omega), HORD.out]
        rfl
      rw [hfin]
      have HAW := Lib.hid (awake_any wr)
      have HBR := Lib.hid (next_below HB.out ⟨hB.out.os, hB.out.tape, hB.out.output, hB.out.size, hB.out.block⟩)
      clear hfin hup hMe hM hB
      go_wp2_with fail
      refine HAW.out.mono ?_
      rintro e w99 ⟨rfl, hb⟩
      go_wp2_with fail
      go_ret
      exact ⟨rfl, next_below HBR.out hb⟩

set_option maxRecDepth 100000 in
set_option maxHeartbeats 8000000 in
theorem cycles_walk (v0 : Value) (w : World) (o0 : OkInts w v0) :
    Calls Try.prog 6 #[v0] w fun e w' => e = .returned (.bool true) ∧ Below w.heap.size w w' := by
  obtain ⟨A0, c0, x0, rfl, _, r0, l0, m0, hc⟩ := o0
  have R0 := Lib.hid r0
  clear r0
  by_cases h0 : rightP x0 = false
  · have H0 := Lib.hid h0
    clear h0 hc
    go_enter Try.func6, Try.ntmps6
    go_wp2_with fail
    refine (rightP_any A0 c0 x0.length x0 w R0.out rfl (by omega)).mono ?_
    rintro e w1 ⟨rfl, hb⟩
    rw [show rightP x0 = false from H0.out]
    have HB := Lib.hid hb
    clear hb
    go_wp2_with fail
    refine (awake_any w1).mono ?_
    rintro e w99 ⟨rfl, hb⟩
    go_wp2_with fail
    go_ret
    exact ⟨rfl, next_below HB.out hb⟩
  · obtain ⟨p, rfl, hp, hpl⟩ := rightP_iff.1 (by simpa using h0)
    have e1 : (iz p).length = p.length := iz_length p
    rw [e1]
    exact cycles_main A0 c0 p.length p w R0.out hp hpl
end Go.Proofs.Ytgldlanfbkgfjaa
