/- fretworklaw08.together (layer 8). -/
import Derived.Test.YtlkfpphahfendaaH21
import Derived.Test.YtlkfpphahfendaaW31
import Derived.Deep.AppendLies
import Derived.Deep.RegionHeld
import Derived.Test.YtlkfpphahfendaaU7
import Derived.Test.YtlkfpphahfendaaWM
namespace Go.Proofs.Ytlkfpphahfendaa
set_option maxRecDepth 100000
open Go.RowKit Go.Maps

section
open Go.RowKit

/-- The ends of edges, one by one. -/
def endsL (G : List (Int × Int)) : List Int := G.flatMap fun e => [e.1, e.2]
theorem endsL_length : ∀ G : List (Int × Int), (endsL G).length = G.length * 2
  | [] => rfl
  | e :: G => by
    show ([e.1, e.2] ++ endsL G).length = _
    rw [List.length_append, endsL_length G]
    simp
    omega
theorem endsL_at : ∀ (G : List (Int × Int)) (t : Nat) (e : Int × Int), G[t]? = some e → (endsL G)[t * 2]? = some e.1 ∧ (endsL G)[t * 2 + 1]? = some e.2
  | [], t, e, h => by simp at h
  | q :: G, 0, e, h => by
    simp at h
    subst h
    exact ⟨rfl, rfl⟩
  | q :: G, t + 1, e, h => by
    obtain ⟨h1, h2⟩ := endsL_at G t e (by simpa using h)
    show ([q.1, q.2] ++ endsL G)[(t + 1) * 2]? = _ ∧ ([q.1, q.2] ++ endsL G)[(t + 1) * 2 + 1]? = _
    rw [show (t + 1) * 2 = 2 + t * 2 by omega, show 2 + t * 2 + 1 = 2 + (t * 2 + 1) by omega]
    exact ⟨by rw [List.getElem?_append_right (by simp)]; simpa using h1, by rw [List.getElem?_append_right (by simp)]; simpa using h2⟩
theorem endsL_mem {G : List (Int × Int)} {v : Int} : v ∈ endsL G ↔ ∃ e ∈ G, EndOf e v := by
  unfold endsL EndOf
  rw [List.mem_flatMap]
  constructor
  · rintro ⟨e, he, h⟩
    simp at h
    exact ⟨e, he, by omega⟩
  · rintro ⟨e, he, h⟩
    exact ⟨e, he, by simp; omega⟩
/-- What has been set down, each once. -/
def seenI (S : List Int) : Int → Option Int := fun z => if z ∈ S then some 1 else none
theorem seenI_old {S : List Int} {x : Int} (h : x ∈ S) : upd (seenI S) x 1 = seenI S := by
  funext z
  unfold upd seenI
  by_cases e : z = x
  · subst e
    rw [if_pos rfl, if_pos h]
  · rw [if_neg e]
theorem seenI_new {S : List Int} {x : Int} : upd (seenI S) x 1 = seenI (S ++ [x]) := by
  funext z
  unfold upd seenI
  by_cases e : z = x
  · subst e
    rw [if_pos rfl, if_pos (by simp)]
  · rw [if_neg e]
    by_cases h : z ∈ S
    · rw [if_pos h, if_pos (by simp [h])]
    · rw [if_neg h, if_neg (by simp [h, e])]
/-- The feet and the others among the first ends. -/
structure Tog (W G : List (Int × Int)) (m : Nat) (S O : List Int) : Prop where
  nd : S.Nodup
  feet : ∀ z, z ∈ S ↔ z ∈ (endsL G).take m ∧ onZ W z = true
  own : O = ((endsL G).take m).filter fun z => !onZ W z
theorem Tog.start (W G : List (Int × Int)) : Tog W G 0 [] [] := ⟨List.nodup_nil, fun z => by simp, by simp⟩
theorem Tog.off {W G : List (Int × Int)} {m : Nat} {S O : List Int} {v : Int} (h : Tog W G m S O) (hv : (endsL G)[m]? = some v) (ho : onZ W v = false) : Tog W G (m + 1) S (O ++ [v]) := by
  have ht : (endsL G).take (m + 1) = (endsL G).take m ++ [v] := by rw [List.take_add_one, hv]; rfl
  refine ⟨h.nd, fun z => ?_, ?_⟩
  · rw [ht, h.feet z]
    constructor
    · rintro ⟨h1, h2⟩; exact ⟨by simp [h1], h2⟩
    · rintro ⟨h1, h2⟩
      rcases List.mem_append.1 h1 with h1 | h1
      · exact ⟨h1, h2⟩
      · simp at h1; subst h1; rw [ho] at h2; cases h2
  · rw [ht, List.filter_append, ← h.own]
    simp [ho]
theorem Tog.old {W G : List (Int × Int)} {m : Nat} {S O : List Int} {v : Int} (h : Tog W G m S O) (hv : (endsL G)[m]? = some v) (ho : onZ W v = true) (hs : v ∈ S) : Tog W G (m + 1) S O := by
  have ht : (endsL G).take (m + 1) = (endsL G).take m ++ [v] := by rw [List.take_add_one, hv]; rfl
  refine ⟨h.nd, fun z => ?_, ?_⟩
  · rw [ht, h.feet z]
    constructor
    · rintro ⟨h1, h2⟩; exact ⟨by simp [h1], h2⟩
    · rintro ⟨h1, h2⟩
      rcases List.mem_append.1 h1 with h1 | h1
      · exact ⟨h1, h2⟩
      · simp at h1; subst h1; exact (h.feet z).1 hs
  · rw [ht, List.filter_append, ← h.own]
    simp [ho]
theorem Tog.new {W G : List (Int × Int)} {m : Nat} {S O : List Int} {v : Int} (h : Tog W G m S O) (hv : (endsL G)[m]? = some v) (ho : onZ W v = true) (hs : v ∉ S) : Tog W G (m + 1) (S ++ [v]) O := by
  have ht : (endsL G).take (m + 1) = (endsL G).take m ++ [v] := by rw [List.take_add_one, hv]; rfl
  refine ⟨?_, fun z => ?_, ?_⟩
  · rw [List.nodup_append]
    exact ⟨h.nd, by simp, fun a ha b hb => by simp at hb; subst hb; exact fun e => hs (by rw [← e]; exact ha)⟩
  · rw [ht, List.mem_append, h.feet z, List.mem_append]
    constructor
    · rintro (⟨h1, h2⟩ | h1)
      · exact ⟨.inl h1, h2⟩
      · simp at h1; subst h1; exact ⟨.inr (by simp), ho⟩
    · rintro ⟨h1 | h1, h2⟩
      · exact .inl ⟨h1, h2⟩
      · exact .inr h1
  · rw [ht, List.filter_append, ← h.own]
    simp [ho]
/-- At the end the feet are those that the fragment says. -/
theorem Tog.count {n : Nat} {W G : List (Int × Int)} {S O : List Int} (h : Tog W G (endsL G).length S O) (hin : ∀ e ∈ G, 0 ≤ e.1 ∧ e.1 < n ∧ 0 ≤ e.2 ∧ e.2 < n) : S.length = (feetR W G n).length ∧ ∀ z, z ∈ S ↔ z ∈ feetR W G n := by
  have hm : ∀ z, z ∈ S ↔ z ∈ feetR W G n := by
    intro z
    rw [h.feet z, List.take_length, endsL_mem, feetR_mem]
    constructor
    · rintro ⟨⟨e, he, hz⟩, h2⟩
      have h4 := hin e he
      have hz0 : 0 ≤ z ∧ z < n := by rcases hz with hz | hz <;> omega
      refine ⟨z.toNat, by omega, by omega, h2, ?_⟩
      unfold onZ
      rw [List.any_eq_true]
      exact ⟨e, he, by rcases hz with hz | hz <;> simp [hz]⟩
    · rintro ⟨v, _, rfl, h2, h3⟩
      unfold onZ at h3
      rw [List.any_eq_true] at h3
      obtain ⟨e, he, h4⟩ := h3
      exact ⟨⟨e, he, by simpa [EndOf] using h4⟩, h2⟩
  refine ⟨?_, hm⟩
  have hnd : (feetR W G n).Nodup := (feetR_lt W G n).imp (fun hlt e => by subst e; omega)
  exact ((List.perm_ext_iff_of_nodup h.nd hnd).2 hm).length_eq
end
theorem MapZ.same8 {w w' : World} {b n k : Nat} {f : Int → Option Int} (h : MapZ w b n f k) (hs : w'.heap[b]? = w.heap[b]?) : MapZ w' b n f k := by
  obtain ⟨D, ⟨es, clock, h1, F, hs2, e⟩, h2⟩ := h
  exact ⟨D, ⟨es, clock, hs.trans h1, F, hs2, e⟩, h2⟩
/-- What 'together' holds when it has gone through the first ends. -/
structure TI (W G : List (Int × Int)) (mp m : Nat) (V : Value) (S O : List Int) (w : World) : Prop where
  tog : Tog W G m S O
  own : w.ownsRow (mp + 1) 3 1 V O.length (zs O)
  map : ∃ nn, nn ≤ m ∧ MapZ w mp nn (seenI S) S.length
theorem TI.below {W G : List (Int × Int)} {mp m : Nat} {V : Value} {S O : List Int} {w w' : World} (h : TI W G mp m V S O w) (hb : Below w.heap.size w w') : TI W G mp m V S O w' := by
  obtain ⟨h1, h2, nn, h3, h4⟩ := h
  exact ⟨h1, row_below h2 hb, nn, h3, h4.below hb⟩
theorem Tog.le {W G : List (Int × Int)} {m : Nat} {S O : List Int} (h : Tog W G m S O) : O.length ≤ m := by
  rw [h.own]
  exact Nat.le_trans (List.length_filter_le _ _) (by rw [List.length_take]; omega)
set_option maxHeartbeats 32000000 in
theorem together_any (A B1 B2 Bi : Option Addr) (c n lg x1 lf x2 Nn dc : Nat) (I G W : List (Int × Int)) (F : List Int) (w : World) (hI : RdP w A I) (hn : n = I.length) (hgI : rightG (Nn : Nat) I = true) (hG : RdP w B1 G) (hlg : lg = G.length) (hlgs : lg ≤ 1000) (hF : RdZ w B2 F) (hlf : lf = F.length) (hO : RdO w Bi Nn (onW W))
    (hin : ∀ e ∈ G, 0 ≤ e.1 ∧ e.1 < Nn ∧ 0 ≤ e.2 ∧ e.2 < Nn) (hFe : F = feetR W G Nn) (hN : Nn ≤ 200) (hcon : ∀ u v : Nat, (u : Int) ∈ endsL G → (v : Int) ∈ endsL G → onW W u = false → onW W v = false → Rch Nn I u v) :
    Calls Try.prog 22 #[.agg #[.int .i64 (Nn : Nat), .slice A n c], .agg #[.slice B1 lg x1, .slice B2 lf x2], .slice Bi Nn dc] w fun e w' => e = .returned (.bool true) ∧ Below w.heap.size w w' := by
  obtain ⟨X, hX⟩ : ∃ X, X = (w.alloc (.cells #[.int .i64 (Nn : Nat), .slice A n c] 24)).alloc (.cells #[.slice B1 lg x1, .slice B2 lf x2] 43) := ⟨_, rfl⟩
  have hb : Below w.heap.size w X := by rw [hX]; exact ((Below.refl _ _).alloc (Nat.le_refl _) _).alloc (by simp) _
  have hs2 : X.heap.size = w.heap.size + 2 := by rw [hX]; simp
  obtain ⟨i0, i1, _, _⟩ := cells_two (w := X) (g := w.heap.size) (by rw [hX]; exact two_first w _ _)
  obtain ⟨i2, i3, _, _⟩ := cells_two (w := X) (g := w.heap.size + 1) (by rw [hX]; exact two_second w _ _)
  have HJ : Hid (∀ w', Below X.heap.size X w' → (w'.cell? ⟨w.heap.size, 0, none⟩ = some (.int .i64 (Nn : Nat)) ∧ w'.cell? ⟨w.heap.size, 1, none⟩ = some (.slice A n c)) ∧ w'.cell? ⟨w.heap.size + 1, 0, none⟩ = some (.slice B1 lg x1) ∧ w'.cell? ⟨w.heap.size + 1, 1, none⟩ = some (.slice B2 lf x2)) := fun w' hb =>
    ⟨⟨by rw [hb.cell (by show w.heap.size < _; omega)]; exact i0, by rw [hb.cell (by show w.heap.size < _; omega)]; exact i1⟩, by rw [hb.cell (by show w.heap.size + 1 < _; omega)]; exact i2, by rw [hb.cell (by show w.heap.size + 1 < _; omega)]; exact i3⟩
  obtain ⟨w2, hw2⟩ : ∃ w2, w2 = X.alloc (.map #[] 0) := ⟨_, rfl⟩
  have HB2 : Hid (Below X.heap.size X w2) := by show Below _ _ _; rw [hw2]; exact (Below.refl _ _).alloc (Nat.le_refl _) _
  have HT0 : Hid (TI W G X.heap.size (0 * 2) (.slice none 0 0) [] [] w2) := ⟨Tog.start W G, World.ownsRow_nil _ _ _ _, 0, Nat.le_refl _, by
    rw [hw2]
    have h := MapZ.made X
    have e : seenI [] = fun _ => none := by funext z; simp [seenI]
    rw [e]
    exact h⟩
  have HI := Lib.hid (hI.below hb)
  have HG := Lib.hid (hG.below hb)
  have HF := Lib.hid (hF.below hb)
  have HO := Lib.hid (hO.below hb)
  have HN := Lib.hid hn
  have HLG := Lib.hid hlg
  have HLF := Lib.hid hlf
  have HIN := Lib.hid hin
  have HFE := Lib.hid hFe
  have HGI := Lib.hid hgI
  have HCON := Lib.hid hcon
  have HX := Lib.hid hX
  have HW2 := Lib.hid hw2
  have HB := Lib.hid hb
  have HS2 := Lib.hid hs2
  have hmm := @run_makeMap Try.prog
  obtain ⟨i4, hi4, hz0, hz1, hz2⟩ := info_partsI i64info
  clear hI hn hgI hG hlg hF hlf hO hin hFe hcon hX hw2 hb hs2 i0 i1 i2 i3
  go_enter Try.func22, Try.ntmps22
  go_upto_region 3 with fail
  rw [← HX.out, ← HW2.out, show w.heap.size + 1 + 1 = X.heap.size from HS2.out.symm]
  obtain ⟨⟨j0, j1⟩, j2, j3⟩ := HJ.out w2 HB2.out
  clear hmm
  go_wp2_with fail
  clear j0 j1 j2 j3
  go_loopw [23, 8] (fun s23 s8 wr => ∃ (t : Nat) (V : Value) (S O : List Int), t ≤ lg ∧ s23 = .int .i64 t ∧ s8 = V ∧ Hid (TI W G X.heap.size (t * 2) V S O wr) ∧ Hid (Below X.heap.size X wr)) (fun s23 _ _ => lg - (intOf s23).toNat)
  case atStart => exact ⟨0, _, [], [], Nat.zero_le _, rfl, rfl, HT0, HB2⟩
  case round =>
    obtain ⟨t, V, S, O, ht, rfl, rfl, hT, hbel⟩ := hrel
    by_cases h1 : t < lg
    · have t1 : decide ((t : Int) < (lg : Int)) = true := by simp; omega
      have hK0 : (0 : Int) ≤ (t : Int) := by omega
      have hK1 : (t : Int) < (lg : Nat) := by omega
      obtain ⟨e, he⟩ : ∃ e, G[t]? = some e := ⟨_, List.getElem?_eq_getElem (by rw [← HLG.out]; exact h1)⟩
      obtain ⟨y0, y1, y2, y3⟩ := HIN.out e (List.mem_of_getElem? he)
      obtain ⟨ad, rfl, _, p0, p1⟩ := (HG.out.below hbel.out) t e he
      obtain ⟨he0, he1⟩ := endsL_at G t e he
      obtain ⟨ex, ey⟩ := e
      simp only at y0 y1 y2 y3 p0 p1 he0 he1
      obtain ⟨x, rfl⟩ := Int.eq_ofNat_of_zero_le y0
      obtain ⟨y, rfl⟩ := Int.eq_ofNat_of_zero_le y2
      have HE0 := Lib.hid he0
      have HE1 := Lib.hid he1
      have hbY : Below wr.heap.size wr (wr.alloc (.cells #[.int .i64 (x : Nat), .int .i64 (y : Nat)] 44)) := (Below.refl _ _).alloc (Nat.le_refl _) _
      have hEB : (wr.alloc (.cells #[.int .i64 (x : Nat), .int .i64 (y : Nat)] 44)).heap[wr.heap.size]? = some (.cells #[.int .i64 (x : Nat), .int .i64 (y : Nat)] 44 (0, 0)) := heap_alloc_new wr _
      have HTY := Lib.hid (hT.out.below hbY)
      have HBY := Lib.hid (next_below hbel.out hbY)
      have k0 := idx0 (x : Int) (y : Int)
      have k1 := idx1 (x : Int) (y : Int)
      obtain ⟨hXx, hXy⟩ : (0 : Int) ≤ (x : Int) ∧ (x : Int) < (Nn : Nat) := by omega
      obtain ⟨hYx, hYy⟩ : (0 : Int) ≤ (y : Int) ∧ (y : Int) < (Nn : Nat) := by omega
      clear he hbY hT hbel he0 he1
      go_upto_region 6 with fail
      obtain ⟨pe, hpe⟩ : ∃ pe, wr.heap.size = pe := ⟨_, rfl⟩
      generalize wr.alloc (.cells #[.int .i64 (x : Nat), .int .i64 (y : Nat)] 44) = Y at *
      rw [hpe] at hEB ⊢
      clear p0 p1 hpe
      obtain ⟨r0, r1, _, _⟩ := cells_two hEB
      clear hEB
      go_wp2_with fail
      clear r0 r1
      go_loopw [28, 8] (fun s28 s8 wn => ∃ (j : Nat) (V : Value) (S O : List Int), j ≤ 2 ∧ s28 = .int .i64 j ∧ s8 = V ∧ Hid (TI W G X.heap.size (t * 2 + j) V S O wn) ∧ Hid (Below X.heap.size X wn)) (fun s28 _ _ => 2 - (intOf s28).toNat)
      case atStart => exact ⟨0, _, S, O, by omega, rfl, rfl, HTY, HBY⟩
      case round =>
        obtain ⟨j, V2, S2, O2, hj, rfl, rfl, hT, hbel⟩ := hrel
        rcases (show j = 0 ∨ j = 1 ∨ j = 2 by omega) with rfl | rfl | rfl
        · obtain ⟨bd, rfl, _, q0⟩ := (HO.out.below hbel.out) x (by omega)
          obtain ⟨hTg, hTo, nn, hnn, hTm⟩ := hT.out
          have hle := hTg.le
          cases hbx : onW W x with
          | false =>
            rw [hbx] at q0
            have HTN := Lib.hid (hTg.off HE0.out hbx)
            have HTM := Lib.hid hTm
            have hsz := hbel.out.size
            have HFA := Lib.hid (hTo.alloc (.cells #[.int .i64 (x : Nat)] 3))
            have HLT : Hid (∀ (i : Nat) (u : Value), [Value.int .i64 (x : Nat)][i]? = some u → (wr.alloc (.cells #[.int .i64 (x : Nat)] 3)).cell? ((⟨wr.heap.size, 0, none⟩ : Addr).add i) = some u) := fun i u hi => by
              rw [← hi, add_off, World.cell?_alloc_at _ _ _ _ rfl]
              simp
            have hml : X.heap.size < wr.heap.size := hTm.lt
            obtain ⟨lo, hlo⟩ : ∃ lo, O2.length = lo := ⟨_, rfl⟩
            rw [hlo] at HFA hle
            have HLO := Lib.hid hlo
            clear hbx hTg hTo hTm hlo
            go_wp2_with (at_builtin; refine wpList_append_lies _ rfl (.tmp 37) (.tmp 39) 41 rfl (X.heap.size + 1) 3 i4 (.int .i64 0) 1 8 Try.underlying41 hi4 hz0 hz1 hz2 rfl (by decide) _ lo (zs O2) rfl HFA.out ⟨wr.heap.size, 0, none⟩ 1 1 [.int .i64 (x : Nat)] (by simp [Act.eval]) rfl HLT.out (by simp [Value.oneCell']) (by omega) (by simp [maxLen]; omega) (by omega) (by simp; omega) (wr.heap.size + 1) (by simp) ?_; intro g7 c7 w7 hr7 hg7 _ _)
            have HB7 := Lib.hid ((hbel.out.alloc hsz _).grown hg7 (by simp; omega) (fun q e => by have := (HFA.out.lt q e).1; omega))
            have HT7 : Hid (TI W G X.heap.size (t * 2 + 1) (.slice (some ⟨g7, 0, none⟩) (lo + 1) c7) S2 (O2 ++ [(x : Int)]) w7) := by
              refine ⟨HTN.out, ?_, nn, by omega, HTM.out.same8 ?_⟩
              · rw [List.length_append, HLO.out, show zs (O2 ++ [(x : Int)]) = zs O2 ++ [.int .i64 (x : Nat)] by simp [zs, zv]]
                exact hr7
              · rw [hg7.block X.heap.size (by simp; omega) (fun e => by have := (HFA.out.lt _ e.symm).1; omega)]
                exact ((Below.refl wr.heap.size wr).alloc (Nat.le_refl _) _).block _ hml
            clear hr7 hg7 q0
            go_wp2_with fail
            go_roundw
            case rel => exact ⟨1, _, S2, _, by omega, by go_num, rfl, HT7, HB7⟩
            case measure => simp [intOf]
          | true =>
            rw [hbx] at q0
            have HXI : Hid (inI (x : Int)) := by show inI _; unfold inI; omega
            have HII : Hid (inI (1 : Int)) := by show inI _; unfold inI; omega
            have HTM := Lib.hid hTm
            have hsz := hbel.out.size
            have HN6 : Hid (∀ (w6 : World), MapZ w6 X.heap.size (nn + 1) (upd (seenI S2) (x : Int) 1) (if (seenI S2 (x : Int)).isSome then S2.length else S2.length + 1) → wr.grownBy w6 (some X.heap.size) → ∃ S3, Hid (TI W G X.heap.size (t * 2 + 1) u8 S3 O2 w6) ∧ Hid (Below X.heap.size X w6)) := by
              intro w6 hM6 hg6
              have hb6 : Below X.heap.size X w6 := hbel.out.grown hg6 hsz (fun q e => by injection e with e; omega)
              have ho6 : w6.ownsRow (X.heap.size + 1) 3 1 u8 O2.length (zs O2) := hTo.kept hg6 (by
                cases hv : (u8 : Value).ownBlock with
                | none => exact .inl rfl
                | some q => exact .inr (fun e => by injection e with e; have := (hTo.lt q hv).1; omega))
              by_cases hs : (x : Int) ∈ S2
              · rw [seenI_old hs, show (seenI S2 (x : Int)).isSome = true by simp [seenI, hs], if_pos rfl] at hM6
                exact ⟨S2, ⟨hTg.old HE0.out hbx hs, ho6, nn + 1, by omega, hM6⟩, hb6⟩
              · rw [seenI_new, show (seenI S2 (x : Int)).isSome = false by simp [seenI, hs], if_neg (by simp)] at hM6
                exact ⟨S2 ++ [(x : Int)], ⟨hTg.new HE0.out hbx hs, ho6, nn + 1, by omega, by rw [List.length_append]; exact hM6⟩, hb6⟩
            clear hbx hTg hTo hTm hle
            go_wp2_with (at_mapUpdate; refine wpList_putZ _ rfl _ _ _ rfl X.heap.size nn S2.length (seenI S2) rfl HTM.out (by omega) (x : Int) 1 rfl rfl HXI.out HII.out ?_; intro w6 hM6 hg6; obtain ⟨S3, HT6, HB6⟩ := HN6.out w6 hM6 hg6; clear hM6 hg6)
            clear q0 HN6
            go_roundw
            case rel => exact ⟨1, _, S3, O2, by omega, by go_num, rfl, HT6, HB6⟩
            case measure => simp [intOf]
        · obtain ⟨bd, rfl, _, q0⟩ := (HO.out.below hbel.out) y (by omega)
          obtain ⟨hTg, hTo, nn, hnn, hTm⟩ := hT.out
          have hle := hTg.le
          cases hbx : onW W y with
          | false =>
            rw [hbx] at q0
            have HTN := Lib.hid (hTg.off HE1.out hbx)
            have HTM := Lib.hid hTm
            have hsz := hbel.out.size
            have HFA := Lib.hid (hTo.alloc (.cells #[.int .i64 (y : Nat)] 3))
            have HLT : Hid (∀ (i : Nat) (u : Value), [Value.int .i64 (y : Nat)][i]? = some u → (wr.alloc (.cells #[.int .i64 (y : Nat)] 3)).cell? ((⟨wr.heap.size, 0, none⟩ : Addr).add i) = some u) := fun i u hi => by
              rw [← hi, add_off, World.cell?_alloc_at _ _ _ _ rfl]
              simp
            have hml : X.heap.size < wr.heap.size := hTm.lt
            obtain ⟨lo, hlo⟩ : ∃ lo, O2.length = lo := ⟨_, rfl⟩
            rw [hlo] at HFA hle
            have HLO := Lib.hid hlo
            clear hbx hTg hTo hTm hlo
            go_wp2_with (at_builtin; refine wpList_append_lies _ rfl (.tmp 37) (.tmp 39) 41 rfl (X.heap.size + 1) 3 i4 (.int .i64 0) 1 8 Try.underlying41 hi4 hz0 hz1 hz2 rfl (by decide) _ lo (zs O2) rfl HFA.out ⟨wr.heap.size, 0, none⟩ 1 1 [.int .i64 (y : Nat)] (by simp [Act.eval]) rfl HLT.out (by simp [Value.oneCell']) (by omega) (by simp [maxLen]; omega) (by omega) (by simp; omega) (wr.heap.size + 1) (by simp) ?_; intro g7 c7 w7 hr7 hg7 _ _)
            have HB7 := Lib.hid ((hbel.out.alloc hsz _).grown hg7 (by simp; omega) (fun q e => by have := (HFA.out.lt q e).1; omega))
            have HT7 : Hid (TI W G X.heap.size (t * 2 + 2) (.slice (some ⟨g7, 0, none⟩) (lo + 1) c7) S2 (O2 ++ [(y : Int)]) w7) := by
              refine ⟨HTN.out, ?_, nn, by omega, HTM.out.same8 ?_⟩
              · rw [List.length_append, HLO.out, show zs (O2 ++ [(y : Int)]) = zs O2 ++ [.int .i64 (y : Nat)] by simp [zs, zv]]
                exact hr7
              · rw [hg7.block X.heap.size (by simp; omega) (fun e => by have := (HFA.out.lt _ e.symm).1; omega)]
                exact ((Below.refl wr.heap.size wr).alloc (Nat.le_refl _) _).block _ hml
            clear hr7 hg7 q0
            go_wp2_with fail
            go_roundw
            case rel => exact ⟨2, _, S2, _, by omega, by go_num, rfl, HT7, HB7⟩
            case measure => simp [intOf]
          | true =>
            rw [hbx] at q0
            have HXI : Hid (inI (y : Int)) := by show inI _; unfold inI; omega
            have HII : Hid (inI (1 : Int)) := by show inI _; unfold inI; omega
            have HTM := Lib.hid hTm
            have hsz := hbel.out.size
            have HN6 : Hid (∀ (w6 : World), MapZ w6 X.heap.size (nn + 1) (upd (seenI S2) (y : Int) 1) (if (seenI S2 (y : Int)).isSome then S2.length else S2.length + 1) → wr.grownBy w6 (some X.heap.size) → ∃ S3, Hid (TI W G X.heap.size (t * 2 + 2) u8 S3 O2 w6) ∧ Hid (Below X.heap.size X w6)) := by
              intro w6 hM6 hg6
              have hb6 : Below X.heap.size X w6 := hbel.out.grown hg6 hsz (fun q e => by injection e with e; omega)
              have ho6 : w6.ownsRow (X.heap.size + 1) 3 1 u8 O2.length (zs O2) := hTo.kept hg6 (by
                cases hv : (u8 : Value).ownBlock with
                | none => exact .inl rfl
                | some q => exact .inr (fun e => by injection e with e; have := (hTo.lt q hv).1; omega))
              by_cases hs : (y : Int) ∈ S2
              · rw [seenI_old hs, show (seenI S2 (y : Int)).isSome = true by simp [seenI, hs], if_pos rfl] at hM6
                exact ⟨S2, ⟨hTg.old HE1.out hbx hs, ho6, nn + 1, by omega, hM6⟩, hb6⟩
              · rw [seenI_new, show (seenI S2 (y : Int)).isSome = false by simp [seenI, hs], if_neg (by simp)] at hM6
                exact ⟨S2 ++ [(y : Int)], ⟨hTg.new HE1.out hbx hs, ho6, nn + 1, by omega, by rw [List.length_append]; exact hM6⟩, hb6⟩
            clear hbx hTg hTo hTm hle
            go_wp2_with (at_mapUpdate; refine wpList_putZ _ rfl _ _ _ rfl X.heap.size nn S2.length (seenI S2) rfl HTM.out (by omega) (y : Int) 1 rfl rfl HXI.out HII.out ?_; intro w6 hM6 hg6; obtain ⟨S3, HT6, HB6⟩ := HN6.out w6 hM6 hg6; clear hM6 hg6)
            clear q0 HN6
            go_roundw
            case rel => exact ⟨2, _, S3, O2, by omega, by go_num, rfl, HT6, HB6⟩
            case measure => simp [intOf]
        · go_wp2_with fail
          go_roundw
          case rel => exact ⟨t + 1, _, S2, O2, by omega, by go_num, rfl, by rw [show (t + 1) * 2 = t * 2 + 2 by omega]; exact hT, hbel⟩
          case measure => simp [intOf]; omega
    · obtain rfl : lg = t := by omega
      have t1 : decide ((lg : Int) < (lg : Int)) = false := by simp
      obtain ⟨hTg, hTo, nn, hnn, hTm⟩ := hT.out
      have hel : lg * 2 = (endsL G).length := by rw [endsL_length, HLG.out]
      rw [hel] at hTg
      obtain ⟨hc1, hc2⟩ := hTg.count HIN.out
      rw [← HFE.out] at hc1 hc2
      rw [← HLF.out] at hc1
      have hOm : ∀ z ∈ O, ∃ v : Nat, z = (v : Int) ∧ v < Nn ∧ (v : Int) ∈ endsL G ∧ onW W v = false := by
        intro z hz
        rw [hTg.own, List.take_length, List.mem_filter] at hz
        obtain ⟨e, he, h3⟩ := endsL_mem.1 hz.1
        have h4 := HIN.out e he
        have hz0 : 0 ≤ z ∧ z < Nn := by rcases h3 with h3 | h3 <;> omega
        refine ⟨z.toNat, by omega, by omega, by rw [show ((z.toNat : Nat) : Int) = z by omega]; exact hz.1, ?_⟩
        have h5 := hz.2
        rw [onW_eq, show ((z.toNat : Nat) : Int) = z by omega]
        simpa using h5
      have HOM := Lib.hid hOm
      have HC2 := Lib.hid hc2
      have hle := hTg.le
      rw [endsL_length, ← HLG.out] at hle
      obtain ⟨lo, hlo⟩ : ∃ lo, O.length = lo := ⟨_, rfl⟩
      rw [hlo] at hTo hle
      obtain ⟨Ao, co, rfl⟩ := owns_form hTo
      have HOR := Lib.hid (owns_rd hTo)
      have HLO := Lib.hid hlo
      have HTM := Lib.hid hTm
      have HC1 := Lib.hid hc1
      have HBL := Lib.hid hbel.out
      obtain ⟨⟨j0, j1⟩, j2, j3⟩ := HJ.out wr hbel.out
      have hFs : F.Pairwise (· < ·) := by rw [HFE.out]; exact feetR_lt _ _ _
      have HFS := Lib.hid hFs
      have hlfb : lf ≤ 200 := by rw [HLF.out, HFE.out]; exact Nat.le_trans (feetR_le _ _ _) hN
      clear hT hTg hTo hTm hel hc1 hc2 hOm hlo hbel hFs
      go_wp2_with fail
      clear j0 j1 j2 j3
      go_loopw [46] (fun s46 wn => ∃ p : Nat, p ≤ lf ∧ s46 = .int .i64 p ∧ Hid (wn = wr)) (fun s46 _ => lf - (intOf s46).toNat)
      case atStart => exact ⟨0, Nat.zero_le _, rfl, rfl⟩
      case round =>
        obtain ⟨p, hp, rfl, hw⟩ := hrel
        obtain ⟨wq, hwq⟩ : ∃ wq, wq = wr := ⟨_, rfl⟩
        rw [hw.out] at hwq
        rw [hw.out, ← hwq]
        clear hw
        subst hwq
        obtain ⟨⟨j0, j1⟩, j2, j3⟩ := HJ.out wq HBL.out
        by_cases h2 : p < lf
        · have t2 : decide ((p : Int) < (lf : Int)) = true := by simp; omega
          have hP0 : (0 : Int) ≤ (p : Int) := by omega
          have hP1 : (p : Int) < (lf : Nat) := by omega
          obtain ⟨v, hv⟩ : ∃ v, F[p]? = some v := ⟨_, List.getElem?_eq_getElem (by rw [← HLF.out]; exact h2)⟩
          obtain ⟨bd, rfl, _, q0⟩ := (HF.out.below HBL.out) p v hv
          have hvF := List.mem_of_getElem? hv
          have hvS := (HC2.out v).2 hvF
          have hvF2 := hvF
          rw [HFE.out] at hvF2
          obtain ⟨vn, hvn, hve, _, _⟩ := feetR_mem.1 hvF2
          have hlk := HTM.out.look (x := v) (by unfold inI; omega)
          rw [show (seenI S v).getD 0 = 1 by simp [seenI, hvS]] at hlk
          by_cases hp0 : 0 < p
          · have d1 : decide ((0 : Int) < (p : Int)) = true := by simp; omega
            have d2 : decide (0 < p) = true := by simp; omega
            obtain ⟨p2, hp2⟩ : ∃ p2, p2 = p - 1 := ⟨_, rfl⟩
            have hjI : (p : Int) - 1 = (p2 : Nat) := by omega
            have hjJ : (p2 : Int) < (lf : Nat) := by omega
            have hjK : (0 : Int) ≤ (p2 : Int) := by omega
            obtain ⟨u, hu⟩ : ∃ u, F[p2]? = some u := ⟨_, List.getElem?_eq_getElem (by rw [← HLF.out]; omega)⟩
            obtain ⟨bd', ebd, _, q1⟩ := (HF.out.below HBL.out) p2 u hu
            injection ebd with ebd
            subst ebd
            have huv : u < v := by
              have h := HFS.out
              rw [List.pairwise_iff_getElem] at h
              obtain ⟨a1, a2⟩ := List.getElem?_eq_some_iff.1 hu
              obtain ⟨b1, b2⟩ := List.getElem?_eq_some_iff.1 hv
              have := h p2 p a1 b1 (by omega)
              omega
            have d3 : decide (v ≤ u) = false := by simp; omega
            clear hp2 hu hv huv hvF hvS hvF2 hve hvn
            go_wp2_with fail
            go_roundw
            case rel => exact ⟨p + 1, by omega, by go_num, Lib.hid trivial⟩
            case measure => simp [intOf]; omega
          · have d1 : decide ((0 : Int) < (p : Int)) = false := by simp; omega
            have d2 : decide (0 < p) = false := by simp; omega
            clear hv hvF hvS hvF2 hve hvn
            go_wp2_with fail
            go_roundw
            case rel => exact ⟨p + 1, by omega, by go_num, Lib.hid trivial⟩
            case measure => simp [intOf]; omega
        · obtain rfl : p = lf := by omega
          have t2 : decide ((p : Int) < (p : Int)) = false := by simp
          have e1 : ((S.length : Int) == (p : Int)) = true := by rw [HC1.out]; simp
          have e2 : (S.length == p) = true := by rw [HC1.out]; simp
          by_cases hlo0 : lo = 0
          · have d1 : ((lo : Int) == 0) = true := by simp; omega
            have d2 : (lo == 0) = true := by simp; omega
            have hln := HTM.out.len 3
            go_wp2_with fail
            go_ret
            exact ⟨rfl, HB.out.trans (HBL.out.mono (by have := HS2.out; omega))⟩
          · have d1 : ((lo : Int) == 0) = false := by simp; omega
            have d2 : (lo == 0) = false := by simp; omega
            have hL0 : (0 : Int) < (lo : Nat) := by omega
            obtain ⟨z0, hz0'⟩ : ∃ z, O[0]? = some z := ⟨_, List.getElem?_eq_getElem (by rw [HLO.out]; omega)⟩
            obtain ⟨v0, rfl, hv0n, hv0m, hv0o⟩ := HOM.out z0 (List.mem_of_getElem? hz0')
            obtain ⟨ao, rfl, _, q0⟩ := HOR.out 0 _ hz0'
            have q0b := q0
            rw [add_none] at q0b
            have hL1 : 0 < lo := by omega
            have hL2 : ¬ lo = 0 := hlo0
            have HAW : Hid (∀ w', Below wq.heap.size wq w' → Calls Try.prog 41 #[.agg #[.int .i64 (Nn : Nat), .slice A n c], .int .i64 (v0 : Nat)] w' fun e w'' => ∃ (B : Nat) (ds : List Int), e = .returned (.tuple #[.slice (some ⟨B, 0, none⟩) Nn Nn, .int .i64 0]) ∧ OwnZ w'' B ds ∧ (Dist (tabG Nn I) Nn v0 ds ∧ ∀ v, v < Nn → gd ds v < Nn) ∧ w'.heap.size ≤ B ∧ Below w'.heap.size w' w'') := fun w' hb' => away_any A c n Nn v0 I w' ((HI.out.below HBL.out).below hb') HN.out HGI.out hv0n
            have hao := World.block_lt_of_cell? _ _ q0b
            have HKP : Hid (∀ w', Below wq.heap.size wq w' → w'.cell? ⟨w.heap.size, 0, none⟩ = some (.int .i64 (Nn : Nat)) ∧ w'.cell? ⟨w.heap.size, 1, none⟩ = some (.slice A n c) ∧ w'.cell? ao = some (.int .i64 (v0 : Nat)) ∧ Below wq.heap.size wq w') := fun w' hb' =>
              ⟨(HJ.out w' (next_below HBL.out hb')).1.1, (HJ.out w' (next_below HBL.out hb')).1.2, by rw [hb'.cell hao]; exact q0b, hb'⟩
            have hD := HKP.out wq.drew (Below.refl _ _).drew
            clear hz0'
            go_upto_region 22 with fail
            refine wp_region_held_drew (S := (fun w' => w'.cell? ⟨w.heap.size, 0, none⟩ = some (.int .i64 (Nn : Nat)) ∧ w'.cell? ⟨w.heap.size, 1, none⟩ = some (.slice A n c) ∧ w'.cell? ao = some (.int .i64 (v0 : Nat)) ∧ Below wq.heap.size wq w')) (by kernel_rfl) hD (fun hS => ?_)
            refine wpAnyH_take (i := 0) (v := ?_) rfl (by kernel_rfl) (by kernel_rfl) (by kernel_rfl) (fun _ _ _ h => h) (Or.inl ⟨by rfl, ?_⟩) hS ?_
            rotate_left
            · intro wz hSw; (try dsimp only at hSw); obtain ⟨z1, z2, z3, z4⟩ := hSw; go_simp; (try with_reducible rfl)
            try simp only [List.getElem_toArray, List.getElem_cons_zero, List.getElem_cons_succ, Act.put, List.setIfInBounds_toArray, List.set_cons_zero, List.set_cons_succ]
            refine wpAnyH_take (i := 1) (v := ?_) rfl (by kernel_rfl) (by kernel_rfl) (by kernel_rfl) (fun _ _ _ h => h) (Or.inl ⟨by rfl, ?_⟩) hS ?_
            rotate_left
            · intro wz hSw; (try dsimp only at hSw); obtain ⟨z1, z2, z3, z4⟩ := hSw; go_simp; (try with_reducible rfl)
            try simp only [List.getElem_toArray, List.getElem_cons_zero, List.getElem_cons_succ, Act.put, List.setIfInBounds_toArray, List.set_cons_zero, List.set_cons_succ]
            refine wpAnyH_take (i := 2) (v := ?_) rfl (by kernel_rfl) (by kernel_rfl) (by kernel_rfl) (fun _ _ _ h => h) (Or.inl ⟨by rfl, ?_⟩) hS ?_
            rotate_left
            · intro wz hSw; (try dsimp only at hSw); obtain ⟨z1, z2, z3, z4⟩ := hSw; go_simp; (try with_reducible rfl)
            try simp only [List.getElem_toArray, List.getElem_cons_zero, List.getElem_cons_succ, Act.put, List.setIfInBounds_toArray, List.set_cons_zero, List.set_cons_succ]
            refine wpAnyH_take (i := 3) (v := ?_) rfl (by kernel_rfl) (by kernel_rfl) (by kernel_rfl) (fun _ _ _ h => h) (Or.inl ⟨by rfl, ?_⟩) hS ?_
            rotate_left
            · intro wz hSw; (try dsimp only at hSw); obtain ⟨z1, z2, z3, z4⟩ := hSw; go_simp; (try with_reducible rfl)
            try simp only [List.getElem_toArray, List.getElem_cons_zero, List.getElem_cons_succ, Act.put, List.setIfInBounds_toArray, List.set_cons_zero, List.set_cons_succ]
            refine wpAnyH_ready (rs := [4]) (by kernel_rfl) (by simp) (AllReadyH.cons rfl (fun K hK => ?_) AllReadyH.nil)
            go_simp
            go_at_call 41
            refine (HAW.out _ hS.2.2.2).mono ?_
            rintro e w5 ⟨Bd, ds, rfl, hds, ⟨hD2, _⟩, _, hb5'⟩
            go_wp2_with fail
            have hS := HKP.out w5 (next_below hS.2.2.2 hb5')
            refine hK.out _ _ hS (fun _ => ?_)
            clear hK K
            try simp only [List.getElem_toArray, List.getElem_cons_zero, List.getElem_cons_succ, Act.put, List.setIfInBounds_toArray, List.set_cons_zero, List.set_cons_succ]
            refine wpAnyH_take (i := 5) (v := ?_) rfl (by kernel_rfl) (by kernel_rfl) (by kernel_rfl) (fun _ _ _ h => h) (Or.inl ⟨by rfl, ?_⟩) hS ?_
            rotate_left
            · intro wz hSw; (try dsimp only at hSw); go_simp; (try with_reducible rfl)
            try simp only [List.getElem_toArray, List.getElem_cons_zero, List.getElem_cons_succ, Act.put, List.setIfInBounds_toArray, List.set_cons_zero, List.set_cons_succ]
            refine wpAnyH_take (i := 6) (v := ?_) rfl (by kernel_rfl) (by kernel_rfl) (by kernel_rfl) (fun _ _ _ h => h) (Or.inl ⟨by rfl, ?_⟩) hS ?_
            rotate_left
            · intro wz hSw; (try dsimp only at hSw); go_simp; (try with_reducible rfl)
            try simp only [List.getElem_toArray, List.getElem_cons_zero, List.getElem_cons_succ, Act.put, List.setIfInBounds_toArray, List.set_cons_zero, List.set_cons_succ]
            refine wpAnyH_take (i := 7) (v := ?_) rfl (by kernel_rfl) (by kernel_rfl) (by kernel_rfl) (fun _ _ _ h => h) (Or.inl ⟨by rfl, ?_⟩) hS ?_
            rotate_left
            · intro wz hSw; (try dsimp only at hSw); go_simp; (try with_reducible rfl)
            try simp only [List.getElem_toArray, List.getElem_cons_zero, List.getElem_cons_succ, Act.put, List.setIfInBounds_toArray, List.set_cons_zero, List.set_cons_succ]
            refine wpAnyH_take (i := 8) (v := ?_) rfl (by kernel_rfl) (by kernel_rfl) (by kernel_rfl) (fun _ _ _ h => h) (Or.inl ⟨by rfl, ?_⟩) hS ?_
            rotate_left
            · intro wz hSw; (try dsimp only at hSw); go_simp; (try with_reducible rfl)
            try simp only [List.getElem_toArray, List.getElem_cons_zero, List.getElem_cons_succ, Act.put, List.setIfInBounds_toArray, List.set_cons_zero, List.set_cons_succ]
            refine wpAnyH_take (i := 9) (v := ?_) rfl (by kernel_rfl) (by kernel_rfl) (by kernel_rfl) (fun _ _ _ h => h) (Or.inl ⟨by rfl, ?_⟩) hS ?_
            rotate_left
            · intro wz hSw; (try dsimp only at hSw); go_simp; (try with_reducible rfl)
            try simp only [List.getElem_toArray, List.getElem_cons_zero, List.getElem_cons_succ, Act.put, List.setIfInBounds_toArray, List.set_cons_zero, List.set_cons_succ]
            refine wpAnyH_done (by kernel_rfl) ?_ _
            have hb5 := hS.2.2.2
            have hD := hD2
            have HB5 := Lib.hid (next_below HBL.out hb5)
            have HTM5 := Lib.hid (HTM.out.below hb5)
            have HOR5 := Lib.hid (HOR.out.below hb5)
            have hdd := distOf_eq hD
            have HDL := Lib.hid hD.len
            have HDS := Lib.hid hds
            have HGE : Hid (∀ v : Nat, (v : Int) ∈ O → v < Nn ∧ 0 ≤ gd ds v) := by
              intro v hv
              obtain ⟨v', e', h1, h2, h3⟩ := HOM.out _ hv
              have e' : v = v' := by omega
              subst e'
              have h4 := HCON.out v0 v hv0m h2 hv0o h3
              unfold Rch at h4
              rw [hdd] at h4
              exact ⟨h1, h4⟩
            clear hb5 hds hD hdd q0 q0b HAW j0 j1 j2 j3
            go_wp2_with fail
            go_loopw [89] (fun s89 wn => ∃ t2 : Nat, t2 ≤ lo ∧ s89 = .int .i64 t2 ∧ Hid (wn = w5)) (fun s89 _ => lo - (intOf s89).toNat)
            case atStart => exact ⟨0, Nat.zero_le _, rfl, rfl⟩
            case round =>
              obtain ⟨k, hk, rfl, hw⟩ := hrel
              rw [hw.out]
              clear hw
              by_cases h3 : k < lo
              · have t3 : decide ((k : Int) < (lo : Int)) = true := by simp; omega
                have hK0 : (0 : Int) ≤ (k : Int) := by omega
                have hK1 : (k : Int) < (lo : Nat) := by omega
                obtain ⟨z, hz⟩ : ∃ z, O[k]? = some z := ⟨_, List.getElem?_eq_getElem (by rw [HLO.out]; exact h3)⟩
                obtain ⟨v, rfl, _, _, _⟩ := HOM.out z (List.mem_of_getElem? hz)
                obtain ⟨ao', eao, _, q0⟩ := HOR5.out k _ hz
                injection eao with eao
                subst eao
                obtain ⟨g1, g2⟩ := HGE.out v (List.mem_of_getElem? hz)
                have q1 : w5.cell? ⟨Bd, v, none⟩ = some (.int .i64 (gd ds v)) := by
                  rw [cell_of HDS.out]
                  have hl : v < ds.length := by rw [HDL.out]; exact g1
                  simp [zs, zv, gd, List.getD, hl]
                have d3 : decide (gd ds v < 0) = false := by simp; omega
                obtain ⟨hvx, hvy⟩ : (0 : Int) ≤ (v : Int) ∧ (v : Int) < (Nn : Nat) := by omega
                clear hz
                go_wp2_with fail
                go_roundw
                case rel => exact ⟨k + 1, by omega, by go_num, Lib.hid trivial⟩
                case measure => simp [intOf]; omega
              · obtain rfl : k = lo := by omega
                have t3 : decide ((k : Int) < (k : Int)) = false := by simp
                obtain ⟨⟨j0, j1⟩, j2, j3⟩ := HJ.out w5 HB5.out
                have hln := HTM5.out.len 3
                go_wp2_with fail
                go_ret
                exact ⟨rfl, HB.out.trans (HB5.out.mono (by have := HS2.out; omega))⟩
end Go.Proofs.Ytlkfpphahfendaa
