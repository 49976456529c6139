/- Fragments one behind the other: rising, apart, all that is left (pure, layer 8). -/
import Derived.Test.YtlkfpphahfendaaH22
import Derived.Test.YtlkfpphahfendaaH24
import Derived.Test.YtlkfpphahfendaaPK
import Derived.Test.YtlkfpphahfendaaWM
import Derived.Test.YtlkfpphahfendaaW29
namespace Go.Proofs.Ytlkfpphahfendaa
set_option maxRecDepth 100000
open Go.RowKit

section
open Go.RowKit

theorem indexP_any (A : Option Addr) (c n : Nat) (L : List (Int × Int)) (a b : Int) (w : World) (hr : RdP w A L) (hn : n = L.length) (hs : n ≤ 1000000) :
    Calls Try.prog 40 #[.slice A n c, .agg #[.int .i64 a, .int .i64 b]] w fun e w' => ∃ k : Int, e = .returned (.int .i64 k) ∧ -1 ≤ k ∧ k ≤ 1000000 ∧ (0 ≤ k ↔ (a, b) ∈ L) ∧ Below w.heap.size w w' := by
  obtain ⟨W, hW⟩ : ∃ W, W = w.alloc (.cells #[.int .i64 a, .int .i64 b] 44) := ⟨_, rfl⟩
  have hb : Below w.heap.size w W := by rw [hW]; exact (Below.refl _ _).alloc (Nat.le_refl _) _
  have hWS : w.heap.size < W.heap.size := by rw [hW]; simp
  obtain ⟨i0, i1, _, _⟩ := cells_two (w := W) (by rw [hW]; exact heap_alloc_new w _)
  have HJ : Hid (∀ w', Below W.heap.size W w' → w'.cell? ⟨w.heap.size, 0, none⟩ = some (.int .i64 a) ∧ w'.cell? ⟨w.heap.size, 1, none⟩ = some (.int .i64 b)) := fun w' hb =>
    ⟨by rw [hb.cell (by show w.heap.size < _; omega)]; exact i0, by rw [hb.cell (by show w.heap.size < _; omega)]; exact i1⟩
  have HR := Lib.hid (hr.below hb)
  have HN := Lib.hid hn
  have HB := Lib.hid hb
  have HW := Lib.hid hW
  have HB0 := Lib.hid (Below.refl W.heap.size W)
  clear hr hn hb hW i0 i1
  go_enter Try.func40, Try.ntmps40
  go_wp2_with fail
  rw [← HW.out]
  have hgt : Try.prog.eqGuardType Try.prog.depth 44 = false := by kernel_rfl
  go_loopw [8] (fun s8 wr => ∃ k : Nat, k ≤ n ∧ s8 = .int .i64 k ∧ Hid (∀ q : Nat, q < k → L[q]? ≠ some (a, b)) ∧ Hid (Below W.heap.size W wr)) (fun s8 _ => n - (intOf s8).toNat)
  case atStart => exact ⟨0, Nat.zero_le _, rfl, (fun q h => by omega), HB0⟩
  case round =>
    obtain ⟨k, hk, rfl, hO, hbel⟩ := hrel
    obtain ⟨j0, j1⟩ := HJ.out wr hbel.out
    by_cases h1 : k < n
    · have t1 : decide ((k : Int) < (n : Int)) = true := by simp; omega
      have hI0 : (0 : Int) ≤ (k : Int) := by omega
      have hI1 : (k : Int) < (n : Nat) := by omega
      obtain ⟨e, he⟩ : ∃ e, L[k]? = some e := ⟨_, List.getElem?_eq_getElem (by rw [← HN.out]; exact h1)⟩
      obtain ⟨ad, rfl, hal, p0, p1⟩ := (HR.out.below hbel.out) k e he
      obtain ⟨x, y⟩ := e
      simp only at p0 p1
      have HE := Lib.hid he
      obtain ⟨q, hq⟩ : ∃ q, (a == x && b == y) = q := ⟨_, rfl⟩
      have HQ := Lib.hid hq
      have hqp : ∀ ww, (Op.equalIn 10000 44 (.agg #[.int .i64 a, .int .i64 b]) (.agg #[.int .i64 x, .int .i64 y])).run Try.prog ww = .ok q ww := fun ww => by rw [← hq]; exact eqPair a b x y ww
      clear he hq
      go_upto_region 4 with fail
      go_region
      cases q
      · have HO2 : Hid (∀ q : Nat, q < k + 1 → L[q]? ≠ some (a, b)) := fun q h he => by
          by_cases e1 : q = k
          · subst e1
            rw [HE.out] at he
            injection he with he
            injection he with h1 h2
            have := HQ.out
            rw [h1, h2] at this
            simp at this
          · exact hO.out q (by omega) he
        go_wp2_with fail
        go_roundw
        case rel => exact ⟨k + 1, by omega, by go_num, HO2, Lib.hid hbel.out.drew⟩
        case measure => simp [intOf]; omega
      · go_wp2_with fail
        go_ret
        refine ⟨(k : Int), rfl, by omega, by omega, ⟨fun _ => ?_, fun _ => by omega⟩, HB.out.trans (hbel.out.drew.mono (by omega))⟩
        have h1 := HQ.out
        simp only [Bool.and_eq_true, beq_iff_eq] at h1
        rw [h1.1, h1.2]
        exact List.mem_of_getElem? HE.out
    · obtain rfl : k = n := by omega
      have t1 : decide ((k : Int) < (k : Int)) = false := by simp
      go_wp2_with fail
      go_ret
      refine ⟨-1, rfl, by omega, by omega, ⟨fun h => by omega, fun he => ?_⟩, HB.out.trans (hbel.out.mono (by omega))⟩
      obtain ⟨q, hq⟩ := List.getElem?_of_mem he
      exact absurd hq (hO.out q (by rw [HN.out]; exact (List.getElem?_eq_some_iff.1 hq).1))
theorem containsP_any (A : Option Addr) (c n : Nat) (L : List (Int × Int)) (a b : Int) (w : World) (hr : RdP w A L) (hn : n = L.length) (hs : n ≤ 1000000) :
    Calls Try.prog 21 #[.slice A n c, .agg #[.int .i64 a, .int .i64 b]] w fun e w' => e = .returned (.bool (decide ((a, b) ∈ L))) ∧ Below w.heap.size w w' := by
  obtain ⟨W, hW⟩ : ∃ W, W = w.alloc (.cells #[.int .i64 a, .int .i64 b] 44) := ⟨_, rfl⟩
  have hb : Below w.heap.size w W := by rw [hW]; exact (Below.refl _ _).alloc (Nat.le_refl _) _
  have hWS : w.heap.size < W.heap.size := by rw [hW]; simp
  have HC := Lib.hid (indexP_any A c n L a b W (hr.below hb) hn hs)
  have HB := Lib.hid hb
  have HW := Lib.hid hW
  obtain ⟨r, hr2⟩ : ∃ r, decide ((a, b) ∈ L) = r := ⟨_, rfl⟩
  have HRR := Lib.hid hr2
  rw [hr2]
  clear hr hn hb hW hr2
  go_enter Try.func21, Try.ntmps21
  go_wp2_with fail
  rw [← HW.out]
  refine HC.out.mono ?_
  rintro e w2 ⟨k, rfl, k1, k2, hk, hb2⟩
  have HB2 := Lib.hid hb2
  have HK := Lib.hid hk
  clear hk hb2
  by_cases h : 0 ≤ k
  · have d1 : decide (0 ≤ k) = true := by simpa using h
    have hr1 : r = true := by rw [← HRR.out, decide_eq_true_iff]; exact HK.out.1 h
    subst hr1
    go_wp2_with fail
    go_ret
    exact ⟨rfl, HB.out.trans (HB2.out.mono (Nat.le_of_lt hWS))⟩
  · have d1 : decide (0 ≤ k) = false := by simpa using h
    have hr1 : r = false := by rw [← HRR.out, decide_eq_false_iff_not]; exact fun hm => h (HK.out.2 hm)
    subst hr1
    go_wp2_with fail
    go_ret
    exact ⟨rfl, HB.out.trans (HB2.out.mono (Nat.le_of_lt hWS))⟩
end
section
open Go.RowKit Go.Maps Go.WideMaps

/-- A map of one's own in block b, written n times, whose keys are S. -/
def MapP (w : World) (b n : Nat) (S : List (Int × Int)) : Prop :=
  ∃ D : DataW Unit, w.ownsMap Try.prog 44 (plainElem (H := Unit) Try.prog 3) b n D ∧ (∀ e, inP e → Maps.has D (litP e) = decide (e ∈ S)) ∧ Maps.size D = S.length
theorem MapP.made (w : World) : MapP (w.alloc (.map #[] 0)) w.heap.size 0 [] := ⟨.map [], World.ownsMap_made _ _ _ _, fun _ _ => rfl, rfl⟩
theorem MapP.below {w w' : World} {b n : Nat} {S : List (Int × Int)} (h : MapP w b n S) (hb : Below w.heap.size w w') : MapP w' b n S := by
  obtain ⟨D, ⟨es, clock, h1, F, hs, e⟩, h2⟩ := h
  exact ⟨D, ⟨es, clock, (hb.block b (lt_of_block h1)).trans h1, F, hs, e⟩, h2⟩
theorem MapP.lt {w : World} {b n : Nat} {S : List (Int × Int)} (h : MapP w b n S) : b < w.heap.size := by
  obtain ⟨D, h1, _⟩ := h
  exact h1.lt
theorem MapP.set {w : World} {b n : Nat} {S : List (Int × Int)} (h : MapP w b n S) {a : Addr} (ha : b ≠ a.block) (u : Value) : MapP (w.setCell a u) b n S := by
  obtain ⟨D, h1, h2⟩ := h
  exact ⟨D, h1.setCell ha u, h2⟩
theorem MapP.kept {w w' : World} {b n : Nat} {S : List (Int × Int)} {row : Option Nat} (h : MapP w b n S) (hg : w.grownBy w' row) (hne : some b ≠ row) : MapP w' b n S := by
  obtain ⟨D, h1, h2⟩ := h
  exact ⟨D, h1.kept hg hne, h2⟩
theorem MapP.same {w w' : World} {b n : Nat} {S : List (Int × Int)} (h : MapP w b n S) (hs : w'.heap[b]? = w.heap[b]?) : MapP w' b n S := by
  obtain ⟨D, ⟨es, clock, h1, F, hs2, e⟩, h2⟩ := h
  exact ⟨D, ⟨es, clock, hs.trans h1, F, hs2, e⟩, h2⟩
theorem MapP.len {w : World} {b n : Nat} {S : List (Int × Int)} (h : MapP w b n S) (ty : TypeId) : (Builtin.len_ #[39] ty #[.map (some b)]).run Try.prog w = .ok (.int .i64 S.length) w := by
  obtain ⟨D, h1, _, h4⟩ := h
  rw [h1.len Try.underlying39 ty, h4]
theorem MapP.look_ok {w : World} {b n : Nat} {S : List (Int × Int)} (h : MapP w b n S) {e : Int × Int} (he : inP e) : ∃ c : Int, (Instr.lookup 39 (.map (some b)) (.agg #[.int .i64 e.1, .int .i64 e.2]) true).run Try.prog w = .ok (.tuple #[.int .i64 c, .bool (decide (e ∈ S))]) w := by
  obtain ⟨D, h1, h2, _⟩ := h
  obtain ⟨v, ps, hr, hv⟩ := h1.look_ok lawP Try.underlying39 (zeroZ w) (plainElem_int Try.underlying3 (by decide)) (keyP he)
  obtain ⟨c, rfl, _, _⟩ := plainElem_int_inv Try.underlying3 hv
  exact ⟨c, by rw [← h2 e he]; exact hr⟩
theorem MapP.put {w w' : World} {b n : Nat} {S : List (Int × Int)} {D : DataW Unit} (h : w.ownsMap Try.prog 44 (plainElem (H := Unit) Try.prog 3) b n D) (h2 : ∀ e, inP e → Maps.has D (litP e) = decide (e ∈ S)) (h3 : Maps.size D = S.length) {e : Int × Int} (he : inP e) (hn : e ∉ S) {y : Int}
    (hr : w'.ownsMap Try.prog 44 (plainElem (H := Unit) Try.prog 3) b (n + 1) (D.put (litP e) (.lit (.int .i64 y)))) : MapP w' b (n + 1) (S ++ [e]) := by
  refine ⟨_, hr, fun f hf => ?_, ?_⟩
  · by_cases e1 : f = e
    · subst e1
      rw [has_put_same h.isMap (by trivial)]
      simp
    · rw [has_put_other (fun e2 => e1 (litP_inj hf he e2)), h2 f hf]
      simp [e1]
  · rw [size_put (h.tidy lawP), h2 e he, if_neg (by simpa using hn), h3, List.length_append]
    rfl
/-- 'of[e] = i' at the operation. -/
theorem wpList_putMP (w : World) {ops : Array Oper} {rest : List Oper} {o : Oper} {a : Act} {Q : Exit → Act → World → Prop}
    (hg : o.guard = none) (m x v : Operand) (hop : o.op = Op.mapUpdate 39 m x v) (b n : Nat) (S : List (Int × Int))
    (hm : a.eval m = .map (some b)) (hown : MapP w b n S) (hn : n < 1000000000) (e : Int × Int) (ky : Int) (hx : a.eval x = .agg #[.int .i64 e.1, .int .i64 e.2]) (hv : a.eval v = .int .i64 ky) (he : inP e) (hne : e ∉ S) (h2 : inI ky)
    (hK : ∀ w', MapP w' b (n + 1) (S ++ [e]) → w.grownBy w' (some b) → wpList Try.prog ops Q rest (a.put o.dst undef) w') :
    wpList Try.prog ops Q (o :: rest) a w := by
  obtain ⟨D, h1, h3, h4⟩ := hown
  exact wpList_mapUpdate_own w hg m x v 39 hop 44 3 lawP Try.underlying39 _ b n D hm h1 (by unfold maxLen; omega) _ _ _ hx hv (keyP he) _ [] (plainElem_int Try.underlying3 (wfZ h2))
    (fun w' h5 h6 => hK w' (MapP.put h1 h3 h4 he hne h5) h6)
end
theorem nodup_le {α : Type} [DecidableEq α] : ∀ {D l : List α}, D.Nodup → (∀ x ∈ D, x ∈ l) → D.length ≤ l.length
  | [], _, _, _ => Nat.zero_le _
  | x :: D, l, h, hs => by
    have hx := hs x (by simp)
    have hn := List.nodup_cons.1 h
    have := nodup_le (D := D) (l := l.erase x) hn.2 (fun y hy => (List.mem_erase_of_ne (fun e => hn.1 (by rw [← e]; exact hy))).2 (hs y (by simp [hy])))
    rw [List.length_erase_of_mem hx] at this
    have h0 : 0 < l.length := List.length_pos_of_mem hx
    rw [List.length_cons]
    omega
theorem filter_head {p : Nat → Bool} {k f : Nat} (hf : f < k) (hp : p f = true) (hn : ∀ j, j < f → p j = false) : ((List.range k).filter p)[0]? = some f := by
  have hsp : List.range k = List.range f ++ (f :: (List.range k).drop (f + 1)) := by
    conv => lhs; rw [← List.take_append_drop f (List.range k)]
    congr 1
    · rw [List.take_range, Nat.min_eq_left (by omega)]
    · rw [List.drop_eq_getElem_cons (by simpa using hf)]
      simp
  rw [hsp, List.filter_append]
  have h0 : (List.range f).filter p = [] := by
    rw [List.filter_eq_nil_iff]
    intro j hj
    rw [hn j (List.mem_range.1 hj)]
    simp
  rw [h0, List.filter_cons_of_pos hp]
  rfl
/-- The i-th fragment. -/
structure FragI (n : Nat) (E W L : List (Int × Int)) (own : Nat → Nat) (i : Nat) (x : List (Int × Int) × List Int) (f : Nat) (e : Int × Int) : Prop where
  at_ : (firsts own L.length)[i]? = some f
  ledge : L[f]? = some e
  edges : x.1 = grp W E e
  feet : x.2 = feetR W x.1 n
  head : x.1[0]? = some e
noncomputable def ownE (n : Nat) (W E : List (Int × Int)) : Nat → Nat := ownF n (onW W) (fun v => (rT (onW W) (leftP W E E.length).1 n (leftP W E E.length).1.length).getD v 0) (leftP W E E.length).1
theorem frag_at {n : Nat} {E W : List (Int × Int)} (h : rightG (n : Nat) E = true) (hok : (leftP W E E.length).2 = W.length) {i : Nat} {x : List (Int × Int) × List Int} (hx : (fragsF n E W)[i]? = some x) : ∃ f e, FragI n E W (leftP W E E.length).1 (ownE n W E) i x f e := by
  have hR := rest_of h hok
  rw [fragsF_ref h hok] at hx
  obtain ⟨q, h1, h2, _⟩ := refS_inv hR E.length (Nat.le_refl _)
  have hq : q = (leftP W E E.length).1.length := by rw [← h1, List.take_length, ← hR.is]
  subst hq
  rw [h2, List.getElem?_map] at hx
  cases hf : (firsts (ownE n W E) (leftP W E E.length).1.length)[i]? with
  | none => rw [show (firsts (ownF n (onW W) _ _) _)[i]? = none from hf] at hx; cases hx
  | some f =>
    rw [show (firsts (ownF n (onW W) _ _) _)[i]? = some f from hf] at hx
    simp only [Option.map_some, Option.some.injEq] at hx
    subst hx
    obtain ⟨hfl, hfn⟩ := mem_firsts.1 (List.mem_of_getElem? hf)
    have hle : (leftP W E E.length).1[f]? = some ((leftP W E E.length).1.getD f (0, 0)) := by rw [List.getD_eq_getElem?_getD, List.getElem?_eq_getElem hfl]; rfl
    refine ⟨f, _, hf, hle, rfl, rfl, ?_⟩
    show (grp W E _)[0]? = _
    rw [← grp_rest hR hle, List.getElem?_map]
    have hd : (those (ownE n W E) (leftP W E E.length).1.length (ownE n W E f))[0]? = some f := filter_head hfl (by simp) (fun j hj => by simpa using hfn j hj)
    exact congrArg (Option.map fun i => (leftP W E E.length).1.getD i (0, 0)) hd
theorem firsts_lt {own : Nat → Nat} {k i j a b : Nat} (ha : (firsts own k)[i]? = some a) (hb : (firsts own k)[j]? = some b) (hij : i < j) : a < b := by
  have hp : (firsts own k).Pairwise (· < ·) := by unfold firsts; exact List.pairwise_lt_range.filter _
  rw [List.pairwise_iff_getElem] at hp
  obtain ⟨l1, e1⟩ := List.getElem?_eq_some_iff.1 ha
  obtain ⟨l2, e2⟩ := List.getElem?_eq_some_iff.1 hb
  have := hp i j l1 l2 hij
  rw [e1, e2] at this
  exact this
/-- Fragments' first edges rise. -/
theorem frag_rise {n : Nat} {E W : List (Int × Int)} (h : rightG (n : Nat) E = true) (hok : (leftP W E E.length).2 = W.length) {i j f g : Nat} {x y : List (Int × Int) × List Int} {a b : Int × Int} (hx : FragI n E W (leftP W E E.length).1 (ownE n W E) i x f a) (hy : FragI n E W (leftP W E E.length).1 (ownE n W E) j y g b) (hij : i < j) : a.1 < b.1 ∨ (a.1 = b.1 ∧ a.2 < b.2) := by
  have hp : (leftP W E E.length).1.Pairwise fun a b => cmpP a b < 0 := by
    rw [(rest_of h hok).is]
    exact (rightG_pw8 h).sublist List.filter_sublist
  rw [List.pairwise_iff_getElem] at hp
  obtain ⟨l1, e1⟩ := List.getElem?_eq_some_iff.1 hx.ledge
  obtain ⟨l2, e2⟩ := List.getElem?_eq_some_iff.1 hy.ledge
  have := hp f g l1 l2 (firsts_lt hx.at_ hy.at_ hij)
  rw [e1, e2] at this
  exact (cmpP_neg _ _).1 this
/-- What two fragments share makes them one. -/
theorem frag_one {n : Nat} {E W : List (Int × Int)} (h : rightG (n : Nat) E = true) (hok : (leftP W E E.length).2 = W.length) {i j f g : Nat} {x y : List (Int × Int) × List Int} {a b : Int × Int} (hx : FragI n E W (leftP W E E.length).1 (ownE n W E) i x f a) (hy : FragI n E W (leftP W E E.length).1 (ownE n W E) j y g b) (hc : Cn W E a b) : i = j := by
  have ho := ((rest_of h hok).own_iff hx.ledge hy.ledge).2 hc
  have hf := mem_firsts.1 (List.mem_of_getElem? hx.at_)
  have hg := mem_firsts.1 (List.mem_of_getElem? hy.at_)
  have hfg : f = g := by
    rcases Nat.lt_trichotomy f g with h1 | h1 | h1
    · exact absurd ho (hg.2 f h1)
    · exact h1
    · exact absurd ho.symm (hf.2 g h1)
  subst hfg
  rcases Nat.lt_trichotomy i j with h1 | h1 | h1
  · have := firsts_lt hx.at_ hy.at_ h1; omega
  · exact h1
  · have := firsts_lt hy.at_ hx.at_ h1; omega
theorem frag_meet {n : Nat} {E W : List (Int × Int)} (h : rightG (n : Nat) E = true) (hok : (leftP W E E.length).2 = W.length) {i j f g : Nat} {x y : List (Int × Int) × List Int} {a b : Int × Int} (hx : FragI n E W (leftP W E E.length).1 (ownE n W E) i x f a) (hy : FragI n E W (leftP W E E.length).1 (ownE n W E) j y g b) {c d : Int × Int} (hc : c ∈ x.1) (hd : d ∈ y.1) {v : Int} (h1 : EndOf c v) (h2 : EndOf d v) (h3 : onZ W v = false) : i = j := by
  rw [hx.edges] at hc
  rw [hy.edges] at hd
  obtain ⟨hc1, hc2⟩ := grp_mem.1 hc
  obtain ⟨hd1, hd2⟩ := grp_mem.1 hd
  have hbE : b ∈ E := ((rest_of h hok).mem.1 (List.mem_of_getElem? hy.ledge)).1
  refine frag_one h hok hx hy (hc2.trans ?_)
  exact (Cn.step .refl hd1 (meetP_iff.2 ⟨v, h2, h1, h3⟩)).trans (hd2.symm hbE)
theorem frag_same {n : Nat} {E W : List (Int × Int)} (h : rightG (n : Nat) E = true) (hok : (leftP W E E.length).2 = W.length) {i j f g : Nat} {x y : List (Int × Int) × List Int} {a b : Int × Int} (hx : FragI n E W (leftP W E E.length).1 (ownE n W E) i x f a) (hy : FragI n E W (leftP W E E.length).1 (ownE n W E) j y g b) {c : Int × Int} (hc : c ∈ x.1) (hd : c ∈ y.1) : i = j := by
  rw [hx.edges] at hc
  rw [hy.edges] at hd
  have hbE : b ∈ E := ((rest_of h hok).mem.1 (List.mem_of_getElem? hy.ledge)).1
  exact frag_one h hok hx hy ((grp_mem.1 hc).2.trans ((grp_mem.1 hd).2.symm hbE))
/-- An edge with both ends on the web is a fragment by itself. -/
theorem frag_alone {n : Nat} {E W : List (Int × Int)} (h : rightG (n : Nat) E = true) (hok : (leftP W E E.length).2 = W.length) {i f : Nat} {x : List (Int × Int) × List Int} {a c : Int × Int} (hx : FragI n E W (leftP W E E.length).1 (ownE n W E) i x f a) (hc : c ∈ x.1) (h1 : onZ W c.1 = true) (h2 : onZ W c.2 = true) : x.1.length ≤ 1 := by
  have haE : a ∈ E := ((rest_of h hok).mem.1 (List.mem_of_getElem? hx.ledge)).1
  rw [hx.edges] at hc ⊢
  have hca := (grp_mem.1 hc).2.symm haE
  have hone : ∀ b, Cn W E c b → b = c := by
    intro b hb
    induction hb with
    | refl => rfl
    | step _ _ hm ih =>
      subst ih
      obtain ⟨v, _, hv, ho⟩ := meetP_iff.1 hm
      rcases hv with hv | hv
      · rw [hv, ho] at h1; cases h1
      · rw [hv, ho] at h2; cases h2
  have hsub : ∀ b ∈ grp W E a, b = c := fun b hb => hone b (hca.trans (grp_mem.1 hb).2)
  have hnd : (grp W E a).Nodup := by unfold grp; exact (rightG_nodup h).filter _
  match hl : grp W E a with
  | [] => simp
  | [_] => simp
  | p :: q :: l =>
    rw [hl] at hsub hnd
    have e1 := hsub p (by simp)
    have e2 := hsub q (by simp)
    subst e1; subst e2
    simp at hnd
/-- All edges so far: of the fragments ahead, and of this one the first t. -/
def soFar (D : List (List (Int × Int) × List Int)) (i : Nat) (G : List (Int × Int)) (t : Nat) : List (Int × Int) := (D.take i).flatMap Prod.fst ++ G.take t
theorem soFar_step {D : List (List (Int × Int) × List Int)} {i t : Nat} {G : List (Int × Int)} {e : Int × Int} (he : G[t]? = some e) : soFar D i G (t + 1) = soFar D i G t ++ [e] := by
  unfold soFar
  rw [List.take_add_one, he, List.append_assoc]
  rfl
theorem soFar_next {D : List (List (Int × Int) × List Int)} {i : Nat} {x : List (Int × Int) × List Int} (hx : D[i]? = some x) (G : List (Int × Int)) : soFar D i x.1 x.1.length = soFar D (i + 1) G 0 := by
  unfold soFar
  rw [List.take_length, List.take_zero, List.append_nil, List.take_add_one, hx, List.flatMap_append]
  simp
theorem soFar_new {n : Nat} {E W : List (Int × Int)} (h : rightG (n : Nat) E = true) (hok : (leftP W E E.length).2 = W.length) {i t : Nat} {x : List (Int × Int) × List Int} (hx : (fragsF n E W)[i]? = some x) {e : Int × Int} (he : x.1[t]? = some e) : e ∉ soFar (fragsF n E W) i x.1 t := by
  obtain ⟨f, a, hf⟩ := frag_at h hok hx
  have hm := List.mem_of_getElem? he
  unfold soFar
  rw [List.mem_append]
  rintro (hc | hc)
  · rw [List.mem_flatMap] at hc
    obtain ⟨y, hy, hc⟩ := hc
    obtain ⟨j, hj⟩ := List.getElem?_of_mem hy
    have hjl := (List.getElem?_eq_some_iff.1 hj).1
    rw [List.length_take] at hjl
    rw [List.getElem?_take_of_lt (by omega)] at hj
    obtain ⟨g, b, hg⟩ := frag_at h hok hj
    have := frag_same h hok hf hg hm hc
    omega
  · have hnd : x.1.Nodup := by rw [hf.edges]; unfold grp; exact (rightG_nodup h).filter _
    obtain ⟨j, hj⟩ := List.getElem?_of_mem hc
    have hjl := (List.getElem?_eq_some_iff.1 hj).1
    rw [List.length_take] at hjl
    rw [List.getElem?_take_of_lt (by omega)] at hj
    obtain ⟨l1, e1⟩ := List.getElem?_eq_some_iff.1 hj
    obtain ⟨l2, e2⟩ := List.getElem?_eq_some_iff.1 he
    have := (List.getElem_inj hnd).1 (e1.trans e2.symm)
    omega
theorem soFar_nodup {n : Nat} {E W : List (Int × Int)} (h : rightG (n : Nat) E = true) (hok : (leftP W E E.length).2 = W.length) : ∀ i, i ≤ (fragsF n E W).length → (((fragsF n E W).take i).flatMap Prod.fst).Nodup
  | 0, _ => by simp
  | i + 1, hi => by
    have ih := soFar_nodup h hok i (by omega)
    have hx : (fragsF n E W)[i]? = some (fragsF n E W)[i] := List.getElem?_eq_getElem (by omega)
    generalize (fragsF n E W)[i] = x at hx
    obtain ⟨f, a, hf⟩ := frag_at h hok hx
    have hnd : x.1.Nodup := by rw [hf.edges]; unfold grp; exact (rightG_nodup h).filter _
    rw [List.take_add_one, hx, List.flatMap_append, List.nodup_append]
    refine ⟨ih, by simpa using hnd, fun c hc d hd hcd => ?_⟩
    subst hcd
    obtain ⟨t, ht⟩ := List.getElem?_of_mem (show c ∈ x.1 by simpa using hd)
    exact soFar_new h hok hx ht (by unfold soFar; rw [List.mem_append]; exact .inl hc)
theorem frag_sub {n : Nat} {E W : List (Int × Int)} (h : rightG (n : Nat) E = true) (hok : (leftP W E E.length).2 = W.length) {x : List (Int × Int) × List Int} (hx : x ∈ fragsF n E W) {e : Int × Int} (he : e ∈ x.1) : e ∈ E ∧ e ∉ W := by
  have hR := rest_of h hok
  obtain ⟨i, hi⟩ := List.getElem?_of_mem hx
  obtain ⟨f, a, hf⟩ := frag_at h hok hi
  rw [hf.edges] at he
  obtain ⟨h1, h2⟩ := grp_mem.1 he
  refine ⟨h1, fun hw => ?_⟩
  obtain ⟨j, hj, _⟩ := hR.own_cn hf.ledge h2
  exact (hR.mem.1 (List.mem_of_getElem? hj)).2 hw
/-- All that is left is in a fragment, once. -/
theorem soFar_all {n : Nat} {E W : List (Int × Int)} (h : rightG (n : Nat) E = true) (hok : (leftP W E E.length).2 = W.length) (G : List (Int × Int)) : (soFar (fragsF n E W) (fragsF n E W).length G 0).length + W.length = E.length := by
  have hR := rest_of h hok
  have hnd := soFar_nodup h hok _ (Nat.le_refl _)
  have hm : ∀ e, e ∈ ((fragsF n E W).take (fragsF n E W).length).flatMap Prod.fst ↔ e ∈ (leftP W E E.length).1 := by
    intro e
    rw [List.take_length, List.mem_flatMap, hR.mem]
    constructor
    · rintro ⟨x, hx, he⟩
      exact frag_sub h hok hx he
    · intro he
      obtain ⟨j, hj⟩ := List.getElem?_of_mem (hR.mem.2 he)
      obtain ⟨f, hf, hfo, _⟩ := first_of (ownE n W E) (leftP W E E.length).1.length j (List.getElem?_eq_some_iff.1 hj).1
      rw [fragsF_ref h hok]
      obtain ⟨q, h1, h2, _⟩ := refS_inv hR E.length (Nat.le_refl _)
      have hq : q = (leftP W E E.length).1.length := by rw [← h1, List.take_length, ← hR.is]
      subst hq
      rw [h2]
      refine ⟨_, List.mem_map.2 ⟨f, hf, rfl⟩, ?_⟩
      have hfl := (mem_firsts.1 hf).1
      have hle : (leftP W E E.length).1[f]? = some ((leftP W E E.length).1.getD f (0, 0)) := by rw [List.getD_eq_getElem?_getD, List.getElem?_eq_getElem hfl]; rfl
      exact grp_mem.2 ⟨he.1, (hR.own_iff hle hj).1 hfo⟩
  have hlen := ((List.perm_ext_iff_of_nodup hnd hR.nodup).2 hm).length_eq
  have hp := (leftP_perm W E E.length).length_eq
  rw [hok, List.take_length, List.take_length, List.length_append] at hp
  unfold soFar
  rw [List.length_append, hlen, List.take_zero]
  simp only [List.length_nil, Nat.add_zero]
  exact hp
theorem soFar_le {n : Nat} {E W : List (Int × Int)} (h : rightG (n : Nat) E = true) (hok : (leftP W E E.length).2 = W.length) {i t : Nat} (hi : i ≤ (fragsF n E W).length) {G : List (Int × Int)} (hG : t = 0 ∨ ∃ x, (fragsF n E W)[i]? = some x ∧ G = x.1) : (soFar (fragsF n E W) i G t).length ≤ E.length := by
  have key : ∀ i, i ≤ (fragsF n E W).length → (((fragsF n E W).take i).flatMap Prod.fst).length ≤ E.length := by
    intro i hi
    have hnd := soFar_nodup h hok i hi
    refine nodup_le hnd (fun e he => ?_)
    rw [List.mem_flatMap] at he
    obtain ⟨x, hx, he⟩ := he
    exact (frag_sub h hok (List.mem_of_mem_take hx) he).1
  rcases hG with rfl | ⟨x, hx, rfl⟩
  · unfold soFar
    rw [List.take_zero, List.append_nil]
    exact key i hi
  · have hil := (List.getElem?_eq_some_iff.1 hx).1
    have h1 := key (i + 1) (by omega)
    rw [List.take_add_one, hx, List.flatMap_append, List.length_append, show (some x).toList.flatMap Prod.fst = x.1 by simp] at h1
    unfold soFar
    rw [List.length_append, List.length_take]
    omega
/-- What is set down of vertices that are off the web. -/
def AtI (D : List (List (Int × Int) × List Int)) (W : List (Int × Int)) (f : Int → Option Int) : Prop := ∀ v k, f v = some k → onZ W v = false ∧ ∃ (j : Nat) (y : List (Int × Int) × List Int) (d : Int × Int), k = (j : Int) ∧ D[j]? = some y ∧ d ∈ y.1 ∧ EndOf d v
theorem AtI.start (D : List (List (Int × Int) × List Int)) (W : List (Int × Int)) : AtI D W (fun _ => none) := fun v k h => by cases h
theorem AtI.put {D : List (List (Int × Int) × List Int)} {W : List (Int × Int)} {f : Int → Option Int} (h : AtI D W f) {i : Nat} {y : List (Int × Int) × List Int} {d : Int × Int} {v : Int} (h1 : D[i]? = some y) (h2 : d ∈ y.1) (h3 : EndOf d v) (h4 : onZ W v = false) : AtI D W (upd f v (i : Int)) := by
  intro u k hu
  by_cases e : u = v
  · subst e
    rw [upd_same] at hu
    injection hu with hu
    exact ⟨h4, i, y, d, hu.symm, h1, h2, h3⟩
  · rw [upd_other e] at hu
    exact h u k hu
theorem AtI.same {n : Nat} {E W : List (Int × Int)} (h : rightG (n : Nat) E = true) (hok : (leftP W E E.length).2 = W.length) {f : Int → Option Int} (hf : AtI (fragsF n E W) W f) {i : Nat} {x : List (Int × Int) × List Int} {e : Int × Int} {v k : Int} (hx : (fragsF n E W)[i]? = some x) (he : e ∈ x.1) (hv : EndOf e v) (hk : f v = some k) : k = (i : Int) := by
  obtain ⟨h4, j, y, d, rfl, hy, hd, hdv⟩ := hf v k hk
  obtain ⟨p, a, hp⟩ := frag_at h hok hx
  obtain ⟨q, b, hq⟩ := frag_at h hok hy
  have := frag_meet h hok hp hq he hd hv hdv h4
  omega
/-- The edges of a fragment that do not end on the web. -/
def innE (W G : List (Int × Int)) : List (Int × Int) := G.filter fun e => !onZ W e.1 && !onZ W e.2
def innP (W G : List (Int × Int)) (t : Nat) : List (Int × Int) := innE W (G.take t)
theorem innP_step {W G : List (Int × Int)} {t : Nat} {e : Int × Int} (he : G[t]? = some e) : innP W G (t + 1) = if (!onZ W e.1 && !onZ W e.2) = true then innP W G t ++ [e] else innP W G t := by
  unfold innP innE
  rw [List.take_add_one, he, List.filter_append]
  split
  · rename_i h
    simp [h]
  · rename_i h
    have h : (!onZ W e.1 && !onZ W e.2) = false := by simpa using h
    simp [h]
theorem innP_le (W G : List (Int × Int)) (t : Nat) : (innP W G t).length ≤ t := by
  unfold innP innE
  exact Nat.le_trans (List.length_filter_le _ _) (by rw [List.length_take]; omega)
theorem frag_sublist {n : Nat} {E W : List (Int × Int)} {i f : Nat} {L : List (Int × Int)} {own : Nat → Nat} {x : List (Int × Int) × List Int} {a : Int × Int} (hx : FragI n E W L own i x f a) : x.1.Sublist E := by
  rw [hx.edges]
  unfold grp
  exact List.filter_sublist
/-- Off the web the vertices of a fragment hang together without it. -/
theorem frag_hangs {n : Nat} {E W : List (Int × Int)} (h : rightG (n : Nat) E = true) (hok : (leftP W E E.length).2 = W.length) {i f : Nat} {x : List (Int × Int) × List Int} {a : Int × Int} (hx : FragI n E W (leftP W E E.length).1 (ownE n W E) i x f a) {u v : Nat} (hu : (u : Int) ∈ endsL x.1) (hv : (v : Int) ∈ endsL x.1) (ou : onW W u = false) (ov : onW W v = false) : Rch n (innE W x.1) u v := by
  have hR := rest_of h hok
  have hH : rightG (n : Nat) (innE W x.1) = true := sub_right h (by unfold innE; exact List.filter_sublist.trans (frag_sublist hx))
  obtain ⟨c, hc, hcu⟩ := endsL_mem.1 hu
  obtain ⟨d, hd, hdv⟩ := endsL_mem.1 hv
  rw [hx.edges] at hc hd
  obtain ⟨p, hp, hpo⟩ := hR.own_cn hx.ledge (grp_mem.1 hc).2
  obtain ⟨q, hq, hqo⟩ := hR.own_cn hx.ledge (grp_mem.1 hd).2
  obtain ⟨e1, l1⟩ := hR.own_end hp hcu ou
  obtain ⟨e2, l2⟩ := hR.own_end hq hdv ov
  have huv := e1.symm.trans ((hpo.trans hqo.symm).trans e2)
  refine chain_way hR hH (key := _) ?_ _ u v (Nat.le_refl _) l1 l2 rfl ((hR.iff u v l1 l2).1 huv)
  intro s t k hk os ot hrp
  have hown := (hR.own_end hk (.inl rfl) os).1
  have hcn : Cn W E a ((s : Int), (t : Int)) := (hR.own_iff hx.ledge hk).1 (by rw [hown, hrp, ← e1, hpo])
  unfold innE
  refine List.mem_filter.2 ⟨?_, ?_⟩
  · rw [hx.edges]
    exact grp_mem.2 ⟨(hR.mem.1 (List.mem_of_getElem? hk)).1, hcn⟩
  · rw [show onZ W (s : Int) = false from os, show onZ W (t : Int) = false from ot]
    rfl
end Go.Proofs.Ytlkfpphahfendaa
