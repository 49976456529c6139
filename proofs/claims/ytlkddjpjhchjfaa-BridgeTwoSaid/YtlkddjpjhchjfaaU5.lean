/- Which edges hang together off a web (pure, layer 8). -/
import Derived.Test.YtlkddjpjhchjfaaU4
import Derived.Test.YtlkddjpjhchjfaaW22
namespace Go.Proofs.Ytlkddjpjhchjfaa
set_option maxRecDepth 100000
open Go.RowKit

def onZ (W : List (Int × Int)) (v : Int) : Bool := W.any fun e => e.1 == v || e.2 == v
theorem onW_eq (W : List (Int × Int)) (v : Nat) : onW W v = onZ W (v : Int) := rfl
theorem onZ_mem {W : List (Int × Int)} {e : Int × Int} (h : e ∈ W) : onZ W e.1 = true ∧ onZ W e.2 = true := by
  unfold onZ
  rw [List.any_eq_true, List.any_eq_true]
  exact ⟨⟨e, h, by simp⟩, ⟨e, h, by simp⟩⟩
/-- Do two edges end at one vertex that is off the web? -/
def meetP (W : List (Int × Int)) (a b : Int × Int) : Bool := ((b.1 == a.1 || b.2 == a.1) && !onZ W a.1) || ((b.1 == a.2 || b.2 == a.2) && !onZ W a.2)
def EndOf (e : Int × Int) (v : Int) : Prop := e.1 = v ∨ e.2 = v
theorem meetP_iff {W : List (Int × Int)} {a b : Int × Int} : meetP W a b = true ↔ ∃ v, EndOf a v ∧ EndOf b v ∧ onZ W v = false := by
  unfold meetP EndOf
  simp only [Bool.or_eq_true, Bool.and_eq_true, beq_iff_eq, Bool.not_eq_true']
  constructor
  · rintro (⟨h1, h2⟩ | ⟨h1, h2⟩)
    · exact ⟨a.1, .inl rfl, h1, h2⟩
    · exact ⟨a.2, .inr rfl, h1, h2⟩
  · rintro ⟨v, h1 | h1, h2, h3⟩
    · subst h1
      exact .inl ⟨h2, h3⟩
    · subst h1
      exact .inr ⟨h2, h3⟩
theorem meetP_symm {W : List (Int × Int)} {a b : Int × Int} (h : meetP W a b = true) : meetP W b a = true := by
  obtain ⟨v, h1, h2, h3⟩ := meetP_iff.1 h
  exact meetP_iff.2 ⟨v, h2, h1, h3⟩
/-- All that hangs together with an edge. -/
inductive Cn (W E : List (Int × Int)) (a : Int × Int) : Int × Int → Prop
  | refl : Cn W E a a
  | step {b c : Int × Int} : Cn W E a b → c ∈ E → meetP W c b = true → Cn W E a c
theorem Cn.trans {W E : List (Int × Int)} {a b c : Int × Int} (h : Cn W E a b) (k : Cn W E b c) : Cn W E a c := by
  induction k with
  | refl => exact h
  | step _ hm hp ih => exact ih.step hm hp
theorem Cn.symm {W E : List (Int × Int)} {a b : Int × Int} (ha : a ∈ E) (h : Cn W E a b) : Cn W E b a := by
  have key : b ∈ E ∧ Cn W E b a := by
    induction h with
    | refl => exact ⟨ha, .refl⟩
    | step _ hm hp ih => exact ⟨hm, (Cn.step .refl ih.1 (meetP_symm hp)).trans ih.2⟩
  exact key.2
/-- What is known of the edges beside a web. -/
structure Rest (n : Nat) (W E L : List (Int × Int)) (r : Nat → Nat) : Prop where
  inn : ∀ e ∈ E, 0 ≤ e.1 ∧ e.1 < e.2 ∧ e.2 < n
  nd : E.Nodup
  is : L = E.filter fun e => decide (e ∉ W)
  lt : ∀ v, v < n → r v < n
  iff : ∀ x y, x < n → y < n → (r x = r y ↔ cnR (onW W) L L.length x y)
theorem Rest.mem {n : Nat} {W E L : List (Int × Int)} {r : Nat → Nat} (h : Rest n W E L r) {e : Int × Int} : e ∈ L ↔ e ∈ E ∧ e ∉ W := by
  rw [h.is, List.mem_filter]
  simp
theorem Rest.hin {n : Nat} {W E L : List (Int × Int)} {r : Nat → Nat} (h : Rest n W E L r) : ∀ e ∈ L, 0 ≤ e.1 ∧ e.1 < n ∧ 0 ≤ e.2 ∧ e.2 < n := fun e he => by
  have := h.inn e (h.mem.1 he).1
  omega
theorem Rest.nodup {n : Nat} {W E L : List (Int × Int)} {r : Nat → Nat} (h : Rest n W E L r) : L.Nodup := by rw [h.is]; exact h.nd.filter _
theorem Rest.get {n : Nat} {W E L : List (Int × Int)} {r : Nat → Nat} (h : Rest n W E L r) {i : Nat} {e : Int × Int} (he : L[i]? = some e) : ∃ x y : Nat, e = ((x : Int), (y : Int)) ∧ x < n ∧ y < n ∧ i < L.length ∧ L.getD i (0, 0) = e := by
  have h1 := h.hin e (List.mem_of_getElem? he)
  obtain ⟨a, b⟩ := e
  simp only at h1
  obtain ⟨x, rfl⟩ := Int.eq_ofNat_of_zero_le h1.1
  obtain ⟨y, rfl⟩ := Int.eq_ofNat_of_zero_le h1.2.2.1
  exact ⟨x, y, rfl, by omega, by omega, (List.getElem?_eq_some_iff.1 he).1, by rw [List.getD_eq_getElem?_getD, he]; rfl⟩
theorem cnR_refl (on : Nat → Bool) (L : List (Int × Int)) : ∀ k x, cnR on L k x x
  | 0, _ => rfl
  | k + 1, x => by
    show (match L[k]? with | none => _ | some e => _)
    split
    · exact cnR_refl on L k x
    · split
      · exact cnR_refl on L k x
      · exact .inl (cnR_refl on L k x)
theorem cnR_up {on : Nat → Bool} {L : List (Int × Int)} {k x y : Nat} (h : cnR on L k x y) : ∀ d, cnR on L (k + d) x y
  | 0 => h
  | d + 1 => by
    have ih := cnR_up h d
    show (match L[k + d]? with | none => _ | some e => _)
    split
    · exact ih
    · split
      · exact ih
      · exact .inl ih
/-- The ends of an edge that are both off the web hang together. -/
theorem Rest.joined {n : Nat} {W E L : List (Int × Int)} {r : Nat → Nat} (h : Rest n W E L r) {i x y : Nat} (he : L[i]? = some ((x : Int), (y : Int))) (hx : onW W x = false) (hy : onW W y = false) : r x = r y := by
  obtain ⟨x', y', e, h1, h2, h3, _⟩ := h.get he
  have e1 : x = x' := by injection e with e1 e2; omega
  have e2 : y = y' := by injection e with e1 e2; omega
  subst e1; subst e2
  rw [h.iff x y h1 h2]
  have hk : cnR (onW W) L (i + 1) x y := by
    rw [cnR_off he (by simp [hx, hy])]
    exact .inr (.inl ⟨cnR_refl _ _ _ _, cnR_refl _ _ _ _⟩)
  have := cnR_up hk (L.length - (i + 1))
  rwa [show i + 1 + (L.length - (i + 1)) = L.length by omega] at this
theorem Rest.own_end {n : Nat} {W E L : List (Int × Int)} {r : Nat → Nat} (h : Rest n W E L r) {i v : Nat} {e : Int × Int} (he : L[i]? = some e) (hv : EndOf e (v : Int)) (ho : onW W v = false) : ownF n (onW W) r L i = r v ∧ v < n := by
  obtain ⟨x, y, rfl, h1, h2, h3, h4⟩ := h.get he
  unfold ownF
  rw [h4]
  simp only [Int.toNat_natCast]
  rcases hv with hv | hv
  · have hv : x = v := by have hv2 : (x : Int) = v := hv; omega
    subst hv
    rw [if_pos ho]
    exact ⟨rfl, h1⟩
  · have hv : y = v := by have hv2 : (y : Int) = v := hv; omega
    subst hv
    by_cases hx : onW W x = false
    · rw [if_pos hx]
      exact ⟨h.joined he hx ho, h2⟩
    · rw [if_neg hx, if_pos ho]
      exact ⟨rfl, h2⟩
theorem Rest.own_on {n : Nat} {W E L : List (Int × Int)} {r : Nat → Nat} (h : Rest n W E L r) {i : Nat} {e : Int × Int} (he : L[i]? = some e) (ho : ∀ v : Nat, EndOf e (v : Int) → onW W v = true) : ownF n (onW W) r L i = n + i := by
  obtain ⟨x, y, rfl, h1, h2, h3, h4⟩ := h.get he
  unfold ownF
  rw [h4]
  simp only [Int.toNat_natCast]
  rw [if_neg (by rw [ho x (.inl rfl)]; simp), if_neg (by rw [ho y (.inr rfl)]; simp)]
theorem Rest.ends {n : Nat} {W E L : List (Int × Int)} {r : Nat → Nat} (h : Rest n W E L r) {i : Nat} {e : Int × Int} (he : L[i]? = some e) : (∃ v : Nat, EndOf e (v : Int) ∧ onW W v = false) ∨ ∀ v : Nat, EndOf e (v : Int) → onW W v = true := by
  by_cases hh : ∃ v : Nat, EndOf e (v : Int) ∧ onW W v = false
  · exact .inl hh
  · right
    intro v hv
    cases ho : onW W v with
    | true => rfl
    | false => exact absurd ⟨v, hv, ho⟩ hh
theorem Rest.cn_of {n : Nat} {W E L : List (Int × Int)} {r : Nat → Nat} (h : Rest n W E L r) : ∀ (k u v : Nat) (a b : Int × Int), cnR (onW W) L k u v → a ∈ L → b ∈ L → EndOf a (u : Int) → EndOf b (v : Int) → onW W u = false → onW W v = false → Cn W E a b
  | 0, u, v, a, b, hc, ha, hb, hu, hv, ou, ov => by
    have hc : u = v := hc
    subst hc
    exact Cn.step .refl (h.mem.1 hb).1 (meetP_iff.2 ⟨u, hv, hu, ou⟩)
  | k + 1, u, v, a, b, hc, ha, hb, hu, hv, ou, ov => by
    have ih := h.cn_of k
    cases he : L[k]? with
    | none =>
      have hc : (match L[k]? with | none => cnR (onW W) L k u v | some e => _) := hc
      rw [he] at hc
      exact ih u v a b hc ha hb hu hv ou ov
    | some e =>
      obtain ⟨p, q, rfl, h1, h2, h3, h4⟩ := h.get he
      cases ho : onW W p || onW W q with
      | true =>
        rw [cnR_on he ho] at hc
        exact ih u v a b hc ha hb hu hv ou ov
      | false =>
        rw [cnR_off he ho] at hc
        have hel := List.mem_of_getElem? he
        obtain ⟨op, oq⟩ : onW W p = false ∧ onW W q = false := by simpa using ho
        rcases hc with hc | ⟨c1, c2⟩ | ⟨c1, c2⟩
        · exact ih u v a b hc ha hb hu hv ou ov
        · exact (ih u p a _ c1 ha hel hu (.inl rfl) ou op).trans ((ih v q b _ c2 hb hel hv (.inr rfl) ov oq).symm (h.mem.1 hb).1)
        · exact (ih u q a _ c1 ha hel hu (.inr rfl) ou oq).trans ((ih v p b _ c2 hb hel hv (.inl rfl) ov op).symm (h.mem.1 hb).1)
/-- Alike owned: they hang together. -/
theorem Rest.cn_own {n : Nat} {W E L : List (Int × Int)} {r : Nat → Nat} (h : Rest n W E L r) {i j : Nat} {a b : Int × Int} (ha : L[i]? = some a) (hb : L[j]? = some b) (ho : ownF n (onW W) r L i = ownF n (onW W) r L j) : Cn W E a b := by
  have hi := (List.getElem?_eq_some_iff.1 ha).1
  rcases h.ends ha with ⟨u, hu, ou⟩ | hu
  · obtain ⟨e1, l1⟩ := h.own_end ha hu ou
    have r1 := h.lt u l1
    rcases h.ends hb with ⟨v, hv, ov⟩ | hv
    · obtain ⟨e2, l2⟩ := h.own_end hb hv ov
      rw [e1, e2, h.iff u v l1 l2] at ho
      exact h.cn_of _ u v a b ho (List.mem_of_getElem? ha) (List.mem_of_getElem? hb) hu hv ou ov
    · rw [e1, h.own_on hb hv] at ho
      omega
  · rw [h.own_on ha hu] at ho
    rcases h.ends hb with ⟨v, hv, ov⟩ | hv
    · obtain ⟨e2, l2⟩ := h.own_end hb hv ov
      have r2 := h.lt v l2
      omega
    · rw [h.own_on hb hv] at ho
      have : i = j := by omega
      subst this
      rw [ha] at hb
      injection hb with hb
      subst hb
      exact .refl
/-- What hangs together is alike owned. -/
theorem Rest.own_cn {n : Nat} {W E L : List (Int × Int)} {r : Nat → Nat} (h : Rest n W E L r) {i : Nat} {a b : Int × Int} (ha : L[i]? = some a) (hc : Cn W E a b) : ∃ j, L[j]? = some b ∧ ownF n (onW W) r L j = ownF n (onW W) r L i := by
  induction hc with
  | refl => exact ⟨i, ha, rfl⟩
  | @step b c _ hm hp ih =>
    obtain ⟨j, hj, ho⟩ := ih
    obtain ⟨v, h1, h2, h3⟩ := meetP_iff.1 hp
    have hcW : c ∉ W := by
      intro hw
      have := onZ_mem hw
      rcases h1 with h1 | h1
      · rw [h1, h3] at this; exact absurd this.1 (by simp)
      · rw [h1, h3] at this; exact absurd this.2 (by simp)
    obtain ⟨q, hq⟩ := List.getElem?_of_mem (h.mem.2 ⟨hm, hcW⟩)
    obtain ⟨x, y, rfl, k1, k2, k3, k4⟩ := h.get hq
    have hv : ∃ v' : Nat, v = (v' : Int) := by
      rcases h1 with h1 | h1
      · exact ⟨x, h1.symm⟩
      · exact ⟨y, h1.symm⟩
    obtain ⟨v', rfl⟩ := hv
    exact ⟨q, hq, by rw [← ho, (h.own_end hq h1 h3).1, (h.own_end hj h2 h3).1]⟩
theorem Rest.own_iff {n : Nat} {W E L : List (Int × Int)} {r : Nat → Nat} (h : Rest n W E L r) {i j : Nat} {a b : Int × Int} (ha : L[i]? = some a) (hb : L[j]? = some b) : ownF n (onW W) r L i = ownF n (onW W) r L j ↔ Cn W E a b := by
  refine ⟨h.cn_own ha hb, fun hc => ?_⟩
  obtain ⟨q, hq, ho⟩ := h.own_cn ha hc
  have hqj : q = j := by
    obtain ⟨l1, e1⟩ := List.getElem?_eq_some_iff.1 hq
    obtain ⟨l2, e2⟩ := List.getElem?_eq_some_iff.1 hb
    exact (List.getElem_inj h.nodup).1 (e1.trans e2.symm)
  subst hqj
  exact ho.symm

def unm (S : List Bool) : Nat := (S.filter fun b => !b).length
theorem unm_set : ∀ (S : List Bool) (i : Nat), S[i]? = some false → unm (S.set i true) + 1 = unm S
  | [], i, h => by simp at h
  | b :: S, 0, h => by
    simp at h
    subst h
    simp [unm]
  | b :: S, i + 1, h => by
    have ih := unm_set S i (by simpa using h)
    unfold unm at ih ⊢
    cases b <;> simp at ih ⊢ <;> omega
def nowR (W E : List (Int × Int)) (S : List Bool) (e x : Int × Int) (k : Nat) : Bool := (x.1 == e.1 && x.2 == e.2) || (List.range k).any fun j => S.getD j false && meetP W x (E.getD j (0, 0))
theorem nowR_zero (W E : List (Int × Int)) (S : List Bool) (e x : Int × Int) : nowR W E S e x 0 = (x.1 == e.1 && x.2 == e.2) := by simp [nowR]
theorem nowR_step (W E : List (Int × Int)) (S : List Bool) (e x : Int × Int) (k : Nat) : nowR W E S e x (k + 1) = (nowR W E S e x k || (S.getD k false && meetP W x (E.getD k (0, 0)))) := by
  unfold nowR
  rw [List.range_succ, List.any_append]
  simp [Bool.or_assoc]
structure GS (W E : List (Int × Int)) (e : Int × Int) (S : List Bool) : Prop where
  len : S.length = E.length
  sound : ∀ (i : Nat) (x : Int × Int), S[i]? = some true → E[i]? = some x → Cn W E e x
theorem GS.start (W E : List (Int × Int)) (e : Int × Int) {n : Nat} (hn : n = E.length) : GS W E e (List.replicate n false) :=
  ⟨by simp [hn], fun i x h => by rw [List.getElem?_replicate] at h; split at h <;> simp at h⟩
theorem GS.mark {W E : List (Int × Int)} {e x : Int × Int} {S : List Bool} {i : Nat} (h : GS W E e S) (hx : E[i]? = some x) (hn : nowR W E S e x E.length = true) : GS W E e (S.set i true) := by
  refine ⟨by rw [List.length_set]; exact h.len, fun j y h1 h2 => ?_⟩
  by_cases e1 : i = j
  · subst e1
    rw [hx] at h2
    injection h2 with h2
    subst h2
    unfold nowR at hn
    rw [Bool.or_eq_true] at hn
    rcases hn with hn | hn
    · simp only [Bool.and_eq_true, beq_iff_eq] at hn
      rw [show x = e from Prod.ext hn.1 hn.2]
      exact .refl
    · rw [List.any_eq_true] at hn
      obtain ⟨q, hq, hn⟩ := hn
      have hq := List.mem_range.1 hq
      rw [Bool.and_eq_true] at hn
      have hs : S[q]? = some true := by
        have := hn.1
        rw [List.getD_eq_getElem?_getD, List.getElem?_eq_getElem (by rw [h.len]; exact hq)] at this
        rw [List.getElem?_eq_getElem (by rw [h.len]; exact hq)]
        simpa using this
      have he : E[q]? = some (E.getD q (0, 0)) := by rw [List.getD_eq_getElem?_getD, List.getElem?_eq_getElem hq]; rfl
      exact (h.sound q _ hs he).step (List.mem_of_getElem? hx) hn.2
  · rw [List.getElem?_set_ne e1] at h1
    exact h.sound j y h1 h2
def Closed (W E : List (Int × Int)) (e : Int × Int) (S : List Bool) : Prop := ∀ (i : Nat) (x : Int × Int), S[i]? = some false → E[i]? = some x → nowR W E S e x E.length = false
theorem closed_all {W E : List (Int × Int)} {e : Int × Int} {S : List Bool} (h : GS W E e S) (hc : Closed W E e S) (he : e ∈ E) {x : Int × Int} (hx : Cn W E e x) : ∀ i : Nat, E[i]? = some x → S[i]? = some true := by
  have hb : ∀ (i : Nat) (y : Int × Int), E[i]? = some y → S[i]? = some true ∨ S[i]? = some false := fun i y hi => by
    have hl : i < S.length := by rw [h.len]; exact (List.getElem?_eq_some_iff.1 hi).1
    rw [List.getElem?_eq_getElem hl]
    cases S[i] <;> simp
  induction hx with
  | refl =>
    intro i hi
    rcases hb i _ hi with h1 | h1
    · exact h1
    · have := hc i _ h1 hi
      unfold nowR at this
      simp at this
  | @step b c _ hm hp ih =>
    intro i hi
    rcases hb i _ hi with h1 | h1
    · exact h1
    · have h2 := hc i _ h1 hi
      have hbE : b ∈ E := by
        rename_i hcn
        cases hcn with
        | refl => exact he
        | step _ hm2 _ => exact hm2
      obtain ⟨q, hq⟩ := List.getElem?_of_mem hbE
      have hs := ih q hq
      unfold nowR at h2
      rw [Bool.or_eq_false_iff, List.any_eq_false] at h2
      have h3 := h2.2 q (List.mem_range.2 (List.getElem?_eq_some_iff.1 hq).1)
      rw [List.getD_eq_getElem?_getD, hs, List.getD_eq_getElem?_getD, hq] at h3
      simp [hp] at h3
structure Pass (W E : List (Int × Int)) (e : Int × Int) (S0 : List Bool) (i : Nat) (ch : Bool) (S : List Bool) : Prop where
  gs : GS W E e S
  le : unm S ≤ unm S0
  yes : ch = true → unm S < unm S0
  no : ch = false → S = S0 ∧ ∀ (q : Nat) (x : Int × Int), q < i → S[q]? = some false → E[q]? = some x → nowR W E S e x E.length = false
theorem Pass.start {W E : List (Int × Int)} {e : Int × Int} {S : List Bool} (h : GS W E e S) : Pass W E e S 0 false S := ⟨h, Nat.le_refl _, (fun h => by cases h), fun _ => ⟨rfl, fun q x hq => by omega⟩⟩
theorem Pass.old {W E : List (Int × Int)} {e : Int × Int} {S0 S : List Bool} {i : Nat} {ch : Bool} (h : Pass W E e S0 i ch S) (hs : S[i]? = some true) : Pass W E e S0 (i + 1) ch S :=
  ⟨h.gs, h.le, h.yes, fun hc => ⟨(h.no hc).1, fun q x hq h1 h2 => by
    by_cases e1 : q = i
    · subst e1
      rw [hs] at h1
      cases h1
    · exact (h.no hc).2 q x (by omega) h1 h2⟩⟩
theorem Pass.not {W E : List (Int × Int)} {e x : Int × Int} {S0 S : List Bool} {i : Nat} {ch : Bool} (h : Pass W E e S0 i ch S) (hx : E[i]? = some x) (hn : nowR W E S e x E.length = false) : Pass W E e S0 (i + 1) ch S :=
  ⟨h.gs, h.le, h.yes, fun hc => ⟨(h.no hc).1, fun q y hq h1 h2 => by
    by_cases e1 : q = i
    · subst e1
      rw [hx] at h2
      injection h2 with h2
      subst h2
      exact hn
    · exact (h.no hc).2 q y (by omega) h1 h2⟩⟩
theorem Pass.new {W E : List (Int × Int)} {e x : Int × Int} {S0 S : List Bool} {i : Nat} {ch : Bool} (h : Pass W E e S0 i ch S) (hs : S[i]? = some false) (hx : E[i]? = some x) (hn : nowR W E S e x E.length = true) : Pass W E e S0 (i + 1) true (S.set i true) := by
  have h1 := unm_set S i hs
  have h2 := h.le
  exact ⟨h.gs.mark hx hn, by omega, fun _ => by omega, fun hc => by cases hc⟩
theorem Pass.closed {W E : List (Int × Int)} {e : Int × Int} {S0 S : List Bool} (h : Pass W E e S0 E.length false S) : Closed W E e S := fun i x h1 h2 => (h.no rfl).2 i x (List.getElem?_eq_some_iff.1 h2).1 h1 h2
/-- The edges of an edge's fragment. -/
noncomputable def grp (W E : List (Int × Int)) (e : Int × Int) : List (Int × Int) := E.filter fun x => @decide (Cn W E e x) (Classical.propDecidable _)
theorem grp_mem {W E : List (Int × Int)} {e x : Int × Int} : x ∈ grp W E e ↔ x ∈ E ∧ Cn W E e x := by
  unfold grp
  rw [List.mem_filter, @decide_eq_true_iff _ (Classical.propDecidable _)]
def mkd (E : List (Int × Int)) (S : List Bool) (k : Nat) : List (Int × Int) := ((List.range k).filter fun i => S.getD i false).map fun i => E.getD i (0, 0)
theorem mkd_step (E : List (Int × Int)) (S : List Bool) (k : Nat) : mkd E S (k + 1) = if S.getD k false = true then mkd E S k ++ [E.getD k (0, 0)] else mkd E S k := by
  unfold mkd
  rw [List.range_succ, List.filter_append, List.map_append]
  split
  · rename_i h
    rw [List.filter_cons_of_pos (by exact h)]
    rfl
  · rename_i h
    rw [List.filter_cons_of_neg (by exact h)]
    simp
theorem mkd_le (E : List (Int × Int)) (S : List Bool) (k : Nat) : (mkd E S k).length ≤ k := by
  unfold mkd
  rw [List.length_map]
  exact Nat.le_trans (List.length_filter_le _ _) (by simp)
theorem range_getD (E : List (Int × Int)) : (List.range E.length).map (fun i => E.getD i (0, 0)) = E := by
  apply List.ext_getElem?
  intro i
  by_cases h : i < E.length
  · simp [List.getD, h]
  · rw [List.getElem?_eq_none (by simp; omega), List.getElem?_eq_none (by omega)]
theorem mkd_all {W E : List (Int × Int)} {e : Int × Int} {S : List Bool} (h : GS W E e S) (hc : Closed W E e S) (he : e ∈ E) : mkd E S E.length = grp W E e := by
  unfold grp mkd
  conv => rhs; rw [← range_getD E]
  rw [List.filter_map]
  congr 1
  apply List.filter_congr
  intro i hi
  have hi := List.mem_range.1 hi
  have hg : E[i]? = some (E.getD i (0, 0)) := by rw [List.getD_eq_getElem?_getD, List.getElem?_eq_getElem hi]; rfl
  have hsl : i < S.length := by rw [h.len]; exact hi
  have hsd : S[i]? = some (S.getD i false) := by rw [List.getD_eq_getElem?_getD, List.getElem?_eq_getElem hsl]; rfl
  rw [range_getD]
  show S.getD i false = _
  rw [Bool.eq_iff_iff]
  simp only [Function.comp]
  rw [@decide_eq_true_iff _ (Classical.propDecidable _)]
  constructor
  · intro h1
    rw [h1] at hsd
    exact h.sound i _ hsd hg
  · intro h1
    have := closed_all h hc he h1 i hg
    rw [hsd] at this
    exact Option.some.inj this
end Go.Proofs.Ytlkddjpjhchjfaa
