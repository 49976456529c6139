/- Fragments in memory of their own (layer 8). -/
import Derived.Test.YtlkddjpjhchjfaaH3
namespace Go.Proofs.Ytlkddjpjhchjfaa
set_option maxRecDepth 100000
open Go.RowKit

/-- The cells of a row of fragments. -/
def fcells (fr : List (Value × Value)) : List Value := fr.flatMap fun p => [p.1, p.2]
theorem fcells_length : ∀ fr : List (Value × Value), (fcells fr).length = fr.length * 2
  | [] => rfl
  | p :: fr => by
    show ([p.1, p.2] ++ fcells fr).length = _
    rw [List.length_append, fcells_length fr]
    simp
    omega
theorem fcells_snoc (fr : List (Value × Value)) (p : Value × Value) : fcells (fr ++ [p]) = fcells fr ++ [p.1, p.2] := by simp [fcells]
theorem fcells_at : ∀ (fr : List (Value × Value)) (j : Nat) (p : Value × Value), fr[j]? = some p → (fcells fr)[j * 2]? = some p.1 ∧ (fcells fr)[j * 2 + 1]? = some p.2
  | [], j, p, h => by simp at h
  | q :: fr, 0, p, h => by
    simp at h
    subst h
    exact ⟨rfl, rfl⟩
  | q :: fr, j + 1, p, h => by
    have h' : fr[j]? = some p := by simpa using h
    obtain ⟨h1, h2⟩ := fcells_at fr j p h'
    show ([q.1, q.2] ++ fcells fr)[(j + 1) * 2]? = _ ∧ ([q.1, q.2] ++ fcells fr)[(j + 1) * 2 + 1]? = _
    rw [show (j + 1) * 2 = 2 + j * 2 by omega, show 2 + j * 2 + 1 = 2 + (j * 2 + 1) by omega]
    exact ⟨by rw [List.getElem?_append_right (by simp)]; simpa using h1, by rw [List.getElem?_append_right (by simp)]; simpa using h2⟩
theorem fcells_set0 : ∀ (fr : List (Value × Value)) (j : Nat) (p : Value × Value) (u : Value), fr[j]? = some p → (fcells fr).set (j * 2) u = fcells (fr.set j (u, p.2))
  | [], j, p, u, h => by simp at h
  | q :: fr, 0, p, u, h => by
    simp at h
    subst h
    rfl
  | q :: fr, j + 1, p, u, h => by
    have h' : fr[j]? = some p := by simpa using h
    show ([q.1, q.2] ++ fcells fr).set ((j + 1) * 2) u = [q.1, q.2] ++ fcells (fr.set j (u, p.2))
    rw [List.set_append_right _ _ (by simp; omega), ← fcells_set0 fr j p u h']
    congr 2
    simp
    omega
theorem fcells_set1 : ∀ (fr : List (Value × Value)) (j : Nat) (p : Value × Value) (u : Value), fr[j]? = some p → (fcells fr).set (j * 2 + 1) u = fcells (fr.set j (p.1, u))
  | [], j, p, u, h => by simp at h
  | q :: fr, 0, p, u, h => by
    simp at h
    subst h
    rfl
  | q :: fr, j + 1, p, u, h => by
    have h' : fr[j]? = some p := by simpa using h
    show ([q.1, q.2] ++ fcells fr).set ((j + 1) * 2 + 1) u = [q.1, q.2] ++ fcells (fr.set j (p.1, u))
    rw [List.set_append_right _ _ (by simp; omega), ← fcells_set1 fr j p u h']
    congr 2
    simp
    omega
theorem own_same {w w' : World} {base size n : Nat} {e : TypeId} {v : Value} {cs : List Value} (h : w.ownsRow base e size v n cs) (hs : ∀ k, v.ownBlock = some k → k < w.heap.size → base ≤ k → w'.heap[k]? = w.heap[k]?) : w'.ownsRow base e size v n cs := by
  obtain ⟨hl, h0 | ⟨g, cap, cur, ev, h1, h2, h3⟩⟩ := h
  · exact ⟨hl, .inl h0⟩
  · exact ⟨hl, .inr ⟨g, cap, cur, ev, h1, (hs g (by rw [ev]; rfl) (lt_of_block h2) h1).trans h2, h3⟩⟩
theorem own_typ {w : World} {base base' size size' n n' : Nat} {e e' : TypeId} {v v' : Value} {xs xs' : List Value} (h : w.ownsRow base e size v n xs) (h' : w.ownsRow base' e' size' v' n' xs') (hne : e ≠ e') {k : Nat} (hk : v.ownBlock = some k) : v'.ownBlock ≠ some k := by
  obtain ⟨_, h0 | ⟨g, cap, cur, ev, _, h2, _⟩⟩ := h
  · rw [h0.1] at hk; cases hk
  · rw [ev] at hk
    have hk : g = k := by simpa [Value.ownBlock] using hk
    subst hk
    obtain ⟨_, h0 | ⟨g', cap', cur', ev', _, h2', _⟩⟩ := h'
    · rw [h0.1]; simp [Value.ownBlock]
    · rw [ev']
      intro e1
      have e1 : g' = g := by simpa [Value.ownBlock] using e1
      subst e1
      rw [h2] at h2'
      injection h2' with h2'
      injection h2' with _ h3
      exact hne h3
theorem own_put {w : World} {base g cap n i size : Nat} {e : TypeId} {u : Value} {cs : List Value} (h : w.ownsRow base e size (.slice (some ⟨g, 0, none⟩) n cap) n cs) : (w.setCell ⟨g, i, none⟩ u).ownsRow base e size (.slice (some ⟨g, 0, none⟩) n cap) n (cs.set i u) := by
  obtain ⟨hl, h0 | ⟨g', c, cur, ev, h1, h2, h3, h4, h5, h6⟩⟩ := h
  · cases h0.1
  · simp only [Value.slice.injEq, Option.some.injEq, Addr.mk.injEq, and_true, true_and] at ev
    obtain ⟨rfl, rfl⟩ := ev
    refine ⟨by simpa using hl, .inr ⟨g, cap, cur.setIfInBounds i u, rfl, h1, Go.Joins.block_setCell h2 _, h3, h4, by simpa using h5, ?_⟩⟩
    rw [Array.toList_setIfInBounds, List.take_set, h6]
theorem grown_to {w w7 : World} {row : Option Nat} (h : w.grownBy w7 row) {k : Nat} (hk : k < w.heap.size) (hn : some k ≠ row) : w7.heap[k]? = w.heap[k]? := h.block k hk hn

/-- Fragments, each list in memory of its own. -/
structure Frags (w : World) (base : Nat) (V : Value) (fr : List (Value × Value)) (F : List (List (Int × Int) × List Int)) : Prop where
  row : w.ownsRow base 71 2 V F.length (fcells fr)
  len : fr.length = F.length
  edges : ∀ (j : Nat) (p : Value × Value) (x : List (Int × Int) × List Int), fr[j]? = some p → F[j]? = some x → w.ownsRow base 51 2 p.1 x.1.length (pcells x.1)
  feet : ∀ (j : Nat) (p : Value × Value) (x : List (Int × Int) × List Int), fr[j]? = some p → F[j]? = some x → w.ownsRow base 3 1 p.2 x.2.length (zs x.2)
  aE : ∀ (i j : Nat) (p q : Value × Value) (g : Nat), i ≠ j → fr[i]? = some p → fr[j]? = some q → p.1.ownBlock = some g → q.1.ownBlock ≠ some g
  aF : ∀ (i j : Nat) (p q : Value × Value) (g : Nat), i ≠ j → fr[i]? = some p → fr[j]? = some q → p.2.ownBlock = some g → q.2.ownBlock ≠ some g
theorem Frags.nil (w : World) (base : Nat) : Frags w base (.slice none 0 0) [] [] :=
  ⟨World.ownsRow_nil _ _ _ _, rfl, (fun j p x h => by simp at h), (fun j p x h => by simp at h), (fun i j p q g _ h => by simp at h), (fun i j p q g _ h => by simp at h)⟩
theorem Frags.same {w w' : World} {base : Nat} {V : Value} {fr : List (Value × Value)} {F : List (List (Int × Int) × List Int)} (h : Frags w base V fr F) (hs : ∀ k, base ≤ k → k < w.heap.size → w'.heap[k]? = w.heap[k]?) : Frags w' base V fr F :=
  ⟨own_same h.row fun k _ a b => hs k b a, h.len, fun j p x a b => own_same (h.edges j p x a b) fun k _ a b => hs k b a, fun j p x a b => own_same (h.feet j p x a b) fun k _ a b => hs k b a, h.aE, h.aF⟩
theorem Frags.below {w w' : World} {base : Nat} {V : Value} {fr : List (Value × Value)} {F : List (List (Int × Int) × List Int)} (h : Frags w base V fr F) (hb : Below w.heap.size w w') : Frags w' base V fr F := h.same fun k _ hk => hb.block k hk
theorem Frags.only {w w' : World} {base B : Nat} {V : Value} {fr : List (Value × Value)} {F : List (List (Int × Int) × List Int)} (h : Frags w base V fr F) (hb : Only B w w') (hB : B < base) : Frags w' base V fr F := h.same fun k h1 hk => hb.same k hk (by omega)
theorem Frags.less {w : World} {base base' : Nat} {V : Value} {fr : List (Value × Value)} {F : List (List (Int × Int) × List Int)} (h : Frags w base V fr F) (hb : base' ≤ base) : Frags w base' V fr F :=
  ⟨Go.Joins.ownsRow_le h.row hb, h.len, fun j p x a b => Go.Joins.ownsRow_le (h.edges j p x a b) hb, fun j p x a b => Go.Joins.ownsRow_le (h.feet j p x a b) hb, h.aE, h.aF⟩
theorem Frags.form {w : World} {base : Nat} {V : Value} {fr : List (Value × Value)} {F : List (List (Int × Int) × List Int)} (h : Frags w base V fr F) (hp : 0 < F.length) : ∃ g cap, V = .slice (some ⟨g, 0, none⟩) F.length cap := Go.Joins.ownsRow_form h.row hp
/-- An empty one more. -/
theorem Frags.add {w w2 w8 : World} {base g2 cap2 k : Nat} {V : Value} {fr : List (Value × Value)} {F : List (List (Int × Int) × List Int)} (h : Frags w base V fr F) (hk : k = F.length) (hb : Below w.heap.size w w2) (hg : w2.grownBy w8 V.ownBlock)
    (hr : w8.ownsRow base 71 2 (.slice (some ⟨g2, 0, none⟩) (k + 1) cap2) (k + 1) (fcells fr ++ [.slice none 0 0, .slice none 0 0])) :
    Frags w8 base (.slice (some ⟨g2, 0, none⟩) (k + 1) cap2) (fr ++ [(.slice none 0 0, .slice none 0 0)]) (F ++ [([], [])]) := by
  subst hk
  have hold : ∀ k, k < w.heap.size → some k ≠ V.ownBlock → w8.heap[k]? = w.heap[k]? := fun k hk hn => (hg.block k (Nat.lt_of_lt_of_le hk hb.size) hn).trans (hb.block k hk)
  have hcase : ∀ (j : Nat) (p : Value × Value) (x : List (Int × Int) × List Int), (fr ++ [(Value.slice none 0 0, Value.slice none 0 0)])[j]? = some p → (F ++ [([], [])])[j]? = some x → (fr[j]? = some p ∧ F[j]? = some x) ∨ (p = (.slice none 0 0, .slice none 0 0) ∧ x = ([], [])) := by
    intro j p x a b
    by_cases hj : j < F.length
    · rw [List.getElem?_append_left (by have := h.len; omega)] at a
      rw [List.getElem?_append_left hj] at b
      exact .inl ⟨a, b⟩
    · have hjl := (List.getElem?_eq_some_iff.1 b).1
      simp only [List.length_append, List.length_singleton] at hjl
      have : j = F.length := by omega
      subst this
      rw [List.getElem?_append_right (Nat.le_refl _), Nat.sub_self] at b
      rw [List.getElem?_append_right (by rw [h.len]; exact Nat.le_refl _), h.len, Nat.sub_self] at a
      simp at a b
      exact .inr ⟨a.symm, b.symm⟩
  have hone : ∀ (j : Nat) (p : Value × Value), (fr ++ [(Value.slice none 0 0, Value.slice none 0 0)])[j]? = some p → fr[j]? = some p ∨ p = (.slice none 0 0, .slice none 0 0) := by
    intro j p a
    by_cases hj : j < fr.length
    · rw [List.getElem?_append_left hj] at a
      exact .inl a
    · have hjl := (List.getElem?_eq_some_iff.1 a).1
      simp only [List.length_append, List.length_singleton] at hjl
      have : j = fr.length := by omega
      subst this
      rw [List.getElem?_append_right (Nat.le_refl _), Nat.sub_self] at a
      simp at a
      exact .inr a.symm
  refine ⟨?_, by simp [h.len], fun j p x a b => ?_, fun j p x a b => ?_, fun i j p q g hij a b e => ?_, fun i j p q g hij a b e => ?_⟩
  · rw [fcells_snoc]
    simpa using hr
  · rcases hcase j p x a b with ⟨a, b⟩ | ⟨rfl, rfl⟩
    · have ho := h.edges j p x a b
      exact own_same ho fun k e1 e2 _ => hold k e2 fun e3 => own_typ ho h.row (by decide) e1 e3.symm
    · exact World.ownsRow_nil _ _ _ _
  · rcases hcase j p x a b with ⟨a, b⟩ | ⟨rfl, rfl⟩
    · have ho := h.feet j p x a b
      exact own_same ho fun k e1 e2 _ => hold k e2 fun e3 => own_typ ho h.row (by decide) e1 e3.symm
    · exact World.ownsRow_nil _ _ _ _
  · rcases hone i p a with a | rfl
    · rcases hone j q b with b | rfl
      · exact h.aE i j p q g hij a b e
      · simp [Value.ownBlock]
    · simp [Value.ownBlock] at e
  · rcases hone i p a with a | rfl
    · rcases hone j q b with b | rfl
      · exact h.aF i j p q g hij a b e
      · simp [Value.ownBlock]
    · simp [Value.ownBlock] at e
/-- One fragment is another one. -/
theorem Frags.put {w WX : World} {base G n cap j : Nat} {fr : List (Value × Value)} {F : List (List (Int × Int) × List Int)} {p p' : Value × Value} {x x' : List (Int × Int) × List Int} (h : Frags w base (.slice (some ⟨G, 0, none⟩) n cap) fr F) (hp : fr[j]? = some p) (hx : F[j]? = some x)
    (row : Option Nat) (hsame : ∀ k, base ≤ k → k < w.heap.size → k ≠ G → some k ≠ row → WX.heap[k]? = w.heap[k]?) (hrow : row = p.1.ownBlock ∨ row = p.2.ownBlock)
    (hG : WX.ownsRow base 71 2 (.slice (some ⟨G, 0, none⟩) n cap) F.length (fcells (fr.set j p')))
    (h1 : WX.ownsRow base 51 2 p'.1 x'.1.length (pcells x'.1)) (h2 : WX.ownsRow base 3 1 p'.2 x'.2.length (zs x'.2))
    (n1 : ∀ g, p'.1.ownBlock = some g → p.1.ownBlock = some g ∨ w.heap.size ≤ g) (n2 : ∀ g, p'.2.ownBlock = some g → p.2.ownBlock = some g ∨ w.heap.size ≤ g) :
    Frags WX base (.slice (some ⟨G, 0, none⟩) n cap) (fr.set j p') (F.set j x') := by
  have hj1 : j < fr.length := (List.getElem?_eq_some_iff.1 hp).1
  have hj2 : j < F.length := (List.getElem?_eq_some_iff.1 hx).1
  have hF : ∀ (i : Nat) (q : Value × Value), fr[i]? = some q → ∃ y, F[i]? = some y := fun i q hi => ⟨_, List.getElem?_eq_getElem (by have := (List.getElem?_eq_some_iff.1 hi).1; have := h.len; omega)⟩
  have hone : ∀ (i : Nat) (q : Value × Value), (fr.set j p')[i]? = some q → (i = j ∧ q = p') ∨ (i ≠ j ∧ fr[i]? = some q) := by
    intro i q a
    by_cases e : i = j
    · subst e
      rw [List.getElem?_set_self hj1] at a
      injection a with a
      exact .inl ⟨rfl, a.symm⟩
    · rw [List.getElem?_set_ne (fun e1 => e e1.symm)] at a
      exact .inr ⟨e, a⟩
  refine ⟨by simpa using hG, by simp [h.len], fun i q y a b => ?_, fun i q y a b => ?_, fun i k q r g hik a b e => ?_, fun i k q r g hik a b e => ?_⟩
  · rcases hone i q a with ⟨rfl, rfl⟩ | ⟨hne, a⟩
    · rw [List.getElem?_set_self hj2] at b
      injection b with b
      subst b
      exact h1
    · rw [List.getElem?_set_ne (fun e1 => hne e1.symm)] at b
      have ho := h.edges i q y a b
      refine own_same ho fun k e1 e2 e3 => hsame k e3 e2 (fun e4 => ?_) (fun e4 => ?_)
      · subst e4
        exact own_typ ho h.row (by decide) e1 rfl
      · rcases hrow with hr | hr
        · exact h.aE i j q p k hne a hp e1 (by rw [← hr]; exact e4.symm)
        · exact own_typ ho (h.feet j p x hp hx) (by decide) e1 (by rw [← hr]; exact e4.symm)
  · rcases hone i q a with ⟨rfl, rfl⟩ | ⟨hne, a⟩
    · rw [List.getElem?_set_self hj2] at b
      injection b with b
      subst b
      exact h2
    · rw [List.getElem?_set_ne (fun e1 => hne e1.symm)] at b
      have ho := h.feet i q y a b
      refine own_same ho fun k e1 e2 e3 => hsame k e3 e2 (fun e4 => ?_) (fun e4 => ?_)
      · subst e4
        exact own_typ ho h.row (by decide) e1 rfl
      · rcases hrow with hr | hr
        · exact own_typ ho (h.edges j p x hp hx) (by decide) e1 (by rw [← hr]; exact e4.symm)
        · exact h.aF i j q p k hne a hp e1 (by rw [← hr]; exact e4.symm)
  · rcases hone i q a with ⟨rfl, rfl⟩ | ⟨hi, a'⟩
    · rcases hone k r b with ⟨rfl, _⟩ | ⟨hk, b⟩
      · exact absurd rfl hik
      · obtain ⟨y, hy⟩ := hF k r b
        rcases n1 g e with e1 | e1
        · exact h.aE i k p r g hik hp b e1
        · intro e2
          have := ((h.edges k r y b hy).lt g e2).2
          omega
    · rcases hone k r b with ⟨rfl, rfl⟩ | ⟨hk, b⟩
      · obtain ⟨y, hy⟩ := hF i q a'
        intro e2
        rcases n1 g e2 with e1 | e1
        · exact h.aE i k q p g hik a' hp e e1
        · have := ((h.edges i q y a' hy).lt g e).2
          omega
      · exact h.aE i k q r g hik a' b e
  · rcases hone i q a with ⟨rfl, rfl⟩ | ⟨hi, a'⟩
    · rcases hone k r b with ⟨rfl, _⟩ | ⟨hk, b⟩
      · exact absurd rfl hik
      · obtain ⟨y, hy⟩ := hF k r b
        rcases n2 g e with e1 | e1
        · exact h.aF i k p r g hik hp b e1
        · intro e2
          have := ((h.feet k r y b hy).lt g e2).2
          omega
    · rcases hone k r b with ⟨rfl, rfl⟩ | ⟨hk, b⟩
      · obtain ⟨y, hy⟩ := hF i q a'
        intro e2
        rcases n2 g e2 with e1 | e1
        · exact h.aF i k q p g hik a' hp e e1
        · have := ((h.feet i q y a' hy).lt g e).2
          omega
      · exact h.aF i k q r g hik a' b e
/-- Its edges are others, stored anew. -/
theorem Frags.setE {w w2 w7 : World} {base G n cap j : Nat} {fr : List (Value × Value)} {F : List (List (Int × Int) × List Int)} {p : Value × Value} {u' : Value} {x : List (Int × Int) × List Int} {x' : List (Int × Int)} (h : Frags w base (.slice (some ⟨G, 0, none⟩) n cap) fr F) (hn : n = F.length) (hp : fr[j]? = some p) (hx : F[j]? = some x)
    (hb : Below w.heap.size w w2) (hg : w2.grownBy w7 p.1.ownBlock) (ho : w7.ownsRow base 51 2 u' x'.length (pcells x')) (hor : u'.ownBlock = p.1.ownBlock ∨ ∃ g, u'.ownBlock = some g ∧ w.heap.size ≤ g) :
    Frags (w7.setCell ⟨G, j * 2, none⟩ u') base (.slice (some ⟨G, 0, none⟩) n cap) (fr.set j (u', p.2)) (F.set j (x', x.2)) := by
  subst hn
  have hE := h.edges j p x hp hx
  have hFe := h.feet j p x hp hx
  have hw7 : ∀ k, k < w.heap.size → some k ≠ p.1.ownBlock → w7.heap[k]? = w.heap[k]? := fun k hk hn => (hg.block k (Nat.lt_of_lt_of_le hk hb.size) hn).trans (hb.block k hk)
  have hG7 : w7.ownsRow base 71 2 (.slice (some ⟨G, 0, none⟩) F.length cap) F.length (fcells fr) := own_same h.row fun k e1 e2 _ => hw7 k e2 fun e3 => own_typ h.row hE (by decide) e1 e3.symm
  have hs : ∀ k, base ≤ k → k < w.heap.size → k ≠ G → some k ≠ p.1.ownBlock → (w7.setCell ⟨G, j * 2, none⟩ u').heap[k]? = w.heap[k]? := fun k _ h2 h3 h4 => (Below.heap_setCell _ _ _ _ h3).trans (hw7 k h2 h4)
  refine h.put hp hx p.1.ownBlock hs (.inl rfl) ?_ ?_ ?_ ?_ (fun g e => .inl e)
  · rw [← fcells_set0 fr j p u' hp]
    exact own_put hG7
  · exact own_same ho fun k e1 _ _ => Below.heap_setCell _ _ _ _ (fun e => by subst e; exact own_typ ho hG7 (by decide) e1 rfl)
  · exact own_same hFe fun k e1 e2 e3 => hs k e3 e2 (fun e => by subst e; exact own_typ hFe h.row (by decide) e1 rfl) (fun e => own_typ hFe hE (by decide) e1 e.symm)
  · intro g e
    rcases hor with h1 | ⟨g', h1, h2⟩
    · left; rw [← h1]; exact e
    · right
      rw [h1] at e
      injection e with e
      omega
/-- Its feet are others, stored anew. -/
theorem Frags.setF {w w2 w7 : World} {base G n cap j : Nat} {fr : List (Value × Value)} {F : List (List (Int × Int) × List Int)} {p : Value × Value} {u' : Value} {x : List (Int × Int) × List Int} {x' : List Int} (h : Frags w base (.slice (some ⟨G, 0, none⟩) n cap) fr F) (hn : n = F.length) (hp : fr[j]? = some p) (hx : F[j]? = some x)
    (hb : Below w.heap.size w w2) (hg : w2.grownBy w7 p.2.ownBlock) (ho : w7.ownsRow base 3 1 u' x'.length (zs x')) (hor : u'.ownBlock = p.2.ownBlock ∨ ∃ g, u'.ownBlock = some g ∧ w.heap.size ≤ g) :
    Frags (w7.setCell ⟨G, j * 2 + 1, none⟩ u') base (.slice (some ⟨G, 0, none⟩) n cap) (fr.set j (p.1, u')) (F.set j (x.1, x')) := by
  subst hn
  have hE := h.edges j p x hp hx
  have hFe := h.feet j p x hp hx
  have hw7 : ∀ k, k < w.heap.size → some k ≠ p.2.ownBlock → w7.heap[k]? = w.heap[k]? := fun k hk hn => (hg.block k (Nat.lt_of_lt_of_le hk hb.size) hn).trans (hb.block k hk)
  have hG7 : w7.ownsRow base 71 2 (.slice (some ⟨G, 0, none⟩) F.length cap) F.length (fcells fr) := own_same h.row fun k e1 e2 _ => hw7 k e2 fun e3 => own_typ h.row hFe (by decide) e1 e3.symm
  have hs : ∀ k, base ≤ k → k < w.heap.size → k ≠ G → some k ≠ p.2.ownBlock → (w7.setCell ⟨G, j * 2 + 1, none⟩ u').heap[k]? = w.heap[k]? := fun k _ h2 h3 h4 => (Below.heap_setCell _ _ _ _ h3).trans (hw7 k h2 h4)
  refine h.put hp hx p.2.ownBlock hs (.inr rfl) ?_ ?_ ?_ (fun g e => .inl e) ?_
  · rw [← fcells_set1 fr j p u' hp]
    exact own_put hG7
  · exact own_same hE fun k e1 e2 e3 => hs k e3 e2 (fun e => by subst e; exact own_typ hE h.row (by decide) e1 rfl) (fun e => own_typ hE hFe (by decide) e1 e.symm)
  · exact own_same ho fun k e1 _ _ => Below.heap_setCell _ _ _ _ (fun e => by subst e; exact own_typ ho hG7 (by decide) e1 rfl)
  · intro g e
    rcases hor with h1 | ⟨g', h1, h2⟩
    · left; rw [← h1]; exact e
    · right
      rw [h1] at e
      injection e with e
      omega
theorem fraginfo : (Try.prog.info? 71).map (fun i => (i.zero, i.size, i.bytes)) = some (some (.agg #[.slice none 0 0, .slice none 0 0]), 2, 48) := by kernel_rfl
end Go.Proofs.Ytlkddjpjhchjfaa
