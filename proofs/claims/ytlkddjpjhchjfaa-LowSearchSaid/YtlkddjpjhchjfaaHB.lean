/- Lists of edges, each in memory of its own, in a row that grows (layer 5). -/
import Derived.Test.YtlkddjpjhchjfaaUB
import Derived.Test.YtlkddjpjhchjfaaWM
import Derived.Test.YtlkddjpjhchjfaaW29
import Derived.Deep.AppendLies
import Derived.Maps.AppendAt
namespace Go.Proofs.Ytlkddjpjhchjfaa
set_option maxRecDepth 100000
open Go.RowKit Go.Maps

theorem bown_same {w w' : World} {base size n : Nat} {e : TypeId} {v : Value} {cs : List Value} (h : w.ownsRow base e size v n cs) (hs : ∀ k, v.ownBlock = some k → k < w.heap.size → base ≤ k → w'.heap[k]? = w.heap[k]?) : w'.ownsRow base e size v n cs := by
  obtain ⟨hl, h0 | ⟨g, cap, cur, ev, h1, h2, h3⟩⟩ := h
  · exact ⟨hl, .inl h0⟩
  · exact ⟨hl, .inr ⟨g, cap, cur, ev, h1, (hs g (by rw [ev]; rfl) (lt_of_block h2) h1).trans h2, h3⟩⟩
theorem bown_typ {w : World} {base base' size size' n n' : Nat} {e e' : TypeId} {v v' : Value} {xs xs' : List Value} (h : w.ownsRow base e size v n xs) (h' : w.ownsRow base' e' size' v' n' xs') (hne : e ≠ e') {k : Nat} (hk : v.ownBlock = some k) : v'.ownBlock ≠ some k := by
  obtain ⟨_, h0 | ⟨g, cap, cur, ev, _, h2, _⟩⟩ := h
  · rw [h0.1] at hk; cases hk
  · rw [ev] at hk
    have hk : g = k := by simpa [Value.ownBlock] using hk
    subst hk
    obtain ⟨_, h0 | ⟨g', cap', cur', ev', _, h2', _⟩⟩ := h'
    · rw [h0.1]; simp [Value.ownBlock]
    · rw [ev']
      intro e1
      have e1 : g' = g := by simpa [Value.ownBlock] using e1
      subst e1
      rw [h2] at h2'
      injection h2' with h2'
      injection h2' with _ h3
      exact hne h3
theorem bown_put {w : World} {base g cap n i size : Nat} {e : TypeId} {u : Value} {cs : List Value} (h : w.ownsRow base e size (.slice (some ⟨g, 0, none⟩) n cap) n cs) : (w.setCell ⟨g, i, none⟩ u).ownsRow base e size (.slice (some ⟨g, 0, none⟩) n cap) n (cs.set i u) := by
  obtain ⟨hl, h0 | ⟨g', c, cur, ev, h1, h2, h3, h4, h5, h6⟩⟩ := h
  · cases h0.1
  · simp only [Value.slice.injEq, Option.some.injEq, Addr.mk.injEq, and_true, true_and] at ev
    obtain ⟨rfl, rfl⟩ := ev
    refine ⟨by simpa using hl, .inr ⟨g, cap, cur.setIfInBounds i u, rfl, h1, Go.Joins.block_setCell h2 _, h3, h4, by simpa using h5, ?_⟩⟩
    rw [Array.toList_setIfInBounds, List.take_set, h6]
theorem bown_ne8 {w : World} {base size n g : Nat} {e e' : TypeId} {v : Value} {xs : List Value} {cs : Array Value} {f : Nat × Nat} (h : w.ownsRow base e size v n xs) (hg : w.heap[g]? = some (.cells cs e' f)) (hne : e ≠ e') : v.ownBlock ≠ some g := by
  obtain ⟨_, h0 | ⟨g', cap, cur, ev, _, h2, _⟩⟩ := h
  · rw [h0.1]; simp [Value.ownBlock]
  · rw [ev]
    intro e1
    have e2 : g' = g := by simpa [Value.ownBlock] using e1
    subst e2
    rw [h2] at hg
    injection hg with hg
    injection hg with _ h3 _
    exact hne h3
theorem bown_block {w : World} {base size n m c g : Nat} {e : TypeId} {cs : List Value} (h : w.ownsRow base e size (.slice (some ⟨g, 0, none⟩) m c) n cs) : ∃ cur, w.heap[g]? = some (.cells cur e (0, 0)) := by
  obtain ⟨_, h0 | ⟨g', cap, cur, ev, _, h2, _⟩⟩ := h
  · cases h0.1
  · have : g = g' := by injection ev with a; injection a with a; injection a
    subst this
    exact ⟨cur, h2⟩
theorem MapZ.sameB {w w' : World} {b n k : Nat} {f : Int → Option Int} (h : MapZ w b n f k) (hs : w'.heap[b]? = w.heap[b]?) : MapZ w' b n f k := by
  obtain ⟨D, ⟨es, clock, h1, F, hs2, e⟩, h2⟩ := h
  exact ⟨D, ⟨es, clock, hs.trans h1, F, hs2, e⟩, h2⟩
/-- Lists of edges. -/
structure Blks (w : World) (base : Nat) (V : Value) (us : List Value) (G : List (List (Int × Int))) : Prop where
  row : w.ownsRow base 22 1 V G.length us
  len : us.length = G.length
  each : ∀ (j : Nat) (u : Value) (x : List (Int × Int)), us[j]? = some u → G[j]? = some x → w.ownsRow base 51 2 u x.length (pcells x)
  apart : ∀ (i j : Nat) (u v : Value) (g : Nat), i ≠ j → us[i]? = some u → us[j]? = some v → u.ownBlock = some g → v.ownBlock ≠ some g
theorem Blks.nil (w : World) (base : Nat) : Blks w base (.slice none 0 0) [] [] :=
  ⟨World.ownsRow_nil _ _ _ _, rfl, (fun j u x h => by simp at h), (fun i j u v g _ h => by simp at h)⟩
theorem Blks.same {w w' : World} {base : Nat} {V : Value} {us : List Value} {G : List (List (Int × Int))} (h : Blks w base V us G) (hs : ∀ k, base ≤ k → k < w.heap.size → w'.heap[k]? = w.heap[k]?) : Blks w' base V us G :=
  ⟨bown_same h.row fun k _ a b => hs k b a, h.len, fun j u x a b => bown_same (h.each j u x a b) fun k _ a b => hs k b a, h.apart⟩
theorem Blks.below {w w' : World} {base : Nat} {V : Value} {us : List Value} {G : List (List (Int × Int))} (h : Blks w base V us G) (hb : Below w.heap.size w w') : Blks w' base V us G := h.same fun k _ hk => hb.block k hk
theorem Blks.less {w : World} {base base' : Nat} {V : Value} {us : List Value} {G : List (List (Int × Int))} (h : Blks w base V us G) (hb : base' ≤ base) : Blks w base' V us G :=
  ⟨Go.Joins.ownsRow_le h.row hb, h.len, fun j u x a b => Go.Joins.ownsRow_le (h.each j u x a b) hb, h.apart⟩
theorem Blks.form {w : World} {base : Nat} {V : Value} {us : List Value} {G : List (List (Int × Int))} (h : Blks w base V us G) (hp : 0 < G.length) : ∃ g cap, V = .slice (some ⟨g, 0, none⟩) G.length cap := Go.Joins.ownsRow_form h.row hp
/-- An empty one more. -/
theorem Blks.add {w w2 w8 : World} {base g2 cap2 k : Nat} {V : Value} {us : List Value} {G : List (List (Int × Int))} (h : Blks w base V us G) (hk : k = G.length) (hb : Below w.heap.size w w2) (hg : w2.grownBy w8 V.ownBlock)
    (hr : w8.ownsRow base 22 1 (.slice (some ⟨g2, 0, none⟩) (k + 1) cap2) (k + 1) (us ++ [.slice none 0 0])) :
    Blks w8 base (.slice (some ⟨g2, 0, none⟩) (k + 1) cap2) (us ++ [.slice none 0 0]) (G ++ [[]]) := by
  subst hk
  have hold : ∀ k, k < w.heap.size → some k ≠ V.ownBlock → w8.heap[k]? = w.heap[k]? := fun k hk hn => (hg.block k (Nat.lt_of_lt_of_le hk hb.size) hn).trans (hb.block k hk)
  have hcase : ∀ (j : Nat) (u : Value) (x : List (Int × Int)), (us ++ [Value.slice none 0 0])[j]? = some u → (G ++ [[]])[j]? = some x → (us[j]? = some u ∧ G[j]? = some x) ∨ (u = .slice none 0 0 ∧ x = []) := by
    intro j u x a b
    by_cases hj : j < G.length
    · rw [List.getElem?_append_left (by have := h.len; omega)] at a
      rw [List.getElem?_append_left hj] at b
      exact .inl ⟨a, b⟩
    · have hjl := (List.getElem?_eq_some_iff.1 b).1
      simp only [List.length_append, List.length_singleton] at hjl
      have : j = G.length := by omega
      subst this
      rw [List.getElem?_append_right (Nat.le_refl _), Nat.sub_self] at b
      rw [List.getElem?_append_right (by rw [h.len]; exact Nat.le_refl _), h.len, Nat.sub_self] at a
      simp at a b
      exact .inr ⟨a.symm, b⟩
  have hone : ∀ (j : Nat) (u : Value), (us ++ [Value.slice none 0 0])[j]? = some u → us[j]? = some u ∨ u = .slice none 0 0 := by
    intro j u a
    by_cases hj : j < us.length
    · rw [List.getElem?_append_left hj] at a
      exact .inl a
    · have hjl := (List.getElem?_eq_some_iff.1 a).1
      simp only [List.length_append, List.length_singleton] at hjl
      have : j = us.length := by omega
      subst this
      rw [List.getElem?_append_right (Nat.le_refl _), Nat.sub_self] at a
      simp at a
      exact .inr a.symm
  refine ⟨by simpa using hr, by simp [h.len], fun j u x a b => ?_, fun i j u v g hij a b e => ?_⟩
  · rcases hcase j u x a b with ⟨a, b⟩ | ⟨rfl, rfl⟩
    · have ho := h.each j u x a b
      exact bown_same ho fun k e1 e2 _ => hold k e2 fun e3 => bown_typ ho h.row (by decide) e1 e3.symm
    · exact World.ownsRow_nil _ _ _ _
  · rcases hone i u a with a | rfl
    · rcases hone j v b with b | rfl
      · exact h.apart i j u v g hij a b e
      · simp [Value.ownBlock]
    · simp [Value.ownBlock] at e
/-- One list is another one, stored anew. -/
theorem Blks.set {w w2 w7 : World} {base G n cap j : Nat} {us : List Value} {F : List (List (Int × Int))} {u u' : Value} {x x' : List (Int × Int)} (h : Blks w base (.slice (some ⟨G, 0, none⟩) n cap) us F) (hn : n = F.length) (hu : us[j]? = some u) (hx : F[j]? = some x)
    (hb : Below w.heap.size w w2) (hg : w2.grownBy w7 u.ownBlock) (ho : w7.ownsRow base 51 2 u' x'.length (pcells x')) (hor : u'.ownBlock = u.ownBlock ∨ ∃ g, u'.ownBlock = some g ∧ w.heap.size ≤ g) :
    Blks (w7.setCell ⟨G, j, none⟩ u') base (.slice (some ⟨G, 0, none⟩) n cap) (us.set j u') (F.set j x') := by
  subst hn
  have hE := h.each j u x hu hx
  have hj1 : j < us.length := (List.getElem?_eq_some_iff.1 hu).1
  have hj2 : j < F.length := (List.getElem?_eq_some_iff.1 hx).1
  have hw7 : ∀ k, k < w.heap.size → some k ≠ u.ownBlock → w7.heap[k]? = w.heap[k]? := fun k hk hn => (hg.block k (Nat.lt_of_lt_of_le hk hb.size) hn).trans (hb.block k hk)
  have hG7 : w7.ownsRow base 22 1 (.slice (some ⟨G, 0, none⟩) F.length cap) F.length us := bown_same h.row fun k e1 e2 _ => hw7 k e2 fun e3 => bown_typ h.row hE (by decide) e1 e3.symm
  have hs : ∀ k, base ≤ k → k < w.heap.size → k ≠ G → some k ≠ u.ownBlock → (w7.setCell ⟨G, j, none⟩ u').heap[k]? = w.heap[k]? := fun k _ h2 h3 h4 => (Below.heap_setCell _ _ _ _ h3).trans (hw7 k h2 h4)
  have hF : ∀ (i : Nat) (q : Value), us[i]? = some q → ∃ y, F[i]? = some y := fun i q hi => ⟨_, List.getElem?_eq_getElem (by have := (List.getElem?_eq_some_iff.1 hi).1; have := h.len; omega)⟩
  have hone : ∀ (i : Nat) (q : Value), (us.set j u')[i]? = some q → (i = j ∧ q = u') ∨ (i ≠ j ∧ us[i]? = some q) := by
    intro i q a
    by_cases e : i = j
    · subst e
      rw [List.getElem?_set_self hj1] at a
      injection a with a
      exact .inl ⟨rfl, a.symm⟩
    · rw [List.getElem?_set_ne (fun e1 => e e1.symm)] at a
      exact .inr ⟨e, a⟩
  have n1 : ∀ g, u'.ownBlock = some g → u.ownBlock = some g ∨ w.heap.size ≤ g := by
    intro g e
    rcases hor with h1 | ⟨g', h1, h2⟩
    · left; rw [← h1]; exact e
    · right
      rw [h1] at e
      injection e with e
      omega
  refine ⟨?_, by simp [h.len], fun i q y a b => ?_, fun i k q r g hik a b e => ?_⟩
  · have h9 := bown_put (i := j) (u := u') hG7
    simpa using h9
  · rcases hone i q a with ⟨rfl, rfl⟩ | ⟨hne, a⟩
    · rw [List.getElem?_set_self hj2] at b
      injection b with b
      subst b
      exact bown_same ho fun k e1 _ _ => Below.heap_setCell _ _ _ _ (fun e => by subst e; exact bown_typ ho hG7 (by decide) e1 rfl)
    · rw [List.getElem?_set_ne (fun e1 => hne e1.symm)] at b
      have ho := h.each i q y a b
      refine bown_same ho fun k e1 e2 e3 => hs k e3 e2 (fun e4 => ?_) (fun e4 => ?_)
      · subst e4
        exact bown_typ ho h.row (by decide) e1 rfl
      · exact h.apart i j q u k hne a hu e1 e4.symm
  · rcases hone i q a with ⟨rfl, rfl⟩ | ⟨hi, a'⟩
    · rcases hone k r b with ⟨rfl, _⟩ | ⟨hk, b⟩
      · exact absurd rfl hik
      · obtain ⟨y, hy⟩ := hF k r b
        rcases n1 g e with e1 | e1
        · exact h.apart i k u r g hik hu b e1
        · intro e2
          have := ((h.each k r y b hy).lt g e2).2
          omega
    · rcases hone k r b with ⟨rfl, rfl⟩ | ⟨hk, b⟩
      · obtain ⟨y, hy⟩ := hF i q a'
        intro e2
        rcases n1 g e2 with e1 | e1
        · exact h.apart i k q u g hik a' hu e e1
        · have := ((h.each i q y a' hy).lt g e).2
          omega
      · exact h.apart i k q r g hik a' b e
theorem prowinfo : (Try.prog.info? 22).map (fun i => (i.zero, i.size, i.bytes)) = some (some (.slice none 0 0), 1, 24) := by kernel_rfl
theorem pinfo5 : (Try.prog.info? 51).map (fun i => (i.zero, i.size, i.bytes)) = some (some (.agg #[.int .i64 0, .int .i64 0]), 2, 16) := by kernel_rfl
theorem pcells_one (S : List (Int × Int)) (e : Int × Int) : pcells (S ++ [e]) = pcells S ++ [.int .i64 e.1, .int .i64 e.2] := by simp [pcells, zv]
/-- What lies between two rounds. -/
structure BI (w0 : World) (own : Nat → Nat) (k : Nat) (G : List (List (Int × Int))) (V : Value) (us : List Value) (wr : World) : Prop where
  bl : Blks wr (w0.heap.size + 1) V us G
  mp : ∃ (nn kk : Nat) (f : Int → Option Int), nn ≤ k ∧ MapZ wr w0.heap.size nn f kk ∧ ∀ z, f z = plcZ own k z
  on : Below w0.heap.size w0 wr
  sz : w0.heap.size + 1 ≤ wr.heap.size
theorem BI.next {w0 : World} {own : Nat → Nat} {k : Nat} {G G' : List (List (Int × Int))} {V V' : Value} {us us' : List Value} {wr wr' : World} (h : BI w0 own k G V us wr) (hb : Below (w0.heap.size + 1) wr wr') (hF : Blks wr' (w0.heap.size + 1) V' us' G') : BI w0 own k G' V' us' wr' := by
  obtain ⟨h1, ⟨nn, kk, f, m1, m2, m3⟩, h4, h5⟩ := h
  exact ⟨hF, ⟨nn, kk, f, m1, m2.sameB (hb.block _ (by omega)), m3⟩,
    ⟨hb.os.trans h4.os, hb.tape.trans h4.tape, hb.output.trans h4.output, Nat.le_trans h4.size hb.size, fun i hi => (hb.block i (by omega)).trans (h4.block i hi)⟩, Nat.le_trans h5 hb.size⟩
theorem BI.below {w0 : World} {own : Nat → Nat} {k : Nat} {G : List (List (Int × Int))} {V : Value} {us : List Value} {wr wr' : World} (h : BI w0 own k G V us wr) (hb : Below wr.heap.size wr wr') : BI w0 own k G V us wr' := h.next (hb.mono h.sz) (h.bl.below hb)
/-- The map holds one place more. -/
theorem BI.mapped {w0 : World} {own : Nat → Nat} {k : Nat} {G : List (List (Int × Int))} {V : Value} {us : List Value} {wr w6 : World} (h : BI w0 own k G V us wr) (hn : place own k (own k) = none) {nn kk : Nat} {f : Int → Option Int} (hnn : nn ≤ k) (hf : ∀ z, f z = plcZ own k z)
    (hM : MapZ w6 w0.heap.size (nn + 1) (upd f ((own k : Nat) : Int) (((firsts own k).length : Nat) : Int)) kk) (hg : wr.grownBy w6 (some w0.heap.size)) : BI w0 own (k + 1) G V us w6 := by
  obtain ⟨h1, _, h4, h5⟩ := h
  have hsame : ∀ i, i < wr.heap.size → i ≠ w0.heap.size → w6.heap[i]? = wr.heap[i]? := fun i hi hne => hg.block i hi (by simpa using hne)
  refine ⟨h1.same fun q hq hl => hsame q hl (by omega), ⟨nn + 1, kk, _, by omega, hM, fun z => ?_⟩,
    ⟨hg.os.trans h4.os, hg.tape.trans h4.tape, hg.output.trans h4.output, Nat.le_trans h4.size hg.size, fun i hi => (hsame i (by omega) (by omega)).trans (h4.block i hi)⟩, Nat.le_trans h5 hg.size⟩
  rw [plcZ_new hn]
  unfold upd
  rw [hf z]
/-- A key that is met again. -/
theorem BI.again {w0 : World} {own : Nat → Nat} {k a : Nat} {G : List (List (Int × Int))} {V : Value} {us : List Value} {wr : World} (h : BI w0 own k G V us wr) (hn : place own k (own k) = some a) : BI w0 own (k + 1) G V us wr := by
  obtain ⟨h1, ⟨nn, kk, f, m1, m2, m3⟩, h4, h5⟩ := h
  exact ⟨h1, ⟨nn, kk, f, by omega, m2, fun z => by rw [plcZ_old hn]; exact m3 z⟩, h4, h5⟩
end Go.Proofs.Ytlkddjpjhchjfaa
