/- Rows of numbers in memory of their own, and a row of them; that they share none (generic; out of W13, W14, W32). -/
import Derived.Test.YtgldlanfbkgfjaaW30
import Derived.Test.YtgldlanfbkgfjaaW12
import Derived.Deep.AppendLies
namespace Go.Proofs.Ytgldlanfbkgfjaa
open Go.RowKit

/-- Rows in memory of their own, no two in one, and the row of them. -/
def PRows (w : World) (base : Nat) (V : Value) (us : List Value) (T : List (List Int)) : Prop :=
  w.ownsRow base 22 1 V T.length us ∧ us.length = T.length ∧
  (∀ (j : Nat) (u : Value) (xs : List Int), us[j]? = some u → T[j]? = some xs → w.ownsRow base 3 1 u xs.length (zs xs)) ∧
  ∀ (i j : Nat) (u v : Value) (g : Nat), i ≠ j → us[i]? = some u → us[j]? = some v → u.ownBlock = some g → v.ownBlock ≠ some g
theorem PRows.nil (w : World) (base : Nat) : PRows w base (.slice none 0 0) [] [] := ⟨World.ownsRow_nil _ _ _ _, rfl, (fun j u xs h => by simp at h), (fun i j u v g _ h => by simp at h)⟩
theorem PRows.below {w w' : World} {base : Nat} {V : Value} {us : List Value} {T : List (List Int)} (h : PRows w base V us T) (hb : Below w.heap.size w w') : PRows w' base V us T :=
  ⟨row_below h.1 hb, h.2.1, fun j u xs a b => row_below (h.2.2.1 j u xs a b) hb, h.2.2.2⟩
/-- What touches none of their blocks leaves them. -/
theorem PRows.kept {w w' : World} {base : Nat} {V : Value} {us : List Value} {T : List (List Int)} {row : Option Nat} (h : PRows w base V us T) (hg : w.grownBy w' row) (h1 : V.ownBlock = none ∨ V.ownBlock ≠ row) (h2 : ∀ u ∈ us, u.ownBlock = none ∨ u.ownBlock ≠ row) : PRows w' base V us T :=
  ⟨h.1.kept hg h1, h.2.1, fun j u xs a b => (h.2.2.1 j u xs a b).kept hg (h2 u (List.mem_of_getElem? a)), h.2.2.2⟩
theorem PRows.rd {w : World} {base : Nat} {A : Option Addr} {n c : Nat} {us : List Value} {T : List (List Int)} (h : PRows w base (.slice A n c) us T) : RdR w A T := by
  intro j xs hj
  have hjl : j < us.length := by have := (List.getElem?_eq_some_iff.1 hj).1; have := h.2.1; omega
  obtain ⟨u, hu⟩ : ∃ u, us[j]? = some u := ⟨_, List.getElem?_eq_getElem hjl⟩
  have ho := h.2.2.1 j u xs hu hj
  have hTl : 0 < T.length := by have := (List.getElem?_eq_some_iff.1 hj).1; omega
  rcases Joins.ownsRow_form h.1 hTl with ⟨g, cap, ev⟩
  injection ev with e1 e2 e3
  subst e1
  have hc := h.1.cells rfl j u hu
  have hgl := (h.1.lt g rfl).2
  rcases Joins.ownsRow_forms ho with ⟨rfl, hn⟩ | ⟨g2, cap2, rfl⟩
  · refine ⟨_, none, 0, rfl, hgl, by rw [hn]; exact hc, ?_⟩
    intro q x hq
    have := (List.getElem?_eq_some_iff.1 hq).1
    omega
  · exact ⟨_, _, cap2, rfl, hgl, hc, owns_rd ho⟩
theorem own_ne {w : World} {base size n g : Nat} {e e' : TypeId} {v : Value} {xs : List Value} {cs : Array Value} {f : Nat × Nat} (h : w.ownsRow base e size v n xs) (hg : w.heap[g]? = some (.cells cs e' f)) (hne : e ≠ e') : v.ownBlock ≠ some g := by
  obtain ⟨_, h0 | ⟨g', cap, cur, ev, _, h2, _⟩⟩ := h
  · rw [h0.1]; simp [Value.ownBlock]
  · rw [ev]
    intro e1
    have e2 : g' = g := by simpa [Value.ownBlock] using e1
    subst e2
    rw [h2] at hg
    injection hg with hg
    injection hg with _ h3 _
    exact hne h3

theorem set_grown (w : World) (p : Addr) (u : Value) : w.grownBy (w.setCell p u) (some p.block) :=
  ⟨rfl, rfl, rfl, by simp [World.setCell], fun k _ hne => Below.heap_setCell _ _ _ _ (fun e => hne (by rw [e]))⟩
theorem own_cells {w : World} {base size n k : Nat} {e : TypeId} {v : Value} {xs : List Value} (h : w.ownsRow base e size v n xs) (hk : v.ownBlock = some k) : ∃ cur, w.heap[k]? = some (.cells cur e (0, 0)) := by
  obtain ⟨_, h0 | ⟨g', cap, cur, ev, _, h2, _⟩⟩ := h
  · rw [h0.1] at hk; cases hk
  · rw [ev] at hk
    have : g' = k := by simpa [Value.ownBlock] using hk
    subst this
    exact ⟨cur, h2⟩
theorem row_apart {w : World} {base base' size size' n n' : Nat} {e e' : TypeId} {v v' : Value} {xs xs' : List Value} (h : w.ownsRow base e size v n xs) (h' : w.ownsRow base' e' size' v' n' xs') (hne : e ≠ e') : v.ownBlock = none ∨ v.ownBlock ≠ v'.ownBlock := by
  cases hv : v.ownBlock with
  | none => exact .inl rfl
  | some k =>
    right
    intro e2
    obtain ⟨cur, hc⟩ := own_cells h' e2.symm
    exact own_ne h hc hne hv
theorem PRows.push {w6 w8 : World} {base k g2 gp n cap cap2 : Nat} {V : Value} {us : List Value} {T : List (List Int)} {xs : List Int} (h : PRows w6 base V us T) (hk : k = T.length) (hn : n = xs.length)
    (hP : w6.ownsRow base 3 1 (.slice (some ⟨gp, 0, none⟩) n cap) n (zs xs)) (hap : ∀ u ∈ us, u.ownBlock ≠ some gp)
    (hg : (w6.alloc (.cells #[.slice (some ⟨gp, 0, none⟩) n cap] 22)).grownBy w8 V.ownBlock) (hr : w8.ownsRow base 22 1 (.slice (some ⟨g2, 0, none⟩) (k + 1) cap2) (k + 1) (us ++ [.slice (some ⟨gp, 0, none⟩) n cap])) :
    PRows w8 base (.slice (some ⟨g2, 0, none⟩) (k + 1) cap2) (us ++ [.slice (some ⟨gp, 0, none⟩) n cap]) (T ++ [xs]) := by
  subst hk; subst hn
  obtain ⟨h1, h2, h3, h4⟩ := h
  refine ⟨by simpa using hr, by simp [h2], fun j u ys a b => ?_, fun i j u v g hij a b e => ?_⟩
  · by_cases hj : j < T.length
    · rw [List.getElem?_append_left (by omega)] at a
      rw [List.getElem?_append_left hj] at b
      have hu := h3 j u ys a b
      exact (hu.alloc _).kept hg (row_apart hu h1 (by decide))
    · have hjl := (List.getElem?_eq_some_iff.1 b).1
      simp only [List.length_append, List.length_singleton] at hjl
      have hje : j = T.length := by omega
      subst hje
      rw [List.getElem?_append_right (Nat.le_refl _), Nat.sub_self] at b
      rw [List.getElem?_append_right (by omega), h2, Nat.sub_self] at a
      simp at a b
      subst a; subst b
      exact (hP.alloc _).kept hg (row_apart hP h1 (by decide))
  · have hcase : ∀ (m : Nat) (z : Value), (us ++ [Value.slice (some ⟨gp, 0, none⟩) xs.length cap])[m]? = some z → (m < us.length ∧ us[m]? = some z) ∨ (m = us.length ∧ z.ownBlock = some gp) := by
      intro m z hz
      have hml := (List.getElem?_eq_some_iff.1 hz).1
      simp only [List.length_append, List.length_singleton] at hml
      by_cases hm : m < us.length
      · rw [List.getElem?_append_left hm] at hz
        exact .inl ⟨hm, hz⟩
      · have : m = us.length := by omega
        subst this
        rw [List.getElem?_append_right (Nat.le_refl _), Nat.sub_self] at hz
        simp at hz
        subst hz
        exact .inr ⟨rfl, rfl⟩
    rcases hcase i u a with ⟨i1, a'⟩ | ⟨i1, a'⟩
    · rcases hcase j v b with ⟨j1, b'⟩ | ⟨j1, b'⟩
      · exact h4 i j u v g hij a' b' e
      · rw [b']
        intro e2
        rw [← e2] at e
        exact hap u (List.mem_of_getElem? a') e
    · rcases hcase j v b with ⟨j1, b'⟩ | ⟨j1, b'⟩
      · rw [a'] at e
        injection e with e
        subst e
        exact hap v (List.mem_of_getElem? b')
      · omega


/-- append at an operation under a guard that holds. -/
theorem wpList_append_lies_w {P : Program} {w : World} {ops : Array Oper} {rest : List Oper} {o : Oper} {a : Act} {Q : Exit → Act → World → Prop} (hw : Region.wanted o (yielded ops a.tmps) = true) (s x : Operand) (t : TypeId)
    (ho : o.op = .call { callee := .builtin .append, args := #[s, x], argTypes := #[t, t] })
    (base : Nat) (e : TypeId) (i : TypeInfo) (z : Value) (size bytes : Nat) (ht : P.underlying t = some (.slice e)) (hi : P.info? e = some i) (hz : i.zero = some z)
    (hsize : i.size = size) (hby : i.bytes = bytes) (hzs : z.cells.size = size) (hsz : 0 < size)
    (v : Value) (n : Nat) (xs : List Value) (hs : a.eval s = v) (hown : w.ownsRow base e size v n xs)
    (ad : Addr) (m c : Nat) (news : List Value) (hx : a.eval x = .slice (some ad) m c) (hl : news.length = m * size) (hnews : ∀ j u, news[j]? = some u → w.cell? (ad.add j) = some u) (h1 : ∀ u ∈ news, u.oneCell' = true)
    (hm : 0 < m) (h63 : n + m ≤ maxLen) (hbytes : (n + m) * bytes ≤ 140737488355328) (hbase : base ≤ w.heap.size) (H : Nat) (hH : w.heap.size = H)
    (h : ∀ g cap w', w'.ownsRow base e size (.slice (some ⟨g, 0, none⟩) (n + m) cap) (n + m) (xs ++ news) → w.grownBy w' v.ownBlock → (v.ownBlock = some g ∨ g = H) → g < w'.heap.size → wpList P ops Q rest (a.put o.dst (.slice (some ⟨g, 0, none⟩) (n + m) cap)) w') : wpList P ops Q (o :: rest) a w := by
  unfold wpList
  rw [if_pos hw]
  exact .inl (wp_append_lies w s x t ho base e i z size bytes ht hi hz hsize hby hzs hsz v n xs hs hown ad m c news hx hl hnews h1 hm h63 hbytes hbase H hH h)
def vG : Value → Nat
  | .slice (some a) _ _ => a.block
  | _ => 0
def vN : Value → Nat
  | .slice _ n _ => n
  | _ => 0
def vC : Value → Nat
  | .slice _ _ c => c
  | _ => 0
/-- A row of numbers that is somewhere, with all its room. -/
def RowAt (w : World) (base : Nat) (u : Value) : Prop := ∃ (g n c : Nat) (cur : Array Value), u = .slice (some ⟨g, 0, none⟩) n c ∧ w.heap[g]? = some (.cells cur 3 (0, 0)) ∧ cur.size = c ∧ c ≤ 9223372036854775807 ∧ base ≤ g
theorem RowAt.keep {w w' : World} {base : Nat} {u : Value} (h : RowAt w base u) (hb : ∀ g, vG u = g → w'.heap[g]? = w.heap[g]?) : RowAt w' base u := by
  obtain ⟨g, n, c, cur, rfl, h1, h2⟩ := h
  exact ⟨g, n, c, cur, rfl, (hb g rfl).trans h1, h2⟩
theorem RowAt.below {w w' : World} {base : Nat} {u : Value} (h : RowAt w base u) (hb : Below w.heap.size w w') : RowAt w' base u := by
  obtain ⟨g, n, c, cur, rfl, h1, h2⟩ := h
  exact ⟨g, n, c, cur, rfl, blk_below h1 hb, h2⟩
theorem RowAt.less {w : World} {base base' : Nat} {u : Value} (h : RowAt w base u) (hb : base' ≤ base) : RowAt w base' u := by
  obtain ⟨g, n, c, cur, rfl, h1, h2, h3, h4⟩ := h
  exact ⟨g, n, c, cur, rfl, h1, h2, h3, by omega⟩
theorem RowAt.grown {w w' : World} {base : Nat} {u : Value} {row : Option Nat} (h : RowAt w base u) (hg : w.grownBy w' row) (hne : u.ownBlock ≠ row) : RowAt w' base u := by
  obtain ⟨g, n, c, cur, rfl, h1, h2⟩ := h
  exact ⟨g, n, c, cur, rfl, (hg.block g (lt_of_block h1) hne).trans h1, h2⟩
theorem RowAt.own {w : World} {base : Nat} {u : Value} (h : RowAt w base u) : u.ownBlock = some (vG u) := by
  obtain ⟨g, n, c, cur, rfl, _⟩ := h
  rfl
theorem RowAt.at_ {w : World} {base : Nat} {u : Value} (h : RowAt w base u) : base ≤ vG u ∧ vG u < w.heap.size := by
  obtain ⟨g, n, c, cur, rfl, h1, _, _, h4⟩ := h
  exact ⟨h4, lt_of_block h1⟩
theorem rowAt_owns {w : World} {base n : Nat} {u : Value} {xs : List Value} (h : w.ownsRow base 3 1 u n xs) (hn : 0 < n) : RowAt w base u := by
  obtain ⟨_, h0 | ⟨g, cap, cur, rfl, h1, h2, h3, h4, h5, _⟩⟩ := h
  · omega
  · exact ⟨g, n, cap, cur, rfl, h2, by omega, by unfold maxLen at h4; omega, h1⟩
theorem rowAt_block {w : World} {base n g : Nat} {cs : Array Value} (h : w.heap[g]? = some (.cells cs 3 (0, 0))) (hn : cs.size = n) (hm : n ≤ 9223372036854775807) (hb : base ≤ g) : RowAt w base (.slice (some ⟨g, 0, none⟩) n n) :=
  ⟨g, n, n, cs, rfl, h, hn, hm, hb⟩

theorem apart_rows (w : World) (base' base m cap gv : Nat) (us : List Value) (hm : m ≤ 1000) (hrow : w.ownsRow base' 22 1 (.slice (some ⟨gv, 0, none⟩) m cap) m us)
    (each : ∀ u ∈ us, RowAt w base u) (hd : us.Pairwise fun u v => vG u ≠ vG v) :
    Calls Try.prog 34 #[.slice (some ⟨gv, 0, none⟩) m cap] w fun e w' => e = .returned (.bool true) ∧ Below base w w' := by
  have hlen : us.length = m := by have := hrow.1; omega
  obtain ⟨cv, hcv⟩ := own_cells hrow (k := gv) rfl
  have hat : ∀ j, j < m → ∃ u, us[j]? = some u ∧ us.getD j undef = u ∧ u ∈ us := fun j hj => by
    have hl : j < us.length := by omega
    exact ⟨us[j], List.getElem?_eq_getElem hl, by simp [List.getD, List.getElem?_eq_getElem hl], List.getElem_mem hl⟩
  refine apart_any ⟨gv, 0, none⟩ m cap base (fun j => vG (us.getD j undef)) (fun j => vN (us.getD j undef)) (fun j => vC (us.getD j undef)) w hm ?_ ?_ ?_ ?_ ?_ ?_
  · intro j hj
    obtain ⟨u, h1, h2, h3⟩ := hat j hj
    obtain ⟨g, n, c, cur, rfl, _⟩ := each u h3
    have := hrow.cells rfl j _ h1
    simp only [h2]
    exact this
  · intro j hj
    obtain ⟨u, h1, h2, h3⟩ := hat j hj
    obtain ⟨g, n, c, cur, rfl, _, _, h4, _⟩ := each u h3
    simp only [h2]
    exact h4
  · intro j hj
    obtain ⟨u, h1, h2, h3⟩ := hat j hj
    obtain ⟨g, n, c, cur, rfl, h4, h5, _⟩ := each u h3
    simp only [h2]
    exact ⟨cur, h4, h5⟩
  · intro i j hi hj hij
    obtain ⟨u, h1, h2, h3⟩ := hat i hi
    obtain ⟨v, k1, k2, k3⟩ := hat j hj
    simp only [h2, k2]
    rw [List.pairwise_iff_getElem] at hd
    obtain ⟨hil, hie⟩ := List.getElem?_eq_some_iff.1 h1
    obtain ⟨hjl, hje⟩ := List.getElem?_eq_some_iff.1 k1
    rcases Nat.lt_trichotomy i j with h | h | h
    · have := hd i j hil hjl h; rw [hie, hje] at this; exact this
    · exact absurd h hij
    · have := hd j i hjl hil h; rw [hie, hje] at this; exact fun e => this e.symm
  · intro j hj
    obtain ⟨u, h1, h2, h3⟩ := hat j hj
    obtain ⟨g, n, c, cur, rfl, h4, _⟩ := each u h3
    simp only [h2]
    intro e
    have e : g = gv := e
    subst e
    rw [hcv] at h4
    injection h4 with h4
    injection h4 with _ h4
    exact absurd h4 (by decide)
  · intro j hj
    obtain ⟨u, h1, h2, h3⟩ := hat j hj
    simp only [h2]
    exact (each u h3).at_.1
end Go.Proofs.Ytgldlanfbkgfjaa
