/- Rows that share no memory, as a row of rows of one's own. -/
import Derived.Test.YtpkiogcedfmodaaW30
import Derived.Test.YtpkiogcedfmodaaW14
namespace Go.Proofs.Ytpkiogcedfmodaa
open Go.RowKit

/-- append at an operation under a guard that holds. -/
theorem wpList_append_lies_w {P : Program} {w : World} {ops : Array Oper} {rest : List Oper} {o : Oper} {a : Act} {Q : Exit → Act → World → Prop} (hw : Region.wanted o (yielded ops a.tmps) = true) (s x : Operand) (t : TypeId)
    (ho : o.op = .call { callee := .builtin .append, args := #[s, x], argTypes := #[t, t] })
    (base : Nat) (e : TypeId) (i : TypeInfo) (z : Value) (size bytes : Nat) (ht : P.underlying t = some (.slice e)) (hi : P.info? e = some i) (hz : i.zero = some z)
    (hsize : i.size = size) (hby : i.bytes = bytes) (hzs : z.cells.size = size) (hsz : 0 < size)
    (v : Value) (n : Nat) (xs : List Value) (hs : a.eval s = v) (hown : w.ownsRow base e size v n xs)
    (ad : Addr) (m c : Nat) (news : List Value) (hx : a.eval x = .slice (some ad) m c) (hl : news.length = m * size) (hnews : ∀ j u, news[j]? = some u → w.cell? (ad.add j) = some u) (h1 : ∀ u ∈ news, u.oneCell' = true)
    (hm : 0 < m) (h63 : n + m ≤ maxLen) (hbytes : (n + m) * bytes ≤ 140737488355328) (hbase : base ≤ w.heap.size) (H : Nat) (hH : w.heap.size = H)
    (h : ∀ g cap w', w'.ownsRow base e size (.slice (some ⟨g, 0, none⟩) (n + m) cap) (n + m) (xs ++ news) → w.grownBy w' v.ownBlock → (v.ownBlock = some g ∨ g = H) → g < w'.heap.size → wpList P ops Q rest (a.put o.dst (.slice (some ⟨g, 0, none⟩) (n + m) cap)) w') : wpList P ops Q (o :: rest) a w := by
  unfold wpList
  rw [if_pos hw]
  exact .inl (wp_append_lies w s x t ho base e i z size bytes ht hi hz hsize hby hzs hsz v n xs hs hown ad m c news hx hl hnews h1 hm h63 hbytes hbase H hH h)
def vG : Value → Nat
  | .slice (some a) _ _ => a.block
  | _ => 0
def vN : Value → Nat
  | .slice _ n _ => n
  | _ => 0
def vC : Value → Nat
  | .slice _ _ c => c
  | _ => 0
/-- A row of numbers that is somewhere, with all its room. -/
def RowAt (w : World) (base : Nat) (u : Value) : Prop := ∃ (g n c : Nat) (cur : Array Value), u = .slice (some ⟨g, 0, none⟩) n c ∧ w.heap[g]? = some (.cells cur 3 (0, 0)) ∧ cur.size = c ∧ c ≤ 9223372036854775807 ∧ base ≤ g
theorem RowAt.keep {w w' : World} {base : Nat} {u : Value} (h : RowAt w base u) (hb : ∀ g, vG u = g → w'.heap[g]? = w.heap[g]?) : RowAt w' base u := by
  obtain ⟨g, n, c, cur, rfl, h1, h2⟩ := h
  exact ⟨g, n, c, cur, rfl, (hb g rfl).trans h1, h2⟩
theorem RowAt.below {w w' : World} {base : Nat} {u : Value} (h : RowAt w base u) (hb : Below w.heap.size w w') : RowAt w' base u := by
  obtain ⟨g, n, c, cur, rfl, h1, h2⟩ := h
  exact ⟨g, n, c, cur, rfl, blk_below h1 hb, h2⟩
theorem RowAt.less {w : World} {base base' : Nat} {u : Value} (h : RowAt w base u) (hb : base' ≤ base) : RowAt w base' u := by
  obtain ⟨g, n, c, cur, rfl, h1, h2, h3, h4⟩ := h
  exact ⟨g, n, c, cur, rfl, h1, h2, h3, by omega⟩
theorem RowAt.grown {w w' : World} {base : Nat} {u : Value} {row : Option Nat} (h : RowAt w base u) (hg : w.grownBy w' row) (hne : u.ownBlock ≠ row) : RowAt w' base u := by
  obtain ⟨g, n, c, cur, rfl, h1, h2⟩ := h
  exact ⟨g, n, c, cur, rfl, (hg.block g (lt_of_block h1) hne).trans h1, h2⟩
theorem RowAt.own {w : World} {base : Nat} {u : Value} (h : RowAt w base u) : u.ownBlock = some (vG u) := by
  obtain ⟨g, n, c, cur, rfl, _⟩ := h
  rfl
theorem RowAt.at_ {w : World} {base : Nat} {u : Value} (h : RowAt w base u) : base ≤ vG u ∧ vG u < w.heap.size := by
  obtain ⟨g, n, c, cur, rfl, h1, _, _, h4⟩ := h
  exact ⟨h4, lt_of_block h1⟩
theorem rowAt_owns {w : World} {base n : Nat} {u : Value} {xs : List Value} (h : w.ownsRow base 3 1 u n xs) (hn : 0 < n) : RowAt w base u := by
  obtain ⟨_, h0 | ⟨g, cap, cur, rfl, h1, h2, h3, h4, h5, _⟩⟩ := h
  · omega
  · exact ⟨g, n, cap, cur, rfl, h2, by omega, by unfold maxLen at h4; omega, h1⟩
theorem rowAt_block {w : World} {base n g : Nat} {cs : Array Value} (h : w.heap[g]? = some (.cells cs 3 (0, 0))) (hn : cs.size = n) (hm : n ≤ 9223372036854775807) (hb : base ≤ g) : RowAt w base (.slice (some ⟨g, 0, none⟩) n n) :=
  ⟨g, n, n, cs, rfl, h, hn, hm, hb⟩

theorem apart_rows (w : World) (base' base m cap gv : Nat) (us : List Value) (hm : m ≤ 1000) (hrow : w.ownsRow base' 27 1 (.slice (some ⟨gv, 0, none⟩) m cap) m us)
    (each : ∀ u ∈ us, RowAt w base u) (hd : us.Pairwise fun u v => vG u ≠ vG v) :
    Calls Try.prog 25 #[.slice (some ⟨gv, 0, none⟩) m cap] w fun e w' => e = .returned (.bool true) ∧ Below base w w' := by
  have hlen : us.length = m := by have := hrow.1; omega
  obtain ⟨cv, hcv⟩ := own_cells hrow (k := gv) rfl
  have hat : ∀ j, j < m → ∃ u, us[j]? = some u ∧ us.getD j undef = u ∧ u ∈ us := fun j hj => by
    have hl : j < us.length := by omega
    exact ⟨us[j], List.getElem?_eq_getElem hl, by simp [List.getD, List.getElem?_eq_getElem hl], List.getElem_mem hl⟩
  refine apart_any ⟨gv, 0, none⟩ m cap base (fun j => vG (us.getD j undef)) (fun j => vN (us.getD j undef)) (fun j => vC (us.getD j undef)) w hm ?_ ?_ ?_ ?_ ?_ ?_
  · intro j hj
    obtain ⟨u, h1, h2, h3⟩ := hat j hj
    obtain ⟨g, n, c, cur, rfl, _⟩ := each u h3
    have := hrow.cells rfl j _ h1
    simp only [h2]
    exact this
  · intro j hj
    obtain ⟨u, h1, h2, h3⟩ := hat j hj
    obtain ⟨g, n, c, cur, rfl, _, _, h4, _⟩ := each u h3
    simp only [h2]
    exact h4
  · intro j hj
    obtain ⟨u, h1, h2, h3⟩ := hat j hj
    obtain ⟨g, n, c, cur, rfl, h4, h5, _⟩ := each u h3
    simp only [h2]
    exact ⟨cur, h4, h5⟩
  · intro i j hi hj hij
    obtain ⟨u, h1, h2, h3⟩ := hat i hi
    obtain ⟨v, k1, k2, k3⟩ := hat j hj
    simp only [h2, k2]
    rw [List.pairwise_iff_getElem] at hd
    obtain ⟨hil, hie⟩ := List.getElem?_eq_some_iff.1 h1
    obtain ⟨hjl, hje⟩ := List.getElem?_eq_some_iff.1 k1
    rcases Nat.lt_trichotomy i j with h | h | h
    · have := hd i j hil hjl h; rw [hie, hje] at this; exact this
    · exact absurd h hij
    · have := hd j i hjl hil h; rw [hie, hje] at this; exact fun e => this e.symm
  · intro j hj
    obtain ⟨u, h1, h2, h3⟩ := hat j hj
    obtain ⟨g, n, c, cur, rfl, h4, _⟩ := each u h3
    simp only [h2]
    intro e
    have e : g = gv := e
    subst e
    rw [hcv] at h4
    injection h4 with h4
    injection h4 with _ h4
    exact absurd h4 (by decide)
  · intro j hj
    obtain ⟨u, h1, h2, h3⟩ := hat j hj
    simp only [h2]
    exact (each u h3).at_.1
end Go.Proofs.Ytpkiogcedfmodaa
