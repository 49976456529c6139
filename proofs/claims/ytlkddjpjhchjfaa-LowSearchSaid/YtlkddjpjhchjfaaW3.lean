/- Rows of rows of ints, each in memory of its own. -/
import Derived.Test.YtlkddjpjhchjfaaW2
namespace Go.Proofs.Ytlkddjpjhchjfaa
set_option maxRecDepth 100000
open Go.RowKit

theorem i64info : (Try.prog.info? 3).map (fun i => (i.zero, i.size, i.bytes)) = some (some (.int .i64 0), 1, 8) := by kernel_rfl
theorem rowinfo : (Try.prog.info? 35).map (fun i => (i.zero, i.size, i.bytes)) = some (some (.slice none 0 0), 1, 24) := by kernel_rfl
def zs (xs : List Int) : List Value := xs.map zv
theorem zs_length (xs : List Int) : (zs xs).length = xs.length := by simp [zs]
/-- What is owned is read. -/
theorem owns_rd {w : World} {base n c : Nat} {A : Option Addr} {xs : List Int} (h : w.ownsRow base 3 1 (.slice A n c) n (zs xs)) : RdZ w A xs := by
  intro q x hq
  obtain ⟨hl, h0 | ⟨g, cap, cur, ev, h1, h2, h3⟩⟩ := h
  · have hn : n = 0 := h0.2
    have := (List.getElem?_eq_some_iff.1 hq).1
    simp [zs] at hl
    omega
  · have hA : A = some ⟨g, 0, none⟩ := by injection ev
    subst hA
    refine ⟨_, rfl, lt_of_block h2, ?_⟩
    have hw : w.ownsRow base 3 1 (.slice (some ⟨g, 0, none⟩) n c) n (zs xs) := ⟨hl, .inr ⟨g, cap, cur, ev, h1, h2, h3⟩⟩
    exact hw.cells rfl q _ (by simp [zs, hq, zv])

/-- Block B holds rows; each is owned, none is B, no two are one. -/
def Rows (w : World) (base B : Nat) (us : List Value) (T : List (List Int)) : Prop :=
  w.heap[B]? = some (.cells us.toArray 35 (0, 0)) ∧ us.length = T.length ∧
  (∀ (j : Nat) (u : Value) (xs : List Int), us[j]? = some u → T[j]? = some xs → w.ownsRow base 3 1 u xs.length (zs xs) ∧ u.ownBlock ≠ some B) ∧
  ∀ (i j : Nat) (u v : Value) (g : Nat), i ≠ j → us[i]? = some u → us[j]? = some v → u.ownBlock = some g → v.ownBlock ≠ some g
theorem Rows.below {w w' : World} {base B : Nat} {us : List Value} {T : List (List Int)} (h : Rows w base B us T) (hb : Below w.heap.size w w') : Rows w' base B us T :=
  ⟨blk_below h.1 hb, h.2.1, fun j u xs h1 h2 => ⟨row_below (h.2.2.1 j u xs h1 h2).1 hb, (h.2.2.1 j u xs h1 h2).2⟩, h.2.2.2⟩
theorem Rows.mono {w : World} {base base' B : Nat} {us : List Value} {T : List (List Int)} (h : Rows w base B us T) (hb : base' ≤ base) : Rows w base' B us T :=
  ⟨h.1, h.2.1, fun j u xs h1 h2 => ⟨Go.Joins.ownsRow_le (h.2.2.1 j u xs h1 h2).1 hb, (h.2.2.1 j u xs h1 h2).2⟩, h.2.2.2⟩
theorem Rows.made {w : World} {base N : Nat} (h : w.heap[base]? = some (.cells (List.replicate N (Value.slice none 0 0)).toArray 35 (0, 0))) (b0 : Nat) : Rows w b0 base (List.replicate N (.slice none 0 0)) (List.replicate N []) := by
  refine ⟨h, by simp, fun j u xs h1 h2 => ?_, fun i j u v g _ h1 h2 h3 => ?_⟩
  · rw [List.getElem?_replicate] at h1 h2
    split at h1 <;> simp_all
    subst h1; subst h2
    exact ⟨World.ownsRow_nil _ _ _ _, by simp [Value.ownBlock]⟩
  · rw [List.getElem?_replicate] at h1
    split at h1 <;> simp_all
    subst h1
    simp [Value.ownBlock] at h3
/-- One row is grown by one, and stored anew. -/
theorem Rows.push {wr w2 w7 : World} {base B j g' cap' : Nat} {us : List Value} {T : List (List Int)} {u : Value} {xs : List Int} {x : Int} (h : Rows wr base B us T) (hb : Below wr.heap.size wr w2) (hu : us[j]? = some u) (hx : T[j]? = some xs)
    (ho : w7.ownsRow base 3 1 (.slice (some ⟨g', 0, none⟩) (xs.length + 1) cap') (xs.length + 1) (zs xs ++ [zv x])) (hg : w2.grownBy w7 u.ownBlock) (hor : u.ownBlock = some g' ∨ g' = w2.heap.size) :
    Rows (w7.setCell ⟨B, j, none⟩ (.slice (some ⟨g', 0, none⟩) (xs.length + 1) cap')) base B (us.set j (.slice (some ⟨g', 0, none⟩) (xs.length + 1) cap')) (T.set j (xs ++ [x])) := by
  obtain ⟨h1, h2, h3, h4⟩ := h
  have hjl : j < us.length := (List.getElem?_eq_some_iff.1 hu).1
  have hBl : B < wr.heap.size := lt_of_block h1
  have hBu : u.ownBlock ≠ some B := (h3 j u xs hu hx).2
  have hB7 : w7.heap[B]? = some (.cells us.toArray 35 (0, 0)) := by
    rw [hg.block B (Nat.lt_of_lt_of_le hBl hb.size) (fun e => hBu e.symm)]
    exact blk_below h1 hb
  have hgB : g' ≠ B := by
    rcases hor with h | h
    · intro e; subst e; exact hBu h
    · have := hb.size; omega
  have hlow : ∀ (i : Nat) (v : Value) (ys : List Int), us[i]? = some v → T[i]? = some ys → ∀ k, v.ownBlock = some k → k < wr.heap.size := fun i v ys a b k e => ((h3 i v ys a b).1.lt k e).2
  have hoth : ∀ (i : Nat) (v : Value) (ys : List Int), i ≠ j → us[i]? = some v → T[i]? = some ys → v.ownBlock ≠ some g' := by
    intro i v ys hij a b e
    rcases hor with h | h
    · exact h4 j i u v g' (fun e => hij e.symm) hu a h e
    · have := hlow i v ys a b g' e
      have := hb.size
      omega
  have hset : (w7.setCell ⟨B, j, none⟩ (.slice (some ⟨g', 0, none⟩) (xs.length + 1) cap')).heap[B]? = some (.cells (us.set j (.slice (some ⟨g', 0, none⟩) (xs.length + 1) cap')).toArray 35 (0, 0)) := by
    rw [Go.Joins.block_setCell hB7]
    simp
  refine ⟨hset, by simp [h2], fun i v ys a b => ?_, fun i k v y g hik a b e => ?_⟩
  · by_cases hij : i = j
    · subst hij
      rw [List.getElem?_set_self hjl] at a
      rw [List.getElem?_set_self (by omega)] at b
      injection a with a; injection b with b
      subst a; subst b
      refine ⟨?_, by simp [Value.ownBlock]; exact hgB⟩
      have hr := row_far ho (p := ⟨B, i, none⟩) hgB (.slice (some ⟨g', 0, none⟩) (xs.length + 1) cap')
      simpa [zs] using hr
    · rw [List.getElem?_set_ne (fun e => hij e.symm)] at a b
      have hv := h3 i v ys a b
      have k1 := row_below hv.1 hb
      have k2 := k1.kept hg (by
        cases hvb : v.ownBlock with
        | none => exact .inl rfl
        | some k => exact .inr (fun e => h4 i j v u k hij a hu hvb e.symm))
      refine ⟨?_, hv.2⟩
      rcases Joins.ownsRow_forms k2 with ⟨rfl, hn⟩ | ⟨g, cap, rfl⟩
      · have : ys = [] := by
          match ys, hn with
          | [], _ => rfl
        subst this
        exact World.ownsRow_nil _ _ _ _
      · exact row_far k2 (p := ⟨B, j, none⟩) (fun e => hv.2 (by simp [Value.ownBlock]; exact e)) _
  · have hne : ∀ (m : Nat) (z : Value), (us.set j (.slice (some ⟨g', 0, none⟩) (xs.length + 1) cap'))[m]? = some z → (m = j ∧ z.ownBlock = some g') ∨ (m ≠ j ∧ us[m]? = some z) := by
      intro m z hz
      by_cases hm : m = j
      · subst hm
        rw [List.getElem?_set_self hjl] at hz
        injection hz with hz
        subst hz
        exact .inl ⟨rfl, rfl⟩
      · rw [List.getElem?_set_ne (fun e => hm e.symm)] at hz
        exact .inr ⟨hm, hz⟩
    have hT : ∀ (m : Nat) (z : Value), us[m]? = some z → ∃ ys, T[m]? = some ys := fun m z hz => ⟨_, List.getElem?_eq_getElem (by have := (List.getElem?_eq_some_iff.1 hz).1; omega)⟩
    rcases hne i v a with ⟨rfl, ev⟩ | ⟨hi, a'⟩
    · rcases hne k y b with ⟨rfl, _⟩ | ⟨hk, b'⟩
      · exact absurd rfl hik
      · obtain ⟨ys, hys⟩ := hT k y b'
        rw [ev] at e
        injection e with e
        subst e
        exact hoth k y ys hk b' hys
    · rcases hne k y b with ⟨rfl, ey⟩ | ⟨hk, b'⟩
      · obtain ⟨ys, hys⟩ := hT i v a'
        rw [ey]
        intro e2
        injection e2 with e2
        subst e2
        exact hoth i v ys hi a' hys e
      · exact h4 i k v y g hik a' b' e
/-- Rows of rows that are read. -/
def RdR (w : World) (A : Option Addr) (T : List (List Int)) : Prop := ∀ (j : Nat) (xs : List Int), T[j]? = some xs → ∃ (ad : Addr) (B : Option Addr) (c : Nat), A = some ad ∧ ad.block < w.heap.size ∧ w.cell? (ad.add j) = some (.slice B xs.length c) ∧ RdZ w B xs
theorem RdR.below {w w' : World} {A : Option Addr} {T : List (List Int)} (h : RdR w A T) (hb : Below w.heap.size w w') : RdR w' A T := fun j xs hj => by
  obtain ⟨ad, B, c, e, hl, hc, hr⟩ := h j xs hj
  exact ⟨ad, B, c, e, Nat.lt_of_lt_of_le hl hb.size, by rw [hb.cell (by rw [block_add]; exact hl)]; exact hc, hr.below hb⟩
theorem Rows.rd {w : World} {base B : Nat} {us : List Value} {T : List (List Int)} (h : Rows w base B us T) : RdR w (some ⟨B, 0, none⟩) T := by
  intro j xs hj
  have hjl : j < us.length := by have := (List.getElem?_eq_some_iff.1 hj).1; have := h.2.1; omega
  obtain ⟨u, hu⟩ : ∃ u, us[j]? = some u := ⟨_, List.getElem?_eq_getElem hjl⟩
  have ho := (h.2.2.1 j u xs hu hj).1
  have hc : w.cell? ((⟨B, 0, none⟩ : Addr).add j) = some u := by rw [add_off, cell_of h.1]; simp [hu]
  rcases Joins.ownsRow_forms ho with ⟨rfl, hn⟩ | ⟨g, cap, rfl⟩
  · refine ⟨_, none, 0, rfl, lt_of_block h.1, by rw [hn]; exact hc, ?_⟩
    intro q x hq
    have := (List.getElem?_eq_some_iff.1 hq).1
    omega
  · exact ⟨_, _, cap, rfl, lt_of_block h.1, hc, owns_rd ho⟩
theorem rightG_edge {N : Int} {E : List (Int × Int)} (h : rightG N E = true) {k : Nat} {e : Int × Int} (he : E[k]? = some e) : 0 ≤ e.1 ∧ e.1 < e.2 ∧ e.2 < N := by
  have hk := (List.getElem?_eq_some_iff.1 he).1
  unfold rightG at h
  rw [Bool.and_eq_true, List.all_eq_true] at h
  have h2 := h.2 k (List.mem_range.2 hk)
  unfold okE at h2
  rw [show E.getD k (0, 0) = e by simp [List.getD, he]] at h2
  rw [Bool.and_eq_true] at h2
  simpa [edgeG] using h2.1
theorem rightG_bounds {N : Int} {E : List (Int × Int)} (h : rightG N E = true) : 0 ≤ N ∧ N ≤ 200 ∧ E.length ≤ 594 := by
  unfold rightG at h
  rw [Bool.and_eq_true] at h
  simpa using h.1

end Go.Proofs.Ytlkddjpjhchjfaa
