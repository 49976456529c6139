/- The walk by the document: the last one that has somebody beside it goes on (no world here). -/
import Derived.Test.YtpkiogcedfmodaaW38
import Derived.Test.YtpkiogcedfmodaaW43
namespace Go.Proofs.Ytpkiogcedfmodaa

/-- Whoever is on the list was met in the list's order. -/
theorem Dfs.list_rise {T : List (List Int)} {N fr : Nat} {s : St} (h : Dfs T N fr s) {a b i j u v : Nat} (hab : a < b) (ha : s.list[a]? = some u) (hb : s.list[b]? = some v) (hi : s.order[i]? = some u) (hj : s.order[j]? = some v) : i < j := by
  have key : ∀ (d a i u : Nat), s.list[a]? = some u → s.order[i]? = some u → ∀ (v j : Nat), s.list[a + d + 1]? = some v → s.order[j]? = some v → i < j := by
    intro d
    induction d with
    | zero =>
      intro a i u ha hi v j hb hj
      have hup := h.chain a u v ha hb
      by_cases h0 : j = 0
      · subst h0
        rw [h.first] at hj
        injection hj with hj
        subst hj
        rw [h.root] at hup
        omega
      · obtain ⟨x, e, hm, _⟩ := h.par j v (by omega) hj
        have : x = u := by omega
        subst this
        obtain ⟨q, hq⟩ := List.getElem?_of_mem hm
        have hql := (List.getElem?_eq_some_iff.1 hq).1
        rw [List.length_take] at hql
        rw [List.getElem?_take_of_lt (by omega)] at hq
        have e2 : i = q := by
          obtain ⟨h1, h2⟩ := List.getElem?_eq_some_iff.1 hi
          obtain ⟨h3, h4⟩ := List.getElem?_eq_some_iff.1 hq
          exact (List.getElem_inj h.nod).1 (h2.trans h4.symm)
        omega
    | succ d ih =>
      intro a i u ha hi v j hb hj
      have hl := (List.getElem?_eq_some_iff.1 hb).1
      obtain ⟨x, hx⟩ : ∃ x, s.list[a + 1]? = some x := ⟨_, List.getElem?_eq_getElem (by omega)⟩
      obtain ⟨q, hq⟩ := List.getElem?_of_mem (h.sub x (List.mem_of_getElem? hx))
      have hup := h.chain a u x ha hx
      have h1 := ih (a + 1) q x hx hq v j (by rw [show a + 1 + d + 1 = a + (d + 1) + 1 by omega]; exact hb) hj
      have h2 : i < q := by
        by_cases h0 : q = 0
        · subst h0
          rw [h.first] at hq
          injection hq with hq
          subst hq
          rw [h.root] at hup
          omega
        · obtain ⟨y, e, hm, _⟩ := h.par q x (by omega) hq
          have : y = u := by omega
          subst this
          obtain ⟨p, hp⟩ := List.getElem?_of_mem hm
          have hpl := (List.getElem?_eq_some_iff.1 hp).1
          rw [List.length_take] at hpl
          rw [List.getElem?_take_of_lt (by omega)] at hp
          have e2 : i = p := by
            obtain ⟨h1, h2⟩ := List.getElem?_eq_some_iff.1 hi
            obtain ⟨h3, h4⟩ := List.getElem?_eq_some_iff.1 hp
            exact (List.getElem_inj h.nod).1 (h2.trans h4.symm)
          omega
      omega
  exact key (b - a - 1) a i u ha hi v j (by rw [show a + (b - a - 1) + 1 = b by omega]; exact hb) hj
/-- Those at the list's end that have nobody left are taken off. -/
theorem go_drop {T : List (List Int)} {N fr : Nat} (hT : Tab T N) (sym : ∀ a b, adj T a b → adj T b a) (hf : fr < N) (n : Nat) : ∀ (q k : Nat), (wrun T N fr k).list.length = n + q → (∀ (j u : Nat), n ≤ j → (wrun T N fr k).list[j]? = some u → ∀ x, adj T u x → x ∈ (wrun T N fr k).order) →
    ∃ m, (wrun T N fr m).list = (wrun T N fr k).list.take n ∧ (wrun T N fr m).order = (wrun T N fr k).order ∧ (wrun T N fr m).up = (wrun T N fr k).up
  | 0, k, hq, _ => ⟨k, by rw [List.take_of_length_le (by omega)], rfl, rfl⟩
  | q + 1, k, hq, hall => by
    have hD := dfs_run hT sym hf k
    obtain ⟨u, hu⟩ : ∃ u, (wrun T N fr k).list[n + q]? = some u := ⟨_, List.getElem?_eq_getElem (by omega)⟩
    have hlast : (wrun T N fr k).list.getLast? = some u := by rw [List.getLast?_eq_getElem?, hq, show n + (q + 1) - 1 = n + q by omega]; exact hu
    have hp : pick T fr (wrun T N fr k).up u = none := by
      cases hp : pick T fr (wrun T N fr k).up u with
      | none => rfl
      | some y =>
        obtain ⟨h1, _⟩ := pick_least hT (hD.good.inL u (List.mem_of_getElem? hu)) hp
        have h3 := (pick_some hp).1
        rw [(hD.may (hT.lt h1)).2 (hall (n + q) u (by omega) hu y h1)] at h3
        cases h3
    have hstep : wrun T N fr (k + 1) = ⟨(wrun T N fr k).up, (wrun T N fr k).order, (wrun T N fr k).list.dropLast⟩ := wstep_pop hlast hp
    have h1 : (wrun T N fr (k + 1)).list = (wrun T N fr k).list.dropLast := by rw [hstep]
    have h2 : (wrun T N fr (k + 1)).order = (wrun T N fr k).order := by rw [hstep]
    have h3 : (wrun T N fr (k + 1)).up = (wrun T N fr k).up := by rw [hstep]
    obtain ⟨m, a, b, c⟩ := go_drop hT sym hf n q (k + 1) (by rw [h1, List.length_dropLast, hq]; rfl) (fun j x hj hx y hy => by
      rw [h2]
      rw [h1] at hx
      have hjl := (List.getElem?_eq_some_iff.1 hx).1
      rw [List.length_dropLast] at hjl
      rw [List.dropLast_eq_take, List.getElem?_take_of_lt (by omega)] at hx
      exact hall j x hj hx y hy)
    refine ⟨m, ?_, by rw [b, h2], by rw [c, h3]⟩
    rw [a, h1, List.dropLast_eq_take, List.take_take, Nat.min_eq_left (by omega)]
/-- What the reference holds to: it stands where a walk stands, and those behind k have nobody left. -/
def RefW (T : List (List Int)) (N fr : Nat) (order : List Nat) (up : List Int) (k : Nat) : Prop :=
  (∃ m, (wrun T N fr m).order = order ∧ (wrun T N fr m).up = up) ∧ ∀ (j u : Nat), k ≤ j → order[j]? = some u → ∀ x, adj T u x → x ∈ order
theorem RefW.start (T : List (List Int)) (N fr : Nat) : RefW T N fr [fr] (List.replicate N (-1)) 1 :=
  ⟨⟨0, rfl, rfl⟩, fun j u hj h => by
    have := (List.getElem?_eq_some_iff.1 h).1
    simp at this
    omega⟩
theorem RefW.less {T : List (List Int)} {N fr k u : Nat} {order : List Nat} {up : List Int} (h : RefW T N fr order up (k + 1)) (hu : order[k]? = some u) (hx : ∀ x, adj T u x → x ∈ order) : RefW T N fr order up k :=
  ⟨h.1, fun j v hj hv => by
    by_cases e : j = k
    · subst e
      rw [hu] at hv
      injection hv with hv
      subst hv
      exact hx
    · exact h.2 j v (by omega) hv⟩
theorem RefW.more {T : List (List Int)} {N fr k u w : Nat} {order : List Nat} {up : List Int} (hT : Tab T N) (sym : ∀ a b, adj T a b → adj T b a) (hf : fr < N) (h : RefW T N fr order up (k + 1)) (hu : order[k]? = some u) (ha : adj T u w) (hn : w ∉ order) (hs : ∀ x, x < w → adj T u x → x ∈ order) :
    RefW T N fr (order ++ [w]) (up.set w (u : Int)) (order.length + 1) := by
  obtain ⟨⟨m, rfl, rfl⟩, hex⟩ := h
  have hD := dfs_run hT sym hf m
  have hul : u ∈ (wrun T N fr m).list := by
    apply Classical.byContradiction
    intro hh
    exact hn (hD.fin u (List.mem_of_getElem? hu) hh w ha)
  obtain ⟨q, hq⟩ := List.getElem?_of_mem hul
  have hql := (List.getElem?_eq_some_iff.1 hq).1
  obtain ⟨m2, h1, h2, h3⟩ := go_drop hT sym hf (q + 1) ((wrun T N fr m).list.length - (q + 1)) m (by omega) (fun j x hj hx y hy => by
    obtain ⟨p, hp⟩ := List.getElem?_of_mem (hD.sub x (List.mem_of_getElem? hx))
    have := hD.list_rise (show q < j by omega) hq hx hu hp
    exact hex p x (by omega) hp y hy)
  have hD2 := dfs_run hT sym hf m2
  have hlast : (wrun T N fr m2).list.getLast? = some u := by
    rw [h1, List.getLast?_eq_getElem?, List.length_take, Nat.min_eq_left (by omega), Nat.add_sub_cancel, List.getElem?_take_of_lt (by omega)]
    exact hq
  have hu2 := hD2.good.inL u (List.mem_of_getLast? hlast)
  have hp : pick T fr (wrun T N fr m2).up u = some w := by
    cases hp : pick T fr (wrun T N fr m2).up u with
    | none =>
      have := (hD2.may (hT.lt ha)).1 (pick_non hp ha)
      rw [h2] at this
      exact absurd this hn
    | some y =>
      obtain ⟨a1, a2⟩ := pick_least hT hu2 hp
      have a3 := (pick_some hp).1
      have a4 : y ∉ (wrun T N fr m2).order := fun hh => by rw [(hD2.may (hT.lt a1)).2 hh] at a3; cases a3
      rw [h2] at a4
      rcases Nat.lt_trichotomy y w with h5 | h5 | h5
      · exact absurd (hs y h5 a1) a4
      · rw [h5]
      · have := (hD2.may (hT.lt ha)).1 (a2 w h5 ha)
        rw [h2] at this
        exact absurd this hn
  have hstep : wrun T N fr (m2 + 1) = ⟨(wrun T N fr m2).up.set w (u : Int), (wrun T N fr m2).order ++ [w], (wrun T N fr m2).list ++ [w]⟩ := wstep_push hlast hp
  refine ⟨⟨m2 + 1, by rw [hstep]; simp only [h2], by rw [hstep]; simp only [h3]⟩, fun j v hj hv => ?_⟩
  have := (List.getElem?_eq_some_iff.1 hv).1
  simp only [List.length_append, List.length_singleton] at this
  omega
theorem RefW.done {T : List (List Int)} {N fr : Nat} {order : List Nat} {up : List Int} (hT : Tab T N) (sym : ∀ a b, adj T a b → adj T b a) (hf : fr < N) (h : RefW T N fr order up 0) : (wend T N fr).order = order ∧ (wend T N fr).up = up := by
  obtain ⟨⟨m, rfl, rfl⟩, hex⟩ := h
  have hD := dfs_run hT sym hf m
  obtain ⟨m2, h1, h2, h3⟩ := go_drop hT sym hf 0 (wrun T N fr m).list.length m (by omega) (fun j x _ hx y hy => by
    obtain ⟨p, hp⟩ := List.getElem?_of_mem (hD.sub x (List.mem_of_getElem? hx))
    exact hex p x (by omega) hp y hy)
  rw [List.take_zero] at h1
  rw [wend_eq h1]
  exact ⟨h2, h3⟩
theorem RefW.dfs {T : List (List Int)} {N fr k : Nat} {order : List Nat} {up : List Int} (hT : Tab T N) (sym : ∀ a b, adj T a b → adj T b a) (hf : fr < N) (h : RefW T N fr order up k) : up.length = N ∧ order.Nodup ∧ ∀ v ∈ order, v < N := by
  obtain ⟨⟨m, rfl, rfl⟩, _⟩ := h
  have hD := dfs_run hT sym hf m
  exact ⟨hD.good.len, hD.nod, hD.good.inO⟩
/-- Who is next. -/
def nextM (N : Nat) (E : List (Int × Int)) (v : Nat) (met : List Int) : Int :=
  match (List.range N).find? fun (w : Nat) => hasG E v w && !decide ((w : Int) ∈ met) with
  | some w => (w : Int)
  | none => -1
end Go.Proofs.Ytpkiogcedfmodaa
