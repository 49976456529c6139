/- What a walk holds to: each is met from one that was met ahead of it, and edges go up (no world here). -/
import Derived.Test.YtlkddjpjhchjfaaW31
import Derived.Test.YtlkddjpjhchjfaaW9
namespace Go.Proofs.Ytlkddjpjhchjfaa

/-- So many steps up. -/
def Anc (up : List Int) : Nat → Nat → Nat → Prop
  | 0, v, u => v = u
  | t + 1, v, u => ∃ p : Nat, gd up v = (p : Int) ∧ Anc up t p u
theorem anc_snoc {up : List Int} : ∀ (t v x y : Nat), Anc up t v x → gd up x = (y : Int) → Anc up (t + 1) v y
  | 0, v, x, y, h, e => by
    have h : v = x := h
    subst h
    exact ⟨y, e, rfl⟩
  | t + 1, v, x, y, ⟨p, h1, h2⟩, e => ⟨p, h1, anc_snoc t p x y h2 e⟩
structure Dfs (T : List (List Int)) (N fr : Nat) (s : St) : Prop where
  good : Good T N fr s
  first : s.order[0]? = some fr
  nod : s.order.Nodup
  met : ∀ v, v < N → (v ∈ s.order ↔ v = fr ∨ 0 ≤ gd s.up v)
  root : gd s.up fr = -1
  low : ∀ v, v < N → -1 ≤ gd s.up v
  par : ∀ (i v : Nat), 0 < i → s.order[i]? = some v → ∃ u : Nat, gd s.up v = (u : Int) ∧ u ∈ s.order.take i ∧ adj T u v ∧ ∀ w, w < v → adj T u w → w ∈ s.order.take i
  sub : ∀ v ∈ s.list, v ∈ s.order
  chain : ∀ (j v w : Nat), s.list[j]? = some v → s.list[j + 1]? = some w → gd s.up w = (v : Int)
  fin : ∀ v ∈ s.order, v ∉ s.list → ∀ w, adj T v w → w ∈ s.order
  anc : ∀ (i j u v : Nat), i < j → s.order[i]? = some u → s.order[j]? = some v → adj T u v → ∃ t, Anc s.up t v u
/-- What one needs of a table. -/
structure Tab (T : List (List Int)) (N : Nat) : Prop where
  nat : ∀ (u : Nat) (x : Int), x ∈ T.getD u [] → ∃ v : Nat, x = (v : Int) ∧ v < N
  up : ∀ u, u < N → (T.getD u []).Pairwise (· < ·)
theorem Tab.lt {T : List (List Int)} {N u v : Nat} (h : Tab T N) (ha : adj T u v) : v < N := by
  obtain ⟨y, e, hy⟩ := h.nat u v ha
  omega
theorem pick_least {T : List (List Int)} {N fr v w : Nat} {up : List Int} (hT : Tab T N) (hv : v < N) (h : pick T fr up v = some w) : adj T v w ∧ ∀ x, x < w → adj T v x → mayB fr up x = false := by
  unfold pick at h
  rw [List.find?_eq_some_iff_getElem] at h
  obtain ⟨_, i, hi, he, hb⟩ := h
  rw [List.length_map] at hi
  rw [List.getElem_map] at he
  have hmem : (T.getD v [])[i] ∈ T.getD v [] := List.getElem_mem hi
  obtain ⟨y, hy, _⟩ := hT.nat v _ hmem
  rw [hy] at he hmem
  have he : y = w := by simpa using he
  subst he
  refine ⟨hmem, fun x hx ha => ?_⟩
  obtain ⟨j, hj⟩ := List.getElem?_of_mem ha
  obtain ⟨hjl, hje⟩ := List.getElem?_eq_some_iff.1 hj
  have hup := hT.up v hv
  rw [List.pairwise_iff_getElem] at hup
  have hji : j < i := by
    rcases Nat.lt_trichotomy j i with h | h | h
    · exact h
    · subst h; rw [hy] at hje; omega
    · have := hup i j hi hjl h
      rw [hy, hje] at this
      omega
  have := hb j hji
  rw [List.getElem_map, hje] at this
  simpa using this
theorem pick_non {T : List (List Int)} {fr v x : Nat} {up : List Int} (h : pick T fr up v = none) (ha : adj T v x) : mayB fr up x = false := by
  unfold pick at h
  rw [List.find?_eq_none] at h
  have := h x (List.mem_map.2 ⟨(x : Int), ha, by simp⟩)
  simpa using this
theorem Dfs.may {T : List (List Int)} {N fr x : Nat} {s : St} (h : Dfs T N fr s) (hx : x < N) : mayB fr s.up x = false ↔ x ∈ s.order := by
  rw [h.met x hx]
  unfold mayB
  rw [Bool.and_eq_false_iff]
  simp only [bne_eq_false_iff_eq, decide_eq_false_iff_not, Int.not_lt]
theorem dfs_start {T : List (List Int)} {N fr : Nat} (hf : fr < N) : Dfs T N fr (wrun T N fr 0) := by
  have hg : ∀ v, v < N → gd (List.replicate N (-1)) v = -1 := fun v hv => by simp [gd, List.getD, hv]
  refine ⟨good_start T hf, rfl, by simp [wrun], fun v hv => ?_, hg fr hf, fun v hv => by show -1 ≤ gd (List.replicate N (-1)) v; rw [hg v hv]; exact Int.le_refl _, fun i v hi hv => ?_, fun v h => h, fun j v w h1 h2 => ?_, fun v h1 h2 => absurd h1 h2, fun i j u v hij h1 h2 => ?_⟩
  · show v ∈ [fr] ↔ v = fr ∨ 0 ≤ gd (List.replicate N (-1)) v
    rw [hg v hv]
    simp
  · have := (List.getElem?_eq_some_iff.1 hv).1
    simp [wrun] at this
    omega
  · have := (List.getElem?_eq_some_iff.1 h2).1
    simp [wrun] at this
  · have := (List.getElem?_eq_some_iff.1 h2).1
    simp [wrun] at this
    omega
theorem chain_anc {L : List Nat} {up : List Int} (h : ∀ (j v w : Nat), L[j]? = some v → L[j + 1]? = some w → gd up w = (v : Int)) {q v : Nat} (hq : L[q]? = some v) : ∀ (d u : Nat), d ≤ q → L[q - d]? = some u → Anc up d v u
  | 0, u, _, hu => by
    rw [Nat.sub_zero, hq] at hu
    injection hu
  | d + 1, u, hd, hu => by
    obtain ⟨x, hx⟩ : ∃ x, L[q - d]? = some x := ⟨_, List.getElem?_eq_getElem (by have := (List.getElem?_eq_some_iff.1 hq).1; omega)⟩
    have h1 := chain_anc h hq d x (by omega) hx
    refine anc_snoc d v x u h1 (h (q - (d + 1)) u x hu ?_)
    rw [show q - (d + 1) + 1 = q - d by omega]
    exact hx
theorem Dfs.up_in {T : List (List Int)} {N fr x p : Nat} {s : St} (h : Dfs T N fr s) (hx : x ∈ s.order) (e : gd s.up x = (p : Int)) : p ∈ s.order := by
  obtain ⟨i, hi⟩ := List.getElem?_of_mem hx
  by_cases h0 : i = 0
  · subst h0
    rw [h.first] at hi
    injection hi with hi
    subst hi
    rw [h.root] at e
    omega
  · obtain ⟨u, h1, h2, _⟩ := h.par i x (by omega) hi
    have : u = p := by omega
    subst this
    exact List.mem_of_mem_take h2
theorem Dfs.anc_set {T : List (List Int)} {N fr w : Nat} {y : Int} {s : St} (h : Dfs T N fr s) (hw : w ∉ s.order) (hwN : w < N) : ∀ (t v u : Nat), v ∈ s.order → Anc s.up t v u → Anc (s.up.set w y) t v u
  | 0, _, _, _, k => k
  | t + 1, v, u, hv, ⟨p, h1, h2⟩ => by
    refine ⟨p, ?_, Dfs.anc_set h hw hwN t p u (h.up_in hv h1) h2⟩
    rw [gd_set (by rw [h.good.len]; exact hwN), if_neg (fun e : v = w => hw (by rw [← e]; exact hv))]
    exact h1
theorem Dfs.push {T : List (List Int)} {N fr v w : Nat} {s : St} (hT : Tab T N) (sym : ∀ a b, adj T a b → adj T b a) (h : Dfs T N fr s) (hl : s.list.getLast? = some v) (hp : pick T fr s.up v = some w) : Dfs T N fr ⟨s.up.set w (v : Int), s.order ++ [w], s.list ++ [w]⟩ := by
  have hvl : v ∈ s.list := List.mem_of_getLast? hl
  have hvN := h.good.inL v hvl
  obtain ⟨ha, hleast⟩ := pick_least hT hvN hp
  have hwN := hT.lt ha
  have hm := (pick_some hp).1
  have hwo : w ∉ s.order := fun hh => by rw [(h.may hwN).2 hh] at hm; cases hm
  have hle := h.good.len
  have hset : ∀ x, gd (s.up.set w (v : Int)) x = if x = w then (v : Int) else gd s.up x := fun x => gd_set (by rw [hle]; exact hwN)
  have hseto : ∀ x, x ∈ s.order → gd (s.up.set w (v : Int)) x = gd s.up x := fun x hx => by rw [hset, if_neg (fun e : x = w => hwo (by rw [← e]; exact hx))]
  have hfo : fr ∈ s.order := List.mem_of_getElem? h.first
  have hol : 0 < s.order.length := (List.getElem?_eq_some_iff.1 h.first).1
  refine ⟨(h.good.push hwN hm).1, ?_, ?_, fun x hx => ?_, ?_, fun x hx => ?_, fun i x hi hx => ?_, fun x hx => ?_, fun j x y hx hy => ?_, fun x hx hn y hy => ?_, fun i j u x hij hu hx hux => ?_⟩
  · show (s.order ++ [w])[0]? = _
    rw [List.getElem?_append_left hol]
    exact h.first
  · show (s.order ++ [w]).Nodup
    rw [List.nodup_append]
    refine ⟨h.nod, by simp, fun a ha1 b hb e => ?_⟩
    rw [List.mem_singleton] at hb
    rw [hb] at e
    rw [e] at ha1
    exact hwo ha1
  · show x ∈ s.order ++ [w] ↔ _ ∨ 0 ≤ gd (s.up.set w (v : Int)) x
    rw [List.mem_append, List.mem_singleton, hset, h.met x hx]
    by_cases e : x = w
    · subst e
      rw [if_pos rfl]
      exact ⟨fun _ => .inr (by omega), fun _ => .inr rfl⟩
    · rw [if_neg e]
      exact ⟨fun hh => hh.elim id (fun e2 => absurd e2 e), fun hh => .inl hh⟩
  · show gd (s.up.set w (v : Int)) fr = _
    rw [hseto fr hfo]
    exact h.root
  · show -1 ≤ gd (s.up.set w (v : Int)) x
    rw [hset]
    split
    · omega
    · exact h.low x hx
  · show ∃ u : Nat, gd (s.up.set w (v : Int)) x = (u : Int) ∧ u ∈ (s.order ++ [w]).take i ∧ adj T u x ∧ ∀ z, z < x → adj T u z → z ∈ (s.order ++ [w]).take i
    have hx : (s.order ++ [w])[i]? = some x := hx
    have hil := (List.getElem?_eq_some_iff.1 hx).1
    simp only [List.length_append, List.length_singleton] at hil
    by_cases hio : i < s.order.length
    · rw [List.getElem?_append_left hio] at hx
      rw [List.take_append_of_le_length (by omega), hseto x (List.mem_of_getElem? hx)]
      exact h.par i x hi hx
    · obtain rfl : i = s.order.length := by omega
      rw [List.getElem?_append_right (Nat.le_refl _), Nat.sub_self] at hx
      have hx : w = x := by simpa using hx
      subst hx
      rw [List.take_left, hset, if_pos rfl]
      exact ⟨v, rfl, h.sub v hvl, ha, fun z hz haz => (h.may (hT.lt haz)).1 (hleast z hz haz)⟩
  · have hx : x ∈ s.list ++ [w] := hx
    show x ∈ s.order ++ [w]
    rcases List.mem_append.1 hx with hx | hx
    · exact List.mem_append.2 (.inl (h.sub x hx))
    · exact List.mem_append.2 (.inr hx)
  · show gd (s.up.set w (v : Int)) y = _
    have hx : (s.list ++ [w])[j]? = some x := hx
    have hy : (s.list ++ [w])[j + 1]? = some y := hy
    have hjl := (List.getElem?_eq_some_iff.1 hy).1
    simp only [List.length_append, List.length_singleton] at hjl
    rw [List.getElem?_append_left (by omega)] at hx
    by_cases hj : j + 1 < s.list.length
    · rw [List.getElem?_append_left hj] at hy
      rw [hseto y (h.sub y (List.mem_of_getElem? hy))]
      exact h.chain j x y hx hy
    · have e : j + 1 = s.list.length := by omega
      rw [e, List.getElem?_append_right (Nat.le_refl _), Nat.sub_self] at hy
      have hy : w = y := by simpa using hy
      subst hy
      rw [hset, if_pos rfl]
      rw [List.getLast?_eq_getElem?, ← e, Nat.add_sub_cancel, hx] at hl
      injection hl with hl
      rw [hl]
  · have hx : x ∈ s.order ++ [w] := hx
    have hn : x ∉ s.list ++ [w] := hn
    show y ∈ s.order ++ [w]
    rw [List.mem_append, List.mem_singleton] at hx hn
    rcases hx with hx | hx
    · exact List.mem_append.2 (.inl (h.fin x hx (fun hh => hn (.inl hh)) y hy))
    · exact absurd (.inr hx) hn
  · show ∃ t, Anc (s.up.set w (v : Int)) t x u
    have hu : (s.order ++ [w])[i]? = some u := hu
    have hx : (s.order ++ [w])[j]? = some x := hx
    have hjl := (List.getElem?_eq_some_iff.1 hx).1
    simp only [List.length_append, List.length_singleton] at hjl
    rw [List.getElem?_append_left (by omega)] at hu
    by_cases hj : j < s.order.length
    · rw [List.getElem?_append_left hj] at hx
      obtain ⟨t, ht⟩ := h.anc i j u x hij hu hx hux
      exact ⟨t, h.anc_set hwo hwN t x u (List.mem_of_getElem? hx) ht⟩
    · obtain rfl : j = s.order.length := by omega
      rw [List.getElem?_append_right (Nat.le_refl _), Nat.sub_self] at hx
      have hx : w = x := by simpa using hx
      subst hx
      have huo := List.mem_of_getElem? hu
      by_cases hul : u ∈ s.list
      · obtain ⟨m, hm2⟩ := List.getElem?_of_mem hul
        have hml := (List.getElem?_eq_some_iff.1 hm2).1
        rw [List.getLast?_eq_getElem?] at hl
        have h1 := chain_anc h.chain hl (s.list.length - 1 - m) u (by omega) (by rw [show s.list.length - 1 - (s.list.length - 1 - m) = m by omega]; exact hm2)
        refine ⟨s.list.length - 1 - m + 1, v, by rw [hset, if_pos rfl], h.anc_set hwo hwN _ v u (h.sub v hvl) h1⟩
      · exact absurd (h.fin u huo hul w hux) hwo
theorem Dfs.pop {T : List (List Int)} {N fr v : Nat} {s : St} (hT : Tab T N) (h : Dfs T N fr s) (hl : s.list.getLast? = some v) (hp : pick T fr s.up v = none) : Dfs T N fr ⟨s.up, s.order, s.list.dropLast⟩ := by
  refine ⟨h.good.pop, h.first, h.nod, h.met, h.root, h.low, h.par, fun x hx => h.sub x (List.dropLast_subset _ hx), fun j x y hx hy => ?_, fun x hx hn y hy => ?_, h.anc⟩
  · have hx : s.list.dropLast[j]? = some x := hx
    have hy : s.list.dropLast[j + 1]? = some y := hy
    have h1 := (List.getElem?_eq_some_iff.1 hx).1
    have h2 := (List.getElem?_eq_some_iff.1 hy).1
    rw [List.length_dropLast] at h1 h2
    rw [List.dropLast_eq_take, List.getElem?_take_of_lt (by omega)] at hx hy
    exact h.chain j x y hx hy
  · have hx : x ∈ s.order := hx
    have hn : x ∉ s.list.dropLast := hn
    show y ∈ s.order
    by_cases hxl : x ∈ s.list
    · have hne : s.list ≠ [] := List.ne_nil_of_mem hxl
      rw [List.getLast?_eq_some_getLast hne] at hl
      injection hl with hl
      have he := List.dropLast_concat_getLast hne
      rw [hl] at he
      rw [← he] at hxl
      rcases List.mem_append.1 hxl with h1 | h1
      · exact absurd h1 hn
      · rw [List.mem_singleton] at h1
        subst h1
        exact (h.may (hT.lt hy)).1 (pick_non hp hy)
    · exact h.fin x hx hxl y hy
theorem dfs_run {T : List (List Int)} {N fr : Nat} (hT : Tab T N) (sym : ∀ a b, adj T a b → adj T b a) (hf : fr < N) : ∀ k, Dfs T N fr (wrun T N fr k)
  | 0 => dfs_start hf
  | k + 1 => by
    have ih := dfs_run hT sym hf k
    show Dfs T N fr (wstep T fr (wrun T N fr k))
    generalize wrun T N fr k = s at *
    unfold wstep
    cases hl : s.list.getLast? with
    | none => exact ih
    | some v =>
      simp only
      cases hp : pick T fr s.up v with
      | some w => exact ih.push hT sym hl hp
      | none => exact ih.pop hT hl hp
theorem tab_is {N : Nat} {E : List (Int × Int)} (hg : rightG (N : Nat) E = true) : Tab (tabG N E) N :=
  ⟨fun _ _ hx => tabG_mem hg hx, fun u hu => by rw [tabG_getD, if_pos hu]; exact bes_up hg _⟩
/-- At the end just those are met to which there is a way. -/
theorem dfs_end {T : List (List Int)} {N fr : Nat} {s : St} {ds : List Int} (h : Dfs T N fr s) (hl : s.list = []) (hD : Dist T N fr ds) {v : Nat} (hv : v < N) : v ∈ s.order ↔ 0 ≤ gd ds v := by
  constructor
  · intro hm
    obtain ⟨i, hi⟩ := List.getElem?_of_mem hm
    have key : ∀ (i x : Nat), s.order[i]? = some x → 0 ≤ gd ds x := by
      intro i
      induction i using Nat.strongRecOn with
      | ind i ih =>
        intro x hx
        by_cases h0 : i = 0
        · subst h0
          rw [h.first] at hx
          injection hx with hx
          subst hx
          rw [hD.zero]; exact Int.le_refl _
        · obtain ⟨u, _, h2, h3, _⟩ := h.par i x (by omega) hx
          obtain ⟨j, hj⟩ := List.getElem?_of_mem h2
          have hjl := (List.getElem?_eq_some_iff.1 hj).1
          rw [List.length_take] at hjl
          rw [List.getElem?_take_of_lt (by omega)] at hj
          exact (hD.step u (h.good.inO u (List.mem_of_getElem? hj)) (ih j (by omega) u hj) x h3).1
    exact key i v hi
  · intro h0
    obtain ⟨n, hn⟩ := Int.eq_ofNat_of_zero_le h0
    have key : ∀ (n x : Nat), x < N → gd ds x = (n : Int) → x ∈ s.order := by
      intro n
      induction n with
      | zero => intro x hx e; rw [hD.only x hx e]; exact List.mem_of_getElem? h.first
      | succ n ih =>
        intro x hx e
        obtain ⟨u, hu, ha, e2⟩ := hD.from_ x hx (by omega)
        exact h.fin u (ih u hu (by omega)) (by rw [hl]; simp) x ha
    exact key n v hv hn
/-- Steps up are no more than those that were met ahead. -/
theorem anc_short {T : List (List Int)} {N fr : Nat} {s : St} (h : Dfs T N fr s) : ∀ (t i v u : Nat), s.order[i]? = some v → Anc s.up t v u → t ≤ i
  | 0, _, _, _, _, _ => Nat.zero_le _
  | t + 1, i, v, u, hv, ⟨p, h1, h2⟩ => by
    by_cases h0 : i = 0
    · subst h0
      rw [h.first] at hv
      injection hv with hv
      subst hv
      rw [h.root] at h1
      omega
    · obtain ⟨x, e, h3, _⟩ := h.par i v (by omega) hv
      have : x = p := by omega
      subst this
      obtain ⟨j, hj⟩ := List.getElem?_of_mem h3
      have hjl := (List.getElem?_eq_some_iff.1 hj).1
      rw [List.length_take] at hjl
      rw [List.getElem?_take_of_lt (by omega)] at hj
      have := anc_short h t j x u hj h2
      omega
end Go.Proofs.Ytlkddjpjhchjfaa
