/- A row and a star, walked through (no world here). -/
import Derived.Test.YtpkiogcedfmodaaW36
namespace Go.Proofs.Ytpkiogcedfmodaa

def rowK (k : Nat) : List (Int × Int) := (List.range k).map fun (a : Nat) => ((a : Int), ((a + 1 : Nat) : Int))
def starK (k : Nat) : List (Int × Int) := (List.range k).map fun (a : Nat) => ((0 : Int), ((a + 1 : Nat) : Int))
theorem rowK_length (k : Nat) : (rowK k).length = k := by simp [rowK]
theorem starK_length (k : Nat) : (starK k).length = k := by simp [starK]
theorem rowK_succ (k : Nat) : rowK (k + 1) = rowK k ++ [((k : Int), ((k + 1 : Nat) : Int))] := by simp [rowK, List.range_succ]
theorem starK_succ (k : Nat) : starK (k + 1) = starK k ++ [((0 : Int), ((k + 1 : Nat) : Int))] := by simp [starK, List.range_succ]
set_option maxRecDepth 100000 in
theorem rowK_right : rightG (200 : Nat) (rowK 199) = true := by decide +kernel
set_option maxRecDepth 100000 in
theorem starK_right : rightG (200 : Nat) (starK 199) = true := by decide +kernel
theorem rowK_mem {k : Nat} {x y : Int} : (x, y) ∈ rowK k ↔ ∃ a : Nat, a < k ∧ x = (a : Int) ∧ y = ((a + 1 : Nat) : Int) := by
  unfold rowK
  simp only [List.mem_map, List.mem_range, Prod.mk.injEq]
  constructor
  · rintro ⟨a, h, e1, e2⟩; exact ⟨a, h, e1.symm, e2.symm⟩
  · rintro ⟨a, h, e1, e2⟩; exact ⟨a, h, e1.symm, e2.symm⟩
theorem starK_mem {k : Nat} {x y : Int} : (x, y) ∈ starK k ↔ ∃ a : Nat, a < k ∧ x = 0 ∧ y = ((a + 1 : Nat) : Int) := by
  unfold starK
  simp only [List.mem_map, List.mem_range, Prod.mk.injEq]
  constructor
  · rintro ⟨a, h, e1, e2⟩; exact ⟨a, h, e1.symm, e2.symm⟩
  · rintro ⟨a, h, e1, e2⟩; exact ⟨a, h, e1.symm, e2.symm⟩
theorem row_adj {u v : Nat} (hu : u < 200) (hv : v < 200) : adj (tabG 200 (rowK 199)) u v ↔ v = u + 1 ∨ u = v + 1 := by
  rw [← hasG_adj rowK_right hu hv]
  unfold hasG
  rw [decide_eq_true_iff, rowK_mem]
  constructor
  · rintro ⟨a, _, h1, h2⟩; omega
  · rintro (h | h)
    · exact ⟨u, by omega, by omega, by omega⟩
    · exact ⟨v, by omega, by omega, by omega⟩
theorem star_adj {u v : Nat} (hu : u < 200) (hv : v < 200) : adj (tabG 200 (starK 199)) u v ↔ (u = 0 ∧ 0 < v) ∨ (v = 0 ∧ 0 < u) := by
  rw [← hasG_adj starK_right hu hv]
  unfold hasG
  rw [decide_eq_true_iff, starK_mem]
  constructor
  · rintro ⟨a, _, h1, h2⟩; omega
  · rintro (h | h)
    · exact ⟨v - 1, by omega, by omega, by omega⟩
    · exact ⟨u - 1, by omega, by omega, by omega⟩
/-- On. -/
theorem go_push {T : List (List Int)} {N fr u w k : Nat} (hT : Tab T N) (h : Dfs T N fr (wrun T N fr k)) (hl : (wrun T N fr k).list.getLast? = some u) (ha : adj T u w) (hn : w ∉ (wrun T N fr k).order) (hs : ∀ x, x < w → adj T u x → x ∈ (wrun T N fr k).order) :
    (wrun T N fr (k + 1)).order = (wrun T N fr k).order ++ [w] ∧ (wrun T N fr (k + 1)).list = (wrun T N fr k).list ++ [w] := by
  have hu := h.good.inL u (List.mem_of_getLast? hl)
  have hp : pick T fr (wrun T N fr k).up u = some w := by
    cases hp : pick T fr (wrun T N fr k).up u with
    | none =>
      have := (h.may (hT.lt ha)).1 (pick_non hp ha)
      exact absurd this hn
    | some y =>
      obtain ⟨h1, h2⟩ := pick_least hT hu hp
      have h3 := (pick_some hp).1
      have h4 : y ∉ (wrun T N fr k).order := fun hh => by rw [(h.may (hT.lt h1)).2 hh] at h3; cases h3
      rcases Nat.lt_trichotomy y w with h5 | h5 | h5
      · exact absurd (hs y h5 h1) h4
      · rw [h5]
      · exact absurd ((h.may (hT.lt ha)).1 (h2 w h5 ha)) hn
  show (wstep T fr (wrun T N fr k)).order = _ ∧ (wstep T fr (wrun T N fr k)).list = _
  rw [wstep_push hl hp]
  exact ⟨rfl, rfl⟩
/-- Back. -/
theorem go_pop {T : List (List Int)} {N fr u k : Nat} (hT : Tab T N) (h : Dfs T N fr (wrun T N fr k)) (hl : (wrun T N fr k).list.getLast? = some u) (hs : ∀ x, adj T u x → x ∈ (wrun T N fr k).order) :
    (wrun T N fr (k + 1)).order = (wrun T N fr k).order ∧ (wrun T N fr (k + 1)).list = (wrun T N fr k).list.dropLast := by
  have hu := h.good.inL u (List.mem_of_getLast? hl)
  have hp : pick T fr (wrun T N fr k).up u = none := by
    cases hp : pick T fr (wrun T N fr k).up u with
    | none => rfl
    | some y =>
      obtain ⟨h1, _⟩ := pick_least hT hu hp
      have h3 := (pick_some hp).1
      rw [(h.may (hT.lt h1)).2 (hs y h1)] at h3
      cases h3
  show (wstep T fr (wrun T N fr k)).order = _ ∧ (wstep T fr (wrun T N fr k)).list = _
  rw [wstep_pop hl hp]
  exact ⟨rfl, rfl⟩
/-- When all are met the walk comes to its end. -/
theorem go_end {T : List (List Int)} {N fr : Nat} (hT : Tab T N) (sym : ∀ a b, adj T a b → adj T b a) (hf : fr < N) : ∀ (q k : Nat), (wrun T N fr k).list.length = q → (∀ x, x < N → x ∈ (wrun T N fr k).order) → ∃ m, (wrun T N fr m).list = [] ∧ (wrun T N fr m).order = (wrun T N fr k).order
  | 0, k, hq, _ => ⟨k, List.length_eq_zero_iff.1 hq, rfl⟩
  | q + 1, k, hq, hall => by
    have hD := dfs_run hT sym hf k
    have hne : (wrun T N fr k).list ≠ [] := by intro e; rw [e] at hq; cases hq
    obtain ⟨u, hu⟩ : ∃ u, (wrun T N fr k).list.getLast? = some u := by
      cases h : (wrun T N fr k).list.getLast? with
      | none => exact absurd (List.getLast?_eq_none_iff.1 h) hne
      | some v => exact ⟨v, rfl⟩
    obtain ⟨h1, h2⟩ := go_pop hT hD hu (fun x hx => hall x (hT.lt hx))
    obtain ⟨m, h3, h4⟩ := go_end hT sym hf q (k + 1) (by rw [h2, List.length_dropLast, hq]; rfl) (fun x hx => by rw [h1]; exact hall x hx)
    exact ⟨m, h3, by rw [h4, h1]⟩
/-- From v down, and from behind v up. -/
def desc (v k : Nat) : List Nat := (List.range (k + 1)).map fun j => v - j
def asc (v k : Nat) : List Nat := (List.range k).map fun j => v + 1 + j
theorem desc_succ (v k : Nat) : desc v (k + 1) = desc v k ++ [v - (k + 1)] := by simp [desc, List.range_succ]
theorem desc_last (v k : Nat) : (desc v k).getLast? = some (v - k) := by simp [desc, List.range_succ]
theorem desc_mem {v k x : Nat} (hk : k ≤ v) : x ∈ desc v k ↔ v - k ≤ x ∧ x ≤ v := by
  unfold desc
  simp only [List.mem_map, List.mem_range]
  constructor
  · rintro ⟨j, h, rfl⟩; omega
  · rintro ⟨h1, h2⟩; exact ⟨v - x, by omega, by omega⟩
theorem asc_succ (v k : Nat) : asc v (k + 1) = asc v k ++ [v + 1 + k] := by simp [asc, List.range_succ]
theorem asc_mem {v k x : Nat} : x ∈ asc v k ↔ v < x ∧ x ≤ v + k := by
  unfold asc
  simp only [List.mem_map, List.mem_range]
  constructor
  · rintro ⟨j, h, rfl⟩; omega
  · rintro ⟨h1, h2⟩; exact ⟨x - (v + 1), by omega, by omega⟩
theorem asc_last (v k : Nat) : ([v] ++ asc v k).getLast? = some (v + k) := by
  cases k with
  | zero => rfl
  | succ k => rw [asc_succ, ← List.append_assoc, List.getLast?_append]; simp; omega
theorem tab_row : Tab (tabG 200 (rowK 199)) 200 := tab_is rowK_right
theorem tab_star : Tab (tabG 200 (starK 199)) 200 := tab_is starK_right
theorem dfs_row {v : Nat} (hv : v < 200) (k : Nat) : Dfs (tabG 200 (rowK 199)) 200 v (wrun (tabG 200 (rowK 199)) 200 v k) := dfs_run tab_row (fun _ _ => tabG_sym rowK_right) hv k
theorem dfs_star (k : Nat) : Dfs (tabG 200 (starK 199)) 200 0 (wrun (tabG 200 (starK 199)) 200 0 k) := dfs_run tab_star (fun _ _ => tabG_sym starK_right) (by decide) k
theorem row_down {v : Nat} (hv : v < 200) : ∀ k, k ≤ v → ∃ m, (wrun (tabG 200 (rowK 199)) 200 v m).order = desc v k ∧ (wrun (tabG 200 (rowK 199)) 200 v m).list = desc v k
  | 0, _ => ⟨0, by simp [wrun, desc], by simp [wrun, desc]⟩
  | k + 1, hk => by
    obtain ⟨m, h1, h2⟩ := row_down hv k (by omega)
    obtain ⟨a, b⟩ := go_push (w := v - (k + 1)) tab_row (dfs_row hv m) (by rw [h2]; exact desc_last v k) ((row_adj (by omega) (by omega)).2 (by omega)) (by rw [h1, desc_mem (by omega)]; omega) (fun x hx hax => by
      rw [row_adj (by omega) (by omega)] at hax; omega)
    exact ⟨m + 1, by rw [a, h1, desc_succ], by rw [b, h2, desc_succ]⟩
theorem row_back {v : Nat} (hv : v < 200) : ∀ j, j ≤ v → ∃ m, (wrun (tabG 200 (rowK 199)) 200 v m).order = desc v v ∧ (wrun (tabG 200 (rowK 199)) 200 v m).list = desc v (v - j)
  | 0, _ => row_down hv v (Nat.le_refl _)
  | j + 1, hj => by
    obtain ⟨m, h1, h2⟩ := row_back hv j (by omega)
    obtain ⟨a, b⟩ := go_pop (u := j) tab_row (dfs_row hv m) (by rw [h2, desc_last]; congr 1; omega) (fun x hax => by
      have hx := tab_row.lt hax
      rw [row_adj (by omega) hx] at hax
      rw [h1, desc_mem (Nat.le_refl _)]
      omega)
    refine ⟨m + 1, by rw [a, h1], ?_⟩
    rw [b, h2, show v - j = v - (j + 1) + 1 by omega, desc_succ, List.dropLast_concat]
theorem row_up {v : Nat} (hv : v < 200) : ∀ k, v + k < 200 → ∃ m, (wrun (tabG 200 (rowK 199)) 200 v m).order = desc v v ++ asc v k ∧ (wrun (tabG 200 (rowK 199)) 200 v m).list = [v] ++ asc v k
  | 0, _ => by
    obtain ⟨m, h1, h2⟩ := row_back hv v (Nat.le_refl _)
    refine ⟨m, by rw [h1]; simp [asc], ?_⟩
    rw [h2, Nat.sub_self]
    simp [desc, asc]
  | k + 1, hk => by
    obtain ⟨m, h1, h2⟩ := row_up hv k (by omega)
    obtain ⟨a, b⟩ := go_push (w := v + 1 + k) tab_row (dfs_row hv m) (by rw [h2]; exact asc_last v k) ((row_adj (by omega) (by omega)).2 (by omega)) (by rw [h1, List.mem_append, desc_mem (Nat.le_refl _), asc_mem]; omega) (fun x hx hax => by
      rw [row_adj (by omega) (by omega)] at hax
      rw [h1, List.mem_append, desc_mem (Nat.le_refl _), asc_mem]
      omega)
    exact ⟨m + 1, by rw [a, h1, asc_succ, List.append_assoc], by rw [b, h2, asc_succ, List.append_assoc]⟩
theorem row_order {v k : Nat} (hv : v < 200) (hk : (wrun (tabG 200 (rowK 199)) 200 v k).list = []) : (wrun (tabG 200 (rowK 199)) 200 v k).order = desc v v ++ asc v (199 - v) := by
  obtain ⟨m, h1, _⟩ := row_up hv (199 - v) (by omega)
  obtain ⟨q, h3, h4⟩ := go_end tab_row (fun _ _ => tabG_sym rowK_right) hv _ m rfl (fun x hx => by
    rw [h1, List.mem_append, desc_mem (Nat.le_refl _), asc_mem]; omega)
  rw [wrun_end hk h3, h4, h1]
theorem long_at {v i : Nat} (hv : v < 200) (hi : i < 200) : (desc v v ++ asc v (199 - v))[i]? = some (if i ≤ v then v - i else i) := by
  have hl : (desc v v).length = v + 1 := by simp [desc]
  by_cases h : i ≤ v
  · rw [List.getElem?_append_left (by omega), if_pos h]
    unfold desc
    rw [List.getElem?_map, List.getElem?_range (by omega)]
    rfl
  · rw [List.getElem?_append_right (by omega), if_neg h, hl]
    unfold asc
    rw [List.getElem?_map, List.getElem?_range (by omega)]
    show some (v + 1 + (i - (v + 1))) = some i
    congr 1
    omega
theorem star_on : ∀ k, k < 200 → ∃ m, (wrun (tabG 200 (starK 199)) 200 0 m).order = List.range (k + 1) ∧ (wrun (tabG 200 (starK 199)) 200 0 m).list = [0]
  | 0, _ => ⟨0, by simp [wrun], by simp [wrun]⟩
  | k + 1, hk => by
    obtain ⟨m, h1, h2⟩ := star_on k (by omega)
    obtain ⟨a, b⟩ := go_push (u := 0) (w := k + 1) tab_star (dfs_star m) (by rw [h2]; rfl) ((star_adj (by omega) (by omega)).2 (by omega)) (by rw [h1, List.mem_range]; omega) (fun x hx hax => by
      rw [h1, List.mem_range]; omega)
    obtain ⟨c, d⟩ := go_pop (u := k + 1) tab_star (dfs_star (m + 1)) (by rw [b, h2]; rfl) (fun x hax => by
      have hx := tab_star.lt hax
      rw [star_adj (by omega) hx] at hax
      rw [a, h1, List.mem_append, List.mem_range]
      left; omega)
    refine ⟨m + 1 + 1, ?_, ?_⟩
    · rw [c, a, h1, List.range_succ (n := k + 1)]
    · rw [d, b, h2]; rfl
theorem star_order {k : Nat} (hk : (wrun (tabG 200 (starK 199)) 200 0 k).list = []) : (wrun (tabG 200 (starK 199)) 200 0 k).order = List.range 200 := by
  obtain ⟨m, h1, _⟩ := star_on 199 (by decide)
  obtain ⟨q, h3, h4⟩ := go_end tab_star (fun _ _ => tabG_sym starK_right) (show 0 < 200 by decide) _ m rfl (fun x hx => by
    rw [h1, List.mem_range]; omega)
  rw [wrun_end hk h3, h4, h1]
theorem star_up {k i : Nat} (hk : (wrun (tabG 200 (starK 199)) 200 0 k).list = []) (h0 : 0 < i) (hi : i < 200) : gd (wrun (tabG 200 (starK 199)) 200 0 k).up i = 0 := by
  obtain ⟨u, h1, h2, h3, _⟩ := (dfs_star k).par i i h0 (by rw [star_order hk]; simp [hi])
  have hu := (dfs_star k).good.inO u (List.mem_of_mem_take h2)
  rw [star_adj hu hi] at h3
  rw [h1]
  omega
/-- How far it is to the row's end. -/
theorem row_dist : Dist (tabG 200 (rowK 199)) 200 199 ((List.range 200).map fun (x : Nat) => 199 - (x : Int)) := by
  have hg : ∀ v, v < 200 → gd ((List.range 200).map fun (x : Nat) => 199 - (x : Int)) v = 199 - (v : Int) := fun v hv => by
    unfold gd List.getD
    rw [List.getElem?_map, List.getElem?_range hv]
    rfl
  refine ⟨by rw [List.length_map, List.length_range], fun v hv => by rw [hg v hv]; omega, by rw [hg 199 (by omega)]; omega, fun v hv e => by rw [hg v hv] at e; omega, fun v hv e => ?_, fun u hu e v ha => ?_⟩
  · rw [hg v hv] at e
    exact ⟨v + 1, by omega, (row_adj (by omega) hv).2 (by omega), by rw [hg v hv, hg (v + 1) (by omega)]; omega⟩
  · have hv := tab_row.lt ha
    rw [row_adj hu hv] at ha
    rw [hg u hu, hg v hv]
    omega
theorem row_gd {v : Nat} (hv : v < 200) : gd (distOf (tabG 200 (rowK 199)) 200 199) v = 199 - (v : Int) := by
  rw [distOf_eq row_dist]
  unfold gd List.getD
  rw [List.getElem?_map, List.getElem?_range hv]
  rfl
theorem row_path {i : Nat} (hi : i ≤ 199) : (prunP (tabG 200 (rowK 199)) (distOf (tabG 200 (rowK 199)) 200 199) 0 199).1[i]? = some i := by
  have hD : Dist (tabG 200 (rowK 199)) 200 199 (distOf (tabG 200 (rowK 199)) 200 199) := dist_is rowK_right (by decide)
  obtain ⟨h1, h2⟩ := path_step (N := 200) (fr := 0) rowK_right hD (by decide) (D := 199) (by rw [row_gd (by decide)]; rfl) i hi
  rw [row_gd h1] at h2
  rw [(prunP_at _ _ 0 199 i hi).1]
  congr 1
  omega
theorem row_parts : (prun (tabG 200 (rowK 199)) 200 200).2.length = 1 := by
  have hP := pinv rowK_right 200 (Nat.le_refl _)
  have hr : ∀ x, x < 200 → Rch 200 (rowK 199) 199 x := fun x hx => by unfold Rch; rw [row_gd hx]; omega
  obtain ⟨i0, p0, hp0, hx0⟩ := (hP.cover 199 (by decide)).1 (hP.asked 199 (by decide))
  have hin : ∀ (j : Nat) (q : List Int), (prun (tabG 200 (rowK 199)) 200 200).2[j]? = some q → j = i0 := fun j q hq => by
    obtain ⟨v, hv, rfl, _⟩ := hP.part j q hq
    have h1 : ((199 : Nat) : Int) ∈ reachN (distOf (tabG 200 (rowK 199)) 200 v) 200 := reachN_mem.2 ⟨by decide, Rch.symm_ rowK_right (by decide) hv (hr v hv)⟩
    exact hP.once j i0 _ p0 _ hq hp0 h1 hx0
  have hl := (List.getElem?_eq_some_iff.1 hp0).1
  have h0 := hin 0 _ (List.getElem?_eq_getElem (by omega))
  have h1 : ¬ 1 < (prun (tabG 200 (rowK 199)) 200 200).2.length := fun h => by
    have := hin 1 _ (List.getElem?_eq_getElem h)
    omega
  omega
end Go.Proofs.Ytpkiogcedfmodaa
