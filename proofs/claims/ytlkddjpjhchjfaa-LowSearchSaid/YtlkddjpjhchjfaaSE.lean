/- What the statements reckon of a search: least (pure; layer 5). -/
import Derived.Test.YtlkddjpjhchjfaaDD
import Derived.Test.YtlkddjpjhchjfaaWM
namespace Go.Proofs.Ytlkddjpjhchjfaa
set_option maxRecDepth 100000

structure LS (adj : Nat → Nat → Prop) (up : Nat → Option Nat) (num F : Nat → Nat) (S : Nat → Nat → Prop) (D : Nat → Prop) (G : Nat → Nat) : Prop where
  own : ∀ v, G v ≤ num v
  back : ∀ v w, S v w → up w ≠ some v → up v ≠ some w → G v ≤ num w
  below : ∀ w v, D w → up w = some v → G v ≤ F w
  is : ∀ v, G v = num v ∨ ∃ w, adj v w ∧ ((up w = some v ∧ G v = F w) ∨ (up w ≠ some v ∧ up v ≠ some w ∧ G v = num w))
section
variable {n : Nat} {adj : Nat → Nat → Prop} {up : Nat → Option Nat} {num F : Nat → Nat} {S S' : Nat → Nat → Prop} {D D' : Nat → Prop} {G : Nat → Nat}
theorem LS.start (hS : ∀ v w, ¬ S v w) (hD : ∀ w v, up w = some v → ¬ D w) : LS adj up num F S D num :=
  ⟨fun _ => Nat.le_refl _, fun v w h => absurd h (hS v w), fun w v h e => absurd h (hD w v e), fun _ => .inl rfl⟩
theorem LS.edge (Fo : Forest n adj up num) (h : LS adj up num F S D G) {a b : Nat} (hab : adj a b) (hlt : num b < num a) (hu : up a ≠ some b) (hS : ∀ x y, S' x y → S x y ∨ (x = a ∧ y = b) ∨ (x = b ∧ y = a)) {z : Nat} (hz : z = min (G a) (num b)) : LS adj up num F S' D (putF G a z) := by
  have hle : ∀ x, putF G a z x ≤ G x := fun x => by
    unfold putF
    split
    · rename_i e; subst e; omega
    · exact Nat.le_refl _
  refine ⟨fun v => Nat.le_trans (hle v) (h.own v), fun v w hs h1 h2 => ?_, fun w v hd e => Nat.le_trans (hle v) (h.below w v hd e), fun v => ?_⟩
  · rcases hS v w hs with h3 | ⟨rfl, rfl⟩ | ⟨rfl, rfl⟩
    · exact Nat.le_trans (hle v) (h.back v w h3 h1 h2)
    · rw [putF_self]; omega
    · have := hle v
      have := h.own v
      omega
  · by_cases e : v = a
    · subst e
      rw [putF_self]
      by_cases h1 : z = G v
      · rw [h1]; exact h.is v
      · refine .inr ⟨b, hab, .inr ⟨fun e2 => ?_, hu, by omega⟩⟩
        have := (Fo.ups _ _ e2).1
        omega
    · rw [putF_ne G z e]
      exact h.is v
theorem LS.eskip (h : LS adj up num F S D G) {a b : Nat} (hu : up a = some b) (hS : ∀ x y, S' x y → S x y ∨ (x = a ∧ y = b) ∨ (x = b ∧ y = a)) : LS adj up num F S' D G := by
  refine ⟨h.own, fun v w hs h1 h2 => ?_, h.below, h.is⟩
  rcases hS v w hs with h3 | ⟨rfl, rfl⟩ | ⟨rfl, rfl⟩
  · exact h.back v w h3 h1 h2
  · exact absurd hu h2
  · exact absurd hu h1
theorem LS.core (_ : Forest n adj up num) (h : LS adj up num F S D G) (hF : ∀ v, LowFix adj up num F v) (hS : ∀ v w, adj v w → S v w) {v : Nat} (hD : ∀ w, up w = some v → D w) : G v = F v := by
  have hv := hF v
  apply Nat.le_antisymm
  · rcases hv.is with h1 | ⟨w, ha, ⟨e, h1⟩ | ⟨e1, e2, h1⟩⟩
    · rw [h1]; exact h.own v
    · rw [h1]; exact h.below w v (hD w e) e
    · rw [h1]; exact h.back v w (hS v w ha) e1 e2
  · rcases h.is v with h1 | ⟨w, ha, ⟨e, h1⟩ | ⟨e1, e2, h1⟩⟩
    · rw [h1]; exact hv.own
    · rw [h1]; exact hv.below w ha e
    · rw [h1]; exact hv.back w ha e1 e2
theorem LS.down (Fo : Forest n adj up num) (h : LS adj up num F S D G) {v u : Nat} (hu : up v = some u) (hv : G v = F v) (hD : ∀ w x, up w = some x → D' w → D w ∨ w = v) {z : Nat} (hz : z = min (G u) (G v)) : LS adj up num F S D' (putF G u z) := by
  have hle : ∀ x, putF G u z x ≤ G x := fun x => by
    unfold putF
    split
    · rename_i e; subst e; omega
    · exact Nat.le_refl _
  refine ⟨fun v => Nat.le_trans (hle v) (h.own v), fun v w hs h1 h2 => Nat.le_trans (hle v) (h.back v w hs h1 h2), fun w x hd e => ?_, fun x => ?_⟩
  · rcases hD w x e hd with h1 | rfl
    · exact Nat.le_trans (hle x) (h.below w x h1 e)
    · rw [hu] at e
      injection e with e
      subst e
      rw [putF_self]; omega
  · by_cases e : x = u
    · subst e
      rw [putF_self]
      by_cases h1 : z = G x
      · rw [h1]; exact h.is x
      · exact .inr ⟨v, (Fo.ups _ _ hu).2, .inl ⟨hu, by omega⟩⟩
    · rw [putF_ne G z e]
      exact h.is x
theorem LS.root (h : LS adj up num F S D G) {v : Nat} (hu : up v = none) (hD : ∀ w x, up w = some x → D' w → D w ∨ w = v) : LS adj up num F S D' G := by
  refine ⟨h.own, h.back, fun w x hd e => ?_, h.is⟩
  rcases hD w x e hd with h1 | rfl
  · exact h.below w x h1 e
  · rw [hu] at e; cases e
end
/-- Numbers of vertices, as they lie in memory. -/
def gZ (N : Nat) (G : Nat → Nat) : List Int := (List.range N).map fun v => ((G v : Nat) : Int)
theorem gZ_length (N : Nat) (G : Nat → Nat) : (gZ N G).length = N := by simp [gZ]
theorem gZ_at {N v : Nat} (G : Nat → Nat) (h : v < N) : (gZ N G)[v]? = some ((G v : Nat) : Int) := by simp [gZ, h]
theorem gZ_set {N : Nat} (G : Nat → Nat) (v z : Nat) : (gZ N G).set v ((z : Nat) : Int) = gZ N (putF G v z) := by
  apply List.ext_getElem?
  intro i
  by_cases hi : i < N
  · rw [gZ_at _ hi]
    by_cases e : v = i
    · subst e
      rw [List.getElem?_set_self (by rw [gZ_length]; exact hi), putF_self]
    · rw [List.getElem?_set_ne e, gZ_at G hi, putF_ne G z (fun e2 => e e2.symm)]
  · rw [List.getElem?_eq_none (by rw [List.length_set, gZ_length]; omega), List.getElem?_eq_none (by rw [gZ_length]; omega)]
theorem gZ_zero (N : Nat) : List.replicate N (0 : Int) = gZ N fun _ => 0 := by
  apply List.ext_getElem?
  intro i
  by_cases hi : i < N
  · rw [gZ_at _ hi, List.getElem?_replicate, if_pos hi]; rfl
  · rw [List.getElem?_eq_none (by simp; omega), List.getElem?_eq_none (by rw [gZ_length]; omega)]
def upto (k : Nat) (num : Nat → Nat) (v : Nat) : Nat := if v < k then num v else 0
theorem upto_step (k : Nat) (num : Nat → Nat) : putF (upto k num) k (num k) = upto (k + 1) num := by
  funext x
  unfold putF upto
  by_cases e : x = k
  · subst e; simp
  · rw [if_neg e]
    by_cases h : x < k
    · rw [if_pos h, if_pos (by omega)]
    · rw [if_neg h, if_neg (by omega)]
theorem gZ_upto (N : Nat) (num : Nat → Nat) : gZ N (upto N num) = gZ N num := by
  apply List.map_congr_left
  intro v hv
  rw [List.mem_range] at hv
  simp [upto, hv]
theorem upto_zero (num : Nat → Nat) : (fun _ => 0) = upto 0 num := by funext x; simp [upto]
section
variable {N : Nat} {E : List (Int × Int)} {A : List Nat} {U : Nat → Option Nat} {F : Nat → Nat}
theorem NR.num (_ : rightG (N : Nat) E = true) (h : NR (tabG N E) N N A U) {v : Nat} (hv : v < N) : 1 ≤ numF A v ∧ numF A v ≤ N ∧ gn A (numF A v - 1) = v := by
  obtain ⟨h1, h2⟩ := perm_idx h.toNI.perm hv
  unfold numF
  exact ⟨by omega, by omega, by rw [Nat.add_sub_cancel]; exact h2⟩
theorem NR.inj (hg : rightG (N : Nat) E = true) (h : NR (tabG N E) N N A U) {v w : Nat} (hv : v < N) (hw : w < N) (e : numF A v = numF A w) : v = w := by
  have h1 := (h.num hg hv).2.2
  have h2 := (h.num hg hw).2.2
  rw [e] at h1
  omega
theorem NR.met_at (_ : rightG (N : Nat) E = true) (h : NR (tabG N E) N N A U) {j : Nat} (h1 : 1 ≤ j) (h2 : j ≤ N) : gn A (j - 1) < N ∧ numF A (gn A (j - 1)) = j := by
  have hp := h.toNI.perm
  have h3 := hp.gn_lt (i := j - 1) (by omega)
  refine ⟨h3, ?_⟩
  unfold numF
  rw [idx_at h.nod (gn_at (by rw [hp.len]; omega))]
  omega
/-- Who was met when, as the statements gather it. -/
structure MT (N : Nat) (A : List Nat) (k : Nat) (f : Int → Option Int) : Prop where
  yes : ∀ v, v < k → f ((numF A v : Nat) : Int) = some (v : Int)
  no : ∀ v, k ≤ v → v < N → f ((numF A v : Nat) : Int) = none
theorem MT.start (N : Nat) (A : List Nat) : MT N A 0 fun _ => none := ⟨fun v h => absurd h (by omega), fun _ _ _ => rfl⟩
theorem MT.step (hg : rightG (N : Nat) E = true) (h : NR (tabG N E) N N A U) {k : Nat} {f : Int → Option Int} (hf : MT N A k f) (hk : k < N) : MT N A (k + 1) (upd f ((numF A k : Nat) : Int) (k : Int)) := by
  refine ⟨fun v hv => ?_, fun v h1 h2 => ?_⟩
  · by_cases e : v = k
    · subst e; exact upd_same _ _ _
    · rw [upd_other (fun e2 => e (h.inj hg (by omega) hk (by omega)))]
      exact hf.yes v (by omega)
  · rw [upd_other (fun e2 => by have := h.inj hg h2 hk (by omega); omega)]
    exact hf.no v (by omega) h2
/-- Edges that are looked at. -/
def nbE (E : List (Int × Int)) (k : Nat) (a b : Nat) : Prop := ((a : Int), (b : Int)) ∈ E.take k ∨ ((b : Int), (a : Int)) ∈ E.take k
theorem nbE_zero (E : List (Int × Int)) (a b : Nat) : ¬ nbE E 0 a b := by simp [nbE]
theorem nbE_step {k x y : Nat} (he : E[k]? = some ((x : Int), (y : Int))) (a b : Nat) (h : nbE E (k + 1) a b) : nbE E k a b ∨ (a = x ∧ b = y) ∨ (a = y ∧ b = x) := by
  unfold nbE at h ⊢
  rw [List.take_add_one, he, Option.toList_some, List.mem_append, List.mem_append, List.mem_singleton, List.mem_singleton] at h
  rcases h with (h | h) | h | h
  · exact .inl (.inl h)
  · injection h with h1 h2
    exact .inr (.inl ⟨by omega, by omega⟩)
  · exact .inl (.inr h)
  · injection h with h1 h2
    exact .inr (.inr ⟨by omega, by omega⟩)
theorem nbE_all (hg : rightG (N : Nat) E = true) {u v : Nat} (h : adj (tabG N E) u v) : nbE E E.length u v := by
  have hu : u < N := by obtain ⟨y, e, hy⟩ := tabG_mem hg (tabG_sym hg h); omega
  have hv : v < N := by obtain ⟨y, e, hy⟩ := tabG_mem hg h; omega
  have h1 := (hasG_adj hg hu hv).2 h
  unfold hasG at h1
  rw [decide_eq_true_iff] at h1
  unfold nbE
  rw [List.take_length]
  rcases Nat.le_total u v with h2 | h2
  · rw [show min (u : Int) (v : Int) = u by omega, show max (u : Int) (v : Int) = v by omega] at h1
    exact .inl h1
  · rw [show min (u : Int) (v : Int) = v by omega, show max (u : Int) (v : Int) = u by omega] at h1
    exact .inr h1
/-- What least is: the first k edges are looked at; and, from who was met last, those met behind j. -/
def LQ (N : Nat) (E : List (Int × Int)) (A : List Nat) (U : Nat → Option Nat) (F : Nat → Nat) (k j : Nat) (G : Nat → Nat) : Prop := LS (adj (tabG N E)) U (numF A) F (nbE E k) (fun w => j < numF A w) G
theorem LQ.start (hg : rightG (N : Nat) E = true) (h : NR (tabG N E) N N A U) : LQ N E A U F 0 N (numF A) :=
  LS.start (nbE_zero E) fun w v e => by have := (h.num hg (h.up_lt hg e).2).2.1; omega
theorem LQ.up (hg : rightG (N : Nat) E = true) (h : NR (tabG N E) N N A U) {k x y : Nat} {G : Nat → Nat} (l : LQ N E A U F k N G) (he : E[k]? = some ((x : Int), (y : Int))) (hx : numF A y < numF A x) :
    (U x = some y → LQ N E A U F (k + 1) N G) ∧ (U x ≠ some y → LQ N E A U F (k + 1) N (putF G x (min (G x) (numF A y)))) :=
  ⟨fun e => LS.eskip l e (nbE_step he), fun e => LS.edge (h.forest hg) l (edge_adj hg he).1 hx e (nbE_step he) rfl⟩
theorem LQ.up' (hg : rightG (N : Nat) E = true) (h : NR (tabG N E) N N A U) {k x y : Nat} {G : Nat → Nat} (l : LQ N E A U F k N G) (he : E[k]? = some ((x : Int), (y : Int))) (hx : numF A x < numF A y) :
    (U y = some x → LQ N E A U F (k + 1) N G) ∧ (U y ≠ some x → LQ N E A U F (k + 1) N (putF G y (min (G y) (numF A x)))) :=
  ⟨fun e => LS.eskip l e fun a b h => (nbE_step he a b h).imp_right Or.symm, fun e => LS.edge (h.forest hg) l (edge_adj hg he).2.1 hx e (fun a b h => (nbE_step he a b h).imp_right Or.symm) rfl⟩
theorem LQ.ne (hg : rightG (N : Nat) E = true) (h : NR (tabG N E) N N A U) {k x y : Nat} (he : E[k]? = some ((x : Int), (y : Int))) : numF A x ≠ numF A y := fun e => by
  obtain ⟨_, _, h3, h4⟩ := edge_adj hg he
  have := h.inj hg (by omega) h4 e
  omega
theorem LQ.core (hg : rightG (N : Nat) E = true) (h : NR (tabG N E) N N A U) (lf : ∀ v, LowFix (adj (tabG N E)) U (numF A) F v) {j : Nat} {G : Nat → Nat} (l : LQ N E A U F E.length j G) (h1 : 1 ≤ j) (h2 : j ≤ N) : G (gn A (j - 1)) = F (gn A (j - 1)) :=
  LS.core (h.forest hg) l lf (fun _ _ => nbE_all hg) fun w e => by
    have := ((h.forest hg).ups _ _ e).1
    have := (h.met_at hg h1 h2).2
    show j < numF A w
    omega
theorem LQ.down (hg : rightG (N : Nat) E = true) (h : NR (tabG N E) N N A U) (lf : ∀ v, LowFix (adj (tabG N E)) U (numF A) F v) {j : Nat} {G : Nat → Nat} (l : LQ N E A U F E.length j G) (h1 : 1 ≤ j) (h2 : j ≤ N) :
    (U (gn A (j - 1)) = none → LQ N E A U F E.length (j - 1) G) ∧ (∀ u, U (gn A (j - 1)) = some u → LQ N E A U F E.length (j - 1) (putF G u (min (G u) (G (gn A (j - 1)))))) := by
  have hD : ∀ w x, U w = some x → j - 1 < numF A w → j < numF A w ∨ w = gn A (j - 1) := fun w x e hw => by
    have h3 := h.met_at hg h1 h2
    by_cases h4 : j < numF A w
    · exact .inl h4
    · exact .inr (h.inj hg (h.up_lt hg e).2 h3.1 (by omega))
  exact ⟨fun e => LS.root l e hD, fun u e => LS.down (h.forest hg) l e (LQ.core hg h lf l h1 h2) hD rfl⟩
end
end Go.Proofs.Ytlkddjpjhchjfaa
