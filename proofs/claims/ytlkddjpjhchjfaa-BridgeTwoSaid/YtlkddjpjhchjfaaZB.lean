/- D8 D9 D4 UB DD BT D5 PQ BK PR DA HB DC DE BW: several texts in one. -/
import Derived.Test.YtlkddjpjhchjfaaD2
import Derived.Test.YtlkddjpjhchjfaaD3
import Derived.Test.YtlkddjpjhchjfaaP1
import Derived.Laws.Rows
import Derived.Test.YtlkddjpjhchjfaaU0
import Derived.Test.YtlkddjpjhchjfaaW25
import Derived.Test.YtlkddjpjhchjfaaUC
import Derived.Test.YtlkddjpjhchjfaaD7
import Derived.Test.YtlkddjpjhchjfaaW10
import Derived.Test.YtlkddjpjhchjfaaP0
import Derived.RangeFuncNested
import Derived.RangeFuncBox
import Derived.RangeFuncLeaves
import Derived.RangeFuncCalls
import Derived.TacticsInMore
import Derived.WalkKit
import Derived.OwnWalkIn
import Derived.LoopIn
import Derived.Deep.RegionHeld
import Derived.OrdersIn
import Derived.TacticsIn
import Derived.Test.YtlkddjpjhchjfaaWM
import Derived.Test.YtlkddjpjhchjfaaW29
import Derived.Deep.AppendLies
import Derived.Maps.AppendAt
import Derived.Test.YtlkddjpjhchjfaaH21
import Derived.Test.YtlkddjpjhchjfaaRS
import Derived.Test.YtlkddjpjhchjfaaW14
namespace Go.Proofs.Ytlkddjpjhchjfaa
section
set_option maxRecDepth 100000

/-- Those from the j-th on are reckoned. -/
structure SI (T : List (List Int)) (A : List Nat) (U : Nat → Option Nat) (j : Nat) (F : Nat → Nat) : Prop where
  done : ∀ v ∈ A.drop j, LowFix (adj T) U (numF A) F v
  rest : ∀ v, v ∉ A.drop j → F v = numF A v
/-- Of v, the first i of those beside it are looked at. -/
structure SJ (L : List Int) (A : List Nat) (U : Nat → Option Nat) (v i : Nat) (F G : Nat → Nat) : Prop where
  off : ∀ x, x ≠ v → G x = F x
  own : G v ≤ numF A v
  below : ∀ w : Nat, (w : Int) ∈ L.take i → U w = some v → G v ≤ F w
  back : ∀ w : Nat, (w : Int) ∈ L.take i → U w ≠ some v → U v ≠ some w → G v ≤ numF A w
  is : G v = numF A v ∨ ∃ w : Nat, (w : Int) ∈ L.take i ∧ ((U w = some v ∧ G v = F w) ∨ (U w ≠ some v ∧ U v ≠ some w ∧ G v = numF A w))
/-- A value more, at v. -/
def putF (G : Nat → Nat) (v z x : Nat) : Nat := if x = v then z else G x
theorem putF_self (G : Nat → Nat) (v z : Nat) : putF G v z v = z := by simp [putF]
theorem putF_ne (G : Nat → Nat) {v x : Nat} (z : Nat) (h : x ≠ v) : putF G v z x = G x := by simp [putF, h]
theorem SI.start (T : List (List Int)) (A : List Nat) (U : Nat → Option Nat) (N : Nat) (h : A.length = N) : SI T A U N (numF A) :=
  ⟨fun v hv => absurd hv (by rw [List.drop_of_length_le (by omega)]; simp), fun _ _ => rfl⟩
theorem SJ.start (L : List Int) (A : List Nat) (U : Nat → Option Nat) (v : Nat) {F : Nat → Nat} (h : F v = numF A v) : SJ L A U v 0 F F :=
  ⟨fun _ _ => rfl, by omega, (fun w hw => by cases hw), (fun w hw => by cases hw), .inl h⟩
section
variable {L : List Int} {A : List Nat} {U : Nat → Option Nat} {v i w : Nat} {F G : Nat → Nat}
theorem take_snoc {i : Nat} {x : Int} (hw : L[i]? = some x) : L.take (i + 1) = L.take i ++ [x] := by rw [List.take_add_one, hw]; rfl
theorem SJ.low (h : SJ L A U v i F G) (hw : L[i]? = some (w : Int)) (hwv : w ≠ v) (hu : U w = some v) {z : Nat} (hz : z = min (G v) (G w)) : SJ L A U v (i + 1) F (putF G v z) := by
  have hgw := h.off w hwv
  refine ⟨fun x hx => by rw [putF_ne _ _ hx]; exact h.off x hx, ?_, fun x hx he => ?_, fun x hx he h2 => ?_, ?_⟩
  · rw [putF_self]; have := h.own; omega
  · rw [putF_self]
    rw [take_snoc hw, List.mem_append, List.mem_singleton] at hx
    rcases hx with hx | hx
    · have := h.below x hx he; omega
    · have : x = w := by omega
      subst this; omega
  · rw [putF_self]
    rw [take_snoc hw, List.mem_append, List.mem_singleton] at hx
    rcases hx with hx | hx
    · have := h.back x hx he h2; omega
    · have : x = w := by omega
      subst this; exact absurd hu he
  · rw [putF_self, take_snoc hw]
    by_cases hm : G v ≤ G w
    · rw [hz, Nat.min_eq_left hm]
      rcases h.is with h1 | ⟨x, h1, h2⟩
      · exact .inl h1
      · exact .inr ⟨x, List.mem_append.2 (.inl h1), h2⟩
    · exact .inr ⟨w, List.mem_append.2 (.inr (by simp)), .inl ⟨hu, by omega⟩⟩
theorem SJ.num (h : SJ L A U v i F G) (hw : L[i]? = some (w : Int)) (hu : U w ≠ some v) (hv : U v ≠ some w) {z : Nat} (hz : z = min (G v) (numF A w)) : SJ L A U v (i + 1) F (putF G v z) := by
  refine ⟨fun x hx => by rw [putF_ne _ _ hx]; exact h.off x hx, ?_, fun x hx he => ?_, fun x hx he h2 => ?_, ?_⟩
  · rw [putF_self]; have := h.own; omega
  · rw [putF_self]
    rw [take_snoc hw, List.mem_append, List.mem_singleton] at hx
    rcases hx with hx | hx
    · have := h.below x hx he; omega
    · have : x = w := by omega
      subst this; exact absurd he hu
  · rw [putF_self]
    rw [take_snoc hw, List.mem_append, List.mem_singleton] at hx
    rcases hx with hx | hx
    · have := h.back x hx he h2; omega
    · have : x = w := by omega
      subst this; omega
  · rw [putF_self, take_snoc hw]
    by_cases hm : G v ≤ numF A w
    · rw [hz, Nat.min_eq_left hm]
      rcases h.is with h1 | ⟨x, h1, h2⟩
      · exact .inl h1
      · exact .inr ⟨x, List.mem_append.2 (.inl h1), h2⟩
    · exact .inr ⟨w, List.mem_append.2 (.inr (by simp)), .inr ⟨hu, hv, by omega⟩⟩
theorem SJ.skip (h : SJ L A U v i F G) (hw : L[i]? = some (w : Int)) (hu : U w ≠ some v) (hv : U v = some w) : SJ L A U v (i + 1) F G := by
  refine ⟨h.off, h.own, fun x hx he => ?_, fun x hx he h2 => ?_, ?_⟩
  · rw [take_snoc hw, List.mem_append, List.mem_singleton] at hx
    rcases hx with hx | hx
    · exact h.below x hx he
    · have : x = w := by omega
      subst this; exact absurd he hu
  · rw [take_snoc hw, List.mem_append, List.mem_singleton] at hx
    rcases hx with hx | hx
    · exact h.back x hx he h2
    · have : x = w := by omega
      subst this; exact absurd hv h2
  · rw [take_snoc hw]
    rcases h.is with h1 | ⟨x, h1, h2⟩
    · exact .inl h1
    · exact .inr ⟨x, List.mem_append.2 (.inl h1), h2⟩
end
/-- v is reckoned. -/
theorem SI.next {T : List (List Int)} {N j v : Nat} {A : List Nat} {U : Nat → Option Nat} {F G : Nat → Nat} (hn : NI T N N A U) (irr : ∀ a, ¬ adj T a a) (h : SI T A U (j + 1) F) (hv : A[j]? = some v) (hJ : SJ (T.getD v []) A U v (T.getD v []).length F G) : SI T A U j G := by
  have hd : A.drop j = v :: A.drop (j + 1) := by
    obtain ⟨hl, e⟩ := List.getElem?_eq_some_iff.1 hv
    rw [← e]
    exact List.drop_eq_getElem_cons hl
  have hat : ∀ (i k x : Nat), A[i]? = some x → A[k]? = some x → i = k := fun i k x a b => by
    obtain ⟨l1, e1⟩ := List.getElem?_eq_some_iff.1 a
    obtain ⟨l2, e2⟩ := List.getElem?_eq_some_iff.1 b
    exact (List.getElem_inj hn.nod).1 (e1.trans e2.symm)
  have hin : ∀ x ∈ A.drop (j + 1), ∃ i, j < i ∧ A[i]? = some x := fun x hx => by
    obtain ⟨i, hi⟩ := List.getElem?_of_mem hx
    rw [List.getElem?_drop] at hi
    exact ⟨j + 1 + i, by omega, hi⟩
  have hne : ∀ x ∈ A.drop (j + 1), x ≠ v := fun x hx e => by
    obtain ⟨i, h1, h2⟩ := hin x hx
    rw [e] at h2
    have := hat i j v h2 hv
    omega
  obtain ⟨jo, jw, jl, jb, ji⟩ := hJ
  rw [List.take_length] at jl jb ji
  refine ⟨fun x hx => ?_, fun x hx => ?_⟩
  · rw [hd] at hx
    rcases List.mem_cons.1 hx with rfl | hx
    · have hnw : ∀ w : Nat, adj T x w → w ≠ x := fun w ha e => irr x (by rw [e] at ha; exact ha)
      refine ⟨jw, fun w ha hu => ?_, fun w ha h1 h2 => jb w ha h1 h2, ?_⟩
      · rw [jo w (hnw w ha)]; exact jl w ha hu
      · rcases ji with h1 | ⟨w, ha, ⟨h1, h2⟩ | h1⟩
        · exact .inl h1
        · exact .inr ⟨w, ha, .inl ⟨h1, by rw [jo w (hnw w ha)]; exact h2⟩⟩
        · exact .inr ⟨w, ha, .inr h1⟩
    · have hL := h.done x hx
      have hx2 := jo x (hne x hx)
      obtain ⟨ix, hix, hxa⟩ := hin x hx
      have hch : ∀ w, U w = some x → w ≠ v := fun w hu e => by
        obtain ⟨_, p, q, hpq, h1, h2⟩ := hn.ups w x hu
        rw [e] at h2
        have := hat p ix x h1 hxa
        have := hat q j v h2 hv
        omega
      refine ⟨by rw [hx2]; exact hL.own, fun w ha hu => ?_, fun w ha h1 h2 => by rw [hx2]; exact hL.back w ha h1 h2, ?_⟩
      · rw [hx2, jo w (hch w hu)]; exact hL.below w ha hu
      · rcases hL.is with h1 | ⟨w, ha, ⟨h1, h2⟩ | ⟨h1, h2, h3⟩⟩
        · exact .inl (by rw [hx2]; exact h1)
        · exact .inr ⟨w, ha, .inl ⟨h1, by rw [hx2, jo w (hch w h1)]; exact h2⟩⟩
        · exact .inr ⟨w, ha, .inr ⟨h1, h2, by rw [hx2]; exact h3⟩⟩
  · rw [hd, List.mem_cons, not_or] at hx
    rw [jo x hx.1]
    exact h.rest x hx.2
/-- All are reckoned. -/
theorem SI.all {T : List (List Int)} {N : Nat} {A : List Nat} {U : Nat → Option Nat} {F : Nat → Nat} (hT : Tab T N) (sym : ∀ a b, adj T a b → adj T b a) (hn : NI T N N A U) (h : SI T A U 0 F) (v : Nat) : LowFix (adj T) U (numF A) F v := by
  by_cases hv : v < N
  · exact h.done v (by rw [List.drop_zero]; exact hn.done v hv hv)
  · have hno : ∀ w, ¬ adj T v w := fun w ha => hv (hT.lt (sym _ _ ha))
    have he : F v = numF A v := h.rest v (by rw [List.drop_zero]; exact fun hm => hv (hn.lt v hm))
    exact ⟨Nat.le_of_eq he, (fun w ha => absurd ha (hno w)), (fun w ha => absurd ha (hno w)), .inl he⟩
end
section
set_option maxRecDepth 100000

/-- Who is met, and from whom, when the first k vertices are gone through. -/
inductive MetR (T : List (List Int)) (N : Nat) : Nat → List Nat → (Nat → Option Nat) → Prop
  | zero : MetR T N 0 [] (fun _ => none)
  | skip {k : Nat} {A : List Nat} {U : Nat → Option Nat} : MetR T N k A U → k ∈ A → MetR T N (k + 1) A U
  | step {k m : Nat} {A : List Nat} {U : Nat → Option Nat} : MetR T N k A U → k ∉ A → (wrun T N k m).list = [] → MetR T N (k + 1) (A ++ (wrun T N k m).order) (stepU (wrun T N k m) U)
theorem MetR.uniq {T : List (List Int)} {N k : Nat} {A A' : List Nat} {U U' : Nat → Option Nat} (h : MetR T N k A U) (g : MetR T N k A' U') : A = A' ∧ U = U' := by
  induction h generalizing A' U' with
  | zero => cases g; exact ⟨rfl, rfl⟩
  | skip h hk ih =>
    cases g with
    | skip g hk' => exact ih g
    | step g hk' _ =>
      obtain ⟨rfl, rfl⟩ := ih g
      exact absurd hk hk'
  | step h hk hl ih =>
    cases g with
    | skip g hk' =>
      obtain ⟨rfl, rfl⟩ := ih g
      exact absurd hk' hk
    | step g hk' hl' =>
      obtain ⟨rfl, rfl⟩ := ih g
      rw [wrun_end hl hl']
      exact ⟨rfl, rfl⟩
/-- What is known when the first k vertices are met, with the order that the walks give. -/
structure NR (T : List (List Int)) (N k : Nat) (A : List Nat) (U : Nat → Option Nat) : Prop extends NI T N k A U where
  met : MetR T N k A U
theorem NR.start (T : List (List Int)) (N : Nat) : NR T N 0 [] (fun _ => none) := ⟨NI.start T N, .zero⟩
theorem NR.skip {T : List (List Int)} {N k : Nat} {A : List Nat} {U : Nat → Option Nat} (h : NR T N k A U) (hk : k ∈ A) : NR T N (k + 1) A U := ⟨h.toNI.skip hk, h.met.skip hk⟩
theorem NR.step {T : List (List Int)} {N k m : Nat} {A : List Nat} {U : Nat → Option Nat} (sym : ∀ a b, adj T a b → adj T b a) (h : NR T N k A U) (hk : k ∉ A) {s : St} (hs : Dfs T N k s) (hl : s.list = []) (he : s = wrun T N k m) : NR T N (k + 1) (A ++ s.order) (stepU s U) := by
  refine ⟨h.toNI.step sym hk hs hl, ?_⟩
  subst he
  exact h.met.step hk hl
theorem lowfix_le {adj : Nat → Nat → Prop} {up : Nat → Option Nat} {num F G : Nat → Nat} {n : Nat} (Fo : Forest n adj up num) (h : ∀ v, LowFix adj up num F v) (g : ∀ v, LowFix adj up num G v) {M : Nat} (hM : ∀ v, num v ≤ M) : ∀ (k v : Nat), M - num v ≤ k → F v ≤ G v := by
  intro k
  induction k with
  | zero =>
    intro v hv
    rcases (g v).is with e | ⟨w, ha, ⟨hu, e⟩ | ⟨h1, h2, e⟩⟩
    · rw [e]; exact (h v).own
    · have h4 := (Fo.ups _ _ hu).1
      have h5 := hM w
      omega
    · rw [e]; exact (h v).back w ha h1 h2
  | succ k ih =>
    intro v hv
    rcases (g v).is with e | ⟨w, ha, ⟨hu, e⟩ | ⟨h1, h2, e⟩⟩
    · rw [e]; exact (h v).own
    · have h4 := (Fo.ups _ _ hu).1
      have h5 := hM w
      rw [e]
      exact Nat.le_trans ((h v).below w ha hu) (ih w (by omega))
    · rw [e]; exact (h v).back w ha h1 h2
/-- What is low is one number alone. -/
theorem lowfix_eq {adj : Nat → Nat → Prop} {up : Nat → Option Nat} {num F G : Nat → Nat} {n : Nat} (Fo : Forest n adj up num) (h : ∀ v, LowFix adj up num F v) (g : ∀ v, LowFix adj up num G v) {M : Nat} (hM : ∀ v, num v ≤ M) (v : Nat) : F v = G v :=
  Nat.le_antisymm (lowfix_le Fo h g hM _ v (Nat.le_refl _)) (lowfix_le Fo g h hM _ v (Nat.le_refl _))
theorem numF_le (A : List Nat) (v : Nat) : numF A v ≤ A.length + 1 := by
  unfold numF
  have := List.idxOf_le_length (a := v) (l := A)
  omega
/-- What a search tells. -/
def lowL (N : Nat) (A : List Nat) (U : Nat → Option Nat) (F : Nat → Nat) : List (Int × Int × Int) := (List.range N).map fun v => (((numF A v : Nat) : Int), upZ U v, ((F v : Nat) : Int))
theorem lowL_length (N : Nat) (A : List Nat) (U : Nat → Option Nat) (F : Nat → Nat) : (lowL N A U F).length = N := by simp [lowL]
theorem lowL_at {N v : Nat} (A : List Nat) (U : Nat → Option Nat) (F : Nat → Nat) (h : v < N) : (lowL N A U F)[v]? = some (((numF A v : Nat) : Int), upZ U v, ((F v : Nat) : Int)) := by simp [lowL, h]
theorem lowL_put {N v : Nat} (A : List Nat) (U : Nat → Option Nat) (F : Nat → Nat) (z : Nat) : (lowL N A U F).set v (((numF A v : Nat) : Int), upZ U v, ((z : Nat) : Int)) = lowL N A U (putF F v z) := by
  apply List.ext_getElem?
  intro i
  by_cases hi : i < N
  · rw [lowL_at A U _ hi]
    by_cases e : v = i
    · subst e
      rw [List.getElem?_set_self (by rw [lowL_length]; exact hi), putF_self]
    · rw [List.getElem?_set_ne e, lowL_at A U F hi, putF_ne F z (fun e2 => e e2.symm)]
  · rw [List.getElem?_eq_none (by rw [List.length_set, lowL_length]; omega), List.getElem?_eq_none (by rw [lowL_length]; omega)]
/-- From whom a vertex was met, as a test. -/
theorem upZ_is (U : Nat → Option Nat) (w v : Nat) : upZ U w = (v : Int) ↔ U w = some v := by
  unfold upZ
  cases U w with
  | none => simp
  | some u =>
    show ((u : Nat) : Int) = (v : Int) ↔ some u = some v
    constructor
    · intro h
      have : u = v := by omega
      rw [this]
    · intro h
      injection h with h
      omega
end
section
set_option maxRecDepth 100000
open Go.RowKit

/-- Who was met as the i-th, of those below k. -/
def ordP (A : List Nat) (N k : Nat) : List Int := (List.range N).map fun i => if gn A i < k then ((gn A i : Nat) : Int) else 0
theorem ordP_length (A : List Nat) (N k : Nat) : (ordP A N k).length = N := by simp [ordP]
theorem ordP_zero (A : List Nat) (N : Nat) : ordP A N 0 = List.replicate N 0 := by
  apply List.ext_getElem?
  intro i
  by_cases h : i < N
  · simp [ordP, h]
  · rw [List.getElem?_eq_none (by rw [ordP_length]; omega), List.getElem?_eq_none (by simp; omega)]
theorem perm_idx {N v : Nat} {A : List Nat} (h : Perm N A) (hv : v < N) : A.idxOf v < N ∧ gn A (A.idxOf v) = v := by
  have hm := h.mem hv
  have hl := List.idxOf_lt_length_iff.2 hm
  refine ⟨by rw [← h.len]; exact hl, ?_⟩
  unfold gn
  rw [List.getD_eq_getElem?_getD, List.getElem?_eq_getElem hl]
  exact List.getElem_idxOf hl
theorem ordP_step {N k : Nat} {A : List Nat} (h : Perm N A) (hk : k < N) : (ordP A N k).set (A.idxOf k) (k : Int) = ordP A N (k + 1) := by
  obtain ⟨h1, h2⟩ := perm_idx h hk
  apply List.ext_getElem?
  intro i
  by_cases hi : i < N
  · by_cases e : A.idxOf k = i
    · subst e
      rw [List.getElem?_set_self (by rw [ordP_length]; exact hi)]
      simp [ordP, hi, h2]
    · rw [List.getElem?_set_ne e]
      have hne : gn A i ≠ k := fun e2 => e (h.inj h1 hi (by rw [h2, e2]))
      have h3 : (gn A i < k + 1) ↔ gn A i < k := by omega
      simp [ordP, hi, h3]
  · rw [List.getElem?_eq_none (by rw [List.length_set, ordP_length]; omega), List.getElem?_eq_none (by rw [ordP_length]; omega)]
theorem ordP_all {N : Nat} {A : List Nat} (h : Perm N A) : ordP A N N = iz A := by
  apply List.ext_getElem?
  intro i
  by_cases hi : i < N
  · have := h.gn_lt hi
    rw [iz_at (by rw [h.len]; exact hi)]
    simp [ordP, hi, this]
  · rw [List.getElem?_eq_none (by rw [ordP_length]; omega), List.getElem?_eq_none (by rw [iz_length, h.len]; omega)]
/-- Where blocks begin, of those that were met first. -/
structure OutI (N : Nat) (A : List Nat) (U : Nat → Option Nat) (low : Nat → Nat) (t : Nat) (O : List Int) : Prop where
  len : O.length = N
  val : ∀ v ∈ A.take t, ∃ o : Nat, gd O v = (o : Int) ∧ o < N
  root : ∀ v ∈ A.take t, U v = none → gd O v = (v : Int)
  yes : ∀ v ∈ A.take t, ∀ u, U v = some u → numF A u ≤ low v → gd O v = (v : Int)
  no : ∀ v ∈ A.take t, ∀ u, U v = some u → low v < numF A u → gd O v = gd O u
theorem OutI.start (N : Nat) (A : List Nat) (U : Nat → Option Nat) (low : Nat → Nat) : OutI N A U low 0 (List.replicate N 0) := ⟨by simp, by simp, by simp, by simp, by simp⟩
theorem gd_at (O : List Int) (v : Nat) (h : v < O.length) : O[v]? = some (gd O v) := by simp [gd, List.getD, List.getElem?_eq_getElem h]
theorem gd_set5 {O : List Int} {v x : Nat} {z : Int} (hv : v < O.length) : gd (O.set v z) x = if x = v then z else gd O x := gd_set hv
/-- One more is told. -/
theorem OutI.next {N : Nat} {A : List Nat} {U : Nat → Option Nat} {low : Nat → Nat} {t v o : Nat} {O : List Int} (h : OutI N A U low t O) (hA : Perm N A) (ups : ∀ v u, U v = some u → ∃ i j : Nat, i < j ∧ A[i]? = some u ∧ A[j]? = some v) (hv : A[t]? = some v) (ho : o < N) (h1 : U v = none → o = v) (h2 : ∀ u, U v = some u → numF A u ≤ low v → o = v) (h3 : ∀ u, U v = some u → low v < numF A u → gd O u = (o : Int)) : OutI N A U low (t + 1) (O.set v (o : Int)) := by
  have hvN := hA.lt v (List.mem_of_getElem? hv)
  have hvl : v < O.length := by rw [h.len]; exact hvN
  have htk : A.take (t + 1) = A.take t ++ [v] := by rw [List.take_add_one, hv]; rfl
  have hat : ∀ (i j x : Nat), A[i]? = some x → A[j]? = some x → i = j := fun i j x a b => by
    obtain ⟨l1, e1⟩ := List.getElem?_eq_some_iff.1 a
    obtain ⟨l2, e2⟩ := List.getElem?_eq_some_iff.1 b
    exact (List.getElem_inj hA.nod).1 (e1.trans e2.symm)
  have hold : ∀ x ∈ A.take t, x ≠ v := fun x hx e => by
    subst e
    obtain ⟨i, hi⟩ := List.getElem?_of_mem hx
    have hil := (List.getElem?_eq_some_iff.1 hi).1
    rw [List.length_take] at hil
    rw [List.getElem?_take_of_lt (by omega)] at hi
    have := hat i t x hi hv
    omega
  have hup : ∀ x u, U x = some u → (x ∈ A.take t ∨ x = v) → u ∈ A.take t := fun x u e hx => by
    obtain ⟨i, j, hij, a, b⟩ := ups x u e
    have hjt : j ≤ t := by
      rcases hx with hx | hx
      · obtain ⟨q, hq⟩ := List.getElem?_of_mem hx
        have hql := (List.getElem?_eq_some_iff.1 hq).1
        rw [List.length_take] at hql
        rw [List.getElem?_take_of_lt (by omega)] at hq
        have := hat q j x hq b
        omega
      · subst hx
        have := hat t j x hv b
        omega
    exact List.mem_of_getElem? (i := i) (by rw [List.getElem?_take_of_lt (by omega)]; exact a)
  have gset : ∀ x, gd (O.set v (o : Int)) x = if x = v then (o : Int) else gd O x := fun x => gd_set hvl
  have hgo : ∀ x ∈ A.take t, gd (O.set v (o : Int)) x = gd O x := fun x hx => by rw [gset, if_neg (hold x hx)]
  refine ⟨by rw [List.length_set]; exact h.len, fun x hx => ?_, fun x hx e => ?_, fun x hx u e hl => ?_, fun x hx u e hl => ?_⟩
  all_goals
    rw [htk, List.mem_append, List.mem_singleton] at hx
  · rcases hx with hx | hx
    · rw [hgo x hx]; exact h.val x hx
    · subst hx
      exact ⟨o, by rw [gset, if_pos rfl], ho⟩
  · rcases hx with hx | hx
    · rw [hgo x hx]; exact h.root x hx e
    · subst hx
      rw [gset, if_pos rfl, h1 e]
  · rcases hx with hx | hx
    · rw [hgo x hx]; exact h.yes x hx u e hl
    · subst hx
      rw [gset, if_pos rfl, h2 u e hl]
  · rcases hx with hx | hx
    · rw [hgo x hx, hgo u (hup x u e (.inl hx))]; exact h.no x hx u e hl
    · subst hx
      rw [hgo u (hup x u e (.inr rfl)), gset, if_pos rfl, h3 u e hl]
set_option maxHeartbeats 16000000 in
theorem begin_any (N B : Nat) (A : List Nat) (U : Nat → Option Nat) (low : Nat → Nat) (L : List (Int × Int × Int)) (w : World) (hL : OwnT w B L) (hN : L.length = N) (hs : N ≤ 1000) (hA : Perm N A) (ups : ∀ v u, U v = some u → ∃ i j : Nat, i < j ∧ A[i]? = some u ∧ A[j]? = some v) (hLw : ∀ v, v < N → lw L v = (((numF A v : Nat) : Int), upZ U v, ((low v : Nat) : Int))) :
    Calls Try.prog 54 #[.slice (some ⟨B, 0, none⟩) N N] w fun e w' => ∃ (Bo : Nat) (O : List Int), e = .returned (.slice (some ⟨Bo, 0, none⟩) N N) ∧ OwnZ w' Bo O ∧ OutI N A U low N O ∧ w.heap.size ≤ Bo ∧ Below w.heap.size w w' := by
  have HM0 := Lib.hid (make_ints N (by omega) w)
  have hBl := lt_of_block hL
  obtain ⟨W, hW⟩ : ∃ W, W = w.alloc (.cells (zs (List.replicate N 0)).toArray 3 (0, 0)) := ⟨_, rfl⟩
  have hb : Below w.heap.size w W := by rw [hW]; exact (Below.refl _ _).alloc (Nat.le_refl _) _
  have HO0 : Hid (OwnZ W w.heap.size (ordP A N 0)) := by show _ = _; rw [hW, ordP_zero]; exact heap_alloc_new w _
  have HL := Lib.hid hL
  have HN := Lib.hid hN
  have HA := Lib.hid hA
  have HUPS := Lib.hid ups
  have HLW := Lib.hid hLw
  have HB := Lib.hid hb
  have HW := Lib.hid hW
  have HBL := Lib.hid hBl
  have hmk := HM0.out
  clear hL hN hA ups hLw hb hW hBl
  go_enter Try.func54, Try.ntmps54
  go_upto_region 2 with fail
  rw [← HW.out]
  obtain ⟨Bq, hBq⟩ : ∃ Bq, w.heap.size = Bq := ⟨_, rfl⟩
  have HBQ := Lib.hid hBq
  rw [hBq] at HO0 ⊢
  clear hmk HM0 hBq
  go_wp2_with fail
  go_loopw [15] (fun s15 wr => ∃ k : Nat, k ≤ N ∧ s15 = .int .i64 k ∧ Hid (OwnZ wr Bq (ordP A N k)) ∧ Hid (Below w.heap.size w wr)) (fun s15 _ => N - (intOf s15).toNat)
  case atStart => exact ⟨0, Nat.zero_le _, rfl, HO0, HB⟩
  case round =>
    clear HO0
    obtain ⟨k, hk, rfl, hO, hbel⟩ := hrel
    by_cases h1 : k < N
    · have t1 : decide ((k : Int) < (N : Int)) = true := by simp; omega
      have hK0 : (0 : Int) ≤ (k : Int) := by omega
      have hK1 : (k : Int) < (N : Nat) := by omega
      have hLr : OwnT wr B L := blk_below HL.out hbel.out
      obtain ⟨a0, a1, a2⟩ := hLr.at_ (lw_at (show k < L.length by rw [HN.out]; exact h1))
      rw [HLW.out k h1] at a0 a1 a2
      obtain ⟨q, hq⟩ : ∃ q, A.idxOf k = q := ⟨_, rfl⟩
      have hqN := (perm_idx HA.out h1).1
      have hst := ordP_step HA.out h1
      have hnum : ((numF A k : Nat) : Int) - 1 = (q : Nat) := by unfold numF; omega
      rw [hq] at hqN hst
      obtain ⟨nk, hnk⟩ : ∃ nk : Int, ((numF A k : Nat) : Int) = nk := ⟨_, rfl⟩
      rw [hnk] at a0 hnum
      obtain ⟨uk, huk⟩ : ∃ uk : Int, upZ U k = uk := ⟨_, rfl⟩
      obtain ⟨lk, hlk⟩ : ∃ lk : Int, ((low k : Nat) : Int) = lk := ⟨_, rfl⟩
      simp only [huk, hlk] at a1 a2
      obtain ⟨hQ0, hQ1⟩ : (0 : Int) ≤ (q : Int) ∧ (q : Int) < (N : Nat) := by omega
      have HST := Lib.hid hst
      have HOO := Lib.hid hO.out
      have hbw := lt_of_block hO.out
      have HBW := Lib.hid hbw
      have hcq : wr.cell? ⟨Bq, q, none⟩ ≠ none := by
        rw [hO.out.at_ (x := (ordP A N k).getD q 0) (by rw [List.getD_eq_getElem?_getD, List.getElem?_eq_getElem (by rw [ordP_length]; exact hqN)]; rfl)]
        simp
      clear hLr hq hqN hst hnk huk hlk hO
      go_upto_region 5 with fail
      obtain ⟨V, hV⟩ : ∃ V, V = wr.alloc (.cells #[.int .i64 nk, .int .i64 uk, .int .i64 lk] 57) := ⟨_, rfl⟩
      have hbV : Below wr.heap.size wr V := by rw [hV]; exact (Below.refl _ _).alloc (Nat.le_refl _) _
      have hVn : V.heap[wr.heap.size]? = some (.cells #[.int .i64 nk, .int .i64 uk, .int .i64 lk] 57 (0, 0)) := by rw [hV]; exact heap_alloc_new wr _
      rw [← hV]
      have HOV := Lib.hid (blk_below HOO.out hbV)
      have HBV := Lib.hid (next_below hbel.out hbV)
      have v0 := cell_of hVn 0
      obtain ⟨pe, hpe⟩ : ∃ pe, wr.heap.size = pe := ⟨_, rfl⟩
      rw [hpe] at v0 ⊢
      have hw1 : IntKind.i64.wrap (nk - 1) = (q : Int) := by rw [hnum]; exact IntWalk.i64_in _ (by omega)
      have HO2 : Hid (OwnZ (V.setCell ⟨Bq, q, none⟩ (.int .i64 (k : Nat))) Bq (ordP A N (k + 1))) := by
        have h := OwnZ.set (v := q) HOV.out (k : Int)
        rw [HST.out] at h
        exact h
      have HB2 : Hid (Below w.heap.size w (V.setCell ⟨Bq, q, none⟩ (.int .i64 (k : Nat)))) := HBV.out.setCell (p := ⟨Bq, q, none⟩) (by rw [← HBQ.out]; exact Nat.le_refl _) _
      have w0 : V.cell? ⟨Bq, q, none⟩ = some (.int .i64 (gd (ordP A N k) q)) := by
        refine OwnZ.at_ HOV.out ?_
        unfold gd
        rw [List.getD_eq_getElem?_getD, List.getElem?_eq_getElem (by rw [ordP_length]; omega)]
        rfl
      have w1 := free_of HOV.out q
      clear hV hbV hVn hpe hcq a0 a1 a2 hbel hbw
      go_wp2_with fail
      go_roundw
      case rel => exact ⟨k + 1, by omega, by go_num, HO2, HB2⟩
      case measure => simp [intOf]; omega
    · obtain rfl : N = k := by omega
      have t1 : decide ((N : Int) < (N : Int)) = false := by simp
      rw [ordP_all HA.out] at hO
      have hmk := make_ints N (by omega) wr
      obtain ⟨X, hX⟩ : ∃ X, X = wr.alloc (.cells (zs (List.replicate N 0)).toArray 3 (0, 0)) := ⟨_, rfl⟩
      have hbX : Below wr.heap.size wr X := by rw [hX]; exact (Below.refl _ _).alloc (Nat.le_refl _) _
      have HX0 : Hid (OwnZ X wr.heap.size (List.replicate N 0)) := by show _ = _; rw [hX]; exact heap_alloc_new wr _
      have HOX := Lib.hid (blk_below hO.out hbX)
      have HBX := Lib.hid (next_below hbel.out hbX)
      have hql := lt_of_block hO.out
      have HX := Lib.hid hX
      have HI0 := Lib.hid (OutI.start N A U low)
      clear hO hX hbX hbel
      go_upto_region 8 with fail
      rw [← HX.out]
      obtain ⟨Bo, hBo⟩ : ∃ Bo, wr.heap.size = Bo := ⟨_, rfl⟩
      rw [hBo] at HX0 hql ⊢
      have HQO : Hid (Bq < Bo) := hql
      clear hmk hBo hql HX
      go_wp2_with fail
      go_loopw [32] (fun s32 wn => ∃ (t : Nat) (O : List Int), t ≤ N ∧ s32 = .int .i64 t ∧ Hid (OwnZ wn Bo O) ∧ Hid (OutI N A U low t O) ∧ Hid (OwnZ wn Bq (iz A)) ∧ Hid (Below w.heap.size w wn)) (fun s32 _ => N - (intOf s32).toNat)
      case atStart => exact ⟨0, _, Nat.zero_le _, rfl, HX0, HI0, HOX, HBX⟩
      case round =>
        clear HX0 HI0 HOX HBX
        obtain ⟨t, O, ht, rfl, hO, hI, hQ, hbel⟩ := hrel
        by_cases h2 : t < N
        · have t2 : decide ((t : Int) < (N : Int)) = true := by simp; omega
          have hT0 : (0 : Int) ≤ (t : Int) := by omega
          have hT1 : (t : Int) < (N : Nat) := by omega
          have hol := hI.out.len
          obtain ⟨v, hv⟩ : ∃ v, gn A t = v := ⟨_, rfl⟩
          have hvN : v < N := by rw [← hv]; exact HA.out.gn_lt h2
          have hAt : A[t]? = some v := by rw [← hv]; exact gn_at (by rw [HA.out.len]; exact h2)
          have c0 : wr.cell? ⟨Bq, t, none⟩ = some (.int .i64 (v : Nat)) := OwnZ.at_ hQ.out (by rw [← hv]; exact iz_at (by rw [HA.out.len]; exact h2))
          have hLr : OwnT wr B L := blk_below HL.out hbel.out
          obtain ⟨_, a1, a2⟩ := hLr.at_ (lw_at (show v < L.length by rw [HN.out]; exact hvN))
          rw [HLW.out v hvN] at a1 a2
          simp only at a1 a2
          obtain ⟨hV0, hV1⟩ : (0 : Int) ≤ (v : Int) ∧ (v : Int) < (N : Nat) := by omega
          have HAT := Lib.hid hAt
          have HQ : Hid (∀ q : Nat, OwnZ (wr.drewN q) Bo O ∧ OwnZ (wr.drewN q) Bq (iz A) ∧ Below w.heap.size w (wr.drewN q)) := fun q => ⟨hO.out, hQ.out, below_drewN hbel.out q⟩
          have HII := Lib.hid hI.out
          have HOL := Lib.hid hol
          have HVN := Lib.hid hvN
          clear hv hAt hO hI hQ
          cases hU : U v with
          | none =>
            rw [show upZ U v = -1 by unfold upZ; rw [hU]] at a1
            have d1 : decide ((-1 : Int) < 0) = true := by decide
            have HU := Lib.hid hU
            clear hU hLr hbel hol hvN
            go_upto_region 12 with fail
            go_quiet (fail)
            have hq := HQ.out nq
            generalize wr.drewN nq = w4 at hq ⊢
            obtain ⟨hq1, hq2, hq3⟩ := hq
            have hol := HOL.out
            have hvN := HVN.out
            clear c0 a1 a2
            have HO2 : Hid (OwnZ (w4.setCell ⟨Bo, v, none⟩ (.int .i64 (v : Nat))) Bo (O.set v (v : Int))) := OwnZ.set hq1 (v : Int)
            have HI2 : Hid (OutI N A U low (t + 1) (O.set v (v : Int))) := HII.out.next HA.out HUPS.out HAT.out HVN.out (fun _ => rfl) (fun _ _ _ => rfl) (fun u e => by have := HU.out; rw [this] at e; cases e)
            have HQ2 : Hid (OwnZ (w4.setCell ⟨Bo, v, none⟩ (.int .i64 (v : Nat))) Bq (iz A)) := by
              show _ = _
              rw [heap_setCell_other _ _ _ _ (by show Bq ≠ Bo; have := HQO.out; omega)]
              exact hq2
            have HB2 : Hid (Below w.heap.size w (w4.setCell ⟨Bo, v, none⟩ (.int .i64 (v : Nat)))) := hq3.setCell (p := ⟨Bo, v, none⟩) (by have := HQO.out; have := HBQ.out; show w.heap.size ≤ Bo; omega) _
            have w0 : w4.cell? ⟨Bo, v, none⟩ = some (.int .i64 (gd O v)) := OwnZ.at_ hq1 (gd_at O v (by rw [hol]; exact hvN))
            have w1 := free_of hq1 v
            clear hq1 hq2 hq3 hol hvN
            go_wp2_with fail
            go_roundw
            case rel => exact ⟨t + 1, _, by omega, by go_num, HO2, HI2, HQ2, HB2⟩
            case measure => simp [intOf]; omega
          | some u =>
            obtain ⟨i, j, hij, hiu, hjv⟩ := HUPS.out v u hU
            have huN : u < N := HA.out.lt u (List.mem_of_getElem? hiu)
            rw [show upZ U v = (u : Int) by unfold upZ; rw [hU]] at a1
            obtain ⟨b0, _, _⟩ := hLr.at_ (lw_at (show u < L.length by rw [HN.out]; exact huN))
            rw [HLW.out u huN] at b0
            simp only at b0
            have d1 : decide ((u : Int) < 0) = false := by simp
            obtain ⟨hU0, hU1⟩ : (0 : Int) ≤ (u : Int) ∧ (u : Int) < (N : Nat) := by omega
            obtain ⟨nu, hnu⟩ : ∃ nu, numF A u = nu := ⟨_, rfl⟩
            obtain ⟨lv, hlv⟩ : ∃ lv, low v = lv := ⟨_, rfl⟩
            rw [hnu] at b0
            rw [hlv] at a2
            have HU := Lib.hid hU
            have HNU := Lib.hid hnu
            have HLV := Lib.hid hlv
            have HUN := Lib.hid huN
            have hum : u ∈ A.take t := by
              have hjt : j = t := by
                obtain ⟨l1, e1⟩ := List.getElem?_eq_some_iff.1 HAT.out
                obtain ⟨l2, e2⟩ := List.getElem?_eq_some_iff.1 hjv
                exact (List.getElem_inj HA.out.nod).1 (e2.trans e1.symm)
              exact List.mem_of_getElem? (i := i) (by rw [List.getElem?_take_of_lt (by omega)]; exact hiu)
            obtain ⟨o, ho, hoN⟩ := HII.out.val u hum
            have HO := Lib.hid ho
            have HON := Lib.hid hoN
            by_cases hle : nu ≤ lv
            · have d2 : decide ((nu : Int) ≤ (lv : Int)) = true := by simp; omega
              have HLE := Lib.hid hle
              clear hU hnu hlv hle hij hiu hjv hLr hbel hol hvN huN hum ho hoN
              go_upto_region 12 with fail
              go_quiet (fail)
              have hq := HQ.out nq
              generalize wr.drewN nq = w4 at hq ⊢
              obtain ⟨hq1, hq2, hq3⟩ := hq
              have hol := HOL.out
              have hvN := HVN.out
              clear c0 a1 a2 b0
              have HO2 : Hid (OwnZ (w4.setCell ⟨Bo, v, none⟩ (.int .i64 (v : Nat))) Bo (O.set v (v : Int))) := OwnZ.set hq1 (v : Int)
              have HI2 : Hid (OutI N A U low (t + 1) (O.set v (v : Int))) := HII.out.next HA.out HUPS.out HAT.out HVN.out (fun _ => rfl) (fun _ _ _ => rfl) (fun u' e hl => by have h3 := HU.out; rw [h3] at e; injection e with e; subst e; have := HLE.out; have := HNU.out; have := HLV.out; omega)
              have HQ2 : Hid (OwnZ (w4.setCell ⟨Bo, v, none⟩ (.int .i64 (v : Nat))) Bq (iz A)) := by
                show _ = _
                rw [heap_setCell_other _ _ _ _ (by show Bq ≠ Bo; have := HQO.out; omega)]
                exact hq2
              have HB2 : Hid (Below w.heap.size w (w4.setCell ⟨Bo, v, none⟩ (.int .i64 (v : Nat)))) := hq3.setCell (p := ⟨Bo, v, none⟩) (by have := HQO.out; have := HBQ.out; show w.heap.size ≤ Bo; omega) _
              have w0 : w4.cell? ⟨Bo, v, none⟩ = some (.int .i64 (gd O v)) := OwnZ.at_ hq1 (gd_at O v (by rw [hol]; exact hvN))
              have w1 := free_of hq1 v
              clear hq1 hq2 hq3 hol hvN
              go_wp2_with fail
              go_roundw
              case rel => exact ⟨t + 1, _, by omega, by go_num, HO2, HI2, HQ2, HB2⟩
              case measure => simp [intOf]; omega
            · have d2 : decide ((nu : Int) ≤ (lv : Int)) = false := by simp; omega
              have HLE := Lib.hid hle
              clear hU hnu hlv hle hij hiu hjv hLr hbel hol hvN huN hum ho hoN
              go_upto_region 12 with fail
              go_quiet (fail)
              have hq := HQ.out nq
              generalize wr.drewN nq = w4 at hq ⊢
              obtain ⟨hq1, hq2, hq3⟩ := hq
              have hol := HOL.out
              have hvN := HVN.out
              have w2 : w4.cell? ⟨Bo, u, none⟩ = some (.int .i64 (o : Nat)) := by
                have h := OwnZ.at_ hq1 (gd_at O u (by rw [hol]; exact HUN.out))
                rw [HO.out] at h
                exact h
              clear c0 a1 a2 b0
              have HO2 : Hid (OwnZ (w4.setCell ⟨Bo, v, none⟩ (.int .i64 (o : Nat))) Bo (O.set v (o : Int))) := OwnZ.set hq1 (o : Int)
              have HI2 : Hid (OutI N A U low (t + 1) (O.set v (o : Int))) := HII.out.next HA.out HUPS.out HAT.out HON.out (fun e => by have h3 := HU.out; rw [h3] at e; cases e) (fun u' e hl => by have h3 := HU.out; rw [h3] at e; injection e with e; subst e; exact absurd hl (by have := HLE.out; have := HNU.out; have := HLV.out; omega)) (fun u' e _ => by have h3 := HU.out; rw [h3] at e; injection e with e; subst e; exact HO.out)
              have HQ2 : Hid (OwnZ (w4.setCell ⟨Bo, v, none⟩ (.int .i64 (o : Nat))) Bq (iz A)) := by
                show _ = _
                rw [heap_setCell_other _ _ _ _ (by show Bq ≠ Bo; have := HQO.out; omega)]
                exact hq2
              have HB2 : Hid (Below w.heap.size w (w4.setCell ⟨Bo, v, none⟩ (.int .i64 (o : Nat)))) := hq3.setCell (p := ⟨Bo, v, none⟩) (by have := HQO.out; have := HBQ.out; show w.heap.size ≤ Bo; omega) _
              have w0 : w4.cell? ⟨Bo, v, none⟩ = some (.int .i64 (gd O v)) := OwnZ.at_ hq1 (gd_at O v (by rw [hol]; exact hvN))
              have w1 := free_of hq1 v
              clear hq1 hq2 hq3 hol hvN
              go_wp2_with fail
              go_roundw
              case rel => exact ⟨t + 1, _, by omega, by go_num, HO2, HI2, HQ2, HB2⟩
              case measure => simp [intOf]; omega
        · obtain rfl : N = t := by omega
          have t2 : decide ((N : Int) < (N : Int)) = false := by simp
          go_wp2_with fail
          go_ret
          exact ⟨Bo, O, rfl, hO.out, hI.out, by have := HQO.out; have := HBQ.out; omega, hbel.out⟩
end
section
open Go.RowKit

/-- The edges of each key. -/
def blkO (L : List (Int × Int)) (own : Nat → Nat) (k : Nat) : List (List (Int × Int)) := (gath own k).map fun l => l.map fun i => L.getD i (0, 0)
theorem blkO_length (L : List (Int × Int)) (own : Nat → Nat) (k : Nat) : (blkO L own k).length = (firsts own k).length := by simp [blkO, gath_length]
theorem blkO_le (L : List (Int × Int)) (own : Nat → Nat) (k : Nat) : (blkO L own k).length ≤ k := by rw [blkO_length]; exact firsts_le own k
theorem blkO_new {L : List (Int × Int)} {own : Nat → Nat} {k : Nat} {e : Int × Int} (he : L[k]? = some e) (h : place own k (own k) = none) : (blkO L own k ++ [[]]).set (blkO L own k).length [e] = blkO L own (k + 1) := by
  unfold blkO
  rw [gath_new (place_none.1 h), List.map_append, List.set_append_right _ _ (by simp)]
  simp [List.getD, he]
theorem blkO_old {L : List (Int × Int)} {own : Nat → Nat} {k at_ : Nat} {e : Int × Int} (he : L[k]? = some e) (h : place own k (own k) = some at_) : ∃ x, (blkO L own k)[at_]? = some x ∧ (blkO L own k).set at_ (x ++ [e]) = blkO L own (k + 1) := by
  obtain ⟨l, h1, h2⟩ := gath_old h
  refine ⟨l.map fun i => L.getD i (0, 0), by unfold blkO; rw [List.getElem?_map, h1]; rfl, ?_⟩
  unfold blkO
  rw [h2, List.map_set]
  simp [List.getD, he]
theorem blkO_sz {L : List (Int × Int)} {own : Nat → Nat} {k j : Nat} {x : List (Int × Int)} (h : (blkO L own k)[j]? = some x) : x.length ≤ k := by
  unfold blkO gath at h
  rw [List.getElem?_map, List.getElem?_map] at h
  cases hf : (firsts own k)[j]? with
  | none => rw [hf] at h; cases h
  | some f =>
    rw [hf] at h
    simp only [Option.map_some, Option.some.injEq] at h
    subst h
    have := List.length_filter_le (fun j => own j == own f) (List.range k)
    rw [List.length_range] at this
    rw [List.length_map]
    exact this
/-- Where an owner's edges are put, as the map says it. -/
def plcZ (own : Nat → Nat) (k : Nat) (z : Int) : Option Int := if 0 ≤ z then (place own k z.toNat).map fun (a : Nat) => (a : Int) else none
theorem plcZ_nat (own : Nat → Nat) (k v : Nat) : plcZ own k (v : Int) = (place own k v).map fun (a : Nat) => (a : Int) := by simp [plcZ]
theorem plcZ_zero (own : Nat → Nat) : plcZ own 0 = fun _ => none := by
  funext z
  unfold plcZ
  split
  · rw [(place_none (own := own) (k := 0) (key := z.toNat)).2 (fun j hj => by omega)]; rfl
  · rfl
theorem plcZ_new {own : Nat → Nat} {k : Nat} (h : place own k (own k) = none) (z : Int) : plcZ own (k + 1) z = if z = ((own k : Nat) : Int) then some (((firsts own k).length : Nat) : Int) else plcZ own k z := by
  unfold plcZ
  by_cases hz : 0 ≤ z
  · rw [if_pos hz, if_pos hz, place_new (place_none.1 h)]
    by_cases e : z = ((own k : Nat) : Int)
    · rw [if_pos e, if_pos (by omega)]; rfl
    · rw [if_neg e, if_neg (by omega)]
  · rw [if_neg hz, if_neg hz, if_neg (by omega)]
theorem plcZ_old {own : Nat → Nat} {k a : Nat} (h : place own k (own k) = some a) (z : Int) : plcZ own (k + 1) z = plcZ own k z := by
  obtain ⟨f, h1, h2⟩ := place_some h
  have hf := mem_firsts.1 (List.mem_of_getElem? h1)
  unfold plcZ
  split
  · rw [place_old hf.1 h2]
  · rfl
end
section
set_option maxRecDepth 100000
open Go.RowKit

/-- The end of an edge that was met later. -/
def loE (A : List Nat) (e : Int × Int) : Nat := if numF A e.2.toNat < numF A e.1.toNat then e.1.toNat else e.2.toNat
/-- By which key an edge is told: where the block of its later end begins. -/
def bkey (A : List Nat) (O : List Int) (E : List (Int × Int)) (i : Nat) : Nat := (gd O (loE A (E.getD i (0, 0)))).toNat
theorem adj_irr {N : Nat} {E : List (Int × Int)} (hg : rightG (N : Nat) E = true) (a : Nat) : ¬ adj (tabG N E) a a := by
  intro h
  have ha : a < N := by
    obtain ⟨y, e, hy⟩ := tabG_mem hg h
    omega
  have h2 := (hasG_adj hg ha ha).2 h
  unfold hasG at h2
  rw [decide_eq_true_iff] at h2
  have := rightG_mem hg h2
  simp only at this
  omega
theorem NI.perm {T : List (List Int)} {N : Nat} {A : List Nat} {U : Nat → Option Nat} (h : NI T N N A U) : Perm N A := by
  have hl : A.length = N := by
    apply Nat.le_antisymm
    · exact nod_le N A h.nod h.lt
    · have h1 := nod_le A.length ((List.range N).map fun v => A.idxOf v) (by
        unfold List.Nodup
        rw [List.pairwise_map]
        refine List.Pairwise.imp_of_mem ?_ List.nodup_range
        intro a b ha hb hne e
        have ma := h.done a (List.mem_range.1 ha) (List.mem_range.1 ha)
        have mb := h.done b (List.mem_range.1 hb) (List.mem_range.1 hb)
        apply hne
        have e1 := List.getElem_idxOf (List.idxOf_lt_length_iff.2 ma)
        have e2 := List.getElem_idxOf (List.idxOf_lt_length_iff.2 mb)
        rw [← e1, ← e2]
        simp only [e]) (fun x hx => by
        obtain ⟨v, hv, rfl⟩ := List.mem_map.1 hx
        exact List.idxOf_lt_length_iff.2 (h.done v (List.mem_range.1 hv) (List.mem_range.1 hv)))
      simpa using h1
  exact ⟨hl, h.lt, h.nod⟩
/-- All that a search, and where blocks begin, tell. -/
structure BlkS (N : Nat) (E : List (Int × Int)) (A : List Nat) (U : Nat → Option Nat) (F : Nat → Nat) (O : List Int) : Prop where
  nr : NR (tabG N E) N N A U
  lf : ∀ v, LowFix (adj (tabG N E)) U (numF A) F v
  oi : OutI N A U F N O
section
variable {N : Nat} {E : List (Int × Int)} {A : List Nat} {U : Nat → Option Nat} {F : Nat → Nat} {O : List Int}
theorem NR.forest (hg : rightG (N : Nat) E = true) (h : NR (tabG N E) N N A U) : Forest N (adj (tabG N E)) U (numF A) :=
  h.toNI.forest (tab_is hg) (fun _ _ h => tabG_sym hg h) (adj_irr hg)
theorem NR.up_lt (hg : rightG (N : Nat) E = true) (h : NR (tabG N E) N N A U) {v u : Nat} (e : U v = some u) : u < N ∧ v < N := (h.forest hg).lt _ _ ((h.forest hg).ups _ _ e).2
theorem low_uniq {A' : List Nat} {U' : Nat → Option Nat} {F' : Nat → Nat} (hg : rightG (N : Nat) E = true) (h : NR (tabG N E) N N A U) (l : ∀ v, LowFix (adj (tabG N E)) U (numF A) F v) (h' : NR (tabG N E) N N A' U') (l' : ∀ v, LowFix (adj (tabG N E)) U' (numF A') F' v) : A = A' ∧ U = U' ∧ ∀ v, F v = F' v := by
  obtain ⟨rfl, rfl⟩ := h.met.uniq h'.met
  exact ⟨rfl, rfl, fun v => lowfix_eq (h.forest hg) l l' (M := A.length + 1) (numF_le A) v⟩
theorem BlkS.uniq {A' : List Nat} {U' : Nat → Option Nat} {F' : Nat → Nat} {O' : List Int} (hg : rightG (N : Nat) E = true) (h : BlkS N E A U F O) (g : BlkS N E A' U' F' O') : A = A' ∧ U = U' ∧ (∀ v, F v = F' v) ∧ O = O' := by
  obtain ⟨rfl, rfl, hF⟩ := low_uniq hg h.nr h.lf g.nr g.lf
  have hP := h.nr.toNI.perm
  have hall : ∀ v, v < N → v ∈ A.take N := fun v hv => by rw [List.take_of_length_le (by rw [hP.len]; omega)]; exact hP.mem hv
  have key : ∀ (k v : Nat), numF A v ≤ k → v < N → gd O v = gd O' v := by
    intro k
    induction k with
    | zero => intro v hv; unfold numF at hv; omega
    | succ k ih =>
      intro v hk hv
      cases hu : U v with
      | none => rw [h.oi.root v (hall v hv) hu, g.oi.root v (hall v hv) hu]
      | some u =>
        have hul := (h.nr.up_lt hg hu).1
        have h3 := ((h.nr.forest hg).ups _ _ hu).1
        by_cases hl : numF A u ≤ F v
        · rw [h.oi.yes v (hall v hv) u hu hl, g.oi.yes v (hall v hv) u hu (by rw [← hF]; exact hl)]
        · rw [h.oi.no v (hall v hv) u hu (by omega), g.oi.no v (hall v hv) u hu (by rw [← hF]; omega)]
          exact ih u (by omega) hul
  refine ⟨rfl, rfl, hF, ?_⟩
  apply List.ext_getElem?
  intro i
  by_cases hi : i < N
  · rw [gd_at O i (by rw [h.oi.len]; exact hi), gd_at O' i (by rw [g.oi.len]; exact hi), key _ i (Nat.le_refl _) hi]
  · rw [List.getElem?_eq_none (by rw [h.oi.len]; omega), List.getElem?_eq_none (by rw [g.oi.len]; omega)]
/-- Of which block an edge is. -/
theorem BlkS.cls (hg : rightG (N : Nat) E = true) (h : BlkS N E A U F O) {i x y : Nat} (he : E[i]? = some ((x : Int), (y : Int))) : Cls (adj (tabG N E)) U x y (bkey A O E i) := by
  have hP := h.nr.toNI.perm
  have Fo := h.nr.forest hg
  have hall : ∀ v, v < N → v ∈ A.take N := fun v hv => by rw [List.take_of_length_le (by rw [hP.len]; omega)]; exact hP.mem hv
  obtain ⟨out, hout⟩ : ∃ out : Nat → Nat, out = fun v => if v < N then (gd O v).toNat else v := ⟨_, rfl⟩
  have hlt : ∀ v u, U v = some u → u < N ∧ v < N := fun v u e => h.nr.up_lt hg e
  have hin : ∀ v, v < N → out v = (gd O v).toNat := fun v hv => by rw [hout]; simp [hv]
  have hbeg : ∀ v, Beg (adj (tabG N E)) U v (out v) := fun v =>
    beg_out Fo h.lf (M := A.length + 1) (numF_le A)
      (fun v e => by
        by_cases hv : v < N
        · rw [hin v hv, h.oi.root v (hall v hv) e]; omega
        · rw [hout]; simp [hv])
      (fun v u e hl => by
        have hv := (hlt v u e).2
        rw [hin v hv, h.oi.yes v (hall v hv) u e hl]; omega)
      (fun v u e hl => by
        have hv := hlt v u e
        rw [hin v hv.2, hin u hv.1, h.oi.no v (hall v hv.2) u e hl])
      (numF A v) v (Nat.le_refl _)
  have hed := rightG_mem hg (List.mem_of_getElem? he)
  simp only at hed
  have ha : adj (tabG N E) x y := by
    refine (hasG_adj hg (by omega) (by omega)).1 ?_
    unfold hasG
    rw [decide_eq_true_iff, show min (x : Int) (y : Int) = x by omega, show max (x : Int) (y : Int) = y by omega]
    exact List.mem_of_getElem? he
  have hc := Fo.cls_low hbeg ha
  have hl : bkey A O E i = out (if numF A y < numF A x then x else y) := by
    rw [hin _ (by split <;> omega)]
    unfold bkey loE
    rw [show E.getD i (0, 0) = ((x : Int), (y : Int)) by simp [List.getD, he]]
    simp only [Int.toNat_natCast]
  rw [hl]
  exact hc
end
/-- A graph's blocks. -/
noncomputable def blkG (N : Nat) (E : List (Int × Int)) : List (List (Int × Int)) := by
  classical
  exact if h : ∃ G : List (List (Int × Int)), ∃ A U F O, BlkS N E A U F O ∧ G = blkO E (bkey A O E) E.length then h.choose else []
theorem BlkS.blk {N : Nat} {E : List (Int × Int)} {A : List Nat} {U : Nat → Option Nat} {F : Nat → Nat} {O : List Int} (hg : rightG (N : Nat) E = true) (h : BlkS N E A U F O) : blkG N E = blkO E (bkey A O E) E.length := by
  have hex : ∃ G : List (List (Int × Int)), ∃ A U F O, BlkS N E A U F O ∧ G = blkO E (bkey A O E) E.length := ⟨_, A, U, F, O, h, rfl⟩
  unfold blkG
  rw [dif_pos hex]
  obtain ⟨A', U', F', O', h', e⟩ := hex.choose_spec
  obtain ⟨rfl, rfl, _, rfl⟩ := h.uniq hg h'
  exact e
end
section
set_option maxRecDepth 100000
open Go.RowKit

theorem edge_adj5 {n p q : Nat} {E : List (Int × Int)} (hg : rightG (n : Nat) E = true) (h : ((p : Int), (q : Int)) ∈ E) : p < n ∧ q < n ∧ p < q ∧ adj (tabG n E) p q := by
  have h1 := rightG_mem hg h
  simp only at h1
  refine ⟨by omega, by omega, by omega, (hasG_adj hg (by omega) (by omega)).1 ?_⟩
  unfold hasG
  rw [decide_eq_true_iff, show min (p : Int) (q : Int) = p by omega, show max (p : Int) (q : Int) = q by omega]
  exact h
theorem adj_edge5 {n u v : Nat} {E : List (Int × Int)} (hg : rightG (n : Nat) E = true) (h : adj (tabG n E) u v) : ∃ p q : Nat, ((p : Int), (q : Int)) ∈ E ∧ (p = u ∧ q = v ∨ p = v ∧ q = u) := by
  have hu : u < n := by obtain ⟨y, e, hy⟩ := tabG_mem hg (tabG_sym hg h); omega
  have hv : v < n := by obtain ⟨y, e, hy⟩ := tabG_mem hg h; omega
  have h1 := (hasG_adj hg hu hv).2 h
  unfold hasG at h1
  rw [decide_eq_true_iff] at h1
  rcases Nat.le_total u v with h2 | h2
  · rw [show min (u : Int) (v : Int) = u by omega, show max (u : Int) (v : Int) = v by omega] at h1
    exact ⟨u, v, h1, .inl ⟨rfl, rfl⟩⟩
  · rw [show min (u : Int) (v : Int) = v by omega, show max (u : Int) (v : Int) = u by omega] at h1
    exact ⟨v, u, h1, .inr ⟨rfl, rfl⟩⟩
/-- One block alone: each edge is of it. -/
theorem BlkS.one {N : Nat} {E : List (Int × Int)} {A : List Nat} {U : Nat → Option Nat} {F : Nat → Nat} {O : List Int} (hg : rightG (N : Nat) E = true) (h : BlkS N E A U F O) (h1 : (blkG N E).length = 1) : ∃ c, ∀ x y, adj (tabG N E) x y → Cls (adj (tabG N E)) U x y c := by
  rw [h.blk hg, blkO_length] at h1
  have hkey : ∀ i j, i < E.length → j < E.length → bkey A O E i = bkey A O E j := fun i j hi hj => by
    obtain ⟨a, ha, ea, _⟩ := first_of (bkey A O E) E.length i hi
    obtain ⟨b, hb, eb, _⟩ := first_of (bkey A O E) E.length j hj
    obtain ⟨z, hz⟩ : ∃ z, firsts (bkey A O E) E.length = [z] := List.length_eq_one_iff.1 h1
    rw [hz, List.mem_singleton] at ha hb
    rw [← ea, ← eb, ha, hb]
  refine ⟨bkey A O E 0, fun x y ha => ?_⟩
  obtain ⟨p, q, hm, hpq⟩ := adj_edge5 hg ha
  obtain ⟨i, hi⟩ := List.getElem?_of_mem hm
  have hil := (List.getElem?_eq_some_iff.1 hi).1
  have hc := h.cls hg hi
  rw [hkey i 0 hil (by omega)] at hc
  rcases hpq with ⟨rfl, rfl⟩ | ⟨rfl, rfl⟩
  · exact hc
  · exact hc.symm
theorem two_feet {n : Nat} {E W : List (Int × Int)} {A : List Nat} {U : Nat → Option Nat} {F : Nat → Nat} {O : List Int} (hg : rightG (n : Nat) E = true) (hS : BlkS n E A U F O) (h1 : (blkG n E).length = 1) (hok : (leftP W E E.length).2 = W.length) (hW : W ≠ []) (hsub : ∀ e ∈ W, e ∈ E) {x : List (Int × Int) × List Int} (hx : x ∈ fragsF n E W) : 2 ≤ x.2.length := by
  have hR := rest_of hg hok
  obtain ⟨L, hL⟩ : ∃ L, (leftP W E E.length).1 = L := ⟨_, rfl⟩
  obtain ⟨r, hr⟩ : ∃ r : Nat → Nat, (fun v => (rT (onW W) (leftP W E E.length).1 n (leftP W E E.length).1.length).getD v 0) = r := ⟨_, rfl⟩
  unfold fragsF at hx
  rw [hr] at hx hR
  rw [hL] at hx hR
  obtain ⟨y, hy, rfl⟩ := List.mem_map.1 hx
  unfold fragsO gath at hy
  obtain ⟨l, hl, rfl⟩ := List.mem_map.1 hy
  obtain ⟨f, hf, rfl⟩ := List.mem_map.1 hl
  have hfl := (mem_firsts.1 hf).1
  obtain ⟨own, hown⟩ : ∃ own, ownF n (onW W) r L = own := ⟨_, rfl⟩
  rw [hown]
  rw [hown] at hf
  -- who is a foot
  have hfoot : ∀ (j : Nat) (e : Int × Int) (v : Nat), L[j]? = some e → own j = own f → EndOf e (v : Int) → onW W v = true → (v : Int) ∈ (fin1 (fragO (onW W) L (those own L.length (own f)))).2 := by
    intro j e v he ho hv hon
    show (v : Int) ∈ Lib.compact (srtZ _)
    rw [comp_mem, srtZ_mem]
    show (v : Int) ∈ List.flatMap _ _
    rw [List.mem_flatMap]
    obtain ⟨p, q, rfl, hp, hq, hjl, hgd⟩ := hR.get he
    refine ⟨j, List.mem_filter.2 ⟨List.mem_range.2 hjl, by simpa using ho⟩, ?_⟩
    rw [hgd, feetOf_two]
    rcases hv with hv | hv
    · have : p = v := by have h2 : (p : Int) = v := hv; omega
      subst this
      simp [hon]
    · have : q = v := by have h2 : (q : Int) = v := hv; omega
      subst this
      simp [hon]
  obtain ⟨X, hX⟩ : ∃ X, (fin1 (fragO (onW W) L (those own L.length (own f)))).2 = X := ⟨_, rfl⟩
  rw [hX] at hfoot ⊢
  refine Classical.byContradiction fun hlt => ?_
  have huniq : ∀ a b : Int, a ∈ X → b ∈ X → a = b := fun a b ha hb => by
    match X, hlt, ha, hb with
    | [], _, ha, _ => cases ha
    | [z], _, ha, hb => rw [List.mem_singleton] at ha hb; rw [ha, hb]
    | _ :: _ :: _, hlt, _, _ => simp at hlt
  obtain ⟨e, he⟩ : ∃ e, L[f]? = some e := ⟨_, List.getElem?_eq_getElem hfl⟩
  rcases hR.ends he with ⟨v0, hv0, off0⟩ | hon
  · -- a web vertex that is not the foot
    obtain ⟨e1, hW1⟩ : ∃ e1, e1 ∈ W := List.exists_mem_of_ne_nil W hW
    have hE1 := hsub e1 hW1
    obtain ⟨p, q, rfl⟩ : ∃ p q : Nat, e1 = ((p : Int), (q : Int)) := by
      have := rightG_mem hg hE1
      obtain ⟨a, b⟩ := e1
      simp only at this
      exact ⟨a.toNat, b.toNat, by simp; omega⟩
    obtain ⟨hp, hq, hpq, hadj⟩ := edge_adj5 hg hE1
    obtain ⟨op, oq⟩ := onZ_mem hW1
    have op : onW W p = true := op
    have oq : onW W q = true := oq
    obtain ⟨f0, t, hf0, ht, hne, of0, ot, a1, a2⟩ : ∃ f0 t : Nat, (∀ z : Nat, (z : Int) ∈ X → z = f0) ∧ t < n ∧ t ≠ f0 ∧ onW W f0 = true ∧ onW W t = true ∧ (∃ y, adj (tabG n E) f0 y) ∧ (∃ y, adj (tabG n E) t y) := by
      have hsy : adj (tabG n E) q p := tabG_sym hg hadj
      by_cases hex : ∃ z : Nat, (z : Int) ∈ X
      · obtain ⟨z, hz⟩ := hex
        have hz1 : onW W z = true ∧ ∃ y, adj (tabG n E) z y := by
          have hz2 := hz
          rw [← hX] at hz2
          have hz3 : (z : Int) ∈ Lib.compact (srtZ (fragO (onW W) L (those own L.length (own f))).2) := hz2
          rw [comp_mem, srtZ_mem] at hz3
          have hz4 : (z : Int) ∈ List.flatMap _ _ := hz3
          rw [List.mem_flatMap] at hz4
          obtain ⟨j, hj, hz5⟩ := hz4
          obtain ⟨e2, he2⟩ : ∃ e2, L[j]? = some e2 := ⟨_, List.getElem?_eq_getElem (List.mem_range.1 (List.mem_filter.1 hj).1)⟩
          obtain ⟨a, b, rfl, _, _, _, hgd⟩ := hR.get he2
          rw [hgd, feetOf_two] at hz5
          have hmE := (hR.mem.1 (List.mem_of_getElem? he2)).1
          obtain ⟨_, _, _, hab⟩ := edge_adj5 hg hmE
          rw [List.mem_append] at hz5
          rcases hz5 with h | h
          · split at h
            · rename_i ho
              have : z = a := by simp at h; omega
              subst this
              exact ⟨ho, b, hab⟩
            · cases h
          · split at h
            · rename_i ho
              have : z = b := by simp at h; omega
              subst this
              exact ⟨ho, a, tabG_sym hg hab⟩
            · cases h
        have hall : ∀ z2 : Nat, (z2 : Int) ∈ X → z2 = z := fun z2 h2 => by have := huniq _ _ h2 hz; omega
        by_cases hzp : p = z
        · exact ⟨z, q, hall, hq, by omega, hz1.1, oq, hz1.2, ⟨p, hsy⟩⟩
        · exact ⟨z, p, hall, hp, hzp, hz1.1, op, hz1.2, ⟨q, hadj⟩⟩
      · exact ⟨p, q, fun z hz => absurd ⟨z, hz⟩ hex, hq, by omega, op, oq, ⟨q, hadj⟩, ⟨p, hsy⟩⟩
    obtain ⟨y1, a1⟩ := a1
    obtain ⟨y2, a2⟩ := a2
    obtain ⟨c, hc⟩ := hS.one hg h1
    have hv0e : ∃ y, adj (tabG n E) v0 y := by
      obtain ⟨a, b, rfl, _, _, _, _⟩ := hR.get he
      have hmE := (hR.mem.1 (List.mem_of_getElem? he)).1
      obtain ⟨_, _, _, hab⟩ := edge_adj5 hg hmE
      rcases hv0 with h | h
      · have : a = v0 := by have h2 : (a : Int) = v0 := h; omega
        subst this
        exact ⟨b, hab⟩
      · have : b = v0 := by have h2 : (b : Int) = v0 := h; omega
        subst this
        exact ⟨a, tabG_sym hg hab⟩
    obtain ⟨y0, a0⟩ := hv0e
    have hv0f : v0 ≠ f0 := fun e => by rw [e, of0] at off0; cases off0
    have hcon := Forest.one (hS.nr.forest hg) hc a0 a2 a1 hv0f hne
    have hfr : own f = r v0 := by rw [← hown]; exact (hR.own_end he hv0 off0).1
    have key : ∀ {z : Nat}, Con (Wo (adj (tabG n E)) f0) v0 z → onW W z = false ∧ r z = own f := fun {z} hcn => by
      induction hcn with
      | refl => exact ⟨off0, hfr.symm⟩
      | @step b d _ hw ih =>
        obtain ⟨oz, rz⟩ := ih
        obtain ⟨had, _, hnf⟩ := hw
        obtain ⟨a, b2, hm, hab⟩ := adj_edge5 hg had
        have hmL : ((a : Int), (b2 : Int)) ∈ L := by
          refine hR.mem.2 ⟨hm, fun hw2 => ?_⟩
          obtain ⟨w1, w2⟩ := onZ_mem hw2
          have w1 : onW W a = true := w1
          have w2 : onW W b2 = true := w2
          rcases hab with ⟨e1, e2⟩ | ⟨e1, e2⟩
          · rw [e1, oz] at w1; cases w1
          · rw [e2, oz] at w2; cases w2
        obtain ⟨j, hj⟩ := List.getElem?_of_mem hmL
        have hb1 : EndOf ((a : Int), (b2 : Int)) (b : Int) ∧ EndOf ((a : Int), (b2 : Int)) (d : Int) := by
          rcases hab with ⟨rfl, rfl⟩ | ⟨rfl, rfl⟩
          · exact ⟨.inl rfl, .inr rfl⟩
          · exact ⟨.inr rfl, .inl rfl⟩
        have hoj : own j = own f := by rw [← rz, ← hown]; exact (hR.own_end hj hb1.1 oz).1
        cases hod : onW W d with
        | true => exact absurd (hf0 d (hfoot j _ d hj hoj hb1.2 hod)) hnf
        | false => exact ⟨rfl, by rw [← hoj, ← hown]; exact (hR.own_end hj hb1.2 hod).1.symm⟩
    have hlast := (key hcon).1
    rw [ot] at hlast
    cases hlast
  · obtain ⟨a, b, rfl, _, _, _, _⟩ := hR.get he
    have hmE := (hR.mem.1 (List.mem_of_getElem? he)).1
    obtain ⟨_, _, hab, _⟩ := edge_adj5 hg hmE
    have h2 := huniq _ _ (hfoot f _ a he rfl (.inl rfl) (hon a (.inl rfl))) (hfoot f _ b he rfl (.inr rfl) (hon b (.inr rfl)))
    omega
end
section
set_option maxRecDepth 100000
open Go.RowKit

theorem lowinfo : (Try.prog.info? 57).map (fun i => (i.zero, i.size, i.bytes)) = some (some (.agg #[.int .i64 0, .int .i64 0, .int .i64 0]), 3, 24) := by kernel_rfl
theorem make_lows (n : Nat) (hn : n ≤ 1000000) (w : World) : (Instr.makeSlice 27 (.int .i64 n) (.int .i64 n)).run Try.prog w = .ok (.slice (some ⟨w.heap.size, 0, none⟩) n n) (w.alloc (.cells (tcells (List.replicate n (0, 0, 0))).toArray 57)) := by
  obtain ⟨i2, hi2, hx0, hx1, hx2⟩ := info_partsI lowinfo
  have hr := run_make (P := Try.prog) w 27 57 i2 (.agg #[.int .i64 0, .int .i64 0, .int .i64 0]) Try.underlying27 hi2 hx0 .i64 .i64 n n (by omega) (by omega) (by rw [hx2]; omega) (by omega)
  rw [hx1] at hr
  rw [hr]
  congr 3
  apply Array.ext'
  apply List.ext_getElem?
  intro i
  have hz : ∀ q, (#[Value.int .i64 0, Value.int .i64 0, Value.int .i64 0] : Array Value)[q % 3]! = .int .i64 0 := fun q => by
    rcases (show q % 3 = 0 ∨ q % 3 = 1 ∨ q % 3 = 2 by omega) with h | h | h <;> rw [h] <;> rfl
  by_cases hi : i < n * 3
  · have h1 : (madeCells #[Value.int .i64 0, Value.int .i64 0, Value.int .i64 0] (n * 3)).toList[i]? = some (.int .i64 0) := by
      rw [Array.getElem?_toList]
      unfold madeCells
      rw [Array.getElem?_map, Array.getElem?_range, if_pos hi]
      show some _ = _
      exact congrArg some (hz i)
    have h2 : (tcells (List.replicate n (0, 0, 0)))[i]? = some (.int .i64 0) := by
      have hk : (List.replicate n ((0 : Int), (0 : Int), (0 : Int)))[i / 3]? = some (0, 0, 0) := by
        rw [List.getElem?_replicate, if_pos (by omega)]
      obtain ⟨a, b, c⟩ := tcells_at _ _ _ hk
      rcases (show i = i / 3 * 3 ∨ i = i / 3 * 3 + 1 ∨ i = i / 3 * 3 + 2 by omega) with h | h | h
      · rw [h]; exact a
      · rw [h]; exact b
      · rw [h]; exact c
    exact h1.trans h2.symm
  · rw [List.getElem?_eq_none (by rw [Array.length_toList, size_madeCells]; omega)]
    show none = (tcells (List.replicate n (0, 0, 0)))[i]?
    rw [List.getElem?_eq_none (by rw [tcells_length, List.length_replicate]; omega)]
/-- What is told of all that are met so far. -/
def numL (N : Nat) (A : List Nat) (U : Nat → Option Nat) : List (Int × Int × Int) := (List.range N).map fun v => if v ∈ A then (((numF A v : Nat) : Int), upZ U v, ((numF A v : Nat) : Int)) else (0, 0, 0)
theorem numL_length (N : Nat) (A : List Nat) (U : Nat → Option Nat) : (numL N A U).length = N := by simp [numL]
theorem numL_zero (N : Nat) (U : Nat → Option Nat) : numL N [] U = List.replicate N (0, 0, 0) := by
  apply List.ext_getElem?
  intro i
  by_cases h : i < N
  · simp [numL, h]
  · rw [List.getElem?_eq_none (by rw [numL_length]; omega), List.getElem?_eq_none (by simp; omega)]
theorem numL_at {N v : Nat} (A : List Nat) (U : Nat → Option Nat) (h : v < N) : (numL N A U)[v]? = some (if v ∈ A then (((numF A v : Nat) : Int), upZ U v, ((numF A v : Nat) : Int)) else (0, 0, 0)) := by simp [numL, h]
theorem numL_congr {N : Nat} {A : List Nat} {U U' : Nat → Option Nat} (h : ∀ v ∈ A, U' v = U v) : numL N A U' = numL N A U := by
  unfold numL
  apply List.map_congr_left
  intro v _
  by_cases hv : v ∈ A
  · rw [if_pos hv, if_pos hv]
    unfold upZ
    rw [h v hv]
  · rw [if_neg hv, if_neg hv]
theorem numL_snoc {N v : Nat} {A : List Nat} {U : Nat → Option Nat} (hv : v < N) (hn : v ∉ A) : (numL N A U).set v (((A.length + 1 : Nat) : Int), upZ U v, ((A.length + 1 : Nat) : Int)) = numL N (A ++ [v]) U := by
  apply List.ext_getElem?
  intro i
  have hid : ∀ x, x ∈ A → numF (A ++ [v]) x = numF A x := fun x hx => by
    unfold numF
    rw [List.idxOf_append, if_pos hx]
  by_cases hi : i < N
  · by_cases e : v = i
    · subst e
      rw [List.getElem?_set_self (by rw [numL_length]; exact hi), numL_at _ _ hi, if_pos (by simp)]
      have : numF (A ++ [v]) v = A.length + 1 := by
        unfold numF
        rw [List.idxOf_append, if_neg hn]
        simp
      rw [this]
    · rw [List.getElem?_set_ne e, numL_at _ _ hi, numL_at _ _ hi]
      by_cases hA : i ∈ A
      · rw [if_pos hA, if_pos (by simp [hA]), hid i hA]
      · rw [if_neg hA, if_neg (by simp [hA]; exact fun e2 => e e2.symm)]
  · rw [List.getElem?_eq_none (by rw [List.length_set, numL_length]; omega), List.getElem?_eq_none (by rw [numL_length]; omega)]
/-- What lies in memory when some are met. -/
structure NB (w0 : World) (B N : Nat) (A : List Nat) (U : Nat → Option Nat) (V : Value) (w : World) : Prop where
  out : OwnT w B (numL N A U)
  row : w.ownsRow B 3 1 V A.length (zn A)
  bel : Below w0.heap.size w0 w
theorem NB.below {w0 : World} {B N : Nat} {A : List Nat} {U : Nat → Option Nat} {V : Value} {w w' : World} (h : NB w0 B N A U V w) (hb : Below w.heap.size w w') : NB w0 B N A U V w' := ⟨h.out.below hb, row_below h.row hb, next_below h.bel hb⟩
theorem NB.apart {w0 : World} {B N : Nat} {A : List Nat} {U : Nat → Option Nat} {V : Value} {w : World} (h : NB w0 B N A U V w) : V.ownBlock ≠ some B := own_ne h.row h.out (by decide)
theorem row_low {w : World} {base size n : Nat} {e : TypeId} {V : Value} {xs : List Value} (h : w.ownsRow base e size V n xs) {q : Nat} (hq : V.ownBlock = some q) : q < w.heap.size := (h.lt q hq).2
set_option maxHeartbeats 32000000 in
theorem numbered_any (A0 : Option Addr) (c n N : Nat) (E : List (Int × Int)) (w : World) (hr : RdP w A0 E) (hn : n = E.length) (hg : rightG (N : Nat) E = true) (sym : ∀ a b, adj (tabG N E) a b → adj (tabG N E) b a) :
    Calls Try.prog 45 #[.agg #[.int .i64 (N : Nat), .slice A0 n c]] w fun e w' => ∃ (B : Nat) (V : Value) (A : List Nat) (U : Nat → Option Nat), e = .returned (.tuple #[.slice (some ⟨B, 0, none⟩) N N, V]) ∧ NB w B N A U V w' ∧ NR (tabG N E) N N A U ∧ w.heap.size ≤ B := by
  have hN2 : N ≤ 200 := by have := (rightG_bounds hg).2.1; omega
  obtain ⟨X, hX⟩ : ∃ X, X = w.alloc (.cells #[.int .i64 (N : Nat), .slice A0 n c] 24) := ⟨_, rfl⟩
  have hb : Below w.heap.size w X := by rw [hX]; exact (Below.refl _ _).alloc (Nat.le_refl _) _
  have hXS : w.heap.size < X.heap.size := by rw [hX]; simp
  have hXE : w.heap.size + 1 = X.heap.size := by rw [hX]; simp
  obtain ⟨j0, j1, _, _⟩ := cells_two (w := X) (by rw [hX]; exact heap_alloc_new w _)
  have HJ : Hid (∀ w', Below X.heap.size X w' → w'.cell? ⟨w.heap.size, 0, none⟩ = some (.int .i64 (N : Nat)) ∧ w'.cell? ⟨w.heap.size, 1, none⟩ = some (.slice A0 n c)) := fun w' hb =>
    ⟨by rw [hb.cell (by show w.heap.size < _; omega)]; exact j0, by rw [hb.cell (by show w.heap.size < _; omega)]; exact j1⟩
  have hmk := make_lows N (by omega) X
  obtain ⟨M, hM⟩ : ∃ M, M = X.alloc (.cells (tcells (List.replicate N (0, 0, 0))).toArray 57 (0, 0)) := ⟨_, rfl⟩
  have HBM : Hid (Below X.heap.size X M) := by show Below _ _ _; rw [hM]; exact (Below.refl _ _).alloc (Nat.le_refl _) _
  have HN0 : Hid (NB X X.heap.size N [] (fun _ => none) (.slice none 0 0) M) := ⟨by show _ = _; rw [numL_zero, hM]; exact heap_alloc_new X _, World.ownsRow_nil _ _ _ _, HBM.out⟩
  have HI0 := Lib.hid (NR.start (tabG N E) N)
  have HE := Lib.hid (hr.below hb)
  have HN := Lib.hid hn
  have HG := Lib.hid hg
  have HSY := Lib.hid sym
  have HX := Lib.hid hX
  have HB := Lib.hid hb
  have HXS := Lib.hid hXS
  have HM := Lib.hid hM
  obtain ⟨i4, hi4, hz0, hz1, hz2⟩ := info_partsI i64info
  rw [hX] at j0 j1 hmk
  clear hr hn hg sym hX hb hXS hM
  go_enter Try.func45, Try.ntmps45
  go_upto_region 3 with fail
  rw [← HX.out, ← HM.out]
  obtain ⟨B, hB⟩ : ∃ B, X.heap.size = B := ⟨_, rfl⟩
  rw [hB] at HN0 ⊢
  have HBQ := Lib.hid hB
  clear j0 j1 hmk hB hXE
  obtain ⟨j0, j1⟩ := HJ.out M HBM.out
  go_wp2_with fail
  clear j0 j1
  go_loopw [17, 5] (fun s17 s5 wr => ∃ (k : Nat) (A : List Nat) (U : Nat → Option Nat) (V : Value), k ≤ N ∧ s17 = .int .i64 k ∧ s5 = V ∧ Hid (NR (tabG N E) N k A U) ∧ Hid (NB X B N A U V wr)) (fun s17 _ _ => N - (intOf s17).toNat)
  case atStart => exact ⟨0, [], _, _, Nat.zero_le _, rfl, rfl, HI0, HN0⟩
  case round =>
    clear HI0 HN0 HBM HM
    obtain ⟨k, A, U, V, hk, rfl, rfl, hI, hNB⟩ := hrel
    by_cases h1 : k < N
    · have t1 : decide ((k : Int) < (N : Int)) = true := by simp; omega
      have hK0 : (0 : Int) ≤ (k : Int) := by omega
      have hK1 : (k : Int) < (N : Nat) := by omega
      obtain ⟨a0, _, _⟩ := hNB.out.out.at_ (numL_at A U h1)
      by_cases hkA : k ∈ A
      · rw [if_pos hkA] at a0
        obtain ⟨nk, hnk⟩ : ∃ nk, numF A k = nk := ⟨_, rfl⟩
        have hp : decide ((0 : Int) < (nk : Int)) = true := by unfold numF at hnk; simp; omega
        have hp2 : decide (0 < nk) = true := by unfold numF at hnk; simp; omega
        have hp3 : 0 < nk := by unfold numF at hnk; omega
        simp only [hnk] at a0
        have HI2 := Lib.hid (hI.out.skip hkA)
        clear hnk hkA
        go_wp2_with fail
        go_roundw
        case rel => exact ⟨k + 1, A, U, _, by omega, by go_num, rfl, HI2, hNB⟩
        case measure => simp [intOf]; omega
      · rw [if_neg hkA] at a0
        simp only at a0
        obtain ⟨j0, j1⟩ := HJ.out wr hNB.out.bel
        have HWK := Lib.hid (walk_any A0 c n N k E wr (HE.out.below hNB.out.bel) HN.out HG.out h1)
        have HKA := Lib.hid hkA
        clear hkA
        go_wp2_with fail
        refine HWK.out.mono ?_
        rintro e w1 ⟨kk, go, co, Bu, s, rfl, hOL, hOZ, hgb, hBu, hs, hsl, hgood, hb1⟩
        have hd : Dfs (tabG N E) N k s := by rw [hs]; exact dfs_run (tab_is HG.out) HSY.out h1 kk
        have HD := Lib.hid hd
        have HI2 := Lib.hid (hI.out.step HSY.out HKA.out hd hsl hs)
        obtain ⟨hg1, hg2⟩ := hOL.lt_
        have hbu2 := lt_of_block hOZ
        have hUs : ∀ v ∈ A, stepU s U v = U v := fun v hv => by
          unfold stepU
          rw [if_neg (fun hh => ?_)]
          have hnd := HI2.out.nod
          rw [List.nodup_append] at hnd
          exact hnd.2.2 v hv v hh rfl
        have HNB1 : Hid (NB X B N (A ++ s.order.take 0) (stepU s U) u5 w1) := by
          have h := hNB.out.below hb1
          rw [List.take_zero, List.append_nil]
          exact ⟨by rw [numL_congr hUs]; exact h.out, h.row, h.bel⟩
        have HV0 : Hid (∀ q, (u5 : Value).ownBlock = some q → q < wr.heap.size ∨ w1.heap.size ≤ q) := fun q hq => .inl (row_low hNB.out.row hq)
        have HOL := Lib.hid hOL
        have HOZ := Lib.hid hOZ
        obtain ⟨lo, hlo⟩ : ∃ lo, s.order.length = lo := ⟨_, rfl⟩
        have HLO := Lib.hid hlo
        have hlob : lo ≤ 200 := by have h := nod_le N s.order HD.out.nod HD.out.good.inO; omega
        obtain ⟨ws, hws⟩ : ∃ ws, wr.heap.size = ws := ⟨_, rfl⟩
        have HBW : Hid (B < ws) := by show B < ws; rw [← hws]; exact lt_of_block hNB.out.out
        rw [hws] at hg1 hBu HV0
        obtain ⟨w1s, hw1s⟩ : ∃ ws, w1.heap.size = ws := ⟨_, rfl⟩
        rw [hw1s] at hg2 hbu2 HV0
        have HG1 : Hid (ws ≤ go ∧ go < w1s ∧ ws ≤ Bu ∧ Bu < w1s) := ⟨hg1, hg2, hBu, hbu2⟩
        rw [hlo]
        clear hs hsl hgood hb1 hd hOL hOZ hg1 hg2 hBu hbu2 hUs hlo hws hI hNB HWK a0 j0 j1
        go_wp2_with fail
        go_loopw [35, 5] (fun s35 s5 wn => ∃ (j : Nat) (V : Value), j ≤ lo ∧ s35 = .int .i64 j ∧ s5 = V ∧ Hid (NB X B N (A ++ s.order.take j) (stepU s U) V wn) ∧ Hid (∀ q, V.ownBlock = some q → q < ws ∨ w1s ≤ q) ∧ Hid (wn.heap[go]? = w1.heap[go]? ∧ wn.heap[Bu]? = w1.heap[Bu]?) ∧ w1s ≤ wn.heap.size) (fun s35 _ _ => lo - (intOf s35).toNat)
        case atStart => exact ⟨0, _, Nat.zero_le _, rfl, rfl, HNB1, HV0, ⟨rfl, rfl⟩, by rw [hw1s]; exact Nat.le_refl _⟩
        case round => as_aux_lemma =>
          clear HNB1 HV0
          obtain ⟨j, V, hj, rfl, rfl, hNB, hV, hG, hsz⟩ := hrel
          by_cases h2 : j < lo
          · have t2 : decide ((j : Int) < (lo : Int)) = true := by simp; omega
            have hJ0 : (0 : Int) ≤ (j : Int) := by omega
            have hJ1 : (j : Int) < (lo : Nat) := by omega
            have HJ2 := Lib.hid h2
            obtain ⟨v, hv⟩ : ∃ v, s.order[j]? = some v := ⟨_, List.getElem?_eq_getElem (by rw [HLO.out]; exact h2)⟩
            have c0 : wr.cell? ⟨go, j, none⟩ = some (.int .i64 (v : Nat)) := by
              rw [World.cell?_of_block (show wr.heap[(⟨go, j, none⟩ : Addr).block]? = w1.heap[(⟨go, j, none⟩ : Addr).block]? from hG.out.1)]
              exact HOL.out.at_ hv
            have hvo := List.mem_of_getElem? hv
            have hvN : v < N := HD.out.good.inO v hvo
            have hup := upZ_step (U := U) HD.out hvo hvN
            have hsn : A ++ s.order.take (j + 1) = (A ++ s.order.take j) ++ [v] := by rw [List.take_add_one, hv, List.append_assoc]; rfl
            have hvn : v ∉ A ++ s.order.take j := by
              have hnd := HI2.out.nod
              rw [← List.take_append_drop (j + 1) s.order, ← List.append_assoc, hsn, List.nodup_append] at hnd
              have h3 := hnd.1
              rw [List.nodup_append] at h3
              exact fun hm => h3.2.2 v hm v (by simp) rfl
            obtain ⟨uz, huz⟩ : ∃ uz, gd s.up v = uz := ⟨_, rfl⟩
            rw [huz] at hup
            have hul : s.up.length = N := HD.out.good.len
            obtain ⟨C, hC⟩ : ∃ C, A ++ s.order.take j = C := ⟨_, rfl⟩
            rw [hC] at hNB hsn hvn
            obtain ⟨lc, hlc⟩ : ∃ lc, C.length = lc := ⟨_, rfl⟩
            have hset := numL_snoc (U := stepU s U) hvN hvn
            rw [hup, hlc] at hset
            have HSET := Lib.hid hset
            have HSN := Lib.hid hsn
            have hrow := hNB.out.row
            rw [hlc] at hrow
            have hlcb : lc ≤ 100000 := by
              have h3 := hNB.out.row.1
              have h4 : C.Nodup := by
                have hnd := HI2.out.nod
                rw [← List.take_append_drop j s.order, ← List.append_assoc, hC, List.nodup_append] at hnd
                exact hnd.1
              have h5 := nod_le N C h4 (fun x hx => HI2.out.lt x (by
                rw [← List.take_append_drop j s.order, ← List.append_assoc, hC]
                exact List.mem_append.2 (.inl hx)))
              omega
            have HFA := Lib.hid (hrow.alloc (.cells #[.int .i64 (v : Nat)] 3))
            have HLT : Hid (∀ (i : Nat) (u : Value), [Value.int .i64 (v : Nat)][i]? = some u → (wr.alloc (.cells #[.int .i64 (v : Nat)] 3)).cell? ((⟨wr.heap.size, 0, none⟩ : Addr).add i) = some u) := fun i u hi => by
              rw [← hi, add_off, World.cell?_alloc_at _ _ _ _ rfl]
              simp
            have hap := hNB.out.apart
            have hBl := lt_of_block hNB.out.out
            have HKB : Hid (∀ w', (wr.alloc (.cells #[.int .i64 (v : Nat)] 3)).grownBy w' (u5 : Value).ownBlock → w'.heap[B]? = wr.heap[B]? ∧ w'.heap[go]? = w1.heap[go]? ∧ w'.heap[Bu]? = w1.heap[Bu]?) := fun w' hg' => by
              obtain ⟨e1, e2, e3, e4⟩ := HG1.out
              have key : ∀ b, b < wr.heap.size → some b ≠ (u5 : Value).ownBlock → w'.heap[b]? = wr.heap[b]? := fun b hb hne => by
                rw [hg'.block b (by simp; omega) hne]
                exact ((Below.refl wr.heap.size wr).alloc (Nat.le_refl _) _).block b hb
              refine ⟨key B hBl (fun e => hap e.symm), ?_, ?_⟩
              · rw [key go (by omega) (fun e => by have := hV.out go e.symm; omega)]; exact hG.out.1
              · rw [key Bu (by omega) (fun e => by have := hV.out Bu e.symm; omega)]; exact hG.out.2
            have hBw : B ≤ wr.heap.size := Nat.le_of_lt hBl
            have HFACT : Hid (∀ w', (wr.alloc (.cells #[.int .i64 (v : Nat)] 3)).grownBy w' (u5 : Value).ownBlock → w'.cell? ⟨Bu, v, none⟩ = some (.int .i64 uz) ∧ OwnT w' B (numL N C (stepU s U))) := fun w' hg' => by
              obtain ⟨e1, _, e3⟩ := HKB.out w' hg'
              refine ⟨?_, e1.trans hNB.out.out⟩
              rw [World.cell?_of_block (show w'.heap[(⟨Bu, v, none⟩ : Addr).block]? = w1.heap[(⟨Bu, v, none⟩ : Addr).block]? from e3), ← huz]
              exact OwnZ.at_ HOZ.out (gd_at s.up v (by rw [hul]; exact hvN))
            obtain ⟨hv0, hv1⟩ : (0 : Int) ≤ (v : Int) ∧ (v : Int) < (N : Nat) := by omega
            have HNBH := Lib.hid hNB.out
            have hszw := hNB.out.bel.size
            have HHV := Lib.hid hV.out
            have HHC := Lib.hid hC
            have HLC := Lib.hid hlc
            have HVN := Lib.hid hvN
            have HSZ := Lib.hid hsz
            have HSZW := Lib.hid hszw
            have HUZ := Lib.hid huz
            have HUL := Lib.hid hul
            clear hv hvo hup hsn hvn huz hul hset hrow hap hBl hNB hV hG hC hlc hsz
            go_upto_region 11 with fail
            clear c0
            go_wp2_with (at_builtin; refine wpList_append_lies _ rfl (.tmp 39) (.tmp 41) 35 rfl B 3 i4 (.int .i64 0) 1 8 Try.underlying35 hi4 hz0 hz1 hz2 rfl (by decide) _ lc (zn C) rfl HFA.out ⟨wr.heap.size, 0, none⟩ 1 1 [.int .i64 (v : Nat)] (by simp [Act.eval]) rfl HLT.out (by simp [Value.oneCell']) (by omega) (by simp [maxLen]; omega) (by omega) (by simp; omega) (wr.heap.size + 1) (by simp) ?_; intro g7 c7 w7 hr7 hg7 ho7 hlt7; have HR7 := Lib.hid hr7; have HG7 := Lib.hid hg7; have HO7 := Lib.hid ho7; have HLT7 := Lib.hid hlt7; obtain ⟨c1, hT7⟩ := HFACT.out w7 hg7; obtain ⟨x0, x1, x2⟩ := hT7.at_ (lw_at (show v < (numL N C (stepU s U)).length by rw [numL_length]; exact HVN.out)); have y0 := free_of hT7 (v * 3); have y1 := free_of hT7 (v * 3 + 1); have y2 := free_of hT7 (v * 3 + 2); clear hr7 hg7 ho7 hlt7 hT7)
            have hT7 := (HFACT.out w7 HG7.out).2
            have hkb := HKB.out w7 HG7.out
            have e1 : (lc : Int) + 1 = ((lc + 1 : Nat) : Int) := by omega
            obtain ⟨Z, hZ⟩ : ∃ Z, Z = ((w7.setCell ⟨B, v * 3, none⟩ (.int .i64 ((lc : Int) + 1))).setCell ⟨B, v * 3 + 1, none⟩ (.int .i64 uz)).setCell ⟨B, v * 3 + 2, none⟩ (.int .i64 ((lc : Int) + 1)) := ⟨_, rfl⟩
            have hTZ : OwnT Z B (numL N (A ++ s.order.take (j + 1)) (stepU s U)) := by
              have h := hT7.set3 (k := v) (by rw [numL_length]; exact HVN.out) (((lc + 1 : Nat) : Int), uz, ((lc + 1 : Nat) : Int))
              rw [HSET.out, ← HSN.out] at h
              rw [hZ, e1]
              exact h
            have hgB : g7 ≠ B := fun e => own_ne HR7.out hT7 (by decide) (by rw [e]; rfl)
            have hRZ : Z.ownsRow B 3 1 (.slice (some ⟨g7, 0, none⟩) (lc + 1) c7) (lc + 1) (zn (C ++ [v])) := by
              rw [hZ, show zn (C ++ [v]) = zn C ++ [.int .i64 (v : Nat)] by simp [zn]]
              exact row_far (row_far (row_far HR7.out (p := ⟨B, v * 3, none⟩) hgB _) (p := ⟨B, v * 3 + 1, none⟩) hgB _) (p := ⟨B, v * 3 + 2, none⟩) hgB _
            have hlen : (A ++ s.order.take (j + 1)).length = lc + 1 := by rw [HSN.out, List.length_append, HLC.out]; rfl
            have hBX : X.heap.size ≤ B := by rw [HBQ.out]; exact Nat.le_refl _
            have hB7 : Below X.heap.size X w7 := (HNBH.out.bel.alloc HSZW.out _).grown HG7.out (by simp; have := HSZW.out; omega) (fun q e => by have := (HFA.out.lt q e).1; omega)
            have HN9 : Hid (NB X B N (A ++ s.order.take (j + 1)) (stepU s U) (.slice (some ⟨g7, 0, none⟩) (lc + 1) c7) Z) := by
              refine ⟨hTZ, by rw [hlen, HSN.out]; exact hRZ, ?_⟩
              rw [hZ]
              exact ((hB7.setCell (p := ⟨B, v * 3, none⟩) hBX _).setCell (p := ⟨B, v * 3 + 1, none⟩) hBX _).setCell (p := ⟨B, v * 3 + 2, none⟩) hBX _
            have hZo : ∀ b, b ≠ B → Z.heap[b]? = w7.heap[b]? := fun b hb => by
              rw [hZ, heap_setCell_other _ _ _ _ hb, heap_setCell_other _ _ _ _ hb, heap_setCell_other _ _ _ _ hb]
            have hgoB : go ≠ B ∧ Bu ≠ B := by
              obtain ⟨a, b, c, d⟩ := HG1.out
              have := HBW.out
              exact ⟨by omega, by omega⟩
            have HG9 : Hid (Z.heap[go]? = w1.heap[go]? ∧ Z.heap[Bu]? = w1.heap[Bu]?) := ⟨(hZo go hgoB.1).trans hkb.2.1, (hZo Bu hgoB.2).trans hkb.2.2⟩
            have HV9 : Hid (∀ q, (Value.slice (some ⟨g7, 0, none⟩) (lc + 1) c7).ownBlock = some q → q < ws ∨ w1s ≤ q) := fun q hq => by
              have hq : g7 = q := by simpa [Value.ownBlock] using hq
              subst hq
              rcases HO7.out with h3 | h3
              · exact HHV.out _ h3
              · right; have := HSZ.out; omega
            have hsz9 : w1s ≤ Z.heap.size := by
              have h3 : Z.heap.size = w7.heap.size := by rw [hZ]; simp
              have h4 : wr.heap.size ≤ w7.heap.size := by have h5 := HG7.out.size; rw [World.size_alloc] at h5; omega
              have := HSZ.out
              omega
            rw [← hZ]
            go_roundw
            case rel => exact ⟨j + 1, _, by have := HJ2.out; omega, by go_num, rfl, HN9, HV9, HG9, hsz9⟩
            case measure => have := HJ2.out; simp [intOf]; omega
          · obtain rfl : j = lo := by omega
            have t2 : decide ((j : Int) < (j : Int)) = false := by simp
            have hall : s.order.take j = s.order := by rw [← HLO.out]; exact List.take_length
            rw [hall] at hNB
            have HI3 := Lib.hid HI2.out
            clear hall
            go_wp2_with fail
            go_roundw
            case rel => exact ⟨k + 1, _, _, _, by omega, by go_num, rfl, HI3, hNB⟩
            case measure => simp [intOf]; omega
    · obtain rfl : N = k := by omega
      have t1 : decide ((N : Int) < (N : Int)) = false := by simp
      go_wp2_with fail
      go_ret2
      exact ⟨B, _, A, U, rfl, ⟨hNB.out.out, hNB.out.row, HB.out.trans (hNB.out.bel.mono (Nat.le_of_lt HXS.out))⟩, hI.out, by have := HBQ.out; have := HXS.out; omega⟩
end
section
set_option maxRecDepth 100000
open Go.RowKit

/-- Every block that lay, but for some k from d on, lies as it lay. -/
structure Bar (d k : Nat) (A B : World) : Prop where
  os : B.os = A.os
  tape : B.tape = A.tape
  output : B.output = A.output
  size : A.heap.size ≤ B.heap.size
  same : ∀ b, b < A.heap.size → (b < d ∨ d + k ≤ b) → B.heap[b]? = A.heap[b]?
theorem Bar.refl (d k : Nat) (A : World) : Bar d k A A := ⟨rfl, rfl, rfl, Nat.le_refl _, fun _ _ _ => rfl⟩
theorem Bar.trans {d k : Nat} {A B C : World} (h : Bar d k A B) (g : Bar d k B C) : Bar d k A C :=
  ⟨g.os.trans h.os, g.tape.trans h.tape, g.output.trans h.output, Nat.le_trans h.size g.size, fun b hb hd => (g.same b (Nat.lt_of_lt_of_le hb h.size) hd).trans (h.same b hb hd)⟩
theorem Bar.wide {d k d' k' : Nat} {A B : World} (h : Bar d k A B) (h1 : d' ≤ d) (h2 : d + k ≤ d' + k') : Bar d' k' A B :=
  ⟨h.os, h.tape, h.output, h.size, fun b hb hd => h.same b hb (by omega)⟩
theorem Bar.of_below {d k : Nat} {A B : World} (h : Below A.heap.size A B) : Bar d k A B := ⟨h.os, h.tape, h.output, h.size, fun b hb _ => h.block b hb⟩
theorem Bar.put {d k l : Nat} (A : World) (o : Obj) (h1 : d ≤ l) (h2 : l < d + k) : Bar d k A (A.putObj l o) :=
  ⟨rfl, rfl, rfl, by simp, fun b _ hd => World.putObj_heap_other (by omega)⟩
theorem Bar.below {d k n : Nat} {A B : World} (h : Bar d k A B) (h1 : n ≤ d) (h2 : n ≤ A.heap.size) : Below n A B :=
  ⟨h.os, h.tape, h.output, h.size, fun b hb => h.same b (by omega) (.inl (by omega))⟩
theorem Bar.cell {d k : Nat} {A B : World} (h : Bar d k A B) {p : Addr} (hp : p.block < A.heap.size) (hd : p.block < d ∨ d + k ≤ p.block) : B.cell? p = A.cell? p := by
  unfold World.cell?
  rw [h.same _ hp hd]

structure BarAt (d k n : Nat) (A B : World) : Prop where
  os : B.os = A.os
  tape : B.tape = A.tape
  output : B.output = A.output
  size : A.heap.size ≤ B.heap.size
  same : ∀ b, b < n → (b < d ∨ d + k ≤ b) → B.heap[b]? = A.heap[b]?
theorem Bar.trans' {d k : Nat} {A B C : World} (h : Bar d k A B) (g : BarAt d k A.heap.size B C) : Bar d k A C :=
  ⟨g.os.trans h.os, g.tape.trans h.tape, g.output.trans h.output, Nat.le_trans h.size g.size, fun b hb hd => (g.same b hb hd).trans (h.same b hb hd)⟩
theorem Bar.setCell {d k : Nat} {A B : World} (h : Bar d k A B) {q : Addr} (hq : A.heap.size ≤ q.block ∨ (d ≤ q.block ∧ q.block < d + k)) (v : Value) : Bar d k A (B.setCell q v) :=
  h.trans' ⟨rfl, rfl, rfl, by show B.heap.size ≤ (B.heap.modify _ _).size; rw [Array.size_modify]; exact Nat.le_refl _, fun b hb hd => Below.heap_setCell B q v b (by have := h.size; omega)⟩
theorem Bar.alloc {d k : Nat} {A B : World} (h : Bar d k A B) (o : Obj) : Bar d k A (B.alloc o) := h.trans (Bar.of_below ((Below.refl _ B).alloc (Nat.le_refl _) o))
theorem Bar.grown {d k : Nat} {A B C : World} {row : Option Nat} (h : Bar d k A B) (hg : B.grownBy C row) (hr : ∀ r, row = some r → A.heap.size ≤ r ∨ (d ≤ r ∧ r < d + k)) : Bar d k A C := by
  obtain ⟨g1, g2, g3, g4, g5⟩ := hg
  refine ⟨by rw [← h.os]; assumption, by rw [← h.tape]; assumption, by rw [← h.output]; assumption, Nat.le_trans h.size g4, fun b hb hd => ?_⟩
  rw [g5 b (Nat.lt_of_lt_of_le hb h.size) (fun e => by have := hr b e.symm; omega)]
  exact h.same b hb hd

/-- A fresh row of ints. -/
abbrev RowI (w : World) (base b cap : Nat) (x : List Nat) : Prop := w.ownsRow base 3 1 (.slice (some ⟨b, 0, none⟩) x.length cap) x.length (zs (iz x))

end
section
set_option maxRecDepth 100000
open Go.RowKit

/-- What the iterator owes: each place from the last one on, one round each. -/
def BackI (A0 : Option Addr) (Bp n c : Nat) (L : List Nat) (W : World) : Prop :=
  ∀ (l : Nat) (J : Nat → World → Prop),
    (∀ j A, J j A → RdZ A A0 (iz L) ∧ A.cell? ⟨Bp, 0, none⟩ = some (.slice A0 n c)) →
    (∀ j x A, L[j]? = some x → J (j + 1) A → YieldAt Fence.wide 0 Try.prog l #[.int .i64 (j : Nat), .int .i64 (x : Nat)] A fun e W' => e = .returned (.bool true) ∧ J j W') →
    J n W →
    CallsIn Fence.wide 0 Try.prog 70 (#[.func (.yield l) #[] #[]] ++ #[.pointer (some ⟨Bp, 0, none⟩)]) W fun e W' => (∃ v, e = .returned v) ∧ J 0 W'

set_option maxHeartbeats 4000000 in
theorem range_back {g : Operand} {ps : Array Tmp} {assign body : Code} {Q : Exit → Act → World → Prop} {a : Act} {w : World} (A0 : Option Addr) (Bp n c : Nat) (L : List Nat)
    (hps : ps.size = 2) (hg : a.eval g = .func (.func 70) #[] #[.pointer (some ⟨Bp, 0, none⟩)])
    (eg : ∀ args w, (callFunc 70 args).run Try.prog w = .ok (.enter 70 args) w)
    (hback : ∀ W : World, BackI A0 Bp n c L W)
    (I : Nat → World → Prop) (hRd : ∀ j A, I j A → RdZ A A0 (iz L) ∧ A.cell? ⟨Bp, 0, none⟩ = some (.slice A0 n c)) (hI : ∀ j A A', I j A → Bar w.heap.size 2 A A' → I j A') (h0 : I n w) (a₁ : Nat → Nat → Act)
    (hassign : ∀ (l j x : Nat) (W : World) (K : Act → World → Prop), K (a₁ j x) W →
      assign.wpIn (Fence.wide.inRound l) 0 Try.prog (Exit.then K (fun _ _ _ => False)) { tmps := (ps.zip #[.int .i64 (j : Nat), .int .i64 (x : Nat)]).foldl (fun t (q, v) => t.setIfInBounds q v) a.tmps, defers := [] } W)
    (hbody : ∀ (l j x : Nat) (W1 : World), L[j]? = some x → I (j + 1) W1 → w.heap.size + 2 ≤ W1.heap.size →
      body.wpIn (Fence.wide.inRound l) 0 Try.prog (fun e _ W' => e = .normal ∧ I j W' ∧ W1.heap.size ≤ W'.heap.size ∧ ∀ k, w.heap.size ≤ k → k < w.heap.size + 2 → W'.heap[k]? = W1.heap[k]?) (a₁ j x) W1)
    (hdone : ∀ (W : World), I 0 W → W.heap[w.heap.size]? = some (.deferred (some [])) → Q .normal { a with defers := { target := .collected w.heap.size, args := #[] } :: a.defers } W) :
    (Code.rangeFunc g ps assign body).wpIn Fence.wide 0 Try.prog Q a w := by
  refine wpIn_rangeFunc ?_
  intro fn hfn
  obtain ⟨rec, hrec⟩ : ∃ rec : LoopState → Option Code → Loop, rec = fun st pe => { state := st, pending := pe, fn, tmps := a.tmps, params := ps, assign, body, defers := w.heap.size } := ⟨_, rfl⟩
  obtain ⟨W1, hW1⟩ : ∃ W1, (w.alloc (.deferred (some []))).alloc (.loop (rec .ready none)) = W1 := ⟨_, rfl⟩
  have hb1 : Below w.heap.size w W1 := by rw [← hW1]; exact ((Below.refl _ w).alloc (Nat.le_refl _) _).alloc (by simp) _
  have hs1 : W1.heap.size = w.heap.size + 2 := by rw [← hW1]; simp
  have hL1 : W1.heap[w.heap.size + 1]? = some (.loop (rec .ready none)) := by
    rw [← hW1]
    have := World.alloc_heap_new (w.alloc (.deferred (some []))) (.loop (rec .ready none))
    rwa [World.size_alloc] at this
  have hK1 : W1.heap[w.heap.size]? = some (.deferred (some [])) := by
    rw [← hW1]
    exact (Below.heap_alloc _ _ _ (by simp)).trans (World.alloc_heap_new w _)
  have hI1 : I n W1 := hI _ _ _ h0 (Bar.of_below hb1)
  refine ⟨w.heap.size + 1, [{ target := .collected w.heap.size, args := #[] }], W1, { target := .fn (.func 70) #[.pointer (some ⟨Bp, 0, none⟩)], args := #[.func (.yield (w.heap.size + 1)) #[] #[]] }, W1, 70,
    #[.func (.yield (w.heap.size + 1)) #[] #[]] ++ #[.pointer (some ⟨Bp, 0, none⟩)], W1, ?_, ?_, ?_, ?_, fun h => by simp [Fence.wide] at h, ?_⟩
  · rw [← hW1, hrec]; exact run_enterLoop_outer _ _ _ _ _
  · simp only [resolve, hg]
    simp [go_sem]
  · intro f' _; trivial
  · simp [invoke, go_sem, eg]
  · refine (hback W1 (w.heap.size + 1)
      (fun j W => I j W ∧ w.heap.size + 2 ≤ W.heap.size ∧ W.heap[w.heap.size + 1]? = some (.loop (rec .ready none)) ∧ W.heap[w.heap.size]? = some (.deferred (some [])))
      (fun j A h => hRd j A h.1) ?_ ⟨hI1, by omega, hL1, hK1⟩).mono ?_
    · rintro j x W hx ⟨h1, h2, hl, hk⟩
      have hy := run_yield (P := Try.prog) (args := #[.int .i64 (j : Nat), .int .i64 (x : Nat)]) hl (by rw [hrec]; exact hps.symm)
      rw [hrec] at hy
      refine ⟨fn, _, assign, body, hy, roundIn_of_wpIn hfn (hassign _ _ _ W _ ⟨_, run_beginRound hl (by rw [hrec]), ?_⟩)⟩
      obtain ⟨W2, hW2⟩ : ∃ W2, W2 = W.putObj (w.heap.size + 1) (.loop { rec .ready none with state := .busy }) := ⟨_, rfl⟩
      have hl2 : W2.heap[w.heap.size + 1]? = some (.loop { rec .ready none with state := .busy }) := by rw [hW2]; exact World.putObj_heap_same (by omega)
      have hk2 : W2.heap[w.heap.size]? = some (.deferred (some [])) := by rw [hW2]; exact (World.putObj_heap_other (by omega)).trans hk
      have hz2 : W2.heap.size = W.heap.size := by rw [hW2]; simp
      have hi2 : I (j + 1) W2 := hI _ _ _ h1 (by rw [hW2]; exact Bar.put W _ (by omega) (by omega))
      rw [← hW2]
      refine wpIn_mono (hbody _ j x W2 hx hi2 (by omega)) ?_
      rintro e a3 W3 ⟨rfl, h5, h6, h7⟩
      have hl3 := (h7 _ (by omega) (by omega)).trans hl2
      have hr := run_endRound (P := Try.prog) none hl3
      rw [hrec] at hr
      refine ⟨_, _, hr, rfl, hI _ _ _ h5 (Bar.put W3 _ (by omega) (by omega)), by simp; omega, ?_, ?_⟩
      · rw [hrec]; exact World.putObj_heap_same (by omega)
      · exact (World.putObj_heap_other (by omega)).trans ((h7 _ (by omega) (by omega)).trans hk2)
    · rintro e W2 ⟨⟨v, rfl⟩, h1, h2, h3, h4⟩
      have hr := run_endLoop (P := Try.prog) h3 (by rw [hrec]; simp)
      rw [hrec] at hr
      exact ⟨none, _, hr, hdone _ (hI _ _ _ h1 (Bar.put W2 _ (by omega) (by omega))) ((World.putObj_heap_other (by omega)).trans h4)⟩
attribute [local go_sem] Oper.semAt_some
set_option maxHeartbeats 8000000 in
/-- The iterator keeps its word. -/
theorem back1_any (A0 : Option Addr) (Bp n c : Nat) (L : List Nat) (W : World) (hn : n = L.length) (hn2 : n ≤ 1000) : BackI A0 Bp n c L W := by
  intro l J hRd hY h0
  have HN := Lib.hid hn
  have HRD := Lib.hid hRd
  have HY := Lib.hid hY
  have HJ0 := Lib.hid h0
  obtain ⟨_, q2⟩ := hRd _ _ h0
  clear hn hRd hY h0
  refine callsIn_of_wp Try.func70 rfl trivial ?_ rfl
  simp only [Try.ntmps70, List.size_toArray, List.length_cons, List.length_nil, Nat.reduceAdd, Nat.reduceSub, Array.replicate_succ, Array.replicate_zero, List.push_toArray, List.append_toArray, List.nil_append, List.cons_append]
  gi_wp2
  gi_loopw [3] (fun s wr => ∃ (j : Nat) (i : Int), j ≤ n ∧ s = .int .i64 i ∧ i = (j : Int) - 1 ∧ Hid (J j wr)) (fun s _ => (intOf s + 1).toNat)
  case atStart => exact ⟨n, _, Nat.le_refl _, rfl, by go_num, HJ0⟩
  case round =>
    obtain ⟨j, i, hj, rfl, hi, hJ⟩ := hrel
    cases j with
    | zero =>
      have t0 : decide ((0 : Int) ≤ i) = false := by simp; omega
      clear hi
      gi_wp2
      go_end0
      exact ⟨⟨_, rfl⟩, hJ.out⟩
    | succ m =>
      obtain rfl : i = (m : Int) := by omega
      have t1 : decide ((0 : Int) ≤ (m : Int)) = true := by simp
      obtain ⟨x, hx⟩ : ∃ x, L[m]? = some x := ⟨_, List.getElem?_eq_getElem (by rw [← HN.out]; omega)⟩
      obtain ⟨r1, r2⟩ := HRD.out _ _ hJ.out
      obtain ⟨ad, rfl, _, c1⟩ := r1 m (x : Int) (by simp [iz, hx])
      have hM0 : (0 : Int) ≤ (m : Int) := by omega
      have hM1 : (m : Int) < (n : Nat) := by omega
      obtain ⟨fn, tmps, assign, body, hy, hR⟩ := HY.out m x wr hx hJ.out
      clear hx r1 hi
      gi_wp2
      refine ⟨rfl, hR.mono ?_⟩
      rintro e W3 ⟨rfl, hJ3⟩
      have HJ3 := Lib.hid hJ3
      clear hJ3 hy hR
      gi_wp2
      go_roundw
      case rel => exact ⟨m, _, by omega, rfl, by go_num, HJ3⟩
      case measure => simp [intOf]
/-- The lesser one of two. -/
theorem min_run (ats : Array TypeId) (ty : TypeId) (a b : Int) (w : World) : (Builtin.min_ ats ty #[.int .i64 a, .int .i64 b]).run Try.prog w = .ok (.int .i64 (min a b)) w := by
  show Result.ok (Value.int .i64 (if b < a then b else a)) w = _
  by_cases h : b < a
  · rw [if_pos h, show min a b = b by omega]
  · rw [if_neg h, show min a b = a by omega]
theorem backward_any (A0 : Option Addr) (n c : Nat) (w : World) : Calls Try.prog 46 #[.slice A0 n c] w fun e w' => e = .returned (.func (.func 70) #[] #[.pointer (some ⟨w.heap.size, 0, none⟩)]) ∧ w' = w.alloc (.cells #[.slice A0 n c] 35) := by
  go_enter Try.func46, Try.ntmps46
  go_wp2_with fail
  go_ret
  exact ⟨rfl, rfl⟩
end
section
set_option maxRecDepth 100000
open Go.RowKit

section
variable {P : Program} {ops : Array Oper} {Q : Exit → Act → World → Prop} {l : Nat}
theorem round_upon {o : Oper} {a : Act} {next : Act → World → Prop} {r : Result Next} (h : o.upon P a next Q r) : o.uponIn (Fence.wide.inRound l) 0 P a next Q r := by
  cases r with
  | ok x w' =>
    cases x <;> simp only [Oper.upon, Oper.uponIn] at h ⊢ <;>
      first
        | exact h
        | exact ⟨fun _ => by simp [Fence.wide, Fence.inRound] at *, CallsIn.inRound l (callsIn_wide.2 h)⟩
        | exact ⟨fun _ => by simp [Fence.wide, Fence.inRound] at *, fun c cs _ => let ⟨v, w2, h1, h2⟩ := h c cs; ⟨v, w2, h1, stepsIn_wide.2 h2⟩⟩
        | exact h.elim
  | halt x w' => cases x <;> simp only [Oper.upon, Oper.uponIn] at h ⊢ <;> first | exact h | exact h.elim
/-- No operation is a defer statement. -/
def noDefer (ops : Array Oper) : Bool := ops.toList.all fun o => match o.op with | .defer _ => false | _ => true
theorem noDefer_at (h : noDefer ops = true) {i : Nat} {o : Oper} (ho : ops[i]? = some o) (c : Call) : o.op ≠ .defer c := by
  intro e
  have hm : o ∈ ops.toList := List.mem_of_getElem? (i := i) (by rw [Array.getElem?_toList]; exact ho)
  have := List.all_eq_true.1 h o hm
  rw [e] at this
  cases this
theorem op_round (hd : noDefer ops = true) (hq : ¬ LetsOut Q) {i : Nat} {K : Act → World → Prop} {a : Act} {w : World} (h : wpOp P ops Q i K a w) : wpOpIn (Fence.wide.inRound l) 0 P ops Q i K a w := by
  unfold wpOp at h
  unfold wpOpIn
  split
  · rename_i hn; rw [hn] at h; exact h
  · rename_i o ho
    rw [ho] at h
    simp only at h
    split
    · rename_i hw
      rw [if_pos hw] at h
      rcases h with h | ⟨_, h⟩
      · refine ⟨fun _ _ => trivial, ?_⟩
        have e : Oper.semAt (Fence.wide.inRound l).round a.eval o = execOp a.eval o := Oper.semAt_some l a.eval o (noDefer_at hd ho)
        rw [e]
        exact round_upon h
      · exact absurd h hq
    · rename_i hw
      rw [if_neg hw] at h
      exact ⟨fun _ _ => trivial, h⟩
theorem any_round (hd : noDefer ops = true) (hq : ¬ LetsOut Q) (md : Region.Mode) : ∀ (fuel : Nat) (listed : Array Bool) (a : Act) (w : World), wpAny P md ops Q fuel listed a w → wpAnyIn (Fence.wide.inRound l) 0 P md ops Q fuel listed a w
  | 0, _, _, _, h => h
  | fuel + 1, _, _, _, h => ⟨h.1, fun i hi => wpOpIn_mono (fun _ _ hk => any_round hd hq md fuel _ _ _ hk) (op_round hd hq (h.2 i hi))⟩
/-- The beginning, as of wp_region_held_drew. -/
theorem round_region_held {S : World → Prop} {id : Nat} {a : Act} {w : World} (hm : P.follows .mixedOrders = true) (hd : noDefer ops = true) (hq : ¬ LetsOut Q) (hS : S w.drew)
    (h : S w.drew → wpAnyH P .any ops Q S ops.size (Array.replicate ops.size false) a w.drew) : (Code.region id ops true).wpIn (Fence.wide.inRound l) 0 P Q a w :=
  wpIn_region_any hm (any_round hd hq .any _ _ _ _ (wpAny_of_held _ _ _ _ (h hS)))
end
end
section
set_option maxRecDepth 100000
open Go.RowKit
attribute [local go_sem] Oper.semAt_some
attribute [local go_sem ↓] min_run

theorem own_bar {w w' : World} {base size n B : Nat} {e : TypeId} {v : Value} {cs : List Value} (h : w.ownsRow base e size v n cs) (hb : Bar B 1 w w') (hv : v.ownBlock ≠ some B) : w'.ownsRow base e size v n cs := by
  obtain ⟨hl, h0 | ⟨g, cap, cur, ev, h1, h2, h3⟩⟩ := h
  · exact ⟨hl, .inl h0⟩
  · refine ⟨hl, .inr ⟨g, cap, cur, ev, h1, (hb.same g (lt_of_block h2) ?_).trans h2, h3⟩⟩
    have : g ≠ B := fun e => hv (by rw [ev, e]; rfl)
    omega
theorem Rows.bar {w w' : World} {base B B2 : Nat} {us : List Value} {T : List (List Int)} (h : Rows w base B2 us T) (hb : Bar B 1 w w') (h1 : B < base) (h2 : B < B2) : Rows w' base B2 us T := by
  obtain ⟨a, b, c, d⟩ := h
  refine ⟨(hb.same B2 (lt_of_block a) (by omega)).trans a, b, fun j u xs hu hx => ⟨own_bar (c j u xs hu hx).1 hb (fun e => ?_), (c j u xs hu hx).2⟩, d⟩
  have := ((c j u xs hu hx).1.lt B e).1
  omega
theorem numL_low {N : Nat} {A : List Nat} (U : Nat → Option Nat) (h : ∀ v, v < N → v ∈ A) : numL N A U = lowL N A U (numF A) := by
  unfold numL lowL
  apply List.map_congr_left
  intro v hv
  rw [if_pos (h v (List.mem_range.1 hv))]
/-- What lies between two rounds. -/
def SrI (w2 : World) (B N : Nat) (T : List (List Int)) (A : List Nat) (U : Nat → Option Nat) (j : Nat) (X : World) : Prop :=
  Bar B 1 w2 X ∧ ∃ F, SI T A U j F ∧ OwnT X B (lowL N A U F)
theorem SrI.bar {w2 : World} {B N : Nat} {T : List (List Int)} {A : List Nat} {U : Nat → Option Nat} {j : Nat} {X Y : World} (h : SrI w2 B N T A U j X) (hB : B < w2.heap.size) (hb : Bar w2.heap.size 2 X Y) : SrI w2 B N T A U j Y := by
  obtain ⟨h1, F, h2, h3⟩ := h
  refine ⟨⟨hb.os.trans h1.os, hb.tape.trans h1.tape, hb.output.trans h1.output, Nat.le_trans h1.size hb.size, fun b hl hd => (hb.same b (by have := h1.size; omega) (.inl hl)).trans (h1.same b hl hd)⟩, F, h2, ?_⟩
  exact (hb.same B (lt_of_block h3) (.inl hB)).trans h3
set_option maxHeartbeats 32000000 in
theorem search_any (A0 : Option Addr) (c n N : Nat) (E : List (Int × Int)) (w : World) (hr : RdP w A0 E) (hn : n = E.length) (hg : rightG (N : Nat) E = true) :
    Calls Try.prog 14 #[.agg #[.int .i64 (N : Nat), .slice A0 n c]] w fun e w' => ∃ (B : Nat) (A : List Nat) (U : Nat → Option Nat) (F : Nat → Nat), e = .returned (.tuple #[.slice (some ⟨B, 0, none⟩) N N, .int .i64 0]) ∧ OwnT w' B (lowL N A U F) ∧ NR (tabG N E) N N A U ∧ (∀ v, LowFix (adj (tabG N E)) U (numF A) F v) ∧ w.heap.size ≤ B ∧ Below w.heap.size w w' := by
  have hN2 : N ≤ 200 := by have := (rightG_bounds hg).2.1; omega
  obtain ⟨X, hX⟩ : ∃ X, X = w.alloc (.cells #[.int .i64 (N : Nat), .slice A0 n c] 24) := ⟨_, rfl⟩
  have hb : Below w.heap.size w X := by rw [hX]; exact (Below.refl _ _).alloc (Nat.le_refl _) _
  have hXS : w.heap.size < X.heap.size := by rw [hX]; simp
  obtain ⟨j0, j1, _, _⟩ := cells_two (w := X) (by rw [hX]; exact heap_alloc_new w _)
  have HJ : Hid (∀ w', Below X.heap.size X w' → w'.cell? ⟨w.heap.size, 0, none⟩ = some (.int .i64 (N : Nat)) ∧ w'.cell? ⟨w.heap.size, 1, none⟩ = some (.slice A0 n c)) := fun w' hb =>
    ⟨by rw [hb.cell (by show w.heap.size < _; omega)]; exact j0, by rw [hb.cell (by show w.heap.size < _; omega)]; exact j1⟩
  have HE := Lib.hid (hr.below hb)
  have HN := Lib.hid hn
  have HG := Lib.hid hg
  have HX := Lib.hid hX
  have HB := Lib.hid hb
  have HXS := Lib.hid hXS
  have HSY : Hid (∀ a b, adj (tabG N E) a b → adj (tabG N E) b a) := fun a b h => tabG_sym hg h
  have HT := Lib.hid (tab_is hg)
  have HIR := Lib.hid (adj_irr hg)
  clear hr hn hg hX hb hXS
  refine callsIn_wide (n := 0).1 (callsIn_of_wp_marks Try.func14 rfl trivial ?_ rfl)
  refine wpIn_wide.2 ?_
  simp only [Try.ntmps14, List.size_toArray, List.length_cons, List.length_nil, Nat.reduceAdd, Nat.reduceSub, Array.replicate_succ, Array.replicate_zero, List.push_toArray, List.append_toArray, List.nil_append, List.cons_append]
  go_wp2_with fail
  rw [← HX.out]
  refine (right_any A0 c n N E X HE.out HN.out).mono ?_
  rintro e w1 ⟨rfl, hb1⟩
  rw [HG.out]
  have HB1 := Lib.hid hb1
  clear hb1 j0 j1
  obtain ⟨j0, j1⟩ := HJ.out w1 HB1.out
  go_wp2_with fail
  refine (numbered_any A0 c n N E w1 (HE.out.below HB1.out) HN.out HG.out HSY.out).mono ?_
  rintro e w3 ⟨B, V, A, U, rfl, hNB, hNR, hB1⟩
  have HP := Lib.hid hNR.toNI.perm
  have hAl : A.length = N := HP.out.len
  have hOT0 : OwnT w3 B (lowL N A U (numF A)) := by
    rw [← numL_low U (fun v hv => hNR.done v hv hv)]
    exact hNB.out
  have hvb := hNB.apart
  obtain ⟨AV, cv, rfl⟩ : ∃ AV cv, V = .slice AV N cv := by
    rcases Joins.ownsRow_forms hNB.row with ⟨e, h0⟩ | ⟨g, cap, e⟩
    · exact ⟨none, 0, by rw [e, ← hAl, h0]⟩
    · exact ⟨_, cap, by rw [e, hAl]⟩
  have hrow3 := hNB.row
  rw [hAl] at hrow3
  have HRW3 := Lib.hid hrow3
  have HO3 := Lib.hid hOT0
  have HVB := Lib.hid hvb
  have HB3 := Lib.hid (next_below HB1.out (hNB.bel))
  have HNR := Lib.hid hNR
  have hBl : B < w3.heap.size := lt_of_block hOT0
  have HBW : Hid (w.heap.size ≤ B) := by have := HB1.out.size; have := HXS.out; show _ ≤ _; omega
  obtain ⟨W4, hW4⟩ : ∃ W4, W4 = w3.alloc (.cells #[.slice (some ⟨B, 0, none⟩) N N] 27) := ⟨_, rfl⟩
  have hb4 : Below w3.heap.size w3 W4 := by rw [hW4]; exact (Below.refl _ _).alloc (Nat.le_refl _) _
  have hpo : W4.heap[w3.heap.size]? = some (.cells #[.slice (some ⟨B, 0, none⟩) N N] 27 (0, 0)) := by rw [hW4]; exact heap_alloc_new w3 _
  have HB4 := Lib.hid (next_below HB3.out hb4)
  have h4s : W4.heap.size = w3.heap.size + 1 := by rw [hW4]; simp
  have HPO := Lib.hid hpo
  have HB34 := Lib.hid hb4
  have HW4 := Lib.hid hW4
  clear hNB hNR hOT0 hvb hrow3 j0 j1 hB1 hpo hb4 hW4
  obtain ⟨j0, j1⟩ := HJ.out W4 HB4.out
  go_upto_region 4 with fail
  rw [← HW4.out]
  go_wp2_with fail
  refine (beside_any A0 c n N E W4 (HE.out.below HB4.out) HN.out HG.out).mono ?_
  rintro e w5 ⟨B2, us, rfl, hRo, hB2, hb5⟩
  have HRO := Lib.hid hRo
  have h5s := hb5.size
  have hB2l : B2 < w5.heap.size := lt_of_block hRo.1
  obtain ⟨w6, hw6⟩ : ∃ w6, w6 = w5.alloc (.cells #[.slice (some ⟨B2, 0, none⟩) N N] 48) := ⟨_, rfl⟩
  have hb6 : Below w5.heap.size w5 w6 := by rw [hw6]; exact (Below.refl _ _).alloc (Nat.le_refl _) _
  have h6s : w6.heap.size = w5.heap.size + 1 := by rw [hw6]; simp
  have hpb : w6.heap[w5.heap.size]? = some (.cells #[.slice (some ⟨B2, 0, none⟩) N N] 48 (0, 0)) := by rw [hw6]; exact heap_alloc_new w5 _
  obtain ⟨w7, hw7⟩ : ∃ w7, w7 = w6.alloc (.cells #[.slice AV N cv] 35) := ⟨_, rfl⟩
  have hb7 : Below w6.heap.size w6 w7 := by rw [hw7]; exact (Below.refl _ _).alloc (Nat.le_refl _) _
  have h7s : w7.heap.size = w6.heap.size + 1 := by rw [hw7]; simp
  have hpv : w7.heap[w6.heap.size]? = some (.cells #[.slice AV N cv] 35 (0, 0)) := by rw [hw7]; exact heap_alloc_new w6 _
  have hb47 : Below W4.heap.size W4 w7 := (hb5.trans (hb6.mono h5s)).trans (hb7.mono (by omega))
  have hb37 : Below w3.heap.size w3 w7 := next_below HB34.out hb47
  have HB7 := Lib.hid (next_below HB4.out hb47)
  have HO7 : Hid (OwnT w7 B (lowL N A U (numF A))) := HO3.out.below hb37
  have HRW7 := Lib.hid (row_below HRW3.out hb37)
  have HRO7 : Hid (Rows w7 W4.heap.size B2 us (tabG N E)) := HRO.out.below (hb6.trans (hb7.mono (by omega)))
  have HC7 : Hid (∀ X', Bar B 1 w7 X' → X'.cell? ⟨w3.heap.size, 0, none⟩ = some (.slice (some ⟨B, 0, none⟩) N N) ∧ X'.cell? ⟨w5.heap.size, 0, none⟩ = some (.slice (some ⟨B2, 0, none⟩) N N) ∧ X'.cell? ⟨w6.heap.size, 0, none⟩ = some (.slice AV N cv) ∧ RdZ X' AV (iz A) ∧ RdR X' (some ⟨B2, 0, none⟩) (tabG N E)) := by
    intro X' hB
    refine ⟨?_, ?_, ?_, ?_, ?_⟩
    · rw [hB.cell (by show w3.heap.size < _; omega) (.inr (by show B + 1 ≤ w3.heap.size; omega)), hb47.cell (by show w3.heap.size < _; omega), cell_of HPO.out]
      rfl
    · rw [hB.cell (by show w5.heap.size < _; omega) (.inr (by show B + 1 ≤ w5.heap.size; omega)), hb7.cell (by show w5.heap.size < _; omega), cell_of hpb]
      rfl
    · rw [hB.cell (by show w6.heap.size < _; omega) (.inr (by show B + 1 ≤ w6.heap.size; omega)), cell_of hpv]
      rfl
    · have h := own_bar HRW7.out hB HVB.out
      exact owns_rd (n := N) (by rw [show zs (iz A) = zn A by simp only [zn, zs, iz, List.map_map]; rfl]; exact h)
    · exact (HRO7.out.bar hB (by omega) (by omega)).rd
  have HWE : Hid (w7 = (w5.alloc (.cells #[.slice (some ⟨B2, 0, none⟩) N N] 48)).alloc (.cells #[.slice AV N cv] 35)) := by show _ = _; rw [hw7, hw6]
  have hB7l : B < w7.heap.size := by omega
  clear hRo hb5 hb6 hb7 hpb hpv hb47 hb37 hw6 hw7 j0 j1
  go_wp2_with fail
  refine (backward_any AV N cv _).mono ?_
  rintro e w7' ⟨rfl, hw7'⟩
  rw [← HWE.out] at hw7'
  subst hw7'
  have HI0 : Hid (SrI w7' B N (tabG N E) A U N w7') := ⟨Bar.refl _ _ _, numF A, SI.start _ A U N hAl, HO7.out⟩
  go_wp2_with fail
  refine wpIn_wide.1 (range_back (w := w7') AV (w5.heap.size + 1) N cv A rfl rfl (enters_of Try.func70 (by kernel_rfl) rfl) (fun W => back1_any AV _ N cv A W hAl.symm (by omega))
    (SrI w7' B N (tabG N E) A U) (fun j X h => ⟨(HC7.out X h.1).2.2.2.1, by rw [← h6s]; exact (HC7.out X h.1).2.2.1⟩) (fun j X Y h hb => h.bar hB7l hb) HI0.out ?a1 ?assign ?body ?done)
  case assign =>
    intro l j v W K hK
    gi_wp2
    exact hK
  case body =>
    rintro l j v W1 hv hI hsz
    obtain ⟨hBar, F, hSI, hOT⟩ := hI
    have hvN : v < N := HP.out.lt v (List.mem_of_getElem? hv)
    obtain ⟨xs, hxs⟩ : ∃ xs, (tabG N E)[v]? = some xs := ⟨_, List.getElem?_eq_getElem (by rw [(tabG_okT HG.out).1]; exact hvN)⟩
    have hTv : (tabG N E).getD v [] = xs := by simp [List.getD, hxs]
    have hxl : xs.length ≤ 1000 := by rw [← hTv]; exact tabG_row HG.out v
    have hxn : ∀ x ∈ xs, ∃ y : Nat, x = (y : Int) ∧ y < N ∧ y ≠ v := fun x hx => by
      obtain ⟨y, e, hy⟩ := HT.out.nat v x (by rw [hTv]; exact hx)
      refine ⟨y, e, hy, fun e2 => HIR.out v ?_⟩
      show (v : Int) ∈ _
      rw [hTv, ← e2, ← e]
      exact hx
    obtain ⟨c1, c2, _, _, hRR⟩ := HC7.out W1 hBar
    obtain ⟨ad, Bx, cx, hA, hadl, hadc, hrow⟩ := hRR v xs hxs
    injection hA with hA
    subst hA
    rw [add_off] at hadc
    have HFA : Hid (∀ X', Bar B 1 W1 X' → X'.cell? ⟨w3.heap.size, 0, none⟩ = some (.slice (some ⟨B, 0, none⟩) N N) ∧ RdZ X' Bx xs) := by
      intro X' hX
      obtain ⟨d1, _, _, _, hR2⟩ := HC7.out X' (hBar.trans hX)
      obtain ⟨ad2, Bx2, cx2, hA2, _, hadc2, hrow2⟩ := hR2 v xs hxs
      injection hA2 with hA2
      subst hA2
      rw [add_off, hX.cell (by exact hadl) (.inr (by show B + 1 ≤ B2; omega)), hadc] at hadc2
      injection hadc2 with hadc2
      injection hadc2 with h1 _ _
      rw [h1]
      exact ⟨d1, hrow2⟩
    have hFv : F v = numF A v := hSI.rest v (fun hm => by
      obtain ⟨i, hi⟩ := List.getElem?_of_mem hm
      rw [List.getElem?_drop] at hi
      have h1 := idx_at HP.out.nod hi
      have h2 := idx_at HP.out.nod hv
      omega)
    have HSJ0 := Lib.hid (SJ.start xs A U v hFv)
    have HSI := Lib.hid hSI
    have HOT := Lib.hid hOT
    have HBA := Lib.hid hBar
    have HV := Lib.hid hv
    have HXN := Lib.hid hxn
    have HTV := Lib.hid hTv
    have HB0 := Lib.hid (Bar.refl B 1 W1)
    obtain ⟨xl, hxle⟩ : ∃ xl, xs.length = xl := ⟨_, rfl⟩
    have HXL := Lib.hid hxle
    rw [hxle] at hadc hxl
    have hV0 : (0 : Int) ≤ (v : Int) := by omega
    have hV1 : (v : Int) < (N : Nat) := by omega
    have HVN := Lib.hid hvN
    clear hBar hSI hOT hv hxn hTv hxs hRR hadl hrow hFv hxle
    gi_wp2
    clear c1 c2 hadc
    gi_loopw [30] (fun s30 wr => ∃ (i : Nat) (G : Nat → Nat), i ≤ xl ∧ s30 = .int .i64 i ∧ Hid (Bar B 1 W1 wr) ∧ Hid (SJ xs A U v i F G) ∧ Hid (OwnT wr B (lowL N A U G))) (fun s30 _ => xl - (intOf s30).toNat)
    case atStart => exact ⟨0, F, Nat.zero_le _, rfl, HB0, HSJ0, HOT⟩
    case round =>
      obtain ⟨i, G, hi, rfl, hb, hJ, hO⟩ := hrel
      by_cases h1 : i < xl
      · have t1 : decide ((i : Int) < (xl : Int)) = true := by simp; omega
        obtain ⟨x, hx⟩ : ∃ x, xs[i]? = some x := ⟨_, List.getElem?_eq_getElem (by rw [HXL.out]; exact h1)⟩
        obtain ⟨y, rfl, hyN, hyv⟩ := HXN.out x (List.mem_of_getElem? hx)
        obtain ⟨d1, hrw⟩ := HFA.out wr hb.out
        obtain ⟨ad, rfl, _, e1⟩ := hrw i _ hx
        obtain ⟨n1, u1, g1⟩ := hO.out.at_ (lowL_at A U G hyN)
        obtain ⟨n2, u2, g2⟩ := hO.out.at_ (lowL_at A U G HVN.out)
        have fz : wr.frozen? ⟨B, v * 3 + 2, none⟩ = false := free_of hO.out _
        have hI0 : (0 : Int) ≤ (i : Int) := by omega
        have hI1 : (i : Int) < (xl : Nat) := by omega
        have hY0 : (0 : Int) ≤ (y : Int) := by omega
        have hY1 : (y : Int) < (N : Nat) := by omega
        have HX := Lib.hid hx
        have HYV := Lib.hid hyv
        have HYN := Lib.hid hyN
        have hFIN : Hid (∀ z : Nat, Hid (Bar B 1 W1 (wr.setCell ⟨B, v * 3 + 2, none⟩ (.int .i64 (z : Int))).drew) ∧ Hid (OwnT (wr.setCell ⟨B, v * 3 + 2, none⟩ (.int .i64 (z : Int))).drew B (lowL N A U (putF G v z)))) := fun z => by
          have h0 : Bar B 1 W1 (wr.setCell ⟨B, v * 3 + 2, none⟩ (.int .i64 (z : Int))) := hb.out.setCell (.inr ⟨Nat.le_refl _, by show B < B + 1; omega⟩) _
          refine ⟨⟨h0.os, h0.tape, h0.output, h0.size, h0.same⟩, ?_⟩
          have h := hO.out.set2 (lowL_at A U G HVN.out) (z : Int)
          rw [lowL_put] at h
          exact h
        clear hx hyv hyN
        by_cases q1 : U y = some v
        · have e2 : (upZ U y == (v : Int)) = true := by simp [(upZ_is U y v).2 q1]
          obtain ⟨z, hz⟩ : ∃ z, z = min (G v) (G y) := ⟨_, rfl⟩
          have HJ2 := Lib.hid (hJ.out.low HX.out HYV.out q1 hz)
          have HF := hFIN.out z
          have hmz : min (((G v : Nat) : Int)) ((G y : Nat) : Int) = (z : Int) := by rw [hz]; omega
          have HOT2 : Hid (∀ u : Value, (wr.setCell ⟨B, v * 3 + 2, none⟩ u).cell? ⟨B, y * 3 + 2, none⟩ = wr.cell? ⟨B, y * 3 + 2, none⟩) := fun u => World.cell?_setCell_other _ _ _ _ (fun e => by
            have h9 : v * 3 + 2 = y * 3 + 2 := by injection e
            have := HYV.out
            omega)
          have HNE : Hid (B ≠ w3.heap.size) := by show _ ≠ _; omega
          clear hz q1 hJ hFIN
          generalize upZ U y = uy at *
          generalize numF A y = ny at *
          generalize numF A v = nv at *
          generalize upZ U v = uv at *
          generalize G y = gy at *
          generalize G v = gv at *
          clear hN2 hAl hBl h4s h5s hB2l h6s h7s hB7l hsz
          gi_wp2
          refine round_region_held (S := fun X' => X'.cell? ⟨w3.heap.size, 0, none⟩ = some (.slice (some ⟨B, 0, none⟩) N N) ∧ X'.cell? ⟨B, y * 3 + 2, none⟩ = some (.int .i64 gy)) (by kernel_rfl) (by kernel_rfl) (fun hh => by obtain ⟨a9, w9, h9⟩ := hh; rcases h9 with ⟨h9, -⟩; cases h9) ⟨d1, g1⟩ (fun hS => ?_)
          refine wpAnyH_take (i := 0) (v := ?_) rfl (by kernel_rfl) (by kernel_rfl) (by kernel_rfl) (fun _ _ _ h => h) (Or.inl ⟨by rfl, ?_⟩) hS ?_
          rotate_left
          · intro wz hSw; (try dsimp only at hSw); obtain ⟨s1, s2⟩ := hSw; go_simp; (try with_reducible rfl)
          try simp only [List.getElem_toArray, List.getElem_cons_zero, List.getElem_cons_succ, Act.put, List.setIfInBounds_toArray, List.set_cons_zero, List.set_cons_succ]
          refine wpAnyH_take (i := 1) (v := ?_) rfl (by kernel_rfl) (by kernel_rfl) (by kernel_rfl) (fun _ _ _ h => h) (Or.inl ⟨by rfl, ?_⟩) hS ?_
          rotate_left
          · intro wz hSw; (try dsimp only at hSw); obtain ⟨s1, s2⟩ := hSw; go_simp; (try with_reducible rfl)
          try simp only [List.getElem_toArray, List.getElem_cons_zero, List.getElem_cons_succ, Act.put, List.setIfInBounds_toArray, List.set_cons_zero, List.set_cons_succ]
          refine wpAnyH_take (i := 2) (v := ?_) rfl (by kernel_rfl) (by kernel_rfl) (by kernel_rfl) (fun _ _ _ h => h) (Or.inl ⟨by rfl, ?_⟩) hS ?_
          rotate_left
          · intro wz hSw; (try dsimp only at hSw); obtain ⟨s1, s2⟩ := hSw; go_simp; (try with_reducible rfl)
          try simp only [List.getElem_toArray, List.getElem_cons_zero, List.getElem_cons_succ, Act.put, List.setIfInBounds_toArray, List.set_cons_zero, List.set_cons_succ]
          refine wpAnyH_take (i := 3) (v := ?_) rfl (by kernel_rfl) (by kernel_rfl) (by kernel_rfl) (fun _ _ _ h => h) (Or.inl ⟨by rfl, ?_⟩) hS ?_
          rotate_left
          · intro wz hSw; (try dsimp only at hSw); obtain ⟨s1, s2⟩ := hSw; go_simp; (try with_reducible rfl)
          try simp only [List.getElem_toArray, List.getElem_cons_zero, List.getElem_cons_succ, Act.put, List.setIfInBounds_toArray, List.set_cons_zero, List.set_cons_succ]
          refine wpAnyH_take (i := 4) (v := ?_) rfl (by kernel_rfl) (by kernel_rfl) (by kernel_rfl) (fun _ _ _ h => h) (Or.inl ⟨by rfl, ?_⟩) hS ?_
          rotate_left
          · intro wz hSw; (try dsimp only at hSw); obtain ⟨s1, s2⟩ := hSw; go_simp; (try with_reducible rfl)
          try simp only [List.getElem_toArray, List.getElem_cons_zero, List.getElem_cons_succ, Act.put, List.setIfInBounds_toArray, List.set_cons_zero, List.set_cons_succ]
          refine wpAnyH_take (i := 5) (v := ?_) rfl (by kernel_rfl) (by kernel_rfl) (by kernel_rfl) (fun _ _ _ h => h) (Or.inl ⟨by rfl, ?_⟩) hS ?_
          rotate_left
          · intro wz hSw; (try dsimp only at hSw); obtain ⟨s1, s2⟩ := hSw; go_simp; (try with_reducible rfl)
          try simp only [List.getElem_toArray, List.getElem_cons_zero, List.getElem_cons_succ, Act.put, List.setIfInBounds_toArray, List.set_cons_zero, List.set_cons_succ]
          refine wpAnyH_take (i := 7) (v := ?_) rfl (by kernel_rfl) (by kernel_rfl) (by kernel_rfl) (fun _ _ _ h => h) (Or.inl ⟨by rfl, ?_⟩) hS ?_
          rotate_left
          · intro wz hSw; (try dsimp only at hSw); obtain ⟨s1, s2⟩ := hSw; go_simp; (try with_reducible rfl)
          try simp only [List.getElem_toArray, List.getElem_cons_zero, List.getElem_cons_succ, Act.put, List.setIfInBounds_toArray, List.set_cons_zero, List.set_cons_succ]
          refine wpAnyH_take (i := 8) (v := ?_) rfl (by kernel_rfl) (by kernel_rfl) (by kernel_rfl) (fun _ _ _ h => h) (Or.inl ⟨by rfl, ?_⟩) hS ?_
          rotate_left
          · intro wz hSw; (try dsimp only at hSw); obtain ⟨s1, s2⟩ := hSw; go_simp; (try with_reducible rfl)
          try simp only [List.getElem_toArray, List.getElem_cons_zero, List.getElem_cons_succ, Act.put, List.setIfInBounds_toArray, List.set_cons_zero, List.set_cons_succ]
          refine wpAnyH_take (i := 9) (v := ?_) rfl (by kernel_rfl) (by kernel_rfl) (by kernel_rfl) (fun _ _ _ h => h) (Or.inl ⟨by rfl, ?_⟩) hS ?_
          rotate_left
          · intro wz hSw; (try dsimp only at hSw); obtain ⟨s1, s2⟩ := hSw; go_simp; (try with_reducible rfl)
          try simp only [List.getElem_toArray, List.getElem_cons_zero, List.getElem_cons_succ, Act.put, List.setIfInBounds_toArray, List.set_cons_zero, List.set_cons_succ]
          refine wpAnyH_take (i := 10) (v := ?_) rfl (by kernel_rfl) (by kernel_rfl) (by kernel_rfl) (fun _ _ _ h => h) (Or.inl ⟨by rfl, ?_⟩) hS ?_
          rotate_left
          · intro wz hSw; (try dsimp only at hSw); obtain ⟨s1, s2⟩ := hSw; go_simp; (try with_reducible rfl)
          try simp only [List.getElem_toArray, List.getElem_cons_zero, List.getElem_cons_succ, Act.put, List.setIfInBounds_toArray, List.set_cons_zero, List.set_cons_succ]
          refine wpAnyH_take (i := 11) (v := ?_) rfl (by kernel_rfl) (by kernel_rfl) (by kernel_rfl) (fun _ _ _ h => h) (Or.inl ⟨by rfl, ?_⟩) hS ?_
          rotate_left
          · intro wz hSw; (try dsimp only at hSw); obtain ⟨s1, s2⟩ := hSw; go_simp; (try with_reducible rfl)
          try simp only [List.getElem_toArray, List.getElem_cons_zero, List.getElem_cons_succ, Act.put, List.setIfInBounds_toArray, List.set_cons_zero, List.set_cons_succ]
          refine wpAnyH_ready (rs := [6]) (by kernel_rfl) (by simp) (AllReadyH.cons rfl (fun K hK => ?_) AllReadyH.nil)
          go_simp
          refine hK.out _ _ hS (fun _ => ?_)
          clear hK K
          try simp only [List.getElem_toArray, List.getElem_cons_zero, List.getElem_cons_succ, Act.put, List.setIfInBounds_toArray, List.set_cons_zero, List.set_cons_succ]
          refine wpAnyH_take (i := 12) (v := ?_) rfl (by kernel_rfl) (by kernel_rfl) (by kernel_rfl) (fun _ _ _ h => h) (Or.inl ⟨by rfl, ?_⟩) hS ?_
          rotate_left
          · intro wz hSw; (try dsimp only at hSw); obtain ⟨s1, s2⟩ := hSw; go_simp; (try with_reducible rfl)
          try simp only [List.getElem_toArray, List.getElem_cons_zero, List.getElem_cons_succ, Act.put, List.setIfInBounds_toArray, List.set_cons_zero, List.set_cons_succ]
          refine wpAnyH_take (i := 13) (v := ?_) rfl (by kernel_rfl) (by kernel_rfl) (by kernel_rfl) (fun _ _ _ h => h) (Or.inl ⟨by rfl, ?_⟩) hS ?_
          rotate_left
          · intro wz hSw; (try dsimp only at hSw); obtain ⟨s1, s2⟩ := hSw; go_simp; (try with_reducible rfl)
          try simp only [List.getElem_toArray, List.getElem_cons_zero, List.getElem_cons_succ, Act.put, List.setIfInBounds_toArray, List.set_cons_zero, List.set_cons_succ]
          refine wpAnyH_take (i := 14) (v := ?_) rfl (by kernel_rfl) (by kernel_rfl) (by kernel_rfl) (fun _ _ _ h => h) (Or.inl ⟨by rfl, ?_⟩) hS ?_
          rotate_left
          · intro wz hSw; (try dsimp only at hSw); obtain ⟨s1, s2⟩ := hSw; go_simp; (try with_reducible rfl)
          try simp only [List.getElem_toArray, List.getElem_cons_zero, List.getElem_cons_succ, Act.put, List.setIfInBounds_toArray, List.set_cons_zero, List.set_cons_succ]
          refine wpAnyH_ready (rs := [15]) (by kernel_rfl) (by simp) (AllReadyH.cons rfl (fun K hK => ?_) AllReadyH.nil)
          go_simp
          refine hK.out _ _ ?hs (fun _ => ?_)
          case hs =>
            refine ⟨?_, ?_⟩
            · exact (World.cell?_setCell_far wr ⟨B, v * 3 + 2, none⟩ ⟨w3.heap.size, 0, none⟩ _ HNE.out).trans d1
            · exact (HOT2.out _).trans g1
          clear hK K
          refine wpAnyH_done (by kernel_rfl) ?_ _
          clear d1 u1 n1 g1 u2 n2 g2 fz e1
          gi_wp2
          go_roundw
          case rel => exact ⟨i + 1, _, by omega, by go_num, HF.1, HJ2, HF.2⟩
          case measure => simp [intOf]; omega
        · have e2 : (upZ U y == (v : Int)) = false := by simp [upZ_is U y v, q1]
          by_cases q2 : U v = some y
          · have e3 : (upZ U v != (y : Int)) = false := by simp [(upZ_is U v y).2 q2]
            have HJ2 := Lib.hid (hJ.out.skip HX.out q1 q2)
            clear q1 q2 hJ hFIN
            generalize upZ U y = uy at *
            generalize upZ U v = uv at *
            gi_wp2
            go_roundw
            case rel => exact ⟨i + 1, _, by omega, by go_num, hb, HJ2, hO⟩
            case measure => simp [intOf]; omega
          have e3 : (upZ U v != (y : Int)) = true := by simp [upZ_is U v y, q2]
          obtain ⟨z, hz⟩ : ∃ z, z = min (G v) (numF A y) := ⟨_, rfl⟩
          have HJ2 := Lib.hid (hJ.out.num HX.out q1 q2 hz)
          have HF := hFIN.out z
          have hmz : min (((G v : Nat) : Int)) ((numF A y : Nat) : Int) = (z : Int) := by rw [hz]; omega
          have HOT2 : Hid (∀ u : Value, (wr.setCell ⟨B, v * 3 + 2, none⟩ u).cell? ⟨B, y * 3, none⟩ = wr.cell? ⟨B, y * 3, none⟩) := fun u => World.cell?_setCell_other _ _ _ _ (fun e => by
            have h9 : v * 3 + 2 = y * 3 := by injection e
            have := HYV.out
            omega)
          have HNE : Hid (B ≠ w3.heap.size) := by show _ ≠ _; omega
          clear hz q1 q2 hJ hFIN
          generalize upZ U y = uy at *
          generalize numF A y = ny at *
          generalize numF A v = nv at *
          generalize upZ U v = uv at *
          generalize G y = gy at *
          generalize G v = gv at *
          clear hN2 hAl hBl h4s h5s hB2l h6s h7s hB7l hsz
          gi_wp2
          refine round_region_held (S := fun X' => X'.cell? ⟨w3.heap.size, 0, none⟩ = some (.slice (some ⟨B, 0, none⟩) N N) ∧ X'.cell? ⟨B, y * 3, none⟩ = some (.int .i64 ny)) (by kernel_rfl) (by kernel_rfl) (fun hh => by obtain ⟨a9, w9, h9⟩ := hh; rcases h9 with ⟨h9, -⟩; cases h9) ⟨d1, n1⟩ (fun hS => ?_)
          refine wpAnyH_take (i := 0) (v := ?_) rfl (by kernel_rfl) (by kernel_rfl) (by kernel_rfl) (fun _ _ _ h => h) (Or.inl ⟨by rfl, ?_⟩) hS ?_
          rotate_left
          · intro wz hSw; (try dsimp only at hSw); obtain ⟨s1, s2⟩ := hSw; go_simp; (try with_reducible rfl)
          try simp only [List.getElem_toArray, List.getElem_cons_zero, List.getElem_cons_succ, Act.put, List.setIfInBounds_toArray, List.set_cons_zero, List.set_cons_succ]
          refine wpAnyH_take (i := 1) (v := ?_) rfl (by kernel_rfl) (by kernel_rfl) (by kernel_rfl) (fun _ _ _ h => h) (Or.inl ⟨by rfl, ?_⟩) hS ?_
          rotate_left
          · intro wz hSw; (try dsimp only at hSw); obtain ⟨s1, s2⟩ := hSw; go_simp; (try with_reducible rfl)
          try simp only [List.getElem_toArray, List.getElem_cons_zero, List.getElem_cons_succ, Act.put, List.setIfInBounds_toArray, List.set_cons_zero, List.set_cons_succ]
          refine wpAnyH_take (i := 2) (v := ?_) rfl (by kernel_rfl) (by kernel_rfl) (by kernel_rfl) (fun _ _ _ h => h) (Or.inl ⟨by rfl, ?_⟩) hS ?_
          rotate_left
          · intro wz hSw; (try dsimp only at hSw); obtain ⟨s1, s2⟩ := hSw; go_simp; (try with_reducible rfl)
          try simp only [List.getElem_toArray, List.getElem_cons_zero, List.getElem_cons_succ, Act.put, List.setIfInBounds_toArray, List.set_cons_zero, List.set_cons_succ]
          refine wpAnyH_take (i := 3) (v := ?_) rfl (by kernel_rfl) (by kernel_rfl) (by kernel_rfl) (fun _ _ _ h => h) (Or.inl ⟨by rfl, ?_⟩) hS ?_
          rotate_left
          · intro wz hSw; (try dsimp only at hSw); obtain ⟨s1, s2⟩ := hSw; go_simp; (try with_reducible rfl)
          try simp only [List.getElem_toArray, List.getElem_cons_zero, List.getElem_cons_succ, Act.put, List.setIfInBounds_toArray, List.set_cons_zero, List.set_cons_succ]
          refine wpAnyH_take (i := 4) (v := ?_) rfl (by kernel_rfl) (by kernel_rfl) (by kernel_rfl) (fun _ _ _ h => h) (Or.inl ⟨by rfl, ?_⟩) hS ?_
          rotate_left
          · intro wz hSw; (try dsimp only at hSw); obtain ⟨s1, s2⟩ := hSw; go_simp; (try with_reducible rfl)
          try simp only [List.getElem_toArray, List.getElem_cons_zero, List.getElem_cons_succ, Act.put, List.setIfInBounds_toArray, List.set_cons_zero, List.set_cons_succ]
          refine wpAnyH_take (i := 5) (v := ?_) rfl (by kernel_rfl) (by kernel_rfl) (by kernel_rfl) (fun _ _ _ h => h) (Or.inl ⟨by rfl, ?_⟩) hS ?_
          rotate_left
          · intro wz hSw; (try dsimp only at hSw); obtain ⟨s1, s2⟩ := hSw; go_simp; (try with_reducible rfl)
          try simp only [List.getElem_toArray, List.getElem_cons_zero, List.getElem_cons_succ, Act.put, List.setIfInBounds_toArray, List.set_cons_zero, List.set_cons_succ]
          refine wpAnyH_take (i := 7) (v := ?_) rfl (by kernel_rfl) (by kernel_rfl) (by kernel_rfl) (fun _ _ _ h => h) (Or.inl ⟨by rfl, ?_⟩) hS ?_
          rotate_left
          · intro wz hSw; (try dsimp only at hSw); obtain ⟨s1, s2⟩ := hSw; go_simp; (try with_reducible rfl)
          try simp only [List.getElem_toArray, List.getElem_cons_zero, List.getElem_cons_succ, Act.put, List.setIfInBounds_toArray, List.set_cons_zero, List.set_cons_succ]
          refine wpAnyH_take (i := 8) (v := ?_) rfl (by kernel_rfl) (by kernel_rfl) (by kernel_rfl) (fun _ _ _ h => h) (Or.inl ⟨by rfl, ?_⟩) hS ?_
          rotate_left
          · intro wz hSw; (try dsimp only at hSw); obtain ⟨s1, s2⟩ := hSw; go_simp; (try with_reducible rfl)
          try simp only [List.getElem_toArray, List.getElem_cons_zero, List.getElem_cons_succ, Act.put, List.setIfInBounds_toArray, List.set_cons_zero, List.set_cons_succ]
          refine wpAnyH_take (i := 9) (v := ?_) rfl (by kernel_rfl) (by kernel_rfl) (by kernel_rfl) (fun _ _ _ h => h) (Or.inl ⟨by rfl, ?_⟩) hS ?_
          rotate_left
          · intro wz hSw; (try dsimp only at hSw); obtain ⟨s1, s2⟩ := hSw; go_simp; (try with_reducible rfl)
          try simp only [List.getElem_toArray, List.getElem_cons_zero, List.getElem_cons_succ, Act.put, List.setIfInBounds_toArray, List.set_cons_zero, List.set_cons_succ]
          refine wpAnyH_take (i := 10) (v := ?_) rfl (by kernel_rfl) (by kernel_rfl) (by kernel_rfl) (fun _ _ _ h => h) (Or.inl ⟨by rfl, ?_⟩) hS ?_
          rotate_left
          · intro wz hSw; (try dsimp only at hSw); obtain ⟨s1, s2⟩ := hSw; go_simp; (try with_reducible rfl)
          try simp only [List.getElem_toArray, List.getElem_cons_zero, List.getElem_cons_succ, Act.put, List.setIfInBounds_toArray, List.set_cons_zero, List.set_cons_succ]
          refine wpAnyH_take (i := 11) (v := ?_) rfl (by kernel_rfl) (by kernel_rfl) (by kernel_rfl) (fun _ _ _ h => h) (Or.inl ⟨by rfl, ?_⟩) hS ?_
          rotate_left
          · intro wz hSw; (try dsimp only at hSw); obtain ⟨s1, s2⟩ := hSw; go_simp; (try with_reducible rfl)
          try simp only [List.getElem_toArray, List.getElem_cons_zero, List.getElem_cons_succ, Act.put, List.setIfInBounds_toArray, List.set_cons_zero, List.set_cons_succ]
          refine wpAnyH_ready (rs := [6]) (by kernel_rfl) (by simp) (AllReadyH.cons rfl (fun K hK => ?_) AllReadyH.nil)
          go_simp
          refine hK.out _ _ hS (fun _ => ?_)
          clear hK K
          try simp only [List.getElem_toArray, List.getElem_cons_zero, List.getElem_cons_succ, Act.put, List.setIfInBounds_toArray, List.set_cons_zero, List.set_cons_succ]
          refine wpAnyH_take (i := 12) (v := ?_) rfl (by kernel_rfl) (by kernel_rfl) (by kernel_rfl) (fun _ _ _ h => h) (Or.inl ⟨by rfl, ?_⟩) hS ?_
          rotate_left
          · intro wz hSw; (try dsimp only at hSw); obtain ⟨s1, s2⟩ := hSw; go_simp; (try with_reducible rfl)
          try simp only [List.getElem_toArray, List.getElem_cons_zero, List.getElem_cons_succ, Act.put, List.setIfInBounds_toArray, List.set_cons_zero, List.set_cons_succ]
          refine wpAnyH_take (i := 13) (v := ?_) rfl (by kernel_rfl) (by kernel_rfl) (by kernel_rfl) (fun _ _ _ h => h) (Or.inl ⟨by rfl, ?_⟩) hS ?_
          rotate_left
          · intro wz hSw; (try dsimp only at hSw); obtain ⟨s1, s2⟩ := hSw; go_simp; (try with_reducible rfl)
          try simp only [List.getElem_toArray, List.getElem_cons_zero, List.getElem_cons_succ, Act.put, List.setIfInBounds_toArray, List.set_cons_zero, List.set_cons_succ]
          refine wpAnyH_take (i := 14) (v := ?_) rfl (by kernel_rfl) (by kernel_rfl) (by kernel_rfl) (fun _ _ _ h => h) (Or.inl ⟨by rfl, ?_⟩) hS ?_
          rotate_left
          · intro wz hSw; (try dsimp only at hSw); obtain ⟨s1, s2⟩ := hSw; go_simp; (try with_reducible rfl)
          try simp only [List.getElem_toArray, List.getElem_cons_zero, List.getElem_cons_succ, Act.put, List.setIfInBounds_toArray, List.set_cons_zero, List.set_cons_succ]
          refine wpAnyH_ready (rs := [15]) (by kernel_rfl) (by simp) (AllReadyH.cons rfl (fun K hK => ?_) AllReadyH.nil)
          go_simp
          refine hK.out _ _ ?hs (fun _ => ?_)
          case hs =>
            refine ⟨?_, ?_⟩
            · exact (World.cell?_setCell_far wr ⟨B, v * 3 + 2, none⟩ ⟨w3.heap.size, 0, none⟩ _ HNE.out).trans d1
            · exact (HOT2.out _).trans n1
          clear hK K
          refine wpAnyH_done (by kernel_rfl) ?_ _
          clear d1 u1 n1 g1 u2 n2 g2 fz e1
          gi_wp2
          go_roundw
          case rel => exact ⟨i + 1, _, by omega, by go_num, HF.1, HJ2, HF.2⟩
          case measure => simp [intOf]; omega
      · obtain rfl : xl = i := by omega
        have t1 : decide ((xl : Int) < (xl : Int)) = false := by simp
        gi_wp2
        exact ⟨⟨HBA.out.trans hb.out, G, HSI.out.next HNR.out.toNI HIR.out HV.out (by rw [HTV.out, HXL.out]; exact hJ.out), hO.out⟩, hb.out.size, fun k h3 h4 => hb.out.same k (by omega) (.inr (by omega))⟩
  case done =>
    intro W hI hK
    dsimp only
    obtain ⟨d1, _⟩ := HC7.out W hI.1
    go_wp2_with fail
    refine ⟨by simp, .inl ⟨_, _, rfl, run_takeDeferred hK, ?_⟩⟩
    obtain ⟨hb2, F, hS, hO⟩ := hI.bar hB7l (Bar.put W (.deferred none) (Nat.le_refl _) (by omega))
    exact ⟨_, results_tmp2 rfl _ _ _, B, A, U, F, rfl, hO, HNR.out, fun v => hS.all HT.out HSY.out HNR.out.toNI v, HBW.out, (HB.out.trans (HB7.out.mono (Nat.le_of_lt HXS.out))).trans (hb2.below HBW.out (by have := HXS.out; have := HB7.out.size; omega))⟩
end
section
set_option maxRecDepth 100000
open Go.RowKit Go.Maps

theorem bown_same {w w' : World} {base size n : Nat} {e : TypeId} {v : Value} {cs : List Value} (h : w.ownsRow base e size v n cs) (hs : ∀ k, v.ownBlock = some k → k < w.heap.size → base ≤ k → w'.heap[k]? = w.heap[k]?) : w'.ownsRow base e size v n cs := by
  obtain ⟨hl, h0 | ⟨g, cap, cur, ev, h1, h2, h3⟩⟩ := h
  · exact ⟨hl, .inl h0⟩
  · exact ⟨hl, .inr ⟨g, cap, cur, ev, h1, (hs g (by rw [ev]; rfl) (lt_of_block h2) h1).trans h2, h3⟩⟩
theorem bown_typ {w : World} {base base' size size' n n' : Nat} {e e' : TypeId} {v v' : Value} {xs xs' : List Value} (h : w.ownsRow base e size v n xs) (h' : w.ownsRow base' e' size' v' n' xs') (hne : e ≠ e') {k : Nat} (hk : v.ownBlock = some k) : v'.ownBlock ≠ some k := by
  obtain ⟨_, h0 | ⟨g, cap, cur, ev, _, h2, _⟩⟩ := h
  · rw [h0.1] at hk; cases hk
  · rw [ev] at hk
    have hk : g = k := by simpa [Value.ownBlock] using hk
    subst hk
    obtain ⟨_, h0 | ⟨g', cap', cur', ev', _, h2', _⟩⟩ := h'
    · rw [h0.1]; simp [Value.ownBlock]
    · rw [ev']
      intro e1
      have e1 : g' = g := by simpa [Value.ownBlock] using e1
      subst e1
      rw [h2] at h2'
      injection h2' with h2'
      injection h2' with _ h3
      exact hne h3
theorem bown_put {w : World} {base g cap n i size : Nat} {e : TypeId} {u : Value} {cs : List Value} (h : w.ownsRow base e size (.slice (some ⟨g, 0, none⟩) n cap) n cs) : (w.setCell ⟨g, i, none⟩ u).ownsRow base e size (.slice (some ⟨g, 0, none⟩) n cap) n (cs.set i u) := by
  obtain ⟨hl, h0 | ⟨g', c, cur, ev, h1, h2, h3, h4, h5, h6⟩⟩ := h
  · cases h0.1
  · simp only [Value.slice.injEq, Option.some.injEq, Addr.mk.injEq, and_true, true_and] at ev
    obtain ⟨rfl, rfl⟩ := ev
    refine ⟨by simpa using hl, .inr ⟨g, cap, cur.setIfInBounds i u, rfl, h1, Go.Joins.block_setCell h2 _, h3, h4, by simpa using h5, ?_⟩⟩
    rw [Array.toList_setIfInBounds, List.take_set, h6]
theorem bown_ne8 {w : World} {base size n g : Nat} {e e' : TypeId} {v : Value} {xs : List Value} {cs : Array Value} {f : Nat × Nat} (h : w.ownsRow base e size v n xs) (hg : w.heap[g]? = some (.cells cs e' f)) (hne : e ≠ e') : v.ownBlock ≠ some g := by
  obtain ⟨_, h0 | ⟨g', cap, cur, ev, _, h2, _⟩⟩ := h
  · rw [h0.1]; simp [Value.ownBlock]
  · rw [ev]
    intro e1
    have e2 : g' = g := by simpa [Value.ownBlock] using e1
    subst e2
    rw [h2] at hg
    injection hg with hg
    injection hg with _ h3 _
    exact hne h3
theorem bown_block {w : World} {base size n m c g : Nat} {e : TypeId} {cs : List Value} (h : w.ownsRow base e size (.slice (some ⟨g, 0, none⟩) m c) n cs) : ∃ cur, w.heap[g]? = some (.cells cur e (0, 0)) := by
  obtain ⟨_, h0 | ⟨g', cap, cur, ev, _, h2, _⟩⟩ := h
  · cases h0.1
  · have : g = g' := by injection ev with a; injection a with a; injection a
    subst this
    exact ⟨cur, h2⟩
theorem MapZ.sameB {w w' : World} {b n k : Nat} {f : Int → Option Int} (h : MapZ w b n f k) (hs : w'.heap[b]? = w.heap[b]?) : MapZ w' b n f k := by
  obtain ⟨D, ⟨es, clock, h1, F, hs2, e⟩, h2⟩ := h
  exact ⟨D, ⟨es, clock, hs.trans h1, F, hs2, e⟩, h2⟩
/-- Lists of edges. -/
structure Blks (w : World) (base : Nat) (V : Value) (us : List Value) (G : List (List (Int × Int))) : Prop where
  row : w.ownsRow base 22 1 V G.length us
  len : us.length = G.length
  each : ∀ (j : Nat) (u : Value) (x : List (Int × Int)), us[j]? = some u → G[j]? = some x → w.ownsRow base 51 2 u x.length (pcells x)
  apart : ∀ (i j : Nat) (u v : Value) (g : Nat), i ≠ j → us[i]? = some u → us[j]? = some v → u.ownBlock = some g → v.ownBlock ≠ some g
theorem Blks.nil (w : World) (base : Nat) : Blks w base (.slice none 0 0) [] [] :=
  ⟨World.ownsRow_nil _ _ _ _, rfl, (fun j u x h => by simp at h), (fun i j u v g _ h => by simp at h)⟩
theorem Blks.same {w w' : World} {base : Nat} {V : Value} {us : List Value} {G : List (List (Int × Int))} (h : Blks w base V us G) (hs : ∀ k, base ≤ k → k < w.heap.size → w'.heap[k]? = w.heap[k]?) : Blks w' base V us G :=
  ⟨bown_same h.row fun k _ a b => hs k b a, h.len, fun j u x a b => bown_same (h.each j u x a b) fun k _ a b => hs k b a, h.apart⟩
theorem Blks.below {w w' : World} {base : Nat} {V : Value} {us : List Value} {G : List (List (Int × Int))} (h : Blks w base V us G) (hb : Below w.heap.size w w') : Blks w' base V us G := h.same fun k _ hk => hb.block k hk
theorem Blks.less {w : World} {base base' : Nat} {V : Value} {us : List Value} {G : List (List (Int × Int))} (h : Blks w base V us G) (hb : base' ≤ base) : Blks w base' V us G :=
  ⟨Go.Joins.ownsRow_le h.row hb, h.len, fun j u x a b => Go.Joins.ownsRow_le (h.each j u x a b) hb, h.apart⟩
theorem Blks.form {w : World} {base : Nat} {V : Value} {us : List Value} {G : List (List (Int × Int))} (h : Blks w base V us G) (hp : 0 < G.length) : ∃ g cap, V = .slice (some ⟨g, 0, none⟩) G.length cap := Go.Joins.ownsRow_form h.row hp
/-- An empty one more. -/
theorem Blks.add {w w2 w8 : World} {base g2 cap2 k : Nat} {V : Value} {us : List Value} {G : List (List (Int × Int))} (h : Blks w base V us G) (hk : k = G.length) (hb : Below w.heap.size w w2) (hg : w2.grownBy w8 V.ownBlock)
    (hr : w8.ownsRow base 22 1 (.slice (some ⟨g2, 0, none⟩) (k + 1) cap2) (k + 1) (us ++ [.slice none 0 0])) :
    Blks w8 base (.slice (some ⟨g2, 0, none⟩) (k + 1) cap2) (us ++ [.slice none 0 0]) (G ++ [[]]) := by
  subst hk
  have hold : ∀ k, k < w.heap.size → some k ≠ V.ownBlock → w8.heap[k]? = w.heap[k]? := fun k hk hn => (hg.block k (Nat.lt_of_lt_of_le hk hb.size) hn).trans (hb.block k hk)
  have hcase : ∀ (j : Nat) (u : Value) (x : List (Int × Int)), (us ++ [Value.slice none 0 0])[j]? = some u → (G ++ [[]])[j]? = some x → (us[j]? = some u ∧ G[j]? = some x) ∨ (u = .slice none 0 0 ∧ x = []) := by
    intro j u x a b
    by_cases hj : j < G.length
    · rw [List.getElem?_append_left (by have := h.len; omega)] at a
      rw [List.getElem?_append_left hj] at b
      exact .inl ⟨a, b⟩
    · have hjl := (List.getElem?_eq_some_iff.1 b).1
      simp only [List.length_append, List.length_singleton] at hjl
      have : j = G.length := by omega
      subst this
      rw [List.getElem?_append_right (Nat.le_refl _), Nat.sub_self] at b
      rw [List.getElem?_append_right (by rw [h.len]; exact Nat.le_refl _), h.len, Nat.sub_self] at a
      simp at a b
      exact .inr ⟨a.symm, b⟩
  have hone : ∀ (j : Nat) (u : Value), (us ++ [Value.slice none 0 0])[j]? = some u → us[j]? = some u ∨ u = .slice none 0 0 := by
    intro j u a
    by_cases hj : j < us.length
    · rw [List.getElem?_append_left hj] at a
      exact .inl a
    · have hjl := (List.getElem?_eq_some_iff.1 a).1
      simp only [List.length_append, List.length_singleton] at hjl
      have : j = us.length := by omega
      subst this
      rw [List.getElem?_append_right (Nat.le_refl _), Nat.sub_self] at a
      simp at a
      exact .inr a.symm
  refine ⟨by simpa using hr, by simp [h.len], fun j u x a b => ?_, fun i j u v g hij a b e => ?_⟩
  · rcases hcase j u x a b with ⟨a, b⟩ | ⟨rfl, rfl⟩
    · have ho := h.each j u x a b
      exact bown_same ho fun k e1 e2 _ => hold k e2 fun e3 => bown_typ ho h.row (by decide) e1 e3.symm
    · exact World.ownsRow_nil _ _ _ _
  · rcases hone i u a with a | rfl
    · rcases hone j v b with b | rfl
      · exact h.apart i j u v g hij a b e
      · simp [Value.ownBlock]
    · simp [Value.ownBlock] at e
/-- One list is another one, stored anew. -/
theorem Blks.set {w w2 w7 : World} {base G n cap j : Nat} {us : List Value} {F : List (List (Int × Int))} {u u' : Value} {x x' : List (Int × Int)} (h : Blks w base (.slice (some ⟨G, 0, none⟩) n cap) us F) (hn : n = F.length) (hu : us[j]? = some u) (hx : F[j]? = some x)
    (hb : Below w.heap.size w w2) (hg : w2.grownBy w7 u.ownBlock) (ho : w7.ownsRow base 51 2 u' x'.length (pcells x')) (hor : u'.ownBlock = u.ownBlock ∨ ∃ g, u'.ownBlock = some g ∧ w.heap.size ≤ g) :
    Blks (w7.setCell ⟨G, j, none⟩ u') base (.slice (some ⟨G, 0, none⟩) n cap) (us.set j u') (F.set j x') := by
  subst hn
  have hE := h.each j u x hu hx
  have hj1 : j < us.length := (List.getElem?_eq_some_iff.1 hu).1
  have hj2 : j < F.length := (List.getElem?_eq_some_iff.1 hx).1
  have hw7 : ∀ k, k < w.heap.size → some k ≠ u.ownBlock → w7.heap[k]? = w.heap[k]? := fun k hk hn => (hg.block k (Nat.lt_of_lt_of_le hk hb.size) hn).trans (hb.block k hk)
  have hG7 : w7.ownsRow base 22 1 (.slice (some ⟨G, 0, none⟩) F.length cap) F.length us := bown_same h.row fun k e1 e2 _ => hw7 k e2 fun e3 => bown_typ h.row hE (by decide) e1 e3.symm
  have hs : ∀ k, base ≤ k → k < w.heap.size → k ≠ G → some k ≠ u.ownBlock → (w7.setCell ⟨G, j, none⟩ u').heap[k]? = w.heap[k]? := fun k _ h2 h3 h4 => (Below.heap_setCell _ _ _ _ h3).trans (hw7 k h2 h4)
  have hF : ∀ (i : Nat) (q : Value), us[i]? = some q → ∃ y, F[i]? = some y := fun i q hi => ⟨_, List.getElem?_eq_getElem (by have := (List.getElem?_eq_some_iff.1 hi).1; have := h.len; omega)⟩
  have hone : ∀ (i : Nat) (q : Value), (us.set j u')[i]? = some q → (i = j ∧ q = u') ∨ (i ≠ j ∧ us[i]? = some q) := by
    intro i q a
    by_cases e : i = j
    · subst e
      rw [List.getElem?_set_self hj1] at a
      injection a with a
      exact .inl ⟨rfl, a.symm⟩
    · rw [List.getElem?_set_ne (fun e1 => e e1.symm)] at a
      exact .inr ⟨e, a⟩
  have n1 : ∀ g, u'.ownBlock = some g → u.ownBlock = some g ∨ w.heap.size ≤ g := by
    intro g e
    rcases hor with h1 | ⟨g', h1, h2⟩
    · left; rw [← h1]; exact e
    · right
      rw [h1] at e
      injection e with e
      omega
  refine ⟨?_, by simp [h.len], fun i q y a b => ?_, fun i k q r g hik a b e => ?_⟩
  · have h9 := bown_put (i := j) (u := u') hG7
    simpa using h9
  · rcases hone i q a with ⟨rfl, rfl⟩ | ⟨hne, a⟩
    · rw [List.getElem?_set_self hj2] at b
      injection b with b
      subst b
      exact bown_same ho fun k e1 _ _ => Below.heap_setCell _ _ _ _ (fun e => by subst e; exact bown_typ ho hG7 (by decide) e1 rfl)
    · rw [List.getElem?_set_ne (fun e1 => hne e1.symm)] at b
      have ho := h.each i q y a b
      refine bown_same ho fun k e1 e2 e3 => hs k e3 e2 (fun e4 => ?_) (fun e4 => ?_)
      · subst e4
        exact bown_typ ho h.row (by decide) e1 rfl
      · exact h.apart i j q u k hne a hu e1 e4.symm
  · rcases hone i q a with ⟨rfl, rfl⟩ | ⟨hi, a'⟩
    · rcases hone k r b with ⟨rfl, _⟩ | ⟨hk, b⟩
      · exact absurd rfl hik
      · obtain ⟨y, hy⟩ := hF k r b
        rcases n1 g e with e1 | e1
        · exact h.apart i k u r g hik hu b e1
        · intro e2
          have := ((h.each k r y b hy).lt g e2).2
          omega
    · rcases hone k r b with ⟨rfl, rfl⟩ | ⟨hk, b⟩
      · obtain ⟨y, hy⟩ := hF i q a'
        intro e2
        rcases n1 g e2 with e1 | e1
        · exact h.apart i k q u g hik a' hu e e1
        · have := ((h.each i q y a' hy).lt g e).2
          omega
      · exact h.apart i k q r g hik a' b e
theorem prowinfo : (Try.prog.info? 22).map (fun i => (i.zero, i.size, i.bytes)) = some (some (.slice none 0 0), 1, 24) := by kernel_rfl
theorem pinfo5 : (Try.prog.info? 51).map (fun i => (i.zero, i.size, i.bytes)) = some (some (.agg #[.int .i64 0, .int .i64 0]), 2, 16) := by kernel_rfl
theorem pcells_one (S : List (Int × Int)) (e : Int × Int) : pcells (S ++ [e]) = pcells S ++ [.int .i64 e.1, .int .i64 e.2] := by simp [pcells, zv]
/-- What lies between two rounds. -/
structure BI (w0 : World) (own : Nat → Nat) (k : Nat) (G : List (List (Int × Int))) (V : Value) (us : List Value) (wr : World) : Prop where
  bl : Blks wr (w0.heap.size + 1) V us G
  mp : ∃ (nn kk : Nat) (f : Int → Option Int), nn ≤ k ∧ MapZ wr w0.heap.size nn f kk ∧ ∀ z, f z = plcZ own k z
  on : Below w0.heap.size w0 wr
  sz : w0.heap.size + 1 ≤ wr.heap.size
theorem BI.next {w0 : World} {own : Nat → Nat} {k : Nat} {G G' : List (List (Int × Int))} {V V' : Value} {us us' : List Value} {wr wr' : World} (h : BI w0 own k G V us wr) (hb : Below (w0.heap.size + 1) wr wr') (hF : Blks wr' (w0.heap.size + 1) V' us' G') : BI w0 own k G' V' us' wr' := by
  obtain ⟨h1, ⟨nn, kk, f, m1, m2, m3⟩, h4, h5⟩ := h
  exact ⟨hF, ⟨nn, kk, f, m1, m2.sameB (hb.block _ (by omega)), m3⟩,
    ⟨hb.os.trans h4.os, hb.tape.trans h4.tape, hb.output.trans h4.output, Nat.le_trans h4.size hb.size, fun i hi => (hb.block i (by omega)).trans (h4.block i hi)⟩, Nat.le_trans h5 hb.size⟩
theorem BI.below {w0 : World} {own : Nat → Nat} {k : Nat} {G : List (List (Int × Int))} {V : Value} {us : List Value} {wr wr' : World} (h : BI w0 own k G V us wr) (hb : Below wr.heap.size wr wr') : BI w0 own k G V us wr' := h.next (hb.mono h.sz) (h.bl.below hb)
/-- The map holds one place more. -/
theorem BI.mapped {w0 : World} {own : Nat → Nat} {k : Nat} {G : List (List (Int × Int))} {V : Value} {us : List Value} {wr w6 : World} (h : BI w0 own k G V us wr) (hn : place own k (own k) = none) {nn kk : Nat} {f : Int → Option Int} (hnn : nn ≤ k) (hf : ∀ z, f z = plcZ own k z)
    (hM : MapZ w6 w0.heap.size (nn + 1) (upd f ((own k : Nat) : Int) (((firsts own k).length : Nat) : Int)) kk) (hg : wr.grownBy w6 (some w0.heap.size)) : BI w0 own (k + 1) G V us w6 := by
  obtain ⟨h1, _, h4, h5⟩ := h
  have hsame : ∀ i, i < wr.heap.size → i ≠ w0.heap.size → w6.heap[i]? = wr.heap[i]? := fun i hi hne => hg.block i hi (by simpa using hne)
  refine ⟨h1.same fun q hq hl => hsame q hl (by omega), ⟨nn + 1, kk, _, by omega, hM, fun z => ?_⟩,
    ⟨hg.os.trans h4.os, hg.tape.trans h4.tape, hg.output.trans h4.output, Nat.le_trans h4.size hg.size, fun i hi => (hsame i (by omega) (by omega)).trans (h4.block i hi)⟩, Nat.le_trans h5 hg.size⟩
  rw [plcZ_new hn]
  unfold upd
  rw [hf z]
/-- A key that is met again. -/
theorem BI.again {w0 : World} {own : Nat → Nat} {k a : Nat} {G : List (List (Int × Int))} {V : Value} {us : List Value} {wr : World} (h : BI w0 own k G V us wr) (hn : place own k (own k) = some a) : BI w0 own (k + 1) G V us wr := by
  obtain ⟨h1, ⟨nn, kk, f, m1, m2, m3⟩, h4, h5⟩ := h
  exact ⟨h1, ⟨nn, kk, f, by omega, m2, fun z => by rw [plcZ_old hn]; exact m3 z⟩, h4, h5⟩
end
section
set_option maxRecDepth 100000
open Go.RowKit Go.Maps

theorem lw_lowL {N v : Nat} (A : List Nat) (U : Nat → Option Nat) (F : Nat → Nat) (h : v < N) : lw (lowL N A U F) v = (((numF A v : Nat) : Int), upZ U v, ((F v : Nat) : Int)) := by
  have h1 := lw_at (L := lowL N A U F) (v := v) (by rw [lowL_length]; exact h)
  rw [lowL_at A U F h] at h1
  injection h1 with h1
  exact h1.symm
set_option maxHeartbeats 64000000 in
theorem blocks_any (A0 : Option Addr) (c n N : Nat) (E : List (Int × Int)) (w : World) (hr : RdP w A0 E) (hn : n = E.length) (hg : rightG (N : Nat) E = true) :
    Calls Try.prog 22 #[.agg #[.int .i64 (N : Nat), .slice A0 n c]] w fun e w' => ∃ (V : Value) (us : List Value) (A : List Nat) (U : Nat → Option Nat) (F : Nat → Nat) (O : List Int), e = .returned (.tuple #[V, .int .i64 0]) ∧ Blks w' w.heap.size V us (blkG N E) ∧ BlkS N E A U F O ∧ Below w.heap.size w w' := by
  have hN2 : N ≤ 200 := by have := (rightG_bounds hg).2.1; omega
  have hn6 : n ≤ 594 := by have := (rightG_bounds hg).2.2; omega
  obtain ⟨X, hX⟩ : ∃ X, X = w.alloc (.cells #[.int .i64 (N : Nat), .slice A0 n c] 24) := ⟨_, rfl⟩
  have hb : Below w.heap.size w X := by rw [hX]; exact (Below.refl _ _).alloc (Nat.le_refl _) _
  have hXS : w.heap.size < X.heap.size := by rw [hX]; simp
  obtain ⟨j0, j1, _, _⟩ := cells_two (w := X) (by rw [hX]; exact heap_alloc_new w _)
  have HJ : Hid (∀ w', Below X.heap.size X w' → w'.cell? ⟨w.heap.size, 0, none⟩ = some (.int .i64 (N : Nat)) ∧ w'.cell? ⟨w.heap.size, 1, none⟩ = some (.slice A0 n c)) := fun w' hb =>
    ⟨by rw [hb.cell (by show w.heap.size < _; omega)]; exact j0, by rw [hb.cell (by show w.heap.size < _; omega)]; exact j1⟩
  have HE := Lib.hid (hr.below hb)
  have HN := Lib.hid hn
  have HG := Lib.hid hg
  have HX := Lib.hid hX
  have HB := Lib.hid hb
  have HXS := Lib.hid hXS
  have hmm := @run_makeMap Try.prog
  obtain ⟨i1, hi1, hy0, hy1, hy2⟩ := info_partsI pinfo5
  obtain ⟨i2, hi2, hx0, hx1, hx2⟩ := info_partsI prowinfo
  have HS := Lib.hid (search_any A0 c n N E X HE.out hn hg)
  clear hr hn hg hX hb hXS
  go_enter Try.func22, Try.ntmps22
  go_wp2_with fail
  rw [← HX.out]
  refine HS.out.mono ?_
  rintro e w3 ⟨B, A, U, F, rfl, hOT, hNR, hLF, hBX, hb3⟩
  have HNR := Lib.hid hNR
  have HLF := Lib.hid hLF
  have HP := Lib.hid hNR.toNI.perm
  have hBl : B < w3.heap.size := lt_of_block hOT
  obtain ⟨W4, hW4⟩ : ∃ W4, W4 = w3.alloc (.cells #[.slice (some ⟨B, 0, none⟩) N N] 27) := ⟨_, rfl⟩
  have hb4 : Below w3.heap.size w3 W4 := by rw [hW4]; exact (Below.refl _ _).alloc (Nat.le_refl _) _
  have hpo : W4.heap[w3.heap.size]? = some (.cells #[.slice (some ⟨B, 0, none⟩) N N] 27 (0, 0)) := by rw [hW4]; exact heap_alloc_new w3 _
  have HB4 := Lib.hid (next_below hb3 hb4)
  have HO4 := Lib.hid (hOT.below hb4)
  have h4s : W4.heap.size = w3.heap.size + 1 := by rw [hW4]; simp
  have HPO := Lib.hid hpo
  have HW4 := Lib.hid hW4
  have c0 : W4.cell? ⟨w3.heap.size, 0, none⟩ = some (.slice (some ⟨B, 0, none⟩) N N) := by rw [cell_of hpo]; rfl
  clear hOT hNR hLF hb3 hpo hb4 hW4 j0 j1 HS
  go_upto_region 5 with fail
  rw [← HW4.out]
  go_wp2_with fail
  refine (begin_any N B A U F (lowL N A U F) W4 HO4.out (lowL_length N A U F) (by omega) HP.out (fun v u h => (HNR.out.ups v u h).2) (fun v hv => lw_lowL A U F hv)).mono ?_
  rintro e w5 ⟨Bo, O, rfl, hOZ, hOI, hBo, hb5⟩
  have HOZ := Lib.hid hOZ
  have HOI := Lib.hid hOI
  have h5s := hb5.size
  have hBol : Bo < w5.heap.size := lt_of_block hOZ
  have HB5 := Lib.hid (next_below HB4.out hb5)
  have HO5 := Lib.hid (HO4.out.below hb5)
  have HPO5 := Lib.hid (blk_below HPO.out hb5)
  obtain ⟨W, hW⟩ : ∃ W, W = w5.alloc (.map #[] 0) := ⟨_, rfl⟩
  have hbW : Below w5.heap.size w5 W := by rw [hW]; exact (Below.refl _ _).alloc (Nat.le_refl _) _
  obtain ⟨own, hown⟩ : ∃ own, own = bkey A O E := ⟨_, rfl⟩
  have HOWN := Lib.hid hown
  have HG0 : Hid (BI w5 own 0 (blkO E own 0) (.slice none 0 0) [] W) := by
    refine ⟨Blks.nil _ _, ⟨0, 0, fun _ => none, Nat.le_refl _, by rw [hW]; exact MapZ.made w5, fun z => by rw [plcZ_zero]⟩, hbW, by rw [hW]; simp⟩
  have HW := Lib.hid hW
  have HF5 : Hid (∀ w', Below w5.heap.size w5 w' → w'.cell? ⟨w.heap.size, 1, none⟩ = some (.slice A0 n c) ∧ RdP w' A0 E ∧ OwnZ w' Bo O ∧ OwnT w' B (lowL N A U F) ∧ w'.cell? ⟨w3.heap.size, 0, none⟩ = some (.slice (some ⟨B, 0, none⟩) N N)) := fun w' hb =>
    ⟨(HJ.out w' (next_below HB5.out hb)).2, HE.out.below (next_below HB5.out hb), blk_below HOZ.out hb, HO5.out.below hb, by rw [cell_of (blk_below HPO5.out hb)]; rfl⟩
  have HED : Hid (∀ e ∈ E, ∃ x y : Nat, e = ((x : Int), (y : Int)) ∧ x < N ∧ y < N) := fun e he => by
    obtain ⟨k, hk⟩ := List.getElem?_of_mem he
    obtain ⟨h1, h2, h3⟩ := rightG_edge HG.out hk
    obtain ⟨a, b⟩ := e
    simp only at h1 h2 h3
    exact ⟨a.toNat, b.toNat, by simp; omega, by omega, by omega⟩
  have HOB : Hid (∀ k e, E[k]? = some e → ∃ o : Nat, gd O (loE A e) = (o : Int) ∧ o < N ∧ own k = o ∧ loE A e < N) := fun k e he => by
    obtain ⟨x, y, rfl, hx, hy⟩ := HED.out e (List.mem_of_getElem? he)
    have hl : loE A ((x : Int), (y : Int)) < N := by unfold loE; simp only [Int.toNat_natCast]; split <;> omega
    obtain ⟨o, h1, h2⟩ := HOI.out.val (loE A ((x : Int), (y : Int))) (by rw [List.take_of_length_le (by rw [HP.out.len]; omega)]; exact HP.out.mem hl)
    refine ⟨o, h1, h2, ?_, hl⟩
    rw [hown]
    unfold bkey
    rw [show E.getD k (0, 0) = ((x : Int), (y : Int)) by simp [List.getD, he], h1]
    rfl
  clear hOZ hOI hb5 hbW hW hown c0
  obtain ⟨j1, _⟩ := HF5.out W HG0.out.on
  go_upto_region 8 with fail
  rw [← HW.out]
  go_wp2_with fail
  clear j1
  go_loopw [30, 9] (fun s30 s9 wr => ∃ (k : Nat) (V : Value) (us : List Value), k ≤ n ∧ s30 = .int .i64 k ∧ s9 = V ∧ Hid (BI w5 own k (blkO E own k) V us wr)) (fun s30 _ _ => n - (intOf s30).toNat)
  case atStart => exact ⟨0, _, [], Nat.zero_le _, rfl, rfl, HG0⟩
  case round =>
    obtain ⟨k, V, us, hk, rfl, rfl, hG⟩ := hrel
    by_cases h1 : k < n
    · have t1 : decide ((k : Int) < (n : Int)) = true := by simp; omega
      have hK0 : (0 : Int) ≤ (k : Int) := by omega
      have hK1 : (k : Int) < (n : Nat) := by omega
      obtain ⟨e, he⟩ : ∃ e, E[k]? = some e := ⟨_, List.getElem?_eq_getElem (by rw [← HN.out]; exact h1)⟩
      obtain ⟨x, y, rfl, hxN, hyN⟩ := HED.out e (List.mem_of_getElem? he)
      obtain ⟨_, q2, _, _, _⟩ := HF5.out wr hG.out.on
      obtain ⟨ad, rfl, _, p0, p1⟩ := q2 k _ he
      simp only at p0 p1
      obtain ⟨wo, hwo1, hwo2, hwo3, hlo⟩ := HOB.out k _ he
      have HE1 := Lib.hid he
      have hbY : Below wr.heap.size wr (wr.alloc (.cells #[.int .i64 (x : Nat), .int .i64 (y : Nat)] 51)) := (Below.refl _ _).alloc (Nat.le_refl _) _
      have hEB : (wr.alloc (.cells #[.int .i64 (x : Nat), .int .i64 (y : Nat)] 51)).heap[wr.heap.size]? = some (.cells #[.int .i64 (x : Nat), .int .i64 (y : Nat)] 51 (0, 0)) := heap_alloc_new wr _
      have HGY := Lib.hid (hG.out.below hbY)
      have HNP : Hid (∀ u ∈ us, u.ownBlock ≠ some wr.heap.size) := by
        intro u hu e
        obtain ⟨j, hj⟩ := List.getElem?_of_mem hu
        obtain ⟨z, hz⟩ : ∃ z, (blkO E own k)[j]? = some z := ⟨_, List.getElem?_eq_getElem (by have := (List.getElem?_eq_some_iff.1 hj).1; have := hG.out.bl.len; omega)⟩
        have := ((hG.out.bl.each j u z hj hz).lt _ e).2
        omega
      have hpe0 : w5.heap.size + 1 ≤ wr.heap.size := hG.out.sz
      clear he hbY hG q2
      go_upto_region 11 with fail
      obtain ⟨pe, hpe⟩ : ∃ pe, wr.heap.size = pe := ⟨_, rfl⟩
      generalize wr.alloc (.cells #[.int .i64 (x : Nat), .int .i64 (y : Nat)] 51) = Y at *
      rw [hpe] at hEB HNP hpe0 ⊢
      clear p0 p1 hpe
      obtain ⟨r0, r1, _, _⟩ := cells_two hEB
      have HEB := Lib.hid hEB
      obtain ⟨_, _, q3, q4, q5⟩ := HF5.out Y HGY.out.on
      have HLO : Hid (Calls Try.prog 53 #[.agg #[.int .i64 (x : Nat), .int .i64 (y : Nat)], .pointer (some ⟨w3.heap.size, 0, none⟩)] Y fun e w' => e = .returned (.int .i64 ((loE A ((x : Int), (y : Int)) : Nat) : Int)) ∧ Below Y.heap.size Y w') := by
        have h := lower_any x y N B w3.heap.size (lowL N A U F) Y q4 (lowL_length N A U F) hxN hyN q5
        refine h.mono ?_
        rintro e w' ⟨rfl, hb⟩
        refine ⟨?_, hb⟩
        rw [lw_lowL A U F hxN, lw_lowL A U F hyN]
        unfold loE
        simp only [Int.toNat_natCast, Int.ofNat_lt]
      obtain ⟨lo, hloe⟩ : ∃ lo, loE A ((x : Int), (y : Int)) = lo := ⟨_, rfl⟩
      rw [hloe] at HLO hwo1 hlo
      have hL0 : (0 : Int) ≤ (lo : Int) := by omega
      have hL1 : (lo : Int) < (N : Nat) := by omega
      have hOl : O.length = N := HOI.out.len
      have HRO : Hid (∀ w', Below Y.heap.size Y w' → w'.cell? ⟨Bo, lo, none⟩ = some (.int .i64 (wo : Nat))) := fun w' hb => by
        rw [← hwo1]
        exact OwnZ.at_ (blk_below q3 hb) (gd_at O lo (by rw [hOl]; exact hlo))
      have HWO := Lib.hid hwo3
      clear q3 q4 q5 hEB hwo3 hloe hwo1 hlo
      go_wp2_with fail
      refine HLO.out.mono ?_
      rintro e Y2 ⟨rfl, hb2⟩
      have q6 := HRO.out Y2 hb2
      have HG2 := Lib.hid (HGY.out.below hb2)
      have HE2 : Hid (Y2.heap[pe]? = some (.cells #[.int .i64 (x : Nat), .int .i64 (y : Nat)] 51 (0, 0))) := blk_below HEB.out hb2
      clear hb2 HLO HRO HGY HEB r0 r1
      obtain ⟨nn, kk, f, hnn, hM, hf⟩ := HG2.out.mp
      have hlk := hM.look_ok (x := (wo : Int)) (by unfold inI; omega)
      have hfp : f (wo : Int) = (place own k wo).map fun (a : Nat) => (a : Int) := by rw [hf, plcZ_nat]
      rw [hfp] at hlk
      have HMM := Lib.hid hM
      have HFF := Lib.hid hf
      clear hM hf hfp
      obtain ⟨gd', hgd⟩ : ∃ gd', ((place own k wo).map fun (a : Nat) => (a : Int)).getD 0 = gd' := ⟨_, rfl⟩
      obtain ⟨sm, hsm⟩ : ∃ sm, ((place own k wo).map fun (a : Nat) => (a : Int)).isSome = sm := ⟨_, rfl⟩
      rw [hgd, hsm] at hlk
      have HGD := Lib.hid hgd
      have HSM := Lib.hid hsm
      clear hgd hsm
      obtain ⟨lk, hlkk⟩ : ∃ lk, (blkO E own k).length = lk := ⟨_, rfl⟩
      obtain ⟨Av, cv, rfl⟩ : ∃ Av cv, u9 = .slice Av lk cv := by
        rcases Joins.ownsRow_forms HG2.out.bl.row with ⟨e, h0⟩ | ⟨g, cap, e⟩
        · exact ⟨none, 0, by rw [e, ← hlkk, h0]⟩
        · exact ⟨_, cap, by rw [e, ← hlkk]⟩
      have hlkb : lk ≤ k := by rw [← hlkk]; exact blkO_le _ _ _
      have HLK := Lib.hid hlkk
      clear hlkk
      go_upto_if 47 with fail
      clear hlk q6
      go_cut [9, 13] from 31 to 66 (fun s9 s13 wx => ∃ (V1 : Value) (us1 : List Value) (F1 : List (List (Int × Int))) (at1 : Nat) (x1 : List (Int × Int)), s9 = V1 ∧ s13 = .int .i64 at1 ∧ Hid (BI w5 own (k + 1) F1 V1 us1 wx) ∧ Hid (wx.heap[pe]? = some (.cells #[.int .i64 (x : Nat), .int .i64 (y : Nat)] 51 (0, 0))) ∧ Hid (∀ u ∈ us1, u.ownBlock ≠ some pe) ∧
        Hid (F1[at1]? = some x1) ∧ Hid (F1.set at1 (x1 ++ [((x : Int), (y : Int))]) = blkO E own (k + 1)) ∧ x1.length ≤ n)
      case first =>
        cases hpl : place own k wo with
        | none =>
          have hg0 := HGD.out
          have hs0 := HSM.out
          rw [hpl] at hg0 hs0
          simp only [Option.map_none, Option.getD_none, Option.isSome_none] at hg0 hs0
          subst hg0
          subst hs0
          have HPL : Hid (place own k (own k) = none) := by show _ = _; rw [HWO.out]; exact hpl
          have HXI : Hid (inI (wo : Int)) := by show inI _; unfold inI; omega
          have HII : Hid (inI (lk : Int)) := by show inI _; unfold inI; omega
          clear hpl
          have HN6 : Hid (∀ (w6 : World) (kk2 : Nat), MapZ w6 w5.heap.size (nn + 1) (upd f (wo : Int) (lk : Int)) kk2 → Y2.grownBy w6 (some w5.heap.size) →
              Hid (BI w5 own (k + 1) (blkO E own k) (.slice Av lk cv) us w6) ∧ Hid (w6.heap[pe]? = some (.cells #[.int .i64 (x : Nat), .int .i64 (y : Nat)] 51 (0, 0))) ∧
              Hid ((w6.alloc (.cells #[.slice none 0 0] 22)).ownsRow (w5.heap.size + 1) 22 1 (.slice Av lk cv) lk us) ∧
              Hid (∀ (i : Nat) (u : Value), [Value.slice none 0 0][i]? = some u → (w6.alloc (.cells #[.slice none 0 0] 22)).cell? ((⟨w6.heap.size, 0, none⟩ : Addr).add i) = some u) ∧ w5.heap.size + 1 ≤ w6.heap.size) := by
            intro w6 kk2 hM6 hg6
            rw [← HLK.out, blkO_length, ← HWO.out] at hM6
            have h6 := HG2.out.mapped HPL.out hnn HFF.out hM6 hg6
            have h7 := h6.bl.row.alloc (.cells #[.slice none 0 0] 22)
            rw [HLK.out] at h7
            refine ⟨h6, ?_, h7, fun i u hi => ?_, h6.sz⟩
            · show _ = _
              rw [hg6.block pe (lt_of_block HE2.out) (by simp; omega)]
              exact HE2.out
            · rw [← hi, add_off, World.cell?_alloc_at _ _ _ _ rfl]
              simp
          go_wp2_with (first
            | (at_mapUpdate; refine wpList_putZ _ rfl _ _ _ rfl w5.heap.size nn kk f rfl HMM.out (by omega) (wo : Int) (lk : Int) rfl rfl HXI.out HII.out ?_; intro w6 hM6 hg6; obtain ⟨HG6, HE6, HFR, HLT, hsz6⟩ := HN6.out w6 _ hM6 hg6; clear hM6 hg6)
            | (at_builtin; refine wpList_append_lies _ rfl (.tmp 53) (.tmp 54) 38 rfl (w5.heap.size + 1) 22 i2 (.slice none 0 0) 1 24 Try.underlying38 hi2 hx0 hx1 hx2 rfl (by decide) _ lk us rfl HFR.out ⟨w6.heap.size, 0, none⟩ 1 1 [.slice none 0 0] (by simp [Act.eval]) rfl HLT.out (by simp [Value.oneCell']) (by omega) (by simp [maxLen]; omega) (by omega) (by simp; omega) (w6.heap.size + 1) (by simp) ?_; intro g7 c7 w7 hr7 hg7 _ _))
          clear HN6
          go_meet
          have hb6 : Below w6.heap.size w6 (w6.alloc (.cells #[.slice none 0 0] 22)) := (Below.refl _ _).alloc (Nat.le_refl _) _
          have hadd := HG6.out.bl.add (k := lk) HLK.out.symm hb6 hg7 hr7
          have hown6 := HG6.out.bl.row
          have hb7 : Below (w5.heap.size + 1) w6 w7 := (hb6.mono hsz6).grown hg7 (by simp; omega) (fun q e => (hown6.lt q e).1)
          have hE7 : w7.heap[pe]? = some (.cells #[.int .i64 (x : Nat), .int .i64 (y : Nat)] 51 (0, 0)) := by
            rw [hg7.block pe (by simp; exact Nat.lt_succ_of_lt (lt_of_block HE6.out)) (fun e => bown_ne8 hown6 HE6.out (by decide) e.symm), blk_below HE6.out hb6]
          refine ⟨_, _, _, lk, [], rfl, rfl, Lib.hid (HG6.out.next hb7 hadd), hE7, ?_, ?_, ?_, by simp⟩
          · intro u hu
            rcases List.mem_append.1 hu with h | h
            · exact HNP.out u h
            · simp at h
              subst h
              simp [Value.ownBlock]
          · show _ = _
            rw [List.getElem?_append_right (by rw [HLK.out]; exact Nat.le_refl _), HLK.out, Nat.sub_self]
            rfl
          · show _ = _
            have := blkO_new HE1.out HPL.out
            rw [HLK.out] at this
            exact this
        | some a =>
          have hg0 := HGD.out
          have hs0 := HSM.out
          rw [hpl] at hg0 hs0
          simp only [Option.map_some, Option.getD_some, Option.isSome_some] at hg0 hs0
          subst hg0
          subst hs0
          have HPL : Hid (place own k (own k) = some a) := by show _ = _; rw [HWO.out]; exact hpl
          clear hpl
          go_wp2_with fail
          go_meet
          obtain ⟨z, hz1, hz2⟩ := blkO_old HE1.out HPL.out
          have hzs := blkO_sz hz1
          exact ⟨_, us, _, a, z, rfl, rfl, Lib.hid (HG2.out.again HPL.out), HE2, HNP, Lib.hid hz1, Lib.hid hz2, by omega⟩
      case rest =>
        obtain ⟨V1, us1, F1, at1, x1, rfl, rfl, HG3, HE3, HN3, HX1, HXF, hl1⟩ := hcut
        obtain ⟨eu, hp⟩ : ∃ eu, us1[at1]? = some eu := ⟨_, List.getElem?_eq_getElem (by have h2 := (List.getElem?_eq_some_iff.1 HX1.out).1; have h3 := HG3.out.bl.len; omega)⟩
        obtain ⟨l1, hl1'⟩ : ∃ l1, F1.length = l1 := ⟨_, rfl⟩
        have hat : at1 < l1 := by rw [← hl1']; exact (List.getElem?_eq_some_iff.1 HX1.out).1
        obtain ⟨G, cap1, hv⟩ := HG3.out.bl.form (by rw [hl1']; omega)
        rw [hl1'] at hv
        subst hv
        have HL1 := Lib.hid hl1'
        have HP1 := Lib.hid hp
        have hatI : (at1 : Int) < (l1 : Nat) := by omega
        have hatJ : (0 : Int) ≤ (at1 : Int) := by omega
        have hnp := HN3.out eu (List.mem_of_getElem? hp)
        have hrow := HG3.out.bl.row
        rw [hl1'] at hrow
        have hGlt := hrow.lt G rfl
        have hpelt := lt_of_block HE3.out
        have hGpe : G ≠ pe := fun e => bown_ne8 hrow HE3.out (by decide) (by rw [← e]; rfl)
        clear hl1' hp
        go_upto_region 17 with fail
        have hou := HG3.out.bl.each at1 _ x1 HP1.out HX1.out
        have hbu : eu.ownBlock ≠ some G := fun e => bown_typ hou hrow (by decide) e rfl
        have r2 : wc.cell? ⟨G, at1, none⟩ = some eu := by
          have := hrow.cells rfl at1 _ HP1.out
          rwa [add_off] at this
        obtain ⟨r0, r1, _, _⟩ := cells_two HE3.out
        have HOW := Lib.hid (World.ownsRow.alloc (World.ownsRow.drew hou) (.cells #[.int .i64 (x : Nat), .int .i64 (y : Nat)] 51))
        have hXA : Below wc.heap.size wc (wc.drew.alloc (.cells #[.int .i64 (x : Nat), .int .i64 (y : Nat)] 51)) := (Below.refl _ _).drew.alloc (by simp only [World.size_drew]; omega) _
        have hrlt : ∀ q, eu.ownBlock = some q → w5.heap.size + 1 ≤ q := fun q e => (hou.lt q e).1
        have HNB : Hid (∀ (w' : World), (wc.drew.alloc (.cells #[.int .i64 (x : Nat), .int .i64 (y : Nat)] 51)).grownBy w' eu.ownBlock → w'.cell? ⟨G, at1, none⟩ = some eu ∧ w'.frozen? ⟨G, at1, none⟩ = false ∧ w'.cell? ⟨pe, 0, none⟩ = some (.int .i64 (x : Nat)) ∧ w'.cell? ⟨pe, 1, none⟩ = some (.int .i64 (y : Nat)) ∧ pe < w'.heap.size ∧ Below (w5.heap.size + 1) wc w' ∧ w'.heap[pe]? = some (.cells #[.int .i64 (x : Nat), .int .i64 (y : Nat)] 51 (0, 0))) := by
          intro w' hg
          have he : w'.heap[pe]? = some (.cells #[.int .i64 (x : Nat), .int .i64 (y : Nat)] 51 (0, 0)) := by
            rw [hg.block _ (by simp only [World.size_alloc, World.size_drew]; omega) (fun e => hnp e.symm)]
            exact blk_below HE3.out hXA
          obtain ⟨cur, hcur⟩ := bown_block hrow
          have hh : w'.heap[G]? = wc.heap[G]? := by
            rw [hg.block _ (by simp only [World.size_alloc, World.size_drew]; omega) (fun e => hbu e.symm)]
            exact hXA.block G hGlt.2
          obtain ⟨e1, e2, _, _⟩ := cells_two he
          have hz := hg.size
          simp only [World.size_alloc, World.size_drew] at hz
          refine ⟨(World.cell?_of_block hh).trans r2, free_of (hh.trans hcur) _, e1, e2, by omega, (hXA.mono HG3.out.sz).grown hg (by simp only [World.size_alloc, World.size_drew]; have := HG3.out.sz; omega) hrlt, he⟩
        have hfin : Hid (∀ (w7 : World) (g' cap' : Nat), w7.ownsRow (w5.heap.size + 1) 51 2 (.slice (some ⟨g', 0, none⟩) (x1.length + 1) cap') (x1.length + 1) (pcells x1 ++ [.int .i64 (x : Nat), .int .i64 (y : Nat)]) → (wc.drew.alloc (.cells #[.int .i64 (x : Nat), .int .i64 (y : Nat)] 51)).grownBy w7 eu.ownBlock → (eu.ownBlock = some g' ∨ g' = wc.heap.size + 1) →
            BI w5 own (k + 1) (F1.set at1 (x1 ++ [((x : Int), (y : Int))])) (.slice (some ⟨G, 0, none⟩) l1 cap1) (us1.set at1 (.slice (some ⟨g', 0, none⟩) (x1.length + 1) cap')) (w7.setCell ⟨G, at1, none⟩ (.slice (some ⟨g', 0, none⟩) (x1.length + 1) cap')) ∧
            (w7.setCell ⟨G, at1, none⟩ (.slice (some ⟨g', 0, none⟩) (x1.length + 1) cap')).heap[pe]? = some (.cells #[.int .i64 (x : Nat), .int .i64 (y : Nat)] 51 (0, 0))) := by
          intro w7 g' cap' ho hg hor
          obtain ⟨_, _, _, _, _, hb7, he7⟩ := HNB w7 hg
          refine ⟨HG3.out.next (hb7.setCell (by show w5.heap.size + 1 ≤ G; omega) _) ?_, ?_⟩
          · refine HG3.out.bl.set HL1.out.symm HP1.out HX1.out hXA hg ?_ ?_
            · rw [pcells_one, List.length_append]
              exact ho
            · rcases hor with h | h
              · exact .inl (by rw [h]; rfl)
              · exact .inr ⟨g', rfl, by omega⟩
          · rw [Below.heap_setCell _ _ _ _ (by show pe ≠ G; exact fun e => hGpe e.symm)]
            exact he7
        obtain ⟨xl, hxl⟩ : ∃ xl, x1.length = xl := ⟨_, rfl⟩
        rw [hxl] at HOW hfin hl1
        have HXLL := Lib.hid hxl
        have hGL : G < wc.heap.size := hGlt.2
        clear hou hbu hXA hrlt hxl hGlt hrow hnp
        refine wp_region_held_drew (S := fun w' => w'.cell? ⟨pe, 0, none⟩ = some (.int .i64 (x : Nat)) ∧ w'.cell? ⟨pe, 1, none⟩ = some (.int .i64 (y : Nat))) (by kernel_rfl) ⟨r0, r1⟩ (fun hS => ?_)
        refine wpAnyH_take (i := 0) (v := ?_) rfl (by kernel_rfl) (by kernel_rfl) (by kernel_rfl) (fun _ _ _ h => h) (Or.inl ⟨by rfl, ?_⟩) hS ?_
        rotate_left
        · intro wz hSw; (try dsimp only at hSw); obtain ⟨hz1, hz2⟩ := hSw; go_simp; (try with_reducible rfl)
        try simp only [List.getElem_toArray, List.getElem_cons_zero, Act.put, List.setIfInBounds_toArray, List.set_cons_zero, List.set_cons_succ]
        refine wpAnyH_take (i := 1) (v := ?_) rfl (by kernel_rfl) (by kernel_rfl) (by kernel_rfl) (fun _ _ _ h => h) (Or.inl ⟨by rfl, ?_⟩) hS ?_
        rotate_left
        · intro wz hSw; (try dsimp only at hSw); obtain ⟨hz1, hz2⟩ := hSw; go_simp; (try with_reducible rfl)
        try simp only [List.getElem_toArray, List.getElem_cons_zero, List.getElem_cons_succ, Act.put, List.setIfInBounds_toArray, List.set_cons_zero, List.set_cons_succ]
        refine wpAnyH_take (i := 2) (v := ?_) rfl (by kernel_rfl) (by kernel_rfl) (by kernel_rfl) (fun _ _ _ h => h) (Or.inl ⟨by rfl, ?_⟩) hS ?_
        rotate_left
        · intro wz hSw; (try dsimp only at hSw); obtain ⟨hz1, hz2⟩ := hSw; go_simp; (try with_reducible rfl)
        try simp only [List.getElem_toArray, List.getElem_cons_zero, List.getElem_cons_succ, Act.put, List.setIfInBounds_toArray, List.set_cons_zero, List.set_cons_succ]
        refine wpAnyH_take (i := 3) (v := ?_) rfl (by kernel_rfl) (by kernel_rfl) (by kernel_rfl) (fun _ _ _ h => h) (Or.inl ⟨by rfl, ?_⟩) hS ?_
        rotate_left
        · intro wz hSw; (try dsimp only at hSw); obtain ⟨hz1, hz2⟩ := hSw; go_simp; (try with_reducible rfl)
        try simp only [List.getElem_toArray, List.getElem_cons_zero, List.getElem_cons_succ, Act.put, List.setIfInBounds_toArray, List.set_cons_zero, List.set_cons_succ]
        refine wpAnyH_take (i := 4) (v := ?_) rfl (by kernel_rfl) (by kernel_rfl) (by kernel_rfl) (fun _ _ _ h => h) (Or.inl ⟨by rfl, ?_⟩) hS ?_
        rotate_left
        · intro wz hSw; (try dsimp only at hSw); obtain ⟨hz1, hz2⟩ := hSw; go_simp; (try with_reducible rfl)
        try simp only [List.getElem_toArray, List.getElem_cons_zero, List.getElem_cons_succ, Act.put, List.setIfInBounds_toArray, List.set_cons_zero, List.set_cons_succ]
        refine wpAnyH_take (i := 6) (v := ?_) rfl (by kernel_rfl) (by kernel_rfl) (by kernel_rfl) (fun _ _ _ h => h) (Or.inl ⟨by rfl, ?_⟩) hS ?_
        rotate_left
        · intro wz hSw; (try dsimp only at hSw); obtain ⟨hz1, hz2⟩ := hSw; go_simp; (try with_reducible rfl)
        try simp only [List.getElem_toArray, List.getElem_cons_zero, List.getElem_cons_succ, Act.put, List.setIfInBounds_toArray, List.set_cons_zero, List.set_cons_succ]
        refine wpAnyH_ready (rs := [5, 7]) (by kernel_rfl) (by simp) (AllReadyH.cons rfl (fun K hK => ?_) (AllReadyH.cons rfl (fun K hK => ?_) AllReadyH.nil))
        · go_simp
          refine hK.out _ _ hS (fun _ => ?_)
          clear hK K
          try simp only [List.getElem_toArray, List.getElem_cons_zero, List.getElem_cons_succ, Act.put, List.setIfInBounds_toArray, List.set_cons_zero, List.set_cons_succ]
          refine wpAnyH_ready (rs := [7]) (by kernel_rfl) (by simp) (AllReadyH.cons rfl (fun K hK => ?_) AllReadyH.nil)
          go_simp
          have hS := (show _ ∧ _ from ⟨(World.cell?_alloc_lt wc.drew (.cells #[.int .i64 (x : Nat), .int .i64 (y : Nat)] 51) _ hpelt).trans hS.1, (World.cell?_alloc_lt wc.drew (.cells #[.int .i64 (x : Nat), .int .i64 (y : Nat)] 51) _ hpelt).trans hS.2⟩)
          refine hK.out _ _ hS (fun _ => ?_)
          clear hK K
          try simp only [List.getElem_toArray, List.getElem_cons_zero, List.getElem_cons_succ, Act.put, List.setIfInBounds_toArray, List.set_cons_zero, List.set_cons_succ]
          refine wpAnyH_ready (rs := [8]) (by kernel_rfl) (by simp) (AllReadyH.cons rfl (fun K hK => ?_) AllReadyH.nil)
          refine step_append_lies _ rfl (.tmp 61) (.tmp 63) 22 rfl (w5.heap.size + 1) 51 i1 (.agg #[.int .i64 0, .int .i64 0]) 2 16 Try.underlying22 hi1 hy0 hy1 hy2 rfl (by decide) eu xl (pcells x1) (by simp [Act.eval]) HOW.out ⟨wc.heap.size, 0, none⟩ 1 1 [.int .i64 (x : Nat), .int .i64 (y : Nat)] (by simp [Act.eval]) rfl (by intro j u hj; rw [← hj, add_off]; exact (show (wc.alloc (.cells #[.int .i64 (x : Nat), .int .i64 (y : Nat)] 51)).cell? ⟨wc.heap.size, j, none⟩ = _ from (by rw [World.cell?_alloc_at _ _ _ _ rfl]; simp))) (by simp [Value.oneCell']) (by omega) (by simp [maxLen]; omega) (by omega) (by simp only [World.size_alloc, World.size_drew]; have := HG3.out.sz; omega) (wc.heap.size + 1) (by simp only [World.size_alloc, World.size_drew]) ?_
          intro g' cap' w7 hrow7 hgr7 hor7 hlt7
          obtain ⟨s1, s2, s3, s4, _, _, _⟩ := HNB.out w7 hgr7
          have hS := (show _ ∧ _ from ⟨s3, s4⟩)
          refine hK.out _ _ hS (fun _ => ?_)
          clear hK K
          try simp only [List.getElem_toArray, List.getElem_cons_zero, List.getElem_cons_succ, Act.put, List.setIfInBounds_toArray, List.set_cons_zero, List.set_cons_succ]
          refine wpAnyH_ready (rs := [9]) (by kernel_rfl) (by simp) (AllReadyH.cons rfl (fun K hK => ?_) AllReadyH.nil)
          go_simp
          refine hK.out _ _ hS (fun _ => ?_)
          clear hK K
          try simp only [List.getElem_toArray, List.getElem_cons_zero, List.getElem_cons_succ, Act.put, List.setIfInBounds_toArray, List.set_cons_zero, List.set_cons_succ]
          refine wpAnyH_ready (rs := [10]) (by kernel_rfl) (by simp) (AllReadyH.cons rfl (fun K hK => ?_) AllReadyH.nil)
          go_simp
          obtain ⟨_, fe⟩ := hfin.out w7 g' cap' hrow7 hgr7 hor7
          obtain ⟨f0, f1, _, _⟩ := cells_two fe
          have hS := (show _ ∧ _ from ⟨f0, f1⟩)
          refine hK.out _ _ hS (fun _ => ?_)
          clear hK K
          try simp only [List.getElem_toArray, List.getElem_cons_zero, List.getElem_cons_succ, Act.put, List.setIfInBounds_toArray, List.set_cons_zero, List.set_cons_succ]
          refine wpAnyH_done (by kernel_rfl) ?_ _
          go_wp2_with fail
          go_roundw
          case rel =>
            obtain ⟨f1, f2⟩ := hfin.out w7 g' cap' hrow7 hgr7 hor7
            exact ⟨k + 1, _, _, by omega, by go_num, rfl, by rw [← HXF.out]; exact f1⟩
          case measure => simp [intOf]; omega
        · go_simp
          have hS := (show _ ∧ _ from ⟨(World.cell?_alloc_lt wc.drew (.cells #[.int .i64 (x : Nat), .int .i64 (y : Nat)] 51) _ hpelt).trans hS.1, (World.cell?_alloc_lt wc.drew (.cells #[.int .i64 (x : Nat), .int .i64 (y : Nat)] 51) _ hpelt).trans hS.2⟩)
          refine hK.out _ _ hS (fun _ => ?_)
          clear hK K
          try simp only [List.getElem_toArray, List.getElem_cons_zero, List.getElem_cons_succ, Act.put, List.setIfInBounds_toArray, List.set_cons_zero, List.set_cons_succ]
          refine wpAnyH_ready (rs := [5]) (by kernel_rfl) (by simp) (AllReadyH.cons rfl (fun K hK => ?_) AllReadyH.nil)
          go_simp
          refine hK.out _ _ hS (fun _ => ?_)
          clear hK K
          try simp only [List.getElem_toArray, List.getElem_cons_zero, List.getElem_cons_succ, Act.put, List.setIfInBounds_toArray, List.set_cons_zero, List.set_cons_succ]
          refine wpAnyH_ready (rs := [8]) (by kernel_rfl) (by simp) (AllReadyH.cons rfl (fun K hK => ?_) AllReadyH.nil)
          refine step_append_lies _ rfl (.tmp 61) (.tmp 63) 22 rfl (w5.heap.size + 1) 51 i1 (.agg #[.int .i64 0, .int .i64 0]) 2 16 Try.underlying22 hi1 hy0 hy1 hy2 rfl (by decide) eu xl (pcells x1) (by simp [Act.eval]) HOW.out ⟨wc.heap.size, 0, none⟩ 1 1 [.int .i64 (x : Nat), .int .i64 (y : Nat)] (by simp [Act.eval]) rfl (by intro j u hj; rw [← hj, add_off]; exact (show (wc.alloc (.cells #[.int .i64 (x : Nat), .int .i64 (y : Nat)] 51)).cell? ⟨wc.heap.size, j, none⟩ = _ from (by rw [World.cell?_alloc_at _ _ _ _ rfl]; simp))) (by simp [Value.oneCell']) (by omega) (by simp [maxLen]; omega) (by omega) (by simp only [World.size_alloc, World.size_drew]; have := HG3.out.sz; omega) (wc.heap.size + 1) (by simp only [World.size_alloc, World.size_drew]) ?_
          intro g' cap' w7 hrow7 hgr7 hor7 hlt7
          obtain ⟨s1, s2, s3, s4, _, _, _⟩ := HNB.out w7 hgr7
          have hS := (show _ ∧ _ from ⟨s3, s4⟩)
          refine hK.out _ _ hS (fun _ => ?_)
          clear hK K
          try simp only [List.getElem_toArray, List.getElem_cons_zero, List.getElem_cons_succ, Act.put, List.setIfInBounds_toArray, List.set_cons_zero, List.set_cons_succ]
          refine wpAnyH_ready (rs := [9]) (by kernel_rfl) (by simp) (AllReadyH.cons rfl (fun K hK => ?_) AllReadyH.nil)
          go_simp
          refine hK.out _ _ hS (fun _ => ?_)
          clear hK K
          try simp only [List.getElem_toArray, List.getElem_cons_zero, List.getElem_cons_succ, Act.put, List.setIfInBounds_toArray, List.set_cons_zero, List.set_cons_succ]
          refine wpAnyH_ready (rs := [10]) (by kernel_rfl) (by simp) (AllReadyH.cons rfl (fun K hK => ?_) AllReadyH.nil)
          go_simp
          obtain ⟨_, fe⟩ := hfin.out w7 g' cap' hrow7 hgr7 hor7
          obtain ⟨f0, f1, _, _⟩ := cells_two fe
          have hS := (show _ ∧ _ from ⟨f0, f1⟩)
          refine hK.out _ _ hS (fun _ => ?_)
          clear hK K
          try simp only [List.getElem_toArray, List.getElem_cons_zero, List.getElem_cons_succ, Act.put, List.setIfInBounds_toArray, List.set_cons_zero, List.set_cons_succ]
          refine wpAnyH_done (by kernel_rfl) ?_ _
          go_wp2_with fail
          go_roundw
          case rel =>
            obtain ⟨f1, f2⟩ := hfin.out w7 g' cap' hrow7 hgr7 hor7
            exact ⟨k + 1, _, _, by omega, by go_num, rfl, by rw [← HXF.out]; exact f1⟩
          case measure => simp [intOf]; omega
    · obtain rfl : n = k := by omega
      have t1 : decide ((n : Int) < (n : Int)) = false := by simp
      go_wp2_with fail
      go_ret2
      have hS : BlkS N E A U F O := ⟨HNR.out, HLF.out, HOI.out⟩
      exact ⟨_, us, A, U, F, O, rfl, by rw [hS.blk HG.out, ← HOWN.out, ← HN.out]; exact hG.out.bl.less (by have := HXS.out; have := HB5.out.size; omega), hS, HB.out.trans ((HB5.out.trans (hG.out.on.mono HB5.out.size)).mono (Nat.le_of_lt HXS.out))⟩
end
section
set_option maxRecDepth 100000
open Go.RowKit

/-- Lists of edges that are read. -/
def RdPP (w : World) (A : Option Addr) (G : List (List (Int × Int))) : Prop := ∀ (j : Nat) (x : List (Int × Int)), G[j]? = some x → ∃ (ad : Addr) (B : Option Addr) (c : Nat), A = some ad ∧ ad.block < w.heap.size ∧ w.cell? (ad.add j) = some (.slice B x.length c) ∧ RdP w B x
theorem RdPP.below {w w' : World} {A : Option Addr} {G : List (List (Int × Int))} (h : RdPP w A G) (hb : Below w.heap.size w w') : RdPP w' A G := fun j x hj => by
  obtain ⟨ad, B, c, e, hl, hc, hr⟩ := h j x hj
  exact ⟨ad, B, c, e, Nat.lt_of_lt_of_le hl hb.size, by rw [hb.cell (by rw [block_add]; exact hl)]; exact hc, hr.below hb⟩
theorem Blks.rd {w : World} {base : Nat} {V : Value} {us : List Value} {G : List (List (Int × Int))} (h : Blks w base V us G) : ∃ A c, V = .slice A G.length c ∧ RdPP w A G := by
  rcases Joins.ownsRow_forms h.row with ⟨e, h0⟩ | ⟨g, cap, e⟩
  · refine ⟨none, 0, by rw [e, h0], fun j x hj => ?_⟩
    have := (List.getElem?_eq_some_iff.1 hj).1
    omega
  · refine ⟨_, cap, e, fun j x hj => ?_⟩
    have hjl : j < us.length := by have := (List.getElem?_eq_some_iff.1 hj).1; have := h.len; omega
    obtain ⟨u, hu⟩ : ∃ u, us[j]? = some u := ⟨_, List.getElem?_eq_getElem hjl⟩
    have hrow := h.row
    rw [e] at hrow
    have hc := hrow.cells rfl j u hu
    obtain ⟨B, c, rfl, hr, _⟩ := own_rdP (h.each j u x hu hj)
    exact ⟨_, B, c, rfl, (hrow.lt g rfl).2, hc, hr⟩
theorem blocks_yes (A0 : Option Addr) (c n N : Nat) (E : List (Int × Int)) (w : World) (hr : RdP w A0 E) (hn : n = E.length) (hg : rightG (N : Nat) E = true) :
    Calls Try.prog 22 #[.agg #[.int .i64 (N : Nat), .slice A0 n c]] w fun e w' => ∃ (A1 : Option Addr) (c1 : Nat), e = .returned (.tuple #[.slice A1 (blkG N E).length c1, .int .i64 0]) ∧ RdPP w' A1 (blkG N E) ∧ (∃ A U F O, BlkS N E A U F O) ∧ (blkG N E).length ≤ n ∧ Below w.heap.size w w' := by
  refine (blocks_any A0 c n N E w hr hn hg).mono ?_
  rintro e w' ⟨V, us, A, U, F, O, rfl, hB, hS, hb⟩
  obtain ⟨A1, c1, rfl, hR⟩ := hB.rd
  exact ⟨A1, c1, rfl, hR, ⟨A, U, F, O, hS⟩, by rw [hS.blk hg, hn]; exact blkO_le _ _ _, hb⟩
/-- The blocks of one edge alone. -/
def bridG (G : List (List (Int × Int))) : List (Int × Int) := G.flatMap fun b => if b.length = 1 then b else []
theorem bridG_snoc {G : List (List (Int × Int))} {k : Nat} {b : List (Int × Int)} (h : G[k]? = some b) : bridG (G.take (k + 1)) = bridG (G.take k) ++ (if b.length = 1 then b else []) := by
  unfold bridG
  rw [List.take_add_one, h]
  simp
theorem bridG_le : ∀ G : List (List (Int × Int)), (bridG G).length ≤ G.length
  | [] => Nat.le_refl _
  | b :: G => by
    have := bridG_le G
    show ((if b.length = 1 then b else []) ++ bridG G).length ≤ G.length + 1
    rw [List.length_append]
    split
    · omega
    · simp; omega
set_option maxHeartbeats 16000000 in
theorem bridges_yes (A0 : Option Addr) (c n N : Nat) (E : List (Int × Int)) (w : World) (hr : RdP w A0 E) (hn : n = E.length) (hg : rightG (N : Nat) E = true) :
    Calls Try.prog 16 #[.agg #[.int .i64 (N : Nat), .slice A0 n c]] w fun e w' => ∃ (A1 : Option Addr) (c1 : Nat), e = .returned (.tuple #[.slice A1 (bridG (blkG N E)).length c1, .int .i64 0]) ∧ RdP w' A1 (bridG (blkG N E)) ∧ (∃ A U F O, BlkS N E A U F O) ∧ (bridG (blkG N E)).length ≤ n ∧ Below w.heap.size w w' := by
  have hn6 : n ≤ 594 := by have := (rightG_bounds hg).2.2; omega
  obtain ⟨X, hX⟩ : ∃ X, X = w.alloc (.cells #[.int .i64 (N : Nat), .slice A0 n c] 24) := ⟨_, rfl⟩
  have hb : Below w.heap.size w X := by rw [hX]; exact (Below.refl _ _).alloc (Nat.le_refl _) _
  have hXS : w.heap.size < X.heap.size := by rw [hX]; simp
  obtain ⟨j0, j1, _, _⟩ := cells_two (w := X) (by rw [hX]; exact heap_alloc_new w _)
  have HS := Lib.hid (blocks_yes A0 c n N E X (hr.below hb) hn hg)
  have HX := Lib.hid hX
  have HB := Lib.hid hb
  have HXS := Lib.hid hXS
  obtain ⟨i1, hi1, hy0, hy1, hy2⟩ := info_partsI pinfo5
  clear hr hn hg hX hb hXS
  go_enter Try.func16, Try.ntmps16
  go_wp2_with fail
  rw [← HX.out]
  refine HS.out.mono ?_
  rintro e W ⟨A1, c1, rfl, hR, hS, hlen, hbW⟩
  have HR := Lib.hid hR
  have HS2 := Lib.hid hS
  have HBW := Lib.hid hbW
  obtain ⟨G, hG⟩ : ∃ G, blkG N E = G := ⟨_, rfl⟩
  rw [hG] at HR hlen ⊢
  have HGQ := Lib.hid hG
  obtain ⟨lg, hlg⟩ : ∃ lg, G.length = lg := ⟨_, rfl⟩
  rw [hlg] at hlen ⊢
  have HLG := Lib.hid hlg
  have HO0 : Hid (W.ownsRow W.heap.size 51 2 (.slice none 0 0) (bridG (G.take 0)).length (pcells (bridG (G.take 0)))) := World.ownsRow_nil _ _ _ _
  have HB0 := Lib.hid (Below.refl W.heap.size W)
  clear hR hS hbW hG hlg j0 j1 HS
  go_wp2_with fail
  go_loopw [19, 6] (fun s19 s6 wr => ∃ (k : Nat) (V : Value), k ≤ lg ∧ s19 = .int .i64 k ∧ s6 = V ∧ Hid (wr.ownsRow W.heap.size 51 2 V (bridG (G.take k)).length (pcells (bridG (G.take k)))) ∧ Hid (Below W.heap.size W wr)) (fun s19 _ _ => lg - (intOf s19).toNat)
  case atStart => exact ⟨0, _, Nat.zero_le _, rfl, rfl, HO0, HB0⟩
  case round =>
    obtain ⟨k, V, hk, rfl, rfl, hO, hbel⟩ := hrel
    by_cases h1 : k < lg
    · have t1 : decide ((k : Int) < (lg : Int)) = true := by simp; omega
      have hK0 : (0 : Int) ≤ (k : Int) := by omega
      have hK1 : (k : Int) < (lg : Nat) := by omega
      obtain ⟨b, hb⟩ : ∃ b, G[k]? = some b := ⟨_, List.getElem?_eq_getElem (by rw [HLG.out]; exact h1)⟩
      obtain ⟨ad, Bx, cx, rfl, hal, hc, hrb⟩ := (HR.out.below hbel.out) k b hb
      have hsn := bridG_snoc hb
      have hle := bridG_le (G.take k)
      rw [List.length_take] at hle
      clear hb
      by_cases h2 : b.length = 1
      · have t2 : ((b.length : Int) == 1) = true := by simp; omega
        match b, h2 with
        | [(x, y)], _ =>
          rw [if_pos (show [(x, y)].length = 1 from rfl)] at hsn
          obtain ⟨ad2, rfl, hal2, p0, p1⟩ := hrb 0 (x, y) rfl
          simp only [Nat.zero_mul] at p0 p1
          have hadd : ad2.add 0 = ad2 := by cases ad2; rfl
          rw [hadd] at p0 p1
          have hsn2 : bridG (G.take (k + 1)) = bridG (G.take k) ++ [(x, y)] := hsn
          have HSN := Lib.hid hsn2
          have HFA := Lib.hid (hO.out.alloc (.cells #[.int .i64 x, .int .i64 y] 51))
          have HLT : Hid (∀ (i : Nat) (u : Value), [Value.int .i64 x, .int .i64 y][i]? = some u → (wr.alloc (.cells #[.int .i64 x, .int .i64 y] 51)).cell? ((⟨wr.heap.size, 0, none⟩ : Addr).add i) = some u) := fun i u hi => by
            rw [← hi, add_off, World.cell?_alloc_at _ _ _ _ rfl]
            simp
          obtain ⟨lb, hlb⟩ : ∃ lb, (bridG (G.take k)).length = lb := ⟨_, rfl⟩
          rw [hlb] at HFA hle
          have HLB := Lib.hid hlb
          have hws := hbel.out.size
          have hbw : lb ≤ 594 := by omega
          clear hsn hsn2 hrb hal hal2 hlb hle t2
          go_wp2_with (at_builtin; refine wpList_append_lies _ rfl (.tmp 26) (.tmp 30) 22 rfl W.heap.size 51 i1 (.agg #[.int .i64 0, .int .i64 0]) 2 16 Try.underlying22 hi1 hy0 hy1 hy2 rfl (by decide) _ lb (pcells (bridG (G.take k))) rfl HFA.out ⟨wr.heap.size, 0, none⟩ 1 1 [.int .i64 x, .int .i64 y] (by simp [Act.eval]) rfl HLT.out (by simp [Value.oneCell']) (by omega) (by simp [maxLen]; omega) (by omega) (by simp; omega) (wr.heap.size + 1) (by simp) ?_; intro g7 c7 w7 hr7 hg7 ho7 hlt7; have HR7 := Lib.hid hr7; have HG7 := Lib.hid hg7; clear hr7 hg7 ho7 hlt7)
          go_roundw
          case rel =>
            refine ⟨k + 1, _, by omega, by go_num, rfl, ?_, ?_⟩
            · show World.ownsRow _ _ _ _ _ _ _
              rw [HSN.out, List.length_append, HLB.out, pcells_one]
              exact HR7.out
            · exact (hbel.out.alloc hws _).grown HG7.out (by simp; omega) (fun q e => (HFA.out.lt q e).1)
          case measure => simp [intOf]; omega
      · have t2 : ((b.length : Int) == 1) = false := by simp; omega
        rw [if_neg h2, List.append_nil] at hsn
        have HSN := Lib.hid hsn
        obtain ⟨lb, hlb⟩ : ∃ lb, b.length = lb := ⟨_, rfl⟩
        rw [hlb] at hc t2
        clear hsn hlb h2 hrb hle
        go_wp2_with fail
        go_roundw
        case rel => exact ⟨k + 1, _, by omega, by go_num, rfl, by rw [HSN.out]; exact hO, hbel⟩
        case measure => simp [intOf]; omega
    · obtain rfl : lg = k := by omega
      have t1 : decide ((lg : Int) < (lg : Int)) = false := by simp
      go_wp2_with fail
      go_ret2
      have h9 := hO.out
      rw [show G.take lg = G by rw [← HLG.out]; exact List.take_length] at h9
      obtain ⟨A2, c2, rfl, hR2, _⟩ := own_rdP h9
      rw [HGQ.out]
      exact ⟨A2, c2, rfl, hR2, HS2.out, by have := bridG_le G; rw [HLG.out] at this; omega, (HB.out.trans ((HBW.out.trans (hbel.out.mono HBW.out.size)).mono (Nat.le_of_lt HXS.out)))⟩
end
section
set_option maxRecDepth 100000
open Go.RowKit

theorem brow_cap {w : World} {base n c size : Nat} {B : Option Addr} {e : TypeId} {cs : List Value} (h : w.ownsRow base e size (.slice B n c) n cs) : n ≤ c ∧ c ≤ 9223372036854775807 := by
  obtain ⟨_, ⟨h0, h1⟩ | ⟨g, cap, cur, ev, _, _, h3, h4, _⟩⟩ := h
  · injection h0 with _ _ e
    omega
  · injection ev with _ _ e
    unfold maxLen at h4
    omega
theorem bpcells_len {w : World} {base n c : Nat} {B : Option Addr} {E : List (Int × Int)} (h : w.ownsRow base 51 2 (.slice B n c) n (pcells E)) : n = E.length ∧ RdP w B E := by
  have h1 := h.1
  rw [pcells_length] at h1
  obtain ⟨B', c', ev, hr, _, _⟩ := own_rdP h
  injection ev with e1 e2 e3
  subst e1
  exact ⟨by omega, hr⟩
set_option maxHeartbeats 64000000 in
theorem two_walk_g (A B : Option Addr) (c d n m : Nat) (N : Int) (E : List (Int × Int)) (bs : List Bool) (w : World) (hE : RdP w A E) (hB : RdB w B bs) (hn : n = E.length) (hm : m = bs.length) :
    Calls Try.prog 11 #[.agg #[.int .i64 N, .slice A n c], .slice B m d] w fun e w' => e = .returned (.bool true) ∧ Below w.heap.size w w' := by
  obtain ⟨X, hX⟩ : ∃ X, X = w.alloc (.cells #[.int .i64 N, .slice A n c] 24) := ⟨_, rfl⟩
  have hb : Below w.heap.size w X := by rw [hX]; exact (Below.refl _ _).alloc (Nat.le_refl _) _
  have hXS : w.heap.size < X.heap.size := by rw [hX]; simp
  obtain ⟨j0, j1, _, _⟩ := cells_two (w := X) (by rw [hX]; exact heap_alloc_new w _)
  have HJ : Hid (∀ w', Below X.heap.size X w' → w'.cell? ⟨w.heap.size, 0, none⟩ = some (.int .i64 N) ∧ w'.cell? ⟨w.heap.size, 1, none⟩ = some (.slice A n c)) := fun w' hb =>
    ⟨by rw [hb.cell (by show w.heap.size < _; omega)]; exact j0, by rw [hb.cell (by show w.heap.size < _; omega)]; exact j1⟩
  have HR := rightS_any A c n N E X (hE.below hb) hn
  obtain ⟨p, hp⟩ : ∃ p, rightS N E = p := ⟨_, rfl⟩
  rw [hp] at HR
  have HR := Lib.hid HR
  have HE := Lib.hid (hE.below hb)
  have HBS := Lib.hid (hB.below hb)
  have HN := Lib.hid hn
  have HM := Lib.hid hm
  have HX := Lib.hid hX
  have HB := Lib.hid hb
  have HP := Lib.hid hp
  have HXS := Lib.hid hXS
  clear hE hB hn hm hX hb hp hXS
  go_enter Try.func11, Try.ntmps11
  go_wp2_with fail
  rw [← HX.out]
  refine HR.out.mono ?_
  rintro e w1 ⟨rfl, hb1⟩
  have HB1 := Lib.hid hb1
  clear hb1 j0 j1 HR
  obtain ⟨j0, j1⟩ := HJ.out w1 HB1.out
  by_cases hgo : p = true ∧ 3 ≤ N ∧ n ≠ 0
  · obtain ⟨rfl, h3, hn0⟩ := hgo
    have hp := HP.out
    unfold rightS at hp
    rw [Bool.and_eq_true] at hp
    have hg := hp.1
    have hn6 : n ≤ 594 := by rw [HN.out]; exact (rightG_bounds hg).2.2
    obtain ⟨Nn, rfl⟩ := Int.eq_ofNat_of_zero_le (rightG_bounds hg).1
    have hN2 : Nn ≤ 200 := by have := (rightG_bounds hg).2.1; omega
    have d1 : decide ((Nn : Int) < 3) = false := by simp; omega
    have d2 : ((n : Int) == 0) = false := by simp; omega
    have HG := Lib.hid hg
    obtain ⟨V, hV⟩ : ∃ V, mkd E bs n = V := ⟨_, rfl⟩
    have hweb := chosen_web (bs := bs) hg HN.out
    have hsubw : ∀ e ∈ mkd E bs n, e ∈ E := fun e he => (mkd_sub HN.out).subset he
    rw [hV] at hweb hsubw
    have HWEB := Lib.hid hweb
    have HSUB := Lib.hid hsubw
    have hVl : V.length ≤ 594 := by rw [← hV]; exact Nat.le_trans (mkd_le E bs n) hn6
    have HVL := Lib.hid hVl
    have HVQ := Lib.hid hV
    clear hp hg hweb hV hVl hsubw h3 hn0
    go_wp2_with fail
    refine (blocks_yes A c n Nn E w1 (HE.out.below HB1.out) HN.out HG.out).mono ?_
    rintro e w2 ⟨A1, c1, rfl, _, hS, _, hb2⟩
    have HS := Lib.hid hS
    have HB2 := Lib.hid (next_below HB1.out hb2)
    clear hS hb2 j0 j1
    obtain ⟨j0, j1⟩ := HJ.out w2 HB2.out
    go_wp2_with fail
    refine (parts_any A c n Nn E w2 (HE.out.below HB2.out) HN.out HG.out).mono ?_
    rintro e w3 ⟨Bp, kp, capp, usp, rfl, hkp, _, hb3⟩
    have HB3 := Lib.hid (next_below HB2.out hb3)
    have HKP := Lib.hid hkp
    clear hkp hb3 j0 j1
    obtain ⟨j0, j1⟩ := HJ.out w3 HB3.out
    go_wp2_with fail
    refine (chosen_any A B c d n m (Nn : Nat) E bs w3 (HE.out.below HB3.out) (HBS.out.below HB3.out) HN.out HM.out (by omega)).mono ?_
    rintro e w4 ⟨Bw, lw, cw, rfl, hrow, hb4⟩
    rw [HVQ.out] at hrow
    obtain ⟨hlw, hrw⟩ := bpcells_len hrow
    have hcap := brow_cap hrow
    have HB4 := Lib.hid (next_below HB3.out hb4)
    have RW := Lib.hid hrw
    have HLW := Lib.hid hlw
    clear hrow hb4 hrw hlw j0 j1
    obtain ⟨j0, j1⟩ := HJ.out w4 HB4.out
    obtain ⟨lb, hlb⟩ : ∃ lb, (blkG Nn E).length = lb := ⟨_, rfl⟩
    rw [hlb]
    have HLB := Lib.hid hlb
    clear hlb
    by_cases hq : lb = 1 ∧ kp = 1 ∧ lw ≠ 0
    · obtain ⟨rfl, rfl, hl0⟩ := hq
      have d3 : ((lw : Int) == 0) = false := by simp; omega
      have hok := HWEB.out.1
      have hft : fragsT (Nn : Nat) E V = (fragsF Nn E V, 0) := by
        unfold fragsT
        rw [if_neg (by rw [HG.out]; simp), if_pos hok]
        rfl
      have H2F : Hid (∀ x ∈ fragsF Nn E V, 2 ≤ x.2.length) := fun x hx => by
        obtain ⟨a, u, f, o, hS⟩ := HS.out
        exact two_feet HG.out hS HLB.out hok (fun e => by rw [HLW.out, e] at hl0; exact hl0 rfl) HSUB.out hx
      have HFR := Lib.hid (frags_any A Bw c cw n lw (Nn : Nat) E V w4 (HE.out.below HB4.out) RW.out HN.out HLW.out hcap.1 hcap.2)
      rw [hft] at HFR
      clear hok hft hcap
      go_wp2_with fail
      refine HFR.out.mono ?_
      rintro e w5 ⟨FV, fr, rfl, hF, hb5⟩
      have HB5 := Lib.hid (next_below HB4.out hb5)
      obtain ⟨FA, fc, hfv⟩ := owns_form hF.row
      subst hfv
      have HF := Lib.hid hF.rd
      have hfb : (fragsF Nn E V).length ≤ 600 := by
        unfold fragsF
        rw [List.length_map]
        refine Nat.le_trans (fragsO_le _ _ _ _) ?_
        have h9 := (leftP_rest (rightG_nodup HG.out) HWEB.out.1).2
        rw [h9]
        refine Nat.le_trans (List.length_filter_le _ _) ?_
        have := HN.out
        omega
      obtain ⟨Fs, hFs⟩ : ∃ Fs, fragsF Nn E V = Fs := ⟨_, rfl⟩
      rw [hFs] at HF H2F hfb ⊢
      obtain ⟨lf, hlf⟩ : ∃ lf, Fs.length = lf := ⟨_, rfl⟩
      rw [hlf] at hfb ⊢
      have HLF := Lib.hid hlf
      have HBR := Lib.hid (Below.refl w5.heap.size w5)
      clear hF hb5 hFs hlf j0 j1 HFR
      go_wp2_with fail
      go_loopw [67] (fun s67 wr => ∃ k : Nat, k ≤ lf ∧ s67 = .int .i64 k ∧ Hid (Below w5.heap.size w5 wr)) (fun s67 _ => lf - (intOf s67).toNat)
      case atStart => exact ⟨0, Nat.zero_le _, rfl, HBR⟩
      case round =>
        clear HBR
        obtain ⟨k, hk, rfl, hbl⟩ := hrel
        by_cases h1 : k < lf
        · have t1 : decide ((k : Int) < (lf : Int)) = true := by simp; omega
          have hK0 : (0 : Int) ≤ (k : Int) := by omega
          have hK1 : (k : Int) < (lf : Nat) := by omega
          obtain ⟨x, hx⟩ : ∃ x, Fs[k]? = some x := ⟨_, List.getElem?_eq_getElem (by rw [HLF.out]; exact h1)⟩
          obtain ⟨ad, B1, B2, q1, q2, rfl, _, e1, e2, _, _⟩ := (HF.out.below hbl.out) k x hx
          have h2f := H2F.out x (List.mem_of_getElem? hx)
          obtain ⟨l1, hl1⟩ : ∃ l1, x.1.length = l1 := ⟨_, rfl⟩
          obtain ⟨l2, hl2⟩ : ∃ l2, x.2.length = l2 := ⟨_, rfl⟩
          rw [hl1] at e1
          rw [hl2] at e2 h2f
          have t2 : decide ((l2 : Int) < 2) = false := by simp; omega
          have HB6 : Hid (Below w5.heap.size w5 (wr.alloc (.cells #[.slice B1 l1 q1, .slice B2 l2 q2] 71))) := hbl.out.alloc hbl.out.size _
          clear hx hl1 hl2 h2f
          go_wp2_with fail
          go_roundw
          case rel => exact ⟨k + 1, by omega, by go_num, HB6⟩
          case measure => simp [intOf]; omega
        · obtain rfl : lf = k := by omega
          have t1 : decide ((lf : Int) < (lf : Int)) = false := by simp
          have HBL := Lib.hid hbl.out
          clear hbl
          go_wp2_with fail
          refine (awake_any wr).mono ?_
          rintro e w7 ⟨rfl, hb7⟩
          go_wp2_with fail
          go_ret
          exact ⟨rfl, HB.out.trans ((next_below HB5.out (next_below HBL.out hb7)).mono (Nat.le_of_lt HXS.out))⟩
    · have HEND : Hid (∀ w5, Below w4.heap.size w4 w5 → Below w.heap.size w w5) := fun w5 hb5 => HB.out.trans ((next_below HB4.out hb5).mono (Nat.le_of_lt HXS.out))
      have HA := Lib.hid (awake_any w4)
      by_cases q1 : lb = 1
      · have d3 : ((lb : Int) != 1) = false := by simp; omega
        by_cases q2 : kp = 1
        · have d4 : ((kp : Int) != 1) = false := by simp; omega
          have q3 : lw = 0 := Classical.byContradiction fun h => hq ⟨q1, q2, h⟩
          have d5 : ((lw : Int) == 0) = true := by simp; omega
          clear hq q1 q2 q3
          go_wp2_with fail
          refine HA.out.mono ?_
          rintro e w5 ⟨rfl, hb5⟩
          go_wp2_with fail
          go_ret
          exact ⟨rfl, HEND.out _ hb5⟩
        · have d4 : ((kp : Int) != 1) = true := by simp; omega
          clear hq q1 q2
          go_wp2_with fail
          refine HA.out.mono ?_
          rintro e w5 ⟨rfl, hb5⟩
          go_wp2_with fail
          go_ret
          exact ⟨rfl, HEND.out _ hb5⟩
      · have d3 : ((lb : Int) != 1) = true := by simp; omega
        clear hq q1
        go_wp2_with fail
        refine HA.out.mono ?_
        rintro e w5 ⟨rfl, hb5⟩
        go_wp2_with fail
        go_ret
        exact ⟨rfl, HEND.out _ hb5⟩
  · have HEND : Hid (∀ w5, Below w1.heap.size w1 w5 → Below w.heap.size w w5) := fun w5 hb5 => HB.out.trans ((next_below HB1.out hb5).mono (Nat.le_of_lt HXS.out))
    have HA := Lib.hid (awake_any w1)
    cases p with
    | false =>
      clear hgo
      go_wp2_with fail
      refine HA.out.mono ?_
      rintro e w5 ⟨rfl, hb5⟩
      go_wp2_with fail
      go_ret
      exact ⟨rfl, HEND.out _ hb5⟩
    | true =>
      by_cases q1 : N < 3
      · have d1 : decide (N < 3) = true := by simpa using q1
        clear hgo q1
        go_wp2_with fail
        refine HA.out.mono ?_
        rintro e w5 ⟨rfl, hb5⟩
        go_wp2_with fail
        go_ret
        exact ⟨rfl, HEND.out _ hb5⟩
      · have d1 : decide (N < 3) = false := by simpa using q1
        have q2 : n = 0 := Classical.byContradiction fun h => hgo ⟨rfl, by omega, h⟩
        have d2 : ((n : Int) == 0) = true := by simp; omega
        clear hgo q1 q2
        go_wp2_with fail
        refine HA.out.mono ?_
        rintro e w5 ⟨rfl, hb5⟩
        go_wp2_with fail
        go_ret
        exact ⟨rfl, HEND.out _ hb5⟩
theorem two_walk (v0 v1 : Value) (w : World) (h0 : OkGraph w v0) (h1 : OkBools w v1) : Calls Try.prog 11 #[v0, v1] w fun e w' => e = .returned (.bool true) ∧ Below w.heap.size w w' := by
  obtain ⟨N, A, c, E, rfl, _, _, hr, _, _, _⟩ := h0
  obtain ⟨B, d, bs, rfl, hb, _, _⟩ := h1
  exact two_walk_g A B c d E.length bs.length N E bs w hr hb rfl rfl
end
end Go.Proofs.Ytlkddjpjhchjfaa
