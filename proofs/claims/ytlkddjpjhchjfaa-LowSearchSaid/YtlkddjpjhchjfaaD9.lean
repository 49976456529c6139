/- In which order a search meets all, and how low it reckons: there is one answer alone (pure; layer 5). -/
import Derived.Test.YtlkddjpjhchjfaaD8
namespace Go.Proofs.Ytlkddjpjhchjfaa
set_option maxRecDepth 100000

/-- Who is met, and from whom, when the first k vertices are gone through. -/
inductive MetR (T : List (List Int)) (N : Nat) : Nat → List Nat → (Nat → Option Nat) → Prop
  | zero : MetR T N 0 [] (fun _ => none)
  | skip {k : Nat} {A : List Nat} {U : Nat → Option Nat} : MetR T N k A U → k ∈ A → MetR T N (k + 1) A U
  | step {k m : Nat} {A : List Nat} {U : Nat → Option Nat} : MetR T N k A U → k ∉ A → (wrun T N k m).list = [] → MetR T N (k + 1) (A ++ (wrun T N k m).order) (stepU (wrun T N k m) U)
theorem MetR.uniq {T : List (List Int)} {N k : Nat} {A A' : List Nat} {U U' : Nat → Option Nat} (h : MetR T N k A U) (g : MetR T N k A' U') : A = A' ∧ U = U' := by
  induction h generalizing A' U' with
  | zero => cases g; exact ⟨rfl, rfl⟩
  | skip h hk ih =>
    cases g with
    | skip g hk' => exact ih g
    | step g hk' _ =>
      obtain ⟨rfl, rfl⟩ := ih g
      exact absurd hk hk'
  | step h hk hl ih =>
    cases g with
    | skip g hk' =>
      obtain ⟨rfl, rfl⟩ := ih g
      exact absurd hk' hk
    | step g hk' hl' =>
      obtain ⟨rfl, rfl⟩ := ih g
      rw [wrun_end hl hl']
      exact ⟨rfl, rfl⟩
/-- What is known when the first k vertices are met, with the order that the walks give. -/
structure NR (T : List (List Int)) (N k : Nat) (A : List Nat) (U : Nat → Option Nat) : Prop extends NI T N k A U where
  met : MetR T N k A U
theorem NR.start (T : List (List Int)) (N : Nat) : NR T N 0 [] (fun _ => none) := ⟨NI.start T N, .zero⟩
theorem NR.skip {T : List (List Int)} {N k : Nat} {A : List Nat} {U : Nat → Option Nat} (h : NR T N k A U) (hk : k ∈ A) : NR T N (k + 1) A U := ⟨h.toNI.skip hk, h.met.skip hk⟩
theorem NR.step {T : List (List Int)} {N k m : Nat} {A : List Nat} {U : Nat → Option Nat} (sym : ∀ a b, adj T a b → adj T b a) (h : NR T N k A U) (hk : k ∉ A) {s : St} (hs : Dfs T N k s) (hl : s.list = []) (he : s = wrun T N k m) : NR T N (k + 1) (A ++ s.order) (stepU s U) := by
  refine ⟨h.toNI.step sym hk hs hl, ?_⟩
  subst he
  exact h.met.step hk hl
theorem lowfix_le {adj : Nat → Nat → Prop} {up : Nat → Option Nat} {num F G : Nat → Nat} {n : Nat} (Fo : Forest n adj up num) (h : ∀ v, LowFix adj up num F v) (g : ∀ v, LowFix adj up num G v) {M : Nat} (hM : ∀ v, num v ≤ M) : ∀ (k v : Nat), M - num v ≤ k → F v ≤ G v := by
  intro k
  induction k with
  | zero =>
    intro v hv
    rcases (g v).is with e | ⟨w, ha, ⟨hu, e⟩ | ⟨h1, h2, e⟩⟩
    · rw [e]; exact (h v).own
    · have h4 := (Fo.ups _ _ hu).1
      have h5 := hM w
      omega
    · rw [e]; exact (h v).back w ha h1 h2
  | succ k ih =>
    intro v hv
    rcases (g v).is with e | ⟨w, ha, ⟨hu, e⟩ | ⟨h1, h2, e⟩⟩
    · rw [e]; exact (h v).own
    · have h4 := (Fo.ups _ _ hu).1
      have h5 := hM w
      rw [e]
      exact Nat.le_trans ((h v).below w ha hu) (ih w (by omega))
    · rw [e]; exact (h v).back w ha h1 h2
/-- What is low is one number alone. -/
theorem lowfix_eq {adj : Nat → Nat → Prop} {up : Nat → Option Nat} {num F G : Nat → Nat} {n : Nat} (Fo : Forest n adj up num) (h : ∀ v, LowFix adj up num F v) (g : ∀ v, LowFix adj up num G v) {M : Nat} (hM : ∀ v, num v ≤ M) (v : Nat) : F v = G v :=
  Nat.le_antisymm (lowfix_le Fo h g hM _ v (Nat.le_refl _)) (lowfix_le Fo g h hM _ v (Nat.le_refl _))
theorem numF_le (A : List Nat) (v : Nat) : numF A v ≤ A.length + 1 := by
  unfold numF
  have := List.idxOf_le_length (a := v) (l := A)
  omega
/-- What a search tells. -/
def lowL (N : Nat) (A : List Nat) (U : Nat → Option Nat) (F : Nat → Nat) : List (Int × Int × Int) := (List.range N).map fun v => (((numF A v : Nat) : Int), upZ U v, ((F v : Nat) : Int))
theorem lowL_length (N : Nat) (A : List Nat) (U : Nat → Option Nat) (F : Nat → Nat) : (lowL N A U F).length = N := by simp [lowL]
theorem lowL_at {N v : Nat} (A : List Nat) (U : Nat → Option Nat) (F : Nat → Nat) (h : v < N) : (lowL N A U F)[v]? = some (((numF A v : Nat) : Int), upZ U v, ((F v : Nat) : Int)) := by simp [lowL, h]
theorem lowL_put {N v : Nat} (A : List Nat) (U : Nat → Option Nat) (F : Nat → Nat) (z : Nat) : (lowL N A U F).set v (((numF A v : Nat) : Int), upZ U v, ((z : Nat) : Int)) = lowL N A U (putF F v z) := by
  apply List.ext_getElem?
  intro i
  by_cases hi : i < N
  · rw [lowL_at A U _ hi]
    by_cases e : v = i
    · subst e
      rw [List.getElem?_set_self (by rw [lowL_length]; exact hi), putF_self]
    · rw [List.getElem?_set_ne e, lowL_at A U F hi, putF_ne F z (fun e2 => e e2.symm)]
  · rw [List.getElem?_eq_none (by rw [List.length_set, lowL_length]; omega), List.getElem?_eq_none (by rw [lowL_length]; omega)]
/-- From whom a vertex was met, as a test. -/
theorem upZ_is (U : Nat → Option Nat) (w v : Nat) : upZ U w = (v : Int) ↔ U w = some v := by
  unfold upZ
  cases U w with
  | none => simp
  | some u =>
    show ((u : Nat) : Int) = (v : Int) ↔ some u = some v
    constructor
    · intro h
      have : u = v := by omega
      rw [this]
    · intro h
      injection h with h
      omega
end Go.Proofs.Ytlkddjpjhchjfaa
