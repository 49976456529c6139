/- How low a search reckons, from who was met last to who was met first (pure; layer 5). -/
import Derived.Test.YtlkddjpjhchjfaaD2
namespace Go.Proofs.Ytlkddjpjhchjfaa
set_option maxRecDepth 100000

/-- Those from the j-th on are reckoned. -/
structure SI (T : List (List Int)) (A : List Nat) (U : Nat → Option Nat) (j : Nat) (F : Nat → Nat) : Prop where
  done : ∀ v ∈ A.drop j, LowFix (adj T) U (numF A) F v
  rest : ∀ v, v ∉ A.drop j → F v = numF A v
/-- Of v, the first i of those beside it are looked at. -/
structure SJ (L : List Int) (A : List Nat) (U : Nat → Option Nat) (v i : Nat) (F G : Nat → Nat) : Prop where
  off : ∀ x, x ≠ v → G x = F x
  own : G v ≤ numF A v
  below : ∀ w : Nat, (w : Int) ∈ L.take i → U w = some v → G v ≤ F w
  back : ∀ w : Nat, (w : Int) ∈ L.take i → U w ≠ some v → U v ≠ some w → G v ≤ numF A w
  is : G v = numF A v ∨ ∃ w : Nat, (w : Int) ∈ L.take i ∧ ((U w = some v ∧ G v = F w) ∨ (U w ≠ some v ∧ U v ≠ some w ∧ G v = numF A w))
/-- A value more, at v. -/
def putF (G : Nat → Nat) (v z x : Nat) : Nat := if x = v then z else G x
theorem putF_self (G : Nat → Nat) (v z : Nat) : putF G v z v = z := by simp [putF]
theorem putF_ne (G : Nat → Nat) {v x : Nat} (z : Nat) (h : x ≠ v) : putF G v z x = G x := by simp [putF, h]
theorem SI.start (T : List (List Int)) (A : List Nat) (U : Nat → Option Nat) (N : Nat) (h : A.length = N) : SI T A U N (numF A) :=
  ⟨fun v hv => absurd hv (by rw [List.drop_of_length_le (by omega)]; simp), fun _ _ => rfl⟩
theorem SJ.start (L : List Int) (A : List Nat) (U : Nat → Option Nat) (v : Nat) {F : Nat → Nat} (h : F v = numF A v) : SJ L A U v 0 F F :=
  ⟨fun _ _ => rfl, by omega, (fun w hw => by cases hw), (fun w hw => by cases hw), .inl h⟩
section
variable {L : List Int} {A : List Nat} {U : Nat → Option Nat} {v i w : Nat} {F G : Nat → Nat}
theorem take_snoc {i : Nat} {x : Int} (hw : L[i]? = some x) : L.take (i + 1) = L.take i ++ [x] := by rw [List.take_add_one, hw]; rfl
theorem SJ.low (h : SJ L A U v i F G) (hw : L[i]? = some (w : Int)) (hwv : w ≠ v) (hu : U w = some v) {z : Nat} (hz : z = min (G v) (G w)) : SJ L A U v (i + 1) F (putF G v z) := by
  have hgw := h.off w hwv
  refine ⟨fun x hx => by rw [putF_ne _ _ hx]; exact h.off x hx, ?_, fun x hx he => ?_, fun x hx he h2 => ?_, ?_⟩
  · rw [putF_self]; have := h.own; omega
  · rw [putF_self]
    rw [take_snoc hw, List.mem_append, List.mem_singleton] at hx
    rcases hx with hx | hx
    · have := h.below x hx he; omega
    · have : x = w := by omega
      subst this; omega
  · rw [putF_self]
    rw [take_snoc hw, List.mem_append, List.mem_singleton] at hx
    rcases hx with hx | hx
    · have := h.back x hx he h2; omega
    · have : x = w := by omega
      subst this; exact absurd hu he
  · rw [putF_self, take_snoc hw]
    by_cases hm : G v ≤ G w
    · rw [hz, Nat.min_eq_left hm]
      rcases h.is with h1 | ⟨x, h1, h2⟩
      · exact .inl h1
      · exact .inr ⟨x, List.mem_append.2 (.inl h1), h2⟩
    · exact .inr ⟨w, List.mem_append.2 (.inr (by simp)), .inl ⟨hu, by omega⟩⟩
theorem SJ.num (h : SJ L A U v i F G) (hw : L[i]? = some (w : Int)) (hu : U w ≠ some v) (hv : U v ≠ some w) {z : Nat} (hz : z = min (G v) (numF A w)) : SJ L A U v (i + 1) F (putF G v z) := by
  refine ⟨fun x hx => by rw [putF_ne _ _ hx]; exact h.off x hx, ?_, fun x hx he => ?_, fun x hx he h2 => ?_, ?_⟩
  · rw [putF_self]; have := h.own; omega
  · rw [putF_self]
    rw [take_snoc hw, List.mem_append, List.mem_singleton] at hx
    rcases hx with hx | hx
    · have := h.below x hx he; omega
    · have : x = w := by omega
      subst this; exact absurd he hu
  · rw [putF_self]
    rw [take_snoc hw, List.mem_append, List.mem_singleton] at hx
    rcases hx with hx | hx
    · have := h.back x hx he h2; omega
    · have : x = w := by omega
      subst this; omega
  · rw [putF_self, take_snoc hw]
    by_cases hm : G v ≤ numF A w
    · rw [hz, Nat.min_eq_left hm]
      rcases h.is with h1 | ⟨x, h1, h2⟩
      · exact .inl h1
      · exact .inr ⟨x, List.mem_append.2 (.inl h1), h2⟩
    · exact .inr ⟨w, List.mem_append.2 (.inr (by simp)), .inr ⟨hu, hv, by omega⟩⟩
theorem SJ.skip (h : SJ L A U v i F G) (hw : L[i]? = some (w : Int)) (hu : U w ≠ some v) (hv : U v = some w) : SJ L A U v (i + 1) F G := by
  refine ⟨h.off, h.own, fun x hx he => ?_, fun x hx he h2 => ?_, ?_⟩
  · rw [take_snoc hw, List.mem_append, List.mem_singleton] at hx
    rcases hx with hx | hx
    · exact h.below x hx he
    · have : x = w := by omega
      subst this; exact absurd he hu
  · rw [take_snoc hw, List.mem_append, List.mem_singleton] at hx
    rcases hx with hx | hx
    · exact h.back x hx he h2
    · have : x = w := by omega
      subst this; exact absurd hv h2
  · rw [take_snoc hw]
    rcases h.is with h1 | ⟨x, h1, h2⟩
    · exact .inl h1
    · exact .inr ⟨x, List.mem_append.2 (.inl h1), h2⟩
end
/-- v is reckoned. -/
theorem SI.next {T : List (List Int)} {N j v : Nat} {A : List Nat} {U : Nat → Option Nat} {F G : Nat → Nat} (hn : NI T N N A U) (irr : ∀ a, ¬ adj T a a) (h : SI T A U (j + 1) F) (hv : A[j]? = some v) (hJ : SJ (T.getD v []) A U v (T.getD v []).length F G) : SI T A U j G := by
  have hd : A.drop j = v :: A.drop (j + 1) := by
    obtain ⟨hl, e⟩ := List.getElem?_eq_some_iff.1 hv
    rw [← e]
    exact List.drop_eq_getElem_cons hl
  have hat : ∀ (i k x : Nat), A[i]? = some x → A[k]? = some x → i = k := fun i k x a b => by
    obtain ⟨l1, e1⟩ := List.getElem?_eq_some_iff.1 a
    obtain ⟨l2, e2⟩ := List.getElem?_eq_some_iff.1 b
    exact (List.getElem_inj hn.nod).1 (e1.trans e2.symm)
  have hin : ∀ x ∈ A.drop (j + 1), ∃ i, j < i ∧ A[i]? = some x := fun x hx => by
    obtain ⟨i, hi⟩ := List.getElem?_of_mem hx
    rw [List.getElem?_drop] at hi
    exact ⟨j + 1 + i, by omega, hi⟩
  have hne : ∀ x ∈ A.drop (j + 1), x ≠ v := fun x hx e => by
    obtain ⟨i, h1, h2⟩ := hin x hx
    rw [e] at h2
    have := hat i j v h2 hv
    omega
  obtain ⟨jo, jw, jl, jb, ji⟩ := hJ
  rw [List.take_length] at jl jb ji
  refine ⟨fun x hx => ?_, fun x hx => ?_⟩
  · rw [hd] at hx
    rcases List.mem_cons.1 hx with rfl | hx
    · have hnw : ∀ w : Nat, adj T x w → w ≠ x := fun w ha e => irr x (by rw [e] at ha; exact ha)
      refine ⟨jw, fun w ha hu => ?_, fun w ha h1 h2 => jb w ha h1 h2, ?_⟩
      · rw [jo w (hnw w ha)]; exact jl w ha hu
      · rcases ji with h1 | ⟨w, ha, ⟨h1, h2⟩ | h1⟩
        · exact .inl h1
        · exact .inr ⟨w, ha, .inl ⟨h1, by rw [jo w (hnw w ha)]; exact h2⟩⟩
        · exact .inr ⟨w, ha, .inr h1⟩
    · have hL := h.done x hx
      have hx2 := jo x (hne x hx)
      obtain ⟨ix, hix, hxa⟩ := hin x hx
      have hch : ∀ w, U w = some x → w ≠ v := fun w hu e => by
        obtain ⟨_, p, q, hpq, h1, h2⟩ := hn.ups w x hu
        rw [e] at h2
        have := hat p ix x h1 hxa
        have := hat q j v h2 hv
        omega
      refine ⟨by rw [hx2]; exact hL.own, fun w ha hu => ?_, fun w ha h1 h2 => by rw [hx2]; exact hL.back w ha h1 h2, ?_⟩
      · rw [hx2, jo w (hch w hu)]; exact hL.below w ha hu
      · rcases hL.is with h1 | ⟨w, ha, ⟨h1, h2⟩ | ⟨h1, h2, h3⟩⟩
        · exact .inl (by rw [hx2]; exact h1)
        · exact .inr ⟨w, ha, .inl ⟨h1, by rw [hx2, jo w (hch w h1)]; exact h2⟩⟩
        · exact .inr ⟨w, ha, .inr ⟨h1, h2, by rw [hx2]; exact h3⟩⟩
  · rw [hd, List.mem_cons, not_or] at hx
    rw [jo x hx.1]
    exact h.rest x hx.2
/-- All are reckoned. -/
theorem SI.all {T : List (List Int)} {N : Nat} {A : List Nat} {U : Nat → Option Nat} {F : Nat → Nat} (hT : Tab T N) (sym : ∀ a b, adj T a b → adj T b a) (hn : NI T N N A U) (h : SI T A U 0 F) (v : Nat) : LowFix (adj T) U (numF A) F v := by
  by_cases hv : v < N
  · exact h.done v (by rw [List.drop_zero]; exact hn.done v hv hv)
  · have hno : ∀ w, ¬ adj T v w := fun w ha => hv (hT.lt (sym _ _ ha))
    have he : F v = numF A v := h.rest v (by rw [List.drop_zero]; exact fun hm => hv (hn.lt v hm))
    exact ⟨Nat.le_of_eq he, (fun w ha => absurd ha (hno w)), (fun w ha => absurd ha (hno w)), .inl he⟩
end Go.Proofs.Ytlkddjpjhchjfaa
