/- A forest of a search, its blocks, and what hangs together without a vertex (pure: no world, no program; layer 5). -/
import Derived.Test.YtlkddjpjhchjfaaW0
namespace Go.Proofs.Ytlkddjpjhchjfaa

/-- x comes down from y, or is it. -/
inductive Desc (up : Nat → Option Nat) : Nat → Nat → Prop
  | refl (x : Nat) : Desc up x x
  | step {x p y : Nat} : up x = some p → Desc up p y → Desc up x y
/-- Each edge goes between one and another one that it comes down from. -/
structure Forest (n : Nat) (adj : Nat → Nat → Prop) (up : Nat → Option Nat) (num : Nat → Nat) : Prop where
  sym : ∀ a b, adj a b → adj b a
  lt : ∀ a b, adj a b → a < n ∧ b < n
  irr : ∀ a, ¬ adj a a
  ups : ∀ v u, up v = some u → num u < num v ∧ adj u v
  edge : ∀ a b, adj a b → Desc up b a ∨ Desc up a b
/-- To be come to by steps. -/
inductive Con (E : Nat → Nat → Prop) : Nat → Nat → Prop
  | refl (a : Nat) : Con E a a
  | step {a b c : Nat} : Con E a b → E b c → Con E a c
theorem Con.trans {E : Nat → Nat → Prop} {a b c : Nat} (h : Con E a b) (k : Con E b c) : Con E a c := by
  induction k with
  | refl => exact h
  | step _ e ih => exact ih.step e
theorem Con.one {E : Nat → Nat → Prop} {a b : Nat} (h : E a b) : Con E a b := (Con.refl a).step h
theorem Con.symm {E : Nat → Nat → Prop} (hs : ∀ a b, E a b → E b a) {a b : Nat} (h : Con E a b) : Con E b a := by
  induction h with
  | refl => exact .refl _
  | step _ e ih => exact (Con.one (hs _ _ e)).trans ih
/-- Edges that leave a vertex out. -/
def Wo (adj : Nat → Nat → Prop) (v a b : Nat) : Prop := adj a b ∧ a ≠ v ∧ b ≠ v
theorem Desc.trans {up : Nat → Option Nat} {x y z : Nat} (h : Desc up x y) (k : Desc up y z) : Desc up x z := by
  induction h with
  | refl => exact k
  | step e _ ih => exact .step e (ih k)
theorem Desc.lin {up : Nat → Option Nat} {x y z : Nat} (h : Desc up x y) (k : Desc up x z) : Desc up y z ∨ Desc up z y := by
  induction h with
  | refl => exact .inl k
  | step e h ih =>
    cases k with
    | refl => exact .inr (.step e h)
    | step e2 k =>
      rw [e] at e2
      injection e2 with e2
      subst e2
      exact ih k
theorem Desc.child {up : Nat → Option Nat} {x v : Nat} (h : Desc up x v) (hne : x ≠ v) : ∃ c, up c = some v ∧ Desc up x c := by
  induction h with
  | refl => exact absurd rfl hne
  | @step x p v e h ih =>
    by_cases hp : p = v
    · subst hp
      exact ⟨x, e, .refl x⟩
    · obtain ⟨c, h1, h2⟩ := ih hp
      exact ⟨c, h1, .step e h2⟩
section
variable {n : Nat} {adj : Nat → Nat → Prop} {up : Nat → Option Nat} {num : Nat → Nat}
theorem Forest.le (F : Forest n adj up num) {x y : Nat} (h : Desc up x y) : num y ≤ num x := by
  induction h with
  | refl => exact Nat.le_refl _
  | step e _ ih => exact Nat.le_trans ih (Nat.le_of_lt (F.ups _ _ e).1)
theorem Forest.above (F : Forest n adj up num) {x u : Nat} (e : up x = some u) : ¬ Desc up u x := fun h => by
  have h1 := F.le h
  have h2 := (F.ups _ _ e).1
  omega
theorem Forest.anti (F : Forest n adj up num) {x y : Nat} (h : Desc up x y) (k : Desc up y x) : x = y := by
  cases h with
  | refl => rfl
  | step e h => exact absurd (h.trans k) (F.above e)
/-- A block begins: no edge leads from below past its upper end. -/
def beg (adj : Nat → Nat → Prop) (up : Nat → Option Nat) (c : Nat) : Prop := ∀ u z y, up c = some u → Desc up z c → adj z y → Desc up u y → y = u
/-- Where a vertex' block begins. -/
structure Beg (adj : Nat → Nat → Prop) (up : Nat → Option Nat) (w c : Nat) : Prop where
  desc : Desc up w c
  beg : beg adj up c
  none : ∀ x, Desc up w x → Desc up x c → x ≠ c → ¬ Go.Proofs.Ytlkddjpjhchjfaa.beg adj up x
theorem Beg.uniq {w c d : Nat} (h : Beg adj up w c) (k : Beg adj up w d) : c = d := by
  by_cases e : c = d
  · exact e
  · rcases h.desc.lin k.desc with h1 | h1
    · exact absurd h.beg (k.none c h.desc h1 e)
    · exact absurd k.beg (h.none d k.desc h1 (fun e2 => e e2.symm))
theorem Forest.beg_self (F : Forest n adj up num) {w : Nat} (h : beg adj up w) : Beg adj up w w := ⟨.refl w, h, fun _ h1 h2 hne => absurd (F.anti h1 h2).symm hne⟩
theorem Beg.next {w u c : Nat} (hb : ¬ Go.Proofs.Ytlkddjpjhchjfaa.beg adj up w) (e : up w = some u) (h : Beg adj up u c) : Beg adj up w c :=
  ⟨.step e h.desc, h.beg, fun x h1 h2 hne => by
    cases h1 with
    | refl => exact hb
    | step e2 h1 =>
      rw [e] at e2
      injection e2 with e2
      subst e2
      exact h.none x h1 h2 hne⟩
/-- Who is between is of the same block. -/
theorem Beg.mid {w x c : Nat} (h : Beg adj up w c) (h1 : Desc up w x) (h2 : Desc up x c) : Beg adj up x c :=
  ⟨h2, h.beg, fun y h3 h4 hne => h.none y (h1.trans h3) h4 hne⟩
/-- Edges from below lead to below, or to the upper end. -/
theorem Forest.sep (F : Forest n adj up num) {c u z y : Nat} (hb : beg adj up c) (e : up c = some u) (hz : Desc up z c) (ha : adj z y) : Desc up y c ∨ y = u := by
  rcases F.edge z y ha with h | h
  · exact .inl (h.trans hz)
  · rcases hz.lin h with h1 | h1
    · cases h1 with
      | refl => exact .inl (.refl _)
      | step e2 h1 =>
        rw [e] at e2
        injection e2 with e2
        subst e2
        exact .inr (hb _ z y e hz ha h1)
    · exact .inl h1
theorem Forest.wo_sym (F : Forest n adj up num) (v : Nat) : ∀ a b, Wo adj v a b → Wo adj v b a := fun a b h => ⟨F.sym a b h.1, h.2.2, h.2.1⟩
theorem Forest.path (F : Forest n adj up num) {x y v : Nat} (h : Desc up x y) (hv : ∀ z, Desc up x z → Desc up z y → z ≠ v) : Con (Wo adj v) x y := by
  induction h with
  | refl => exact .refl _
  | @step x p y e h ih =>
    have h1 := hv x (.refl x) (.step e h)
    have h2 := hv p (.step e (.refl p)) h
    exact (Con.one (⟨F.sym _ _ (F.ups _ _ e).2, h1, h2⟩ : Wo adj v x p)).trans (ih (fun z h3 h4 => hv z (.step e h3) h4))
/-- All of a block hang together with its upper end without any one of it. -/
theorem Forest.held (F : Forest n adj up num) {c u v w : Nat} (e : up c = some u) (hw : Beg adj up w c) (hv : Beg adj up v c) (hne : w ≠ v) : Con (Wo adj v) w u := by
  by_cases hd : Desc up w v
  · obtain ⟨w', e1, h1⟩ := hd.child hne
    have hwc : Desc up w' c := .step e1 hv.desc
    have hne2 : w' ≠ c := fun e2 => by
      subst e2
      rw [e] at e1
      injection e1 with e1
      subst e1
      exact F.above e hv.desc
    have hnb := hw.none w' h1 hwc hne2
    unfold beg at hnb
    have hnb : ∃ z y, Desc up z w' ∧ adj z y ∧ Desc up v y ∧ y ≠ v := by
      refine Classical.byContradiction fun hno => hnb fun u' z y e2 h2 h3 h4 => ?_
      rw [e1] at e2
      injection e2 with e2
      subst e2
      exact Classical.byContradiction fun h5 => hno ⟨z, y, h2, h3, h4, h5⟩
    obtain ⟨z, y, hz, ha, hy, hyv⟩ := hnb
    have hout : ∀ t, Desc up t w' → t ≠ v := fun t ht e2 => by
      subst e2
      exact F.above e1 ht
    have c1 : Con (Wo adj v) w w' := F.path h1 (fun t _ h3 => hout t h3)
    have c2 : Con (Wo adj v) z w' := F.path hz (fun t _ h3 => hout t h3)
    have c3 : Con (Wo adj v) w y := (c1.trans (c2.symm (F.wo_sym v))).step ⟨ha, hout z hz, hyv⟩
    rcases F.sep hw.beg e (hz.trans hwc) ha with h3 | h3
    · refine c3.trans (F.path (h3.trans (.step e (.refl u))) (fun t h4 _ e2 => ?_))
      subst e2
      exact hyv (F.anti h4 hy)
    · rw [h3] at c3
      exact c3
  · exact F.path (hw.desc.trans (.step e (.refl u))) (fun z h1 _ e2 => hd (by rw [← e2]; exact h1))
/-- Without the upper end the others hang together. -/
theorem Forest.held_top (F : Forest n adj up num) {c u a b : Nat} (e : up c = some u) (ha : Beg adj up a c) (hb : Beg adj up b c) : Con (Wo adj u) a b := by
  have key : ∀ x, Beg adj up x c → Con (Wo adj u) x c := fun x hx => F.path hx.desc (fun z _ h2 e2 => by
    subst e2
    exact F.above e h2)
  exact (key a ha).trans ((key b hb).symm (F.wo_sym u))
/-- Of which block an edge is: its lower end's. -/
def Cls (adj : Nat → Nat → Prop) (up : Nat → Option Nat) (x y c : Nat) : Prop := (Desc up y x ∧ Beg adj up y c) ∨ (Desc up x y ∧ Beg adj up x c)
theorem Cls.symm {x y c : Nat} (h : Cls adj up x y c) : Cls adj up y x c := h.elim .inr .inl
theorem Forest.top (F : Forest n adj up num) {w p c : Nat} (e : up w = some p) (h : Beg adj up w c) : ∃ u, up c = some u := by
  by_cases hwc : w = c
  · subst hwc
    exact ⟨p, e⟩
  · obtain ⟨x, e1, h1⟩ := h.desc.child hwc
    cases hc : up c with
    | some u => exact ⟨u, rfl⟩
    | none =>
      have hx : beg adj up x := fun u z y e2 _ _ h4 => by
        rw [e1] at e2
        injection e2 with e2
        subst e2
        cases h4 with
        | refl => rfl
        | step e3 _ => rw [hc] at e3; cases e3
      exact absurd hx (h.none x h1 (.step e1 (.refl c)) (fun e2 => by
        subst e2
        rw [hc] at e1; cases e1))
theorem Desc.has_up {x y : Nat} (h : Desc up x y) (hne : x ≠ y) : ∃ p, up x = some p := by
  cases h with
  | refl => exact absurd rfl hne
  | step e _ => exact ⟨_, e⟩
/-- Both ends of an edge are of its block, or its upper end. -/
theorem Forest.ends (F : Forest n adj up num) {x y c : Nat} (ha : adj x y) (h : Cls adj up x y c) : ∃ u, up c = some u ∧ (Beg adj up x c ∨ x = u) ∧ (Beg adj up y c ∨ y = u) := by
  have hne : x ≠ y := fun e => F.irr y (by rw [e] at ha; exact ha)
  have key : ∀ x y, adj x y → x ≠ y → Desc up y x → Beg adj up y c → ∃ u, up c = some u ∧ (Beg adj up x c ∨ x = u) ∧ (Beg adj up y c ∨ y = u) := fun x y ha hne hd hb => by
    obtain ⟨p, e⟩ := hd.has_up (fun e => hne e.symm)
    obtain ⟨u, e2⟩ := F.top e hb
    refine ⟨u, e2, ?_, .inl hb⟩
    rcases F.sep hb.beg e2 hb.desc (F.sym _ _ ha) with h3 | h3
    · exact .inl (hb.mid hd h3)
    · exact .inr h3
  rcases h with ⟨h1, h2⟩ | ⟨h1, h2⟩
  · exact key x y ha hne h1 h2
  · obtain ⟨u, a, b, d⟩ := key y x (F.sym _ _ ha) (fun e => hne e.symm) h1 h2
    exact ⟨u, a, d, b⟩
theorem Forest.ahead (F : Forest n adj up num) {v a b c : Nat} (ha : adj v a) (hb : adj v b) (ca : Cls adj up v a c) (cb : Cls adj up v b c) : Con (Wo adj v) a b := by
  have na : a ≠ v := fun e => F.irr v (by rw [e] at ha; exact ha)
  have nb : b ≠ v := fun e => F.irr v (by rw [e] at hb; exact hb)
  obtain ⟨u, e, hv, h1⟩ := F.ends ha ca
  obtain ⟨u', e', _, h2⟩ := F.ends hb cb
  rw [e] at e'
  injection e' with e'
  subst e'
  rcases hv with hv | hv
  · have key : ∀ x, x ≠ v → (Beg adj up x c ∨ x = u) → Con (Wo adj v) x u := fun x hx h => by
      rcases h with h | h
      · exact F.held e h hv hx
      · rw [h]; exact .refl u
    exact (key a na h1).trans ((key b nb h2).symm (F.wo_sym v))
  · subst hv
    have h1 := h1.resolve_right na
    have h2 := h2.resolve_right nb
    exact F.held_top e h1 h2
/-- What a vertex is told, seen from v: the block through which it hangs on that. -/
def Lab (adj : Nat → Nat → Prop) (up : Nat → Option Nat) (v x c : Nat) : Prop :=
  (∃ x', up x' = some v ∧ Desc up x x' ∧ ((beg adj up x' ∧ c = x') ∨ (¬ beg adj up x' ∧ Beg adj up v c))) ∨ (¬ Desc up x v ∧ Beg adj up v c)
theorem Forest.lab_uniq (F : Forest n adj up num) {v x c d : Nat} (h : Lab adj up v x c) (k : Lab adj up v x d) : c = d := by
  rcases h with ⟨p, e1, h1, h2⟩ | ⟨h1, h2⟩
  · rcases k with ⟨q, e2, k1, k2⟩ | ⟨k1, _⟩
    · have hpq : p = q := by
        have key : ∀ p q, up p = some v → up q = some v → Desc up p q → p = q := fun p q e1 e2 h => by
          cases h with
          | refl => rfl
          | step e3 h =>
            rw [e1] at e3
            injection e3 with e3
            subst e3
            exact absurd h (F.above e2)
        rcases h1.lin k1 with h3 | h3
        · exact key p q e1 e2 h3
        · exact (key q p e2 e1 h3).symm
      subst hpq
      rcases h2 with ⟨b1, rfl⟩ | ⟨b1, b2⟩
      · rcases k2 with ⟨_, e3⟩ | ⟨b3, _⟩
        · exact e3.symm
        · exact absurd b1 b3
      · rcases k2 with ⟨b3, _⟩ | ⟨_, b4⟩
        · exact absurd b3 b1
        · exact b2.uniq b4
    · exact absurd (h1.trans (.step e1 (.refl v))) k1
  · rcases k with ⟨q, e2, k1, _⟩ | ⟨_, k2⟩
    · exact absurd (k1.trans (.step e2 (.refl v))) h1
    · exact h2.uniq k2
theorem Forest.lab_of (F : Forest n adj up num) {v a c : Nat} (ha : adj v a) (h : Cls adj up v a c) : Lab adj up v a c := by
  have na : a ≠ v := fun e => F.irr v (by rw [e] at ha; exact ha)
  rcases h with ⟨h1, h2⟩ | ⟨h1, h2⟩
  · obtain ⟨x, e, hx⟩ := h1.child na
    left
    have hno : ∀ w, Desc up a w → Desc up w x → w ≠ x → ¬ beg adj up w := fun w h3 h4 hne hb => by
      cases h4 with
      | refl => exact hne rfl
      | @step _ p _ e3 h4 =>
        have hv := hb p a v e3 h3 (F.sym _ _ ha) (h4.trans (.step e (.refl v)))
        subst hv
        exact F.above e h4
    refine ⟨x, e, hx, ?_⟩
    by_cases hb : beg adj up x
    · left
      exact ⟨hb, h2.uniq ⟨hx, hb, hno⟩⟩
    · right
      refine ⟨hb, ?_⟩
      rcases h2.desc.lin hx with h3 | h3
      · by_cases e3 : c = x
        · subst e3
          exact absurd h2.beg hb
        · exact absurd h2.beg (hno c h2.desc h3 e3)
      · cases h3 with
        | refl => exact absurd h2.beg hb
        | step e3 h3 =>
          rw [e] at e3
          injection e3 with e3
          subst e3
          exact h2.mid h1 h3
  · right
    exact ⟨fun h3 => na (F.anti h3 h1), h2⟩
theorem Forest.lab_step (F : Forest n adj up num) {v x y c : Nat} (hxy : Wo adj v x y) (h : Lab adj up v x c) : Lab adj up v y c := by
  obtain ⟨ha, nx, ny⟩ := hxy
  rcases h with ⟨x', e, h1, h2⟩ | ⟨h1, h2⟩
  · have same : Desc up y x' → Lab adj up v y c := fun h3 => .inl ⟨x', e, h3, h2⟩
    rcases F.edge x y ha with h3 | h3
    · exact same (h3.trans h1)
    · rcases h1.lin h3 with h4 | h4
      · cases h4 with
        | refl => exact same (.refl _)
        | step e3 h4 =>
          rw [e] at e3
          injection e3 with e3
          subst e3
          rcases h2 with ⟨b1, _⟩ | ⟨_, b2⟩
          · exact absurd (b1 v x y e h1 ha h4) ny
          · exact .inr ⟨fun h5 => ny (F.anti h5 h4), b2⟩
      · exact same h4
  · by_cases hd : Desc up y v
    · obtain ⟨y', e, h3⟩ := hd.child ny
      have hvx : Desc up v x := by
        rcases F.edge x y ha with h4 | h4
        · rcases h4.lin hd with h5 | h5
          · exact absurd h5 h1
          · exact h5
        · exact absurd (h4.trans hd) h1
      left
      refine ⟨y', e, h3, .inr ⟨fun hb => nx (hb v y x e h3 (F.sym _ _ ha) hvx), h2⟩⟩
    · exact .inr ⟨hd, h2⟩
/-- The stage's theorem: two edges at a vertex are of one block just if their other ends hang together without it. -/
theorem Forest.core (F : Forest n adj up num) {v a b c d : Nat} (ha : adj v a) (hb : adj v b) (ca : Cls adj up v a c) (cb : Cls adj up v b d) : c = d ↔ Con (Wo adj v) a b := by
  constructor
  · rintro rfl
    exact F.ahead ha hb ca cb
  · intro h
    have key : ∀ {x : Nat}, Con (Wo adj v) a x → Lab adj up v x c := fun {x} h => by
      induction h with
      | refl => exact F.lab_of ha ca
      | step _ e ih => exact F.lab_step e ih
    exact F.lab_uniq (key h) (F.lab_of hb cb)
/-- Each vertex' block begins somewhere. -/
theorem Forest.begins (F : Forest n adj up num) : ∀ (k w : Nat), num w ≤ k → ∃ c, Beg adj up w c := by
  intro k
  induction k with
  | zero =>
    intro w hw
    refine ⟨w, F.beg_self fun u z y e _ _ _ => ?_⟩
    have := (F.ups _ _ e).1
    omega
  | succ k ih =>
    intro w hw
    by_cases hb : beg adj up w
    · exact ⟨w, F.beg_self hb⟩
    · have hu : ∃ u, up w = some u := by
        cases hu : up w with
        | some u => exact ⟨u, rfl⟩
        | none => exact absurd (fun u z y e _ _ _ => by rw [hu] at e; cases e) hb
      obtain ⟨u, e⟩ := hu
      have := (F.ups _ _ e).1
      obtain ⟨c, hc⟩ := ih u (by omega)
      exact ⟨c, Beg.next hb e hc⟩
theorem Forest.cls (F : Forest n adj up num) {x y : Nat} (h : adj x y) : ∃ c, Cls adj up x y c := by
  rcases F.edge x y h with h1 | h1
  · obtain ⟨c, hc⟩ := F.begins _ y (Nat.le_refl _)
    exact ⟨c, .inl ⟨h1, hc⟩⟩
  · obtain ⟨c, hc⟩ := F.begins _ x (Nat.le_refl _)
    exact ⟨c, .inr ⟨h1, hc⟩⟩
end
end Go.Proofs.Ytlkddjpjhchjfaa
