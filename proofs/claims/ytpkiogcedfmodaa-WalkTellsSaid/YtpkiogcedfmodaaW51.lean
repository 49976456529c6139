/- Least ways, made of the least ways of those that are one step nearer (no world here). -/
import Derived.Test.YtpkiogcedfmodaaW50
namespace Go.Proofs.Ytpkiogcedfmodaa

def gl (ws : List (List Nat)) (x : Nat) : List Nat := ws.getD x []
theorem gl_at {ws : List (List Nat)} {x : Nat} (h : x < ws.length) : ws[x]? = some (gl ws x) := by simp [gl, List.getD, List.getElem?_eq_getElem h]
theorem gl_set {ws : List (List Nat)} {w v : Nat} {x : List Nat} (hw : w < ws.length) : gl (ws.set w x) v = if v = w then x else gl ws v := by
  unfold gl List.getD
  by_cases h : v = w
  · subst h
    rw [List.getElem?_set_self hw]; simp
  · rw [List.getElem?_set_ne (fun e => h e.symm)]; simp [h]
/-- Where the table stands: as far as f all is done, of those that are so far the first w, and of w's the first v. -/
structure Table (T : List (List Int)) (N a : Nat) (ds : List Int) (f w v : Nat) (ws : List (List Nat)) : Prop where
  len : ws.length = N
  done : ∀ x n : Nat, x < N → gd ds x = (n : Int) → (n < f ∨ (n = f ∧ x < w)) → Least T a x n (gl ws x)
  none_ : gl ws w = [] → gd ds w = (f : Int) → ∀ y, y < v → gd ds y + 1 = (f : Int) → ¬ adj T y w
  some_ : w < N → gl ws w ≠ [] → gd ds w = (f : Int) → (∃ y, y < N ∧ gd ds y + 1 = (f : Int) ∧ adj T y w ∧ gl ws w = gl ws y ++ [w]) ∧ ∀ y, y < v → gd ds y + 1 = (f : Int) → adj T y w → (gl ws w = gl ws y ++ [w] ∨ lex (gl ws w) (gl ws y ++ [w]))
  rest : ∀ x, x < N → ((f : Int) < gd ds x ∨ (gd ds x = (f : Int) ∧ w < x)) → gl ws x = []
section
variable {T : List (List Int)} {N a f w v : Nat} {ds : List Int} {ws : List (List Nat)}
theorem Table.start (hD : Dist T N a ds) (ha : a < N) : Table T N a ds 1 0 0 ((List.replicate N []).set a [a]) := by
  have hl : a < (List.replicate N ([] : List Nat)).length := by simpa using ha
  have hr : ∀ x, gl (List.replicate N []) x = [] := fun x => by
    unfold gl List.getD
    rw [List.getElem?_replicate]
    split <;> rfl
  have hne : ∀ x, gd ds x ≠ 0 → gl ((List.replicate N []).set a [a]) x = [] := fun x hx => by
    rw [gl_set hl, if_neg (fun e => hx (by rw [e]; exact hD.zero))]
    exact hr x
  refine ⟨by simp, fun x n hx hn h => ?_, fun _ _ y hy => absurd hy (by omega), fun h1 h2 h3 => absurd (hne 0 (by omega)) h2, fun x hx h => hne x (by omega)⟩
  have hn0 : n = 0 := by omega
  subst hn0
  have hxa := hD.only x hx (by omega)
  subst hxa
  rw [gl_set hl, if_pos rfl]
  refine ⟨⟨rfl, rfl, rfl, fun i hi => absurd hi (by omega)⟩, fun q hq => .inl ?_⟩
  have h1 := hq.len
  have h2 := hq.head
  obtain ⟨y, rfl⟩ := List.length_eq_one_iff.1 h1
  have : y = x := h2
  rw [this]
theorem Table.skip (h : Table T N a ds f w v ws) (hb : gd ds v + 1 = (f : Int) → ¬ adj T v w) : Table T N a ds f w (v + 1) ws :=
  ⟨h.len, h.done, fun e1 e2 y hy e3 => by
    by_cases e : y = v
    · subst e; exact hb e3
    · exact h.none_ e1 e2 y (by omega) e3, fun e1 e2 e3 => ⟨(h.some_ e1 e2 e3).1, fun y hy e4 e5 => by
    by_cases e : y = v
    · subst e; exact absurd e5 (hb e4)
    · exact (h.some_ e1 e2 e3).2 y (by omega) e4 e5⟩, h.rest⟩
theorem Table.keep (h : Table T N a ds f w v ws) (h0 : gl ws w ≠ []) (hb : gl ws w = gl ws v ++ [w] ∨ lex (gl ws w) (gl ws v ++ [w])) : Table T N a ds f w (v + 1) ws :=
  ⟨h.len, h.done, fun e1 => absurd e1 h0, fun e1 e2 e3 => ⟨(h.some_ e1 e2 e3).1, fun y hy e4 e5 => by
    by_cases e : y = v
    · subst e; exact hb
    · exact (h.some_ e1 e2 e3).2 y (by omega) e4 e5⟩, h.rest⟩
theorem Table.lens (h : Table T N a ds f w v ws) {x : Nat} (hx : x < N) (hd : gd ds x + 1 = (f : Int)) (h0 : 0 ≤ gd ds x) : (gl ws x).length = f := by
  obtain ⟨n, hn⟩ := Int.eq_ofNat_of_zero_le h0
  have := (h.done x n hx hn (.inl (by omega))).way.len
  omega
theorem Table.put (h : Table T N a ds f w v ws) (hD : Dist T N a ds) (hw : w < N) (hv : v < N) (hdw : gd ds w = (f : Int)) (hdv : gd ds v + 1 = (f : Int)) (h0 : 0 ≤ gd ds v) (ha : adj T v w) (hb : gl ws w = [] ∨ lex (gl ws v ++ [w]) (gl ws w)) :
    Table T N a ds f w (v + 1) (ws.set w (gl ws v ++ [w])) := by
  have hl : w < ws.length := by rw [h.len]; exact hw
  have hfar : ∀ y, gd ds y + 1 = (f : Int) → gl (ws.set w (gl ws v ++ [w])) y = gl ws y := fun y hy => by
    rw [gl_set hl, if_neg (fun e => by rw [e] at hy; omega)]
  refine ⟨by simp [h.len], fun x n hx hn hh => ?_, fun e1 => ?_, fun _ _ _ => ⟨⟨v, hv, hdv, ha, ?_⟩, fun y hy e4 e5 => ?_⟩, fun x hx hh => ?_⟩
  · rw [gl_set hl, if_neg (fun e => by subst e; omega)]
    exact h.done x n hx hn hh
  · rw [gl_set hl, if_pos rfl] at e1
    simp at e1
  · rw [hfar v hdv, gl_set hl, if_pos rfl]
  · rw [hfar y e4, gl_set hl, if_pos rfl]
    by_cases e : y = v
    · subst e; exact .inl rfl
    · rcases hb with h1 | h1
      · exact absurd e5 (h.none_ h1 hdw y (by omega) e4)
      · have hne : gl ws w ≠ [] := by
          intro e2
          rw [e2] at h1
          obtain ⟨j, _, _, hlt⟩ := h1
          simp [gx] at hlt
        right
        obtain ⟨⟨z, hz, hz1, hz2, hz3⟩, hz4⟩ := h.some_ hw hne hdw
        have hz0 : 0 ≤ gd ds z := by omega
        have hlen : (gl ws v ++ [w]).length = (gl ws w).length := by
          rw [hz3, List.length_append, List.length_append, h.lens hv hdv h0, h.lens hz hz1 hz0]
        rcases hz4 y (by omega) e4 e5 with e3 | e3
        · rw [← e3]; exact h1
        · exact lex_trans h1 e3 hlen
  · rw [gl_set hl, if_neg (fun e => by subst e; omega)]
    exact h.rest x hx hh
/-- One is done. -/
theorem Table.next (h : Table T N a ds f w N ws) (hT : Tab T N) (hD : Dist T N a ds) (ha : a < N) (hf : 1 ≤ f) (hw : w < N) (hdw : gd ds w = (f : Int)) : Table T N a ds f (w + 1) 0 ws := by
  have hN : ∀ y, adj T y w → y < N → 0 ≤ gd ds y → gd ds w ≤ gd ds y + 1 := fun y hy hyN h0 => (hD.step y hyN h0 w hy).2
  have hne : gl ws w ≠ [] := fun e => by
    obtain ⟨u, hu, ha2, he⟩ := hD.from_ w hw (by omega)
    exact h.none_ e hdw u hu (by omega) ha2
  obtain ⟨⟨z, hz, hz1, hz2, hz3⟩, hz4⟩ := h.some_ hw hne hdw
  have hleast : Least T a w f (gl ws w) := by
    obtain ⟨m, rfl⟩ : ∃ m, f = m + 1 := ⟨f - 1, by omega⟩
    have hzl := h.done z m hz (by omega) (.inl (by omega))
    refine ⟨by rw [hz3]; exact hzl.way.snoc hz2, fun q hq => ?_⟩
    obtain ⟨q', rfl, hq', ha2⟩ := hq.init
    obtain ⟨y, hy⟩ : ∃ y, gx (q' ++ [w]) m = y := ⟨_, rfl⟩
    rw [hy] at hq' ha2
    obtain ⟨k1, k2, k3⟩ := hq'.far hD hT ha m (Nat.le_refl _)
    rw [hq'.last] at k1 k2 k3
    have k4 := hN y ha2 k1 k2
    have hyl := h.done y m k1 (by omega) (.inl (by omega))
    have h5 : gl ws y ++ [w] = q' ++ [w] ∨ lex (gl ws y ++ [w]) (q' ++ [w]) := by
      rcases hyl.min q' hq' with e | e
      · left; rw [e]
      · right; exact lex_snoc e (by rw [hyl.way.len, hq'.len]) w
    have h6 := hz4 y k1 (by omega) ha2
    have hlen : (gl ws w).length = (gl ws y ++ [w]).length := by rw [hz3, List.length_append, List.length_append, hzl.way.len, hyl.way.len]
    rcases h6 with e | e
    · rw [e]; exact h5
    · rcases h5 with e2 | e2
      · rw [← e2]; exact .inr e
      · exact .inr (lex_trans e e2 hlen)
  refine ⟨h.len, fun x n hx hn hh => ?_, fun _ _ y hy => absurd hy (by omega), fun h1 h2 h3 => absurd (h.rest (w + 1) h1 (.inr ⟨h3, by omega⟩)) h2, fun x hx hh => h.rest x hx (by omega)⟩
  by_cases e : x = w
  · subst e
    have : n = f := by omega
    subst this
    exact hleast
  · exact h.done x n hx hn (by omega)
theorem Table.pass (h : Table T N a ds f w v ws) (hdw : gd ds w ≠ (f : Int)) : Table T N a ds f (w + 1) 0 ws :=
  ⟨h.len, fun x n hx hn hh => h.done x n hx hn (by
    by_cases e : x = w
    · subst e; left; omega
    · omega), fun _ _ y hy => absurd hy (by omega), fun h1 h2 h3 => absurd (h.rest (w + 1) h1 (.inr ⟨h3, by omega⟩)) h2, fun x hx hh => h.rest x hx (by omega)⟩
theorem Table.row (h : Table T N a ds f N v ws) (hD : Dist T N a ds) : Table T N a ds (f + 1) 0 0 ws :=
  ⟨h.len, fun x n hx hn hh => h.done x n hx hn (by omega), fun _ _ y hy => absurd hy (by omega), fun h1 h2 h3 => absurd (h.rest 0 h1 (.inl (by omega))) h2, fun x hx hh => h.rest x hx (by omega)⟩
end
end Go.Proofs.Ytpkiogcedfmodaa
