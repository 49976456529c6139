/- slices.SortFunc at pairs of ints, by graph.compare (layer 3). -/
import Derived.Test.YtgldlanfbkgfjaaPT
import Derived.Test.YtgldlanfbkgfjaaP4
namespace Go.Proofs.Ytgldlanfbkgfjaa
open Go.RowKit Go.Sort

/-- A row of pairs in block b, that may be written. -/
def OwnP (w : World) (b : Nat) (E : List (Int × Int)) : Prop := b < w.heap.size ∧ ∀ (q : Nat) (e : Int × Int), E[q]? = some e → w.cell? ⟨b, q * 2, none⟩ = some (.int .i64 e.1) ∧ w.frozen? ⟨b, q * 2, none⟩ = false ∧ w.cell? ⟨b, q * 2 + 1, none⟩ = some (.int .i64 e.2) ∧ w.frozen? ⟨b, q * 2 + 1, none⟩ = false
theorem OwnP.rd {w : World} {b : Nat} {E : List (Int × Int)} (h : OwnP w b E) : RdP w (some ⟨b, 0, none⟩) E := fun q e hq => by
  obtain ⟨h0, h⟩ := h
  obtain ⟨h1, _, h3, _⟩ := h q e hq
  refine ⟨_, rfl, h0, ?_, ?_⟩
  · rw [add_off]; exact h1
  · rw [add_off]; exact h3
theorem holds_ownP {w : World} {b : Nat} {d : Array (Int × Int)} (h0 : b < w.heap.size) (h : HoldsK encP 2 w b 0 d) : OwnP w b d.toList := ⟨h0, fun q e hq => by
  rw [Array.getElem?_toList] at hq
  obtain ⟨hl, he⟩ := Array.getElem?_eq_some_iff.1 hq
  have e1 : d[q]! = e := by rw [getElem!_pos d q hl, he]
  have c0 := h.cell (i := q) (c := 0) hl (by omega)
  have c1 := h.cell (i := q) (c := 1) hl (by omega)
  rw [e1] at c0 c1
  simp only [Nat.zero_add, Nat.add_zero] at c0 c1
  exact ⟨c0.1, c0.2, c1.1, c1.2⟩⟩
theorem ownP_holds {w : World} {b : Nat} {E : List (Int × Int)} (h : OwnP w b E) : HoldsK encP 2 w b 0 E.toArray := by
  intro j hj
  rw [size_flatK] at hj
  simp only [List.size_toArray] at hj
  rw [get_flatK _ _ _ _ (by simpa using hj)]
  have hl : j / 2 < E.length := by omega
  obtain ⟨h1, h2, h3, h4⟩ := h.2 (j / 2) _ (List.getElem?_eq_getElem hl)
  have e1 : E.toArray[j / 2]! = E[j / 2] := by rw [getElem!_pos E.toArray _ (by simpa using hl)]; simp
  rw [e1]
  rcases Nat.mod_two_eq_zero_or_one j with h5 | h5
  · rw [h5, show (0 : Nat) + j = j / 2 * 2 by omega]
    exact ⟨h1, h2⟩
  · rw [h5, show (0 : Nat) + j = j / 2 * 2 + 1 by omega]
    exact ⟨h3, h4⟩

set_option maxRecDepth 100000 in
set_option maxHeartbeats 4000000 in
theorem sort_pairs (b cap n : Nat) (E : List (Int × Int)) (w : World) (h : OwnP w b E) (hn : n = E.length) (hs : n ≤ 1000000) :
    Calls Try.prog 47 #[.slice (some ⟨b, 0, none⟩) n cap, .func (.func 43) #[] #[]] w fun e w' =>
      e = .returned (.tuple #[]) ∧ ∃ E' : List (Int × Int), E'.Perm E ∧ E'.Pairwise (fun x y => ltOf cmpP y x = false) ∧ OwnP w' b E' ∧ Bar b 1 w w' := by
  subst hn
  have hcon := AnyQ.slices_SortFunc srt_lays 2 Try.isAgg56 Try.sizeOf56 encP (fun _ => rfl) (fun x v hv => by simp [encP] at hv; rcases hv with rfl | rfl <;> rfl) cmpP cmpP_swo 43 #[] b 0 cap E.toArray w (enters_of Try.func43 (by kernel_rfl) rfl) (cmp_lays b 0 _ w) (ownP_holds h) h.1 (by simp; omega)
  simp only [List.size_toArray] at hcon
  change Calls Try.prog 47 _ _ _ at hcon
  refine hcon.mono ?_
  rintro e w' ⟨rfl, d', m, os, ⟨p1, _, p3⟩, hsort, rfl⟩
  simp only [List.size_toArray] at p1 p3
  have hd : (d'.extract 0 E.length) = d' := by rw [← p1]; simp
  have he : (E.toArray.extract 0 E.length).toList = E := by simp
  rw [hd, he] at p3
  have h1 : HoldsK encP 2 (putRowK encP 2 (Sort.ahead w m) b 0 d') b 0 d' := holdsK_putRowK encP 2 (Sort.ahead w m) b 0 E.toArray d' (holdsK_ahead encP 2 w m b 0 _ (ownP_holds h)) (by simpa using p1)
  have hsz : b < (putRowK encP 2 (Sort.ahead w m) b 0 d').heap.size := by
    have := size_putRow id (Sort.ahead w m) b 0 (flatK encP 2 d')
    show b < (putRow id (Sort.ahead w m) b 0 (flatK encP 2 d')).heap.size
    rw [this]
    exact h.1
  have h2 := holdsK_grow encP 2 _ os b 0 d' hsz h1
  refine ⟨rfl, d'.toList, p3, ?_, holds_ownP (by show b < (_ ++ os).size; rw [Array.size_append]; omega) h2, ?_⟩
  · rw [List.pairwise_iff_getElem]
    intro i j hi hj hij
    have := hsort i j (Nat.zero_le _) hij (by simp at hj ⊢; omega)
    simp at hi hj
    rw [getElem!_pos d' j hj, getElem!_pos d' i hi] at this
    simpa using this
  · refine ⟨rfl, rfl, rfl, ?_, fun k hk hd => ?_⟩
    · show w.heap.size ≤ ((putRow id (Sort.ahead w m) b 0 (flatK encP 2 d')).heap ++ os).size
      rw [Array.size_append, size_putRow]
      exact Nat.le_add_right _ _
    · show ((putRow id (Sort.ahead w m) b 0 (flatK encP 2 d')).heap ++ os)[k]? = _
      rw [Array.getElem?_append_left (by rw [size_putRow]; exact hk)]
      show (w.heap.modify b _)[k]? = _
      rw [Array.getElem?_modify, if_neg (by omega)]
end Go.Proofs.Ytgldlanfbkgfjaa
