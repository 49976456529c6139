/- StrandParts: all cases together. -/
import Derived.Test.YtgljaimoaijcaaaParts
namespace Go.Proofs.Ytgljaimoaijcaaa
open Go.RowKit

theorem small_of {L : Int} {l : List Bool} {n : Nat} (hL : L = (l.length : Nat)) (h : gB L n = false) : l.length ≤ 2000 := by
  unfold gB at h
  rw [Bool.or_eq_false_iff] at h
  have := of_decide_eq_false h.1
  omega
theorem parts_walk (v1 v2 v3 : Value) (at_ n : Nat) (w : World) (h1 : OkStrand w v1) (h2 : OkStrand w v2) (h3 : OkStrand w v3) (hat : at_ < 65536) (hn : n < 18446744073709551616) :
    Calls Try.prog 7 #[v1, v2, v3, .int .u16 at_, .int .u64 n] w fun e w' => e = .returned (.bool true) ∧ Below w.heap.size w w' := by
  obtain ⟨A, c, K, xs, rfl, hx, hrx, _⟩ := h1
  obtain ⟨B, d, L, ys, rfl, hy, hry, _⟩ := h2
  obtain ⟨C, e, M, zs, rfl, hz, hrz, _⟩ := h3
  have slow := parts_slow A B C c d e K L M xs ys zs at_ n w hrx hry hrz
  cases g1 : gB K xs.length
  case true => exact slow (.inl g1)
  cases g2 : gB L ys.length
  case true => exact slow (.inr ⟨g1, .inl g2⟩)
  cases g3 : gB M zs.length
  case true => exact slow (.inr ⟨g1, .inr ⟨g2, .inl g3⟩⟩)
  cases r1 : rightB xs K
  case false => exact slow (.inr ⟨g1, .inr ⟨g2, .inr ⟨g3, .inl r1⟩⟩⟩)
  cases r2 : rightB ys L
  case false => exact slow (.inr ⟨g1, .inr ⟨g2, .inr ⟨g3, .inr ⟨r1, .inl r2⟩⟩⟩⟩)
  cases r3 : rightB zs M
  case false => exact slow (.inr ⟨g1, .inr ⟨g2, .inr ⟨g3, .inr ⟨r1, .inr ⟨r2, r3⟩⟩⟩⟩⟩)
  obtain ⟨a, ha, la, ra, _, _⟩ := bits_st (c := c) hx hrx r1
  obtain ⟨b, hb, lb, rb, _, _⟩ := bits_st (c := d) hy hry r2
  obtain ⟨s, hs, ls, rs, _, _⟩ := bits_st (c := e) hz hrz r3
  have ga := small_of ha g1
  have gb := small_of hb g2
  have gs := small_of hs g3
  rw [ha, la, hb, lb, hs, ls]
  exact parts_main A B C c d e a b s at_ n w ra rb rs ga gb gs hat hn
end Go.Proofs.Ytgljaimoaijcaaa
