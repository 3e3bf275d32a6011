/- What the document's list reads as, beside the program's net; All of a pair. -/
import Derived.Test.YtcjfammfplcigaaNtPair
namespace Go.Proofs.Ytcjfammfplcigaa.Pk
open Go.RowKit Go.Shelf Go.Proofs.Ytcjfammfplcigaa.Nt
set_option linter.unusedVariables false
section
variable {Nb : Nat → World → Nat → Li → (Nat → Prop) → (Nat → Prop) → Prop} {kc : Nat} {w1 W W' : World} {T M : Nat} {l m : Li} {K : Nat → Prop}
theorem Pair.rdl (h : Pair (Nb kc) w1 T M l m K W) (hs : Short LM m) : ∃ A c ps, W.cell? ⟨M, 0, none⟩ = some (.slice A m.length c) ∧ RdL W W.heap.size A m.length ps ∧ Piece.bytes ps = m ∧ M < W.heap.size ∧ m.length ≤ c := by
  obtain ⟨S, D, S', h1, h2, h3, h4, h5, h6, h7⟩ := h
  obtain ⟨v, ps, q1, q2, q3, q4, q5⟩ := h2
  obtain ⟨A, c, rfl, hc, hr⟩ := q2.reads
  have hn : ps.length = m.length := by rw [← q4]; simp [Piece.bytes]
  refine ⟨A, c, ps, ?_, ?_, q4, q1.lt, by omega⟩
  · rw [q1.cell, ← hn]; rfl
  · rw [← hn]
    refine ⟨hr, fun p hp => ?_⟩
    have ho := q3 p hp
    have hl := own_len (show OwnB W 0 (.slice p.a p.n p.c) p.l from ho)
    refine ⟨own_reads (show OwnB W 0 (.slice p.a p.n p.c) p.l from ho), ?_⟩
    have h8 := hs p.l (by rw [← q4]; exact List.mem_map.2 ⟨p, hp, rfl⟩)
    have : LM = 140737488355328 := rfl
    omega
theorem Pair.all (h : Pair (Nb kc) w1 T M l m K W) (C : NetC Nb) (hs : Short LM l) :
    Calls Try.prog 20 #[.pointer (some ⟨T, 0, none⟩)] W fun e w' => ∃ v R, e = .returned v ∧ SeqNt v l R w' ∧ Below W.heap.size W w' := by
  obtain ⟨S, D, S', h1, _⟩ := h
  refine (C.all kc W T l S D h1 hs).mono ?_
  rintro e w' ⟨v, R, rfl, k1, k2, _⟩
  exact ⟨v, R, rfl, k1, k2⟩
end
end Go.Proofs.Ytcjfammfplcigaa.Pk
