/- A net, and beside it a block of flags in a box. -/
import Derived.Test.YtcjfammfplcigaaNtBool
namespace Go.Proofs.Ytcjfammfplcigaa.Pk
open Go.RowKit Go.Shelf Go.Proofs.Ytcjfammfplcigaa.Nt
set_option linter.unusedVariables false
structure FlagM (w1 : World) (g xl n : Nat) (bs : List Bool) (W : World) : Prop where
  bel : Below w1.heap.size w1 W
  row : BlkB W g bs
  box : Blk W xl 45 #[.slice (some ⟨g, 0, none⟩) n n]
  lg : w1.heap.size ≤ g
  lx : w1.heap.size ≤ xl
  ne : g ≠ xl
  len : bs.length = n
def AtG (Nb : World → Nat → Li → (Nat → Prop) → (Nat → Prop) → Prop) (w1 : World) (g xl T n : Nat) (l : Li) (bs : List Bool) (W : World) : Prop :=
  ∃ S D, Nb W T l S D ∧ (∀ b, D b → w1.heap.size ≤ b ∧ b ≠ g ∧ b ≠ xl) ∧ FlagM w1 g xl n bs W
section
variable {Nb : Nat → World → Nat → Li → (Nat → Prop) → (Nat → Prop) → Prop} {kc : Nat} {w1 W W' : World} {g xl T n : Nat} {l : Li} {bs : List Bool}
theorem FlagM.next (h : FlagM w1 g xl n bs W) (hb : Below W.heap.size W W') : FlagM w1 g xl n bs W' :=
  ⟨h.bel.trans (hb.mono h.bel.size), Blk.below h.row hb (Blk.lt h.row), h.box.below hb h.box.lt, h.lg, h.lx, h.ne, h.len⟩
theorem AtG.next (h : AtG (Nb kc) w1 g xl T n l bs W) (C : NetC Nb) (hb : Below W.heap.size W W') : AtG (Nb kc) w1 g xl T n l bs W' := by
  obtain ⟨S, D, h1, h2, h3⟩ := h
  exact ⟨S, D, C.next h1 hb, h2, h3.next hb⟩
theorem AtG.m (h : AtG (Nb kc) w1 g xl T n l bs W) : FlagM w1 g xl n bs W := by obtain ⟨_, _, _, _, h⟩ := h; exact h
theorem AtG.set_ (h : AtG (Nb kc) w1 g xl T n l bs W) (C : NetC Nb) (a : Nat) (x : Bool) : AtG (Nb kc) w1 g xl T n l (bs.set a x) (W.setCell ⟨g, a, none⟩ (.bool x)) := by
  obtain ⟨S, D, h1, h2, h3⟩ := h
  refine ⟨S, D, C.stay h1 ⟨by simp [World.setCell], fun b hb => Below.heap_setCell W ⟨g, a, none⟩ _ b (by have := (h2 b hb).2.1; simpa using this)⟩, h2, ?_⟩
  exact ⟨h3.bel.setCell (p := ⟨g, a, none⟩) h3.lg _, BlkB.set_ h3.row a x, h3.box.far (p := ⟨g, a, none⟩) (by simpa using h3.ne.symm) _, h3.lg, h3.lx, h3.ne, by simpa using h3.len⟩
/-- Take: what is answered is new, and neither flags nor box. -/
theorem AtG.take (h : AtG (Nb kc) w1 g xl T n l bs W) (C : NetC Nb) (i : Int) (hs : Short LM l) (h1 : -9223372036854775808 ≤ i) (h2 : i ≤ 9223372036854775807) :
    Calls Try.prog 14 #[.pointer (some ⟨T, 0, none⟩), .int .i64 i] W fun e w' => ∃ A m c, e = .returned (.tuple #[.slice A m c, .bool (inN l i)]) ∧ Reads w' w'.heap.size 1 A m (bts (atN l i)) ∧ (atN l i).length = m ∧ AtG (Nb kc) w1 g xl T n (takeN l i) bs w' := by
  obtain ⟨S, D, k, k2, k3⟩ := h
  refine (C.take kc W T l S D i k hs h1 h2).mono ?_
  rintro e w' ⟨v, rfl, ho, S', D', q1, q2, q3, q4, q5⟩
  obtain ⟨A, m, c, rfl⟩ := owr_slice ho
  have hS : ∀ b, S b → w1.heap.size ≤ b ∧ b ≠ g ∧ b ≠ xl := fun b hb => k2 b (C.sub k b hb)
  have hlg := Blk.lt k3.row
  have hlx := k3.box.lt
  refine ⟨A, m, c, rfl, owr_reads ho, (owr_len ho).1, S', D', q1, fun b hb => ?_, ?_⟩
  · rcases q4 b hb with hb | hb
    · exact k2 b hb
    · have := k3.bel.size; exact ⟨by omega, by omega, by omega⟩
  · exact ⟨q2.below k3.bel k3.bel.size (fun b hb => (hS b hb).1), (q2.block g hlg (fun h => (hS g h).2.1 rfl)).trans k3.row, (q2.block xl hlx (fun h => (hS xl h).2.2 rfl)).trans k3.box, k3.lg, k3.lx, k3.ne, k3.len⟩
/-- All: what the function reads is none of the blocks that are new since. -/
theorem AtG.all (h : AtG (Nb kc) w1 g xl T n l bs W) (C : NetC Nb) (hs : Short LM l) (hb : Below W.heap.size W W') :
    Calls Try.prog 20 #[.pointer (some ⟨T, 0, none⟩)] W' fun e w' => ∃ v R, e = .returned v ∧ SeqNt v l R w' ∧ Below W'.heap.size W' w' ∧ ∀ b, R b → b < W.heap.size ∨ W'.heap.size ≤ b := by
  obtain ⟨S, D, h1, h2, h3⟩ := h
  refine (C.all kc W' T l S D (C.next h1 hb) hs).mono ?_
  rintro e w' ⟨v, R, rfl, k1, k2, k3⟩
  exact ⟨v, R, rfl, k1, k2, fun b hb' => (k3 b hb').imp (fun h => C.lt h1 b h.1) id⟩
/-- A net that is there, and flags that come. -/
theorem AtG.of {bs : List Bool} (h : AtNt (Nb kc) w1 T l W) (C : NetC Nb) (hb : Below W.heap.size W W') (hg : W.heap.size ≤ g) (hx : W.heap.size ≤ xl) (hne : g ≠ xl) (hr : BlkB W' g bs) (hbx : Blk W' xl 45 #[.slice (some ⟨g, 0, none⟩) n n]) (hl : bs.length = n) : AtG (Nb kc) w1 g xl T n l bs W' := by
  obtain ⟨S, D, h1, h2, h3⟩ := h
  refine ⟨S, D, C.next h1 hb, fun b hb => ⟨h2 b hb, ?_, ?_⟩, h3.trans (hb.mono h3.size), hr, hbx, Nat.le_trans h3.size hg, Nat.le_trans h3.size hx, hne, hl⟩
  · have := C.lt h1 b hb; omega
  · have := C.lt h1 b hb; omega
end
theorem onlyS_trans {S : Nat → Prop} {a b c : World} (h : OnlyS S a b) (k : OnlyS S b c) : OnlyS S a c :=
  ⟨k.os.trans h.os, k.tape.trans h.tape, k.output.trans h.output, Nat.le_trans h.size k.size, fun i hi hn => (k.block i (Nat.lt_of_lt_of_le hi h.size) hn).trans (h.block i hi hn)⟩
theorem onlyS_keeps {S : Nat → Prop} {B : Nat} {a b : World} (h : OnlyS S a b) (hS : ∀ k, S k → k < B) : KeepsAll B a b :=
  ⟨h.size, fun k hk hl => h.block k hl (fun hs => by have := hS k hs; omega)⟩
end Go.Proofs.Ytcjfammfplcigaa.Pk
