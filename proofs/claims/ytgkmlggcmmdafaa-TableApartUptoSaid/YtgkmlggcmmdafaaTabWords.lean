/- What a table's calls promise, whatever the table is made of: the blocks that it may turn (S) and those that it reads (D). -/
import Derived.Test.YtgkmlggcmmdafaaRowWalks
namespace Go.Proofs.Ytgkmlggcmmdafaa.Pk
open Go.RowKit Go.Proofs.Ytgkmlggcmmdafaa.Tb
set_option linter.unusedVariables false

/-- Only blocks of S, and new ones, may have turned. -/
structure Turned (S : Nat → Prop) (w w' : World) : Prop where
  os : w'.os = w.os
  tape : w'.tape = w.tape
  output : w'.output = w.output
  size : w.heap.size ≤ w'.heap.size
  block : ∀ i, i < w.heap.size → ¬ S i → w'.heap[i]? = w.heap[i]?
theorem Turned.of {B : Nat} {w w' : World} (h : Below B w w') (hB : w.heap.size ≤ B) (S : Nat → Prop) : Turned S w w' := ⟨h.os, h.tape, h.output, h.size, fun i hi _ => h.block i (by omega)⟩
theorem Turned.below {S : Nat → Prop} {B : Nat} {u w w' : World} (h : Turned S w w') (hu : Below B u w) (hB : B ≤ w.heap.size) (hS : ∀ b, S b → B ≤ b) : Below B u w' :=
  ⟨h.os.trans hu.os, h.tape.trans hu.tape, h.output.trans hu.output, Nat.le_trans hu.size h.size, fun i hi => (h.block i (by omega) (fun hs => by have := hS i hs; omega)).trans (hu.block i hi)⟩
theorem Turned.trans {S S' : Nat → Prop} {w w' w2 : World} (h : Turned S w w') (k : Turned S' w' w2) (hS : ∀ b, b < w.heap.size → S' b → S b) : Turned S w w2 :=
  ⟨k.os.trans h.os, k.tape.trans h.tape, k.output.trans h.output, Nat.le_trans h.size k.size, fun i hi hn => (k.block i (Nat.lt_of_lt_of_le hi h.size) (fun hs => hn (hS i hi hs))).trans (h.block i hi hn)⟩
theorem Turned.drewN {S : Nat → Prop} {w w' : World} (h : Turned S w w') (n : Nat) : Turned S w (w'.drewN n) := ⟨h.os, h.tape, h.output, h.size, h.block⟩
/-- The blocks of D stay. -/
def Stay (D : Nat → Prop) (w w' : World) : Prop := w.heap.size ≤ w'.heap.size ∧ ∀ b, D b → w'.heap[b]? = w.heap[b]?
theorem Stay.below {D : Nat → Prop} {B : Nat} {w w' : World} (h : Below B w w') (hD : ∀ b, D b → b < B) : Stay D w w' := ⟨h.size, fun b hb => h.block b (hD b hb)⟩
theorem Stay.drewN (D : Nat → Prop) (w : World) (n : Nat) : Stay D w (w.drewN n) := ⟨Nat.le_refl _, fun _ _ => rfl⟩
theorem Stay.turned {D S : Nat → Prop} {w w' : World} (h : Turned S w w') (hD : ∀ b, D b → b < w.heap.size ∧ ¬ S b) : Stay D w w' := ⟨h.size, fun b hb => h.block b (hD b hb).1 (hD b hb).2⟩
/-- Blocks of a set are old ones or new ones. -/
def From (S S' : Nat → Prop) (w : World) : Prop := ∀ b, S' b → S b ∨ w.heap.size ≤ b
theorem From.refl (S : Nat → Prop) (w : World) : From S S w := fun b h => .inl h
theorem From.trans {S S' S'' : Nat → Prop} {w w' : World} (h : From S S' w) (k : From S' S'' w') (hs : w.heap.size ≤ w'.heap.size) : From S S'' w := fun b hb => by
  rcases k b hb with h1 | h1
  · exact h b h1
  · exact .inr (by omega)

theorem From.back {S S' : Nat → Prop} {w w' : World} (h : From S S' w') (hs : w.heap.size ≤ w'.heap.size) : From S S' w := fun b hb => by
  rcases h b hb with h1 | h1
  · exact .inl h1
  · exact .inr (by omega)
/-- A slice that reads as xs, none of its blocks in S. -/
def Free (S : Nat → Prop) (A : Option Addr) (n : Nat) : Prop := 0 < n → ∀ ad, A = some ad → ¬ S ad.block
theorem Reads.turned {S : Nat → Prop} {w w' : World} {size n : Nat} {A : Option Addr} {xs : List Value} (h : Reads w w.heap.size size A n xs) (hf : Free S A n) (ht : Turned S w w') : Reads w' w'.heap.size size A n xs :=
  ⟨h.1, fun hn => by
    obtain ⟨ad, e, hb, hc⟩ := h.2 hn
    exact ⟨ad, e, Nat.lt_of_lt_of_le hb ht.size, fun j u hu => (World.cell?_of_block (by rw [block_of_add]; exact ht.block _ hb (hf hn ad e))).trans (hc j u hu)⟩⟩
theorem Free.next {S S' : Nat → Prop} {w : World} {size n : Nat} {A : Option Addr} {xs : List Value} (hf : Free S A n) (h : Reads w w.heap.size size A n xs) (hS : From S S' w) : Free S' A n := fun hn ad e hs => by
  obtain ⟨ad', e', hb, _⟩ := h.2 hn
  rw [e] at e'; injection e' with e'; subst e'
  rcases hS _ hs with h1 | h1
  · exact hf hn ad e h1
  · omega

/-- What a call leaves: its answer, the table's rows behind it. -/
def After (Tb : World → Nat → List Rw → (Nat → Prop) → (Nat → Prop) → Prop) (T : Nat) (l : List Rw) (S D : Nat → Prop) (w : World) (v : Value) (e : Ending) (w' : World) : Prop :=
  e = .returned v ∧ ∃ S' D', Tb w' T l S' D' ∧ Turned S w w' ∧ From S S' w ∧ From D D' w

/-- The promises of a table of texts. -/
structure TableC (Tb : World → Nat → List Rw → (Nat → Prop) → (Nat → Prop) → Prop) : Prop where
  stay : ∀ {w w' T l S D}, Tb w T l S D → Stay D w w' → Tb w' T l S D
  lt : ∀ {w T l S D}, Tb w T l S D → ∀ b, D b → b < w.heap.size
  sub : ∀ {w T l S D}, Tb w T l S D → ∀ b, S b → D b
  rises : ∀ {w T l S D}, Tb w T l S D → Rises l
  new : ∀ w, Calls Try.prog 10 #[] w fun e w' => ∃ T S D, e = .returned (.pointer (some ⟨T, 0, none⟩)) ∧ Tb w' T [] S D ∧ Below w.heap.size w w' ∧ ∀ b, D b → w.heap.size ≤ b
  put : ∀ w T l S D k s, Tb w T l S D → -9223372036854775808 ≤ k → k ≤ 9223372036854775807 → l.length < 4398046511104 →
    Calls Try.prog 17 #[.pointer (some ⟨T, 0, none⟩), .int .i64 k, .string s] w (After Tb T (ins k s l) S D w (.bool (at_ k l).isNone))
  qget : ∀ w T l S D k, Tb w T l S D → l.length ≤ 4398046511104 →
    Calls Try.prog 20 #[.pointer (some ⟨T, 0, none⟩), .int .i64 k] w fun e w' => e = .returned (.tuple #[.string ((under k l).getD ByteArray.empty), .bool (under k l).isSome]) ∧ Below w.heap.size w w'
  del : ∀ w T l S D k, Tb w T l S D → -9223372036854775808 ≤ k → k ≤ 9223372036854775807 → l.length ≤ 4398046511104 →
    Calls Try.prog 22 #[.pointer (some ⟨T, 0, none⟩), .int .i64 k] w (After Tb T (del k l) S D w (.bool (at_ k l).isSome))
  qnth : ∀ w T l S D (k : Int), Tb w T l S D → -9223372036854775808 ≤ k → k ≤ 9223372036854775807 → l.length ≤ 4398046511104 →
    Calls Try.prog 21 #[.pointer (some ⟨T, 0, none⟩), .int .i64 k] w fun e w' => e = .returned (.tuple #[.int .i64 (if 0 ≤ k ∧ k < l.length then ((l[k.toNat]?.map (·.1)).getD 0) else 0), .bool (decide (0 ≤ k ∧ k < l.length))]) ∧ Below w.heap.size w w'
  qlen : ∀ w T l S D, Tb w T l S D → l.length ≤ 4398046511104 →
    Calls Try.prog 12 #[.pointer (some ⟨T, 0, none⟩)] w fun e w' => e = .returned (.int .i64 l.length) ∧ Below w.heap.size w w'
section
variable {Tb : World → Nat → List Rw → (Nat → Prop) → (Nat → Prop) → Prop}
theorem TableC.next (C : TableC Tb) {w w' : World} {T : Nat} {l : List Rw} {S D : Nat → Prop} (h : Tb w T l S D) (hb : Below w.heap.size w w') : Tb w' T l S D := C.stay h (Stay.below hb (C.lt h))
theorem TableC.after (C : TableC Tb) {w w' : World} {T : Nat} {l : List Rw} {S D : Nat → Prop} {v : Value} {e : Ending} (h : Tb w T l S D) (he : e = .returned v) (hb : Below w.heap.size w w') : After Tb T l S D w v e w' :=
  ⟨he, S, D, C.next h hb, Turned.of hb (Nat.le_refl _) S, From.refl _ _, From.refl _ _⟩
theorem TableC.get (C : TableC Tb) (w : World) (T : Nat) (l : List Rw) (S D : Nat → Prop) (k : Int) (h : Tb w T l S D) (h1 : -9223372036854775808 ≤ k) (h2 : k ≤ 9223372036854775807) (hl : l.length ≤ 4398046511104) :
    Calls Try.prog 20 #[.pointer (some ⟨T, 0, none⟩), .int .i64 k] w (After Tb T l S D w (.tuple #[.string ((under k l).getD ByteArray.empty), .bool (under k l).isSome])) :=
  (C.qget w T l S D k h hl).mono fun e w' ⟨he, hb⟩ => C.after h he hb
theorem TableC.nth (C : TableC Tb) (w : World) (T : Nat) (l : List Rw) (S D : Nat → Prop) (k : Int) (h : Tb w T l S D) (h1 : -9223372036854775808 ≤ k) (h2 : k ≤ 9223372036854775807) (hl : l.length ≤ 4398046511104) :
    Calls Try.prog 21 #[.pointer (some ⟨T, 0, none⟩), .int .i64 k] w (After Tb T l S D w (.tuple #[.int .i64 (if 0 ≤ k ∧ k < l.length then ((l[k.toNat]?.map (·.1)).getD 0) else 0), .bool (decide (0 ≤ k ∧ k < l.length))])) :=
  (C.qnth w T l S D k h h1 h2 hl).mono fun e w' ⟨he, hb⟩ => C.after h he hb
theorem TableC.len (C : TableC Tb) (w : World) (T : Nat) (l : List Rw) (S D : Nat → Prop) (h : Tb w T l S D) (hl : l.length ≤ 4398046511104) :
    Calls Try.prog 12 #[.pointer (some ⟨T, 0, none⟩)] w (After Tb T l S D w (.int .i64 l.length)) :=
  (C.qlen w T l S D h hl).mono fun e w' ⟨he, hb⟩ => C.after h he hb
end
end Go.Proofs.Ytgkmlggcmmdafaa.Pk
