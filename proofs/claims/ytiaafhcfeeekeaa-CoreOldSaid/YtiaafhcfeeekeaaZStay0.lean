/- Ranges over a method value, whose function may hold ranges of its own: what such a function promises, and the law of the statement; needs no package. -/
import Derived.Test.YtiaafhcfeeekeaaZRange
import Derived.RangeFuncNested
namespace Go.Proofs.Ytiaafhcfeeekeaa.Pk
open Go.RowKit Go.Shelf
set_option linter.unusedVariables false

/-- What lay at or beyond B lies as it lay. -/
structure KeepsAll (B : Nat) (W W' : World) : Prop where
  size : W.heap.size ≤ W'.heap.size
  same : ∀ k, B ≤ k → k < W.heap.size → W'.heap[k]? = W.heap[k]?
theorem KeepsAll.refl (B : Nat) (W : World) : KeepsAll B W W := ⟨Nat.le_refl _, fun _ _ _ => rfl⟩
theorem KeepsAll.trans {B : Nat} {X Y Z : World} (h : KeepsAll B X Y) (k : KeepsAll B Y Z) : KeepsAll B X Z := ⟨Nat.le_trans h.size k.size, fun i hB hi => (k.same i hB (Nat.lt_of_lt_of_le hi h.size)).trans (h.same i hB hi)⟩
theorem KeepsAll.more {B B' : Nat} {W W' : World} (h : KeepsAll B W W') (hB : B ≤ B') : KeepsAll B' W W' := ⟨h.size, fun k hk h1 => h.same k (by omega) h1⟩
theorem KeepsAll.put {B l : Nat} (W : World) (o : Obj) (h : l < B) : KeepsAll B W (W.putObj l o) := ⟨by simp [World.putObj], fun k hB hk => World.putObj_heap_other (by omega)⟩
theorem KeepsAll.drewN {B : Nat} {W W' : World} (h : KeepsAll B W W') (n : Nat) : KeepsAll B W (W'.drewN n) := ⟨h.size, h.same⟩
theorem KeepsAll.setCell {B x : Nat} (W : World) (hx : x < B) (u : Value) : KeepsAll B W (W.setCell ⟨x, 0, none⟩ u) :=
  ⟨by simp [World.setCell], fun k hB hk => Below.heap_setCell W ⟨x, 0, none⟩ u k (by show ¬ k = x; omega)⟩
/-- How the body of a round may be left. -/
def postB {α : Type} (B : Nat) (Kp : World → World → Prop) (I : List α → World → Prop) (Ix : Code → List α → World → Prop) (xs : List α) (W : World) : Exit → Act → World → Prop
  | .normal, _, W' => KeepsAll B W W' ∧ Kp W W' ∧ I xs W'
  | .ret, _, W' => KeepsAll B W W' ∧ Ix .ret xs W'
  | .exit id, _, W' => KeepsAll B W W' ∧ Ix (.exit id) xs W'
  | .goto t, _, W' => KeepsAll B W W' ∧ Ix (.goto t) xs W'
  | .panic _, _, _ => False
  | .outgrown, _, _ => False

/-- A function behind bound arguments pb that goes over things: its caller's word may speak of all but the blocks that it makes itself (no cells, new); a round leaves those alone. -/
def GoesB {α : Type} (m : Nat) (P : Program) (g : Nat) (pb lb : Array Value) (encs : α → Array Value) (Kp : World → World → Prop) (S Sp : List α → Prop) (N : Nat) (w : World) : Prop :=
  ∀ (l : Nat) (J Jx : List α → World → Prop) (W : World), Below w.heap.size w W → OwnFrom W.heap.size J → OwnFrom W.heap.size Jx →
    (∀ pre x W1, J pre W1 → pre.length < N → YieldAt Fence.wide (m - 1) P l (encs x) W1 fun e W' => KeepsAll W.heap.size W1 W' ∧
      ((e = .returned (.bool true) ∧ J (pre ++ [x]) W' ∧ Kp W1 W') ∨ (e = .returned (.bool false) ∧ Jx (pre ++ [x]) W'))) →
    J [] W →
    CallsIn Fence.wide m P g (pb ++ #[.func (.yield l) #[] #[]] ++ lb) W fun e W' => (∃ v, e = .returned v) ∧ ((∃ xs, S xs ∧ J xs W') ∨ (∃ pre, Sp pre ∧ Jx pre W'))

section
variable {n : Nat} {P : Program} {α : Type} {g : Operand} {ps : Array Tmp} {assign body : Code} {Q : Exit → Act → World → Prop} {a : Act} {w : World}
end
end Go.Proofs.Ytiaafhcfeeekeaa.Pk

/- Ranges over a function, where a round is told what comes, and what it lies in: what such a function promises, and the law of the statement. -/
namespace Go.Proofs.Ytiaafhcfeeekeaa.Pk
open Go.RowKit Go.Shelf
set_option linter.unusedVariables false

/-- A function behind bound arguments pb that goes over things: its caller's word may speak of all but the blocks that it makes itself (no cells, new); a round leaves those alone. -/
def GoesW {α : Type} (m : Nat) (P : Program) (g : Nat) (pb lb : Array Value) (encs : α → Array Value) (Kp : World → World → Prop) (S Sp : List α → Prop) (Ok : Nat → List α → α → World → Prop) (w : World) : Prop :=
  ∀ (l : Nat) (J Jx : List α → World → Prop) (W : World), Below w.heap.size w W → OwnFrom W.heap.size J → OwnFrom W.heap.size Jx →
    (∀ pre x W1, J pre W1 → Ok W.heap.size pre x W1 → YieldAt Fence.wide (m - 1) P l (encs x) W1 fun e W' => KeepsAll W.heap.size W1 W' ∧
      ((e = .returned (.bool true) ∧ J (pre ++ [x]) W' ∧ Kp W1 W') ∨ (e = .returned (.bool false) ∧ Jx (pre ++ [x]) W'))) →
    J [] W →
    CallsIn Fence.wide m P g (pb ++ #[.func (.yield l) #[] #[]] ++ lb) W fun e W' => (∃ v, e = .returned v) ∧ ((∃ xs, S xs ∧ J xs W') ∨ (∃ pre, Sp pre ∧ Jx pre W'))

section
variable {n : Nat} {P : Program} {α : Type} {g : Operand} {ps : Array Tmp} {assign body : Code} {Q : Exit → Act → World → Prop} {a : Act} {w : World}
end
end Go.Proofs.Ytiaafhcfeeekeaa.Pk

/- The same where a round may change memory of what came to it (Fr). -/
namespace Go.Proofs.Ytiaafhcfeeekeaa.Pk
open Go.RowKit Go.Shelf
set_option linter.unusedVariables false
/-- All blocks from B on, but those of F, lie as they lay. -/
structure KeepsF (B : Nat) (F : Nat → Prop) (W W' : World) : Prop where
  size : W.heap.size ≤ W'.heap.size
  same : ∀ k, B ≤ k → k < W.heap.size → ¬ F k → W'.heap[k]? = W.heap[k]?
theorem KeepsAll.but {B : Nat} {W W' : World} (h : KeepsAll B W W') (F : Nat → Prop) : KeepsF B F W W' := ⟨h.size, fun k h1 h2 _ => h.same k h1 h2⟩
theorem KeepsF.refl (B : Nat) (F : Nat → Prop) (W : World) : KeepsF B F W W := (KeepsAll.refl B W).but F
theorem KeepsF.trans {B : Nat} {F : Nat → Prop} {X Y Z : World} (h : KeepsF B F X Y) (k : KeepsF B F Y Z) : KeepsF B F X Z := ⟨Nat.le_trans h.size k.size, fun i hB hi hf => (k.same i hB (Nat.lt_of_lt_of_le hi h.size) hf).trans (h.same i hB hi hf)⟩
theorem KeepsF.more {B B' : Nat} {F : Nat → Prop} {W W' : World} (h : KeepsF B F W W') (hB : B ≤ B') : KeepsF B' F W W' := ⟨h.size, fun k hk h1 => h.same k (by omega) h1⟩
theorem KeepsF.put {B l : Nat} {F : Nat → Prop} (W : World) (o : Obj) (h : l < B) : KeepsF B F W (W.putObj l o) := (KeepsAll.put W o h).but F
/-- How the body of a round may be left. -/
def postF {α : Type} (B : Nat) (F : Nat → Prop) (Kp : World → World → Prop) (I : List α → World → Prop) (Ix : Code → List α → World → Prop) (xs : List α) (W : World) : Exit → Act → World → Prop
  | .normal, _, W' => KeepsF B F W W' ∧ Kp W W' ∧ I xs W'
  | .ret, _, W' => KeepsF B F W W' ∧ Ix .ret xs W'
  | .exit id, _, W' => KeepsF B F W W' ∧ Ix (.exit id) xs W'
  | .goto t, _, W' => KeepsF B F W W' ∧ Ix (.goto t) xs W'
  | .panic _, _, _ => False
  | .outgrown, _, _ => False

/-- A function behind bound arguments pb that goes over things: its caller's word may speak of all but the blocks that it makes itself (no cells, new); a round leaves those alone. -/
def GoesF {α : Type} (m : Nat) (P : Program) (g : Nat) (pb lb : Array Value) (encs : α → Array Value) (Kp : World → World → Prop) (S Sp : List α → Prop) (Ok : Nat → List α → α → World → Prop) (Fr : Nat → α → Nat → Prop) (w : World) : Prop :=
  ∀ (l : Nat) (J Jx : List α → World → Prop) (W : World), Below w.heap.size w W → OwnFrom W.heap.size J → OwnFrom W.heap.size Jx →
    (∀ pre x W1, J pre W1 → Ok W.heap.size pre x W1 → YieldAt Fence.wide (m - 1) P l (encs x) W1 fun e W' => KeepsF W.heap.size (Fr W.heap.size x) W1 W' ∧
      ((e = .returned (.bool true) ∧ J (pre ++ [x]) W' ∧ Kp W1 W') ∨ (e = .returned (.bool false) ∧ Jx (pre ++ [x]) W'))) →
    J [] W →
    CallsIn Fence.wide m P g (pb ++ #[.func (.yield l) #[] #[]] ++ lb) W fun e W' => (∃ v, e = .returned v) ∧ ((∃ xs, S xs ∧ J xs W') ∨ (∃ pre, Sp pre ∧ Jx pre W'))

section
variable {n : Nat} {P : Program} {α : Type} {g : Operand} {ps : Array Tmp} {assign body : Code} {Q : Exit → Act → World → Prop} {a : Act} {w : World}
end
end Go.Proofs.Ytiaafhcfeeekeaa.Pk

/- Blocks that stay. -/
namespace Go.Proofs.Ytiaafhcfeeekeaa.Pk
open Go.RowKit
set_option linter.unusedVariables false
def Stay (D : Nat → Prop) (w w' : World) : Prop := w.heap.size ≤ w'.heap.size ∧ ∀ b, D b → w'.heap[b]? = w.heap[b]?
theorem Stay.refl (D : Nat → Prop) (w : World) : Stay D w w := ⟨Nat.le_refl _, fun _ _ => rfl⟩
theorem Stay.trans {D : Nat → Prop} {a b c : World} (h : Stay D a b) (k : Stay D b c) : Stay D a c := ⟨Nat.le_trans h.1 k.1, fun i hi => (k.2 i hi).trans (h.2 i hi)⟩
theorem Stay.sub {D E : Nat → Prop} {a b : World} (h : Stay D a b) (hs : ∀ b, E b → D b) : Stay E a b := ⟨h.1, fun i hi => h.2 i (hs i hi)⟩
theorem Stay.below {D : Nat → Prop} {B : Nat} {w w' : World} (h : Below B w w') (hD : ∀ b, D b → b < B) : Stay D w w' := ⟨h.size, fun b hb => h.block b (hD b hb)⟩
theorem stay_b {D : Nat → Prop} {w : World} (hD : ∀ b, D b → b < w.heap.size) : ∀ (W : World) (l : Nat) (o o' : Obj), w.heap.size ≤ l → W.heap[l]? = some o → o.isCells = false → o.isWalk = false → Stay D W (W.putObj l o') := by
  intro W l o o' hl _ _ _
  exact ⟨by simp [World.putObj], fun b hb => World.putObj_heap_other (by have := hD b hb; omega)⟩
end Go.Proofs.Ytiaafhcfeeekeaa.Pk
