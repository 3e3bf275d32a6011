/- A function that goes over a table's rows, as long as the blocks that it reads stay. -/
import Derived.Test.YtcjfammfplcigaaRw
import Derived.Test.YtcjfammfplcigaaRowMath
import Derived.Test.YtcjfammfplcigaaOnly
import Derived.WideShapes
import Derived.ChangeKeysEq
import Derived.LoopTactic
import Derived.Outline
import Derived.Lib.Hide
import Derived.Deep.QuietTactic
import Derived.BigQuiet
namespace Go.Proofs.Ytcjfammfplcigaa.Pk
open Go.RowKit Go.Shelf Go.Proofs.Ytcjfammfplcigaa.Tb
set_option linter.unusedVariables false
theorem text_ne {a b : ByteArray} (h : a ≠ b) : (a.toList == b.toList) = false := by
  rw [beq_eq_false_iff_ne]
  intro e
  rw [ByteArray.toList_eq, ByteArray.toList_eq] at e
  exact h (WideShapes.bytes_inj e)
/-- A function that goes over the rows. -/
def SeqC (v : Value) (rows : List Rw) (R : Nat → Prop) (w : World) : Prop :=
  ∃ gf lb, v = .func (.func gf) #[] lb ∧ (∀ args u, (callFunc gf args).run Try.prog u = .ok (.enter gf args) u) ∧ (∀ b, R b → b < w.heap.size) ∧
    ∀ m W, 1 ≤ m → Stay R w W → SeqStopsK Fence.wide m Try.prog gf lb (fun x : Rw => #[Value.int .i64 x.1, Value.string x.2]) (Stay R) (fun ys => ys = rows) (fun pre => pre <+: rows) rows.length W
theorem Stay.refl (D : Nat → Prop) (w : World) : Stay D w w := ⟨Nat.le_refl _, fun _ _ => rfl⟩
theorem SeqC.stay {v : Value} {rows : List Rw} {R : Nat → Prop} {w W : World} (h : SeqC v rows R w) (hs : Stay R w W) : SeqC v rows R W := by
  obtain ⟨gf, lb, e, h1, h2, h3⟩ := h
  exact ⟨gf, lb, e, h1, fun b hb => Nat.lt_of_lt_of_le (h2 b hb) hs.1, fun m W' hm hW => h3 m W' hm (hs.trans hW)⟩
theorem SeqC.at_ {gf : Nat} {lb : Array Value} {rows : List Rw} {R : Nat → Prop} {w : World} (h : SeqC (.func (.func gf) #[] lb) rows R w) (m : Nat) (hm : 1 ≤ m) :
    SeqStopsK Fence.wide m Try.prog gf lb (fun x : Rw => #[Value.int .i64 x.1, Value.string x.2]) (Stay R) (fun ys => ys = rows) (fun pre => pre <+: rows) rows.length w := by
  obtain ⟨gf', lb', e, _, _, h3⟩ := h
  injection e with e1 _ e2
  injection e1 with e1
  subst e1; subst e2
  exact h3 m w hm (Stay.refl _ _)
theorem SeqC.seq {gf : Nat} {lb : Array Value} {rows : List Rw} {R : Nat → Prop} {w : World} (h : SeqC (.func (.func gf) #[] lb) rows R w) :
    SeqStopsK Fence.wide 8 Try.prog gf lb (fun x : Rw => #[Value.int .i64 x.1, Value.string x.2]) (Stay R) (fun ys => ys = rows) (fun pre => pre <+: rows) rows.length w := h.at_ 8 (by omega)
theorem SeqC.lt {v : Value} {rows : List Rw} {R : Nat → Prop} {w : World} (h : SeqC v rows R w) : ∀ b, R b → b < w.heap.size := by
  obtain ⟨_, _, _, _, h2, _⟩ := h
  exact h2
theorem stay_set {D : Nat → Prop} {V : World} {x : Nat} {u : Value} (hx : ¬ D x) : Stay D V (V.setCell ⟨x, 0, none⟩ u) :=
  ⟨by simp [World.setCell], fun b hb => Below.heap_setCell _ ⟨x, 0, none⟩ _ b (fun e => hx (by simp at e; subst e; exact hb))⟩
theorem Stay.only {D : Nat → Prop} {w w' : World} {x : Nat} (h : Only w w' x) (hD : ∀ b, D b → b < w.heap.size ∧ b ≠ x) : Stay D w w' :=
  ⟨h.size, fun b hb => h.block b (hD b hb).1 (fun e => (hD b hb).2 (by injection e))⟩

/-- What a call that answers such a function leaves, when it only makes memory. -/
def Yields (rows : List Rw) (S D : Nat → Prop) (w : World) (e : Ending) (w' : World) : Prop :=
  ∃ v R, e = .returned v ∧ SeqC v rows R w' ∧ Below w.heap.size w w' ∧ From D R w ∧ ∀ b, R b → ¬ S b
end Go.Proofs.Ytcjfammfplcigaa.Pk
