/- What package wire promises (to be proved of the code that lands), and messages as they lie. -/
import Derived.Test.YtmegpbejknmjbaaDoorWiMath
import Derived.Test.YtmegpbejknmjbaaDoorPackRef
namespace Go.Proofs.YtmegpbejknmjbaaDoor.Pk
open Go.RowKit
set_option linter.unusedVariables false
def Mg.val (m : Mg) : Value := .agg #[.int .i64 m.k, .int .i64 m.o, .int .i64 m.n, .int .i64 m.u, .int .i64 m.v]
/-- Five ints. -/
structure Mg.I (m : Mg) : Prop where
  k : -9223372036854775808 ≤ m.k ∧ m.k ≤ 9223372036854775807
  o : -9223372036854775808 ≤ m.o ∧ m.o ≤ 9223372036854775807
  n : -9223372036854775808 ≤ m.n ∧ m.n ≤ 9223372036854775807
  u : -9223372036854775808 ≤ m.u ∧ m.u ≤ 9223372036854775807
  v : -9223372036854775808 ≤ m.v ∧ m.v ≤ 9223372036854775807
theorem Mg.Be.i {m : Mg} (h : m.Be) : m.I := by
  obtain ⟨h1, h2, h3, h4, h5, h6, h7, h8, h9, h10⟩ := h
  have : -9223372036854775808 ≤ m.v ∧ m.v ≤ 9223372036854775807 := by
    by_cases hk : m.k = 4
    · have := h9 hk; omega
    · have := h10 hk; omega
  exact ⟨by omega, by omega, by omega, by omega, this⟩
def ValidC : Prop := ∀ (m : Mg) (w : World), m.I → Calls Tryd.prog 39 #[m.val] w fun e w' => e = .returned (.bool (decide m.Be)) ∧ Below w.heap.size w w'
def PutC : Prop := ∀ (A : Option Addr) (n c : Nat) (l : List Int) (m : Mg) (w : World), Reads w w.heap.size 1 A n (bts l) → n ≤ c → isB l → n + 45 ≤ 140737488355328 → m.I →
  Calls Tryd.prog 27 #[.slice A n c, m.val] w fun e w' => ∃ v, e = .returned v ∧ OwnB w' w.heap.size v (l ++ m.put) ∧ Below w.heap.size w w'
def FaultC : Prop := ∀ (A : Option Addr) (n c : Nat) (l : List Int) (w : World) (B : Nat), Reads w B 1 A n (bts l) → n ≤ c → isB l → n ≤ 4611686018427387904 → Calls Tryd.prog 31 #[.slice A n c] w fun e w' => e = .returned (.int .i64 (fault l)) ∧ Below w.heap.size w w'
def TakeC : Prop := ∀ (A : Option Addr) (n c : Nat) (l : List Int) (w : World) (B : Nat), Reads w B 1 A n (bts l) → n ≤ c → isB l → n ≤ 4611686018427387904 →
  Calls Tryd.prog 32 #[.slice A n c] w fun e w' => e = .returned (.tuple #[(wtake l).1.val, .int .i64 ((wtake l).2.1 : Int), .int .i64 (wtake l).2.2]) ∧ Below w.heap.size w w'
end Go.Proofs.YtmegpbejknmjbaaDoor.Pk
