/- Cells as they lie: four ints. -/
import Derived.Test.YteflefmlicamlaaWords
import Derived.Test.YteflefmlicamlaaProg
import Derived.LoopTactic
import Derived.Outline
import Derived.Lib.Hide
namespace Go.Proofs.Yteflefmlicamlaa.Pk
open Go.RowKit
set_option linter.unusedVariables false
/-- A request: its number, its state, its successor's node and number. -/
structure Ce where
  n : Int
  s : Int
  d : Int
  x : Int
  deriving DecidableEq
def Ce.zero : Ce := ⟨0, 0, 0, 0⟩
def Ce.val (m : Ce) : Value := .agg #[.int .i64 m.n, .int .i64 m.s, .int .i64 m.d, .int .i64 m.x]
structure Ce.I (m : Ce) : Prop where
  n : -9223372036854775808 ≤ m.n ∧ m.n ≤ 9223372036854775807
  s : -9223372036854775808 ≤ m.s ∧ m.s ≤ 9223372036854775807
  d : -9223372036854775808 ≤ m.d ∧ m.d ≤ 9223372036854775807
  x : -9223372036854775808 ≤ m.x ∧ m.x ≤ 9223372036854775807
end Go.Proofs.Yteflefmlicamlaa.Pk
