/- Messages as they lie: five ints. -/
import Derived.Test.YtneijohbmphheaaWiMath
import Derived.Test.YtneijohbmphheaaWords
import Derived.Test.YtneijohbmphheaaProg
import Derived.LoopTactic
import Derived.Outline
import Derived.Lib.Hide
namespace Go.Proofs.Ytneijohbmphheaa.Pk
open Go.RowKit
set_option linter.unusedVariables false
def Mg.val (m : Mg) : Value := .agg #[.int .i64 m.k, .int .i64 m.o, .int .i64 m.n, .int .i64 m.u, .int .i64 m.v]
/-- Five ints. -/
structure Mg.I (m : Mg) : Prop where
  k : -9223372036854775808 ≤ m.k ∧ m.k ≤ 9223372036854775807
  o : -9223372036854775808 ≤ m.o ∧ m.o ≤ 9223372036854775807
  n : -9223372036854775808 ≤ m.n ∧ m.n ≤ 9223372036854775807
  u : -9223372036854775808 ≤ m.u ∧ m.u ≤ 9223372036854775807
  v : -9223372036854775808 ≤ m.v ∧ m.v ≤ 9223372036854775807
theorem Mg.Be.i {m : Mg} (h : m.Be) : m.I := by
  obtain ⟨h1, h2, h3, h4, h5, h6, h7, h8, h9, h10⟩ := h
  have : -9223372036854775808 ≤ m.v ∧ m.v ≤ 9223372036854775807 := by
    by_cases hk : m.k = 4
    · have := h9 hk; omega
    · have := h10 hk; omega
  exact ⟨by omega, by omega, by omega, by omega, this⟩
end Go.Proofs.Ytneijohbmphheaa.Pk
