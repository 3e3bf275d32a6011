/- What package chain's Good and Open promise (to be proved of the code that lands). -/
import Derived.Test.YteflefmlicamlaaChRefA
namespace Go.Proofs.Yteflefmlicamlaa.Pk
open Go.RowKit
set_option linter.unusedVariables false
def J64 (x : Int) : Prop := -9223372036854775808 ≤ x ∧ x ≤ 9223372036854775807
def GoodP : Prop := ∀ (A : Option Addr) (n c : Nat) (l : List Ce) (me : Int) (sink : Bool) (w : World), InK w l A n c → J64 me →
  Calls Try.prog 9 #[.slice A n c, .int .i64 me, .bool sink] w fun e w' => e = .returned (.bool (decide (GoodK l me sink))) ∧ Below w.heap.size w w'
def OpenP : Prop := ∀ (A : Option Addr) (n c : Nat) (l : List Ce) (w : World), InK w l A n c →
  Calls Try.prog 11 #[.slice A n c] w fun e w' => e = .returned (.int .i64 (openK l : Nat)) ∧ Below w.heap.size w w'
end Go.Proofs.Yteflefmlicamlaa.Pk
