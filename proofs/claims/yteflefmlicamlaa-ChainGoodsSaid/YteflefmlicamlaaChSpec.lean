/- What package chain promises (to be proved of the code that lands). -/
import Derived.Test.YteflefmlicamlaaChRef
import Derived.Test.YteflefmlicamlaaChSpecA
namespace Go.Proofs.Yteflefmlicamlaa.Pk
open Go.RowKit
set_option linter.unusedVariables false
def AddP : Prop := ∀ (A : Option Addr) (n c : Nat) (l : List Ce) (x : Int) (w : World), InK w l A n c → J64 x →
  Calls Try.prog 14 #[.slice A n c, .int .i64 x] w fun e w' => ∃ v, e = .returned v ∧ OwnK w' w.heap.size v (addK l x) ∧ Below w.heap.size w w'
def SuccP : Prop := ∀ (A : Option Addr) (n c : Nat) (l : List Ce) (d x : Int) (w : World), InK w l A n c → J64 d → J64 x →
  Calls Try.prog 16 #[.slice A n c, .int .i64 d, .int .i64 x] w fun e w' => ∃ v, e = .returned (.tuple #[v, .bool (succK l d x).2]) ∧ OwnK w' w.heap.size v (succK l d x).1 ∧ Below w.heap.size w w'
def GrantP : Prop := ∀ (A : Option Addr) (n c : Nat) (l : List Ce) (x : Int) (w : World), InK w l A n c → J64 x →
  Calls Try.prog 18 #[.slice A n c, .int .i64 x] w fun e w' => ∃ v, e = .returned (.tuple #[v, .bool (grantK l x).2]) ∧ OwnK w' w.heap.size v (grantK l x).1 ∧ Below w.heap.size w w'
def RelP : Prop := ∀ (A : Option Addr) (n c : Nat) (l : List Ce) (w : World), InK w l A n c →
  Calls Try.prog 20 #[.slice A n c] w fun e w' => ∃ v, e = .returned (.tuple #[v, .int .i64 (relK l).2.1, .int .i64 (relK l).2.2.1, .int .i64 (relK l).2.2.2]) ∧ OwnK w' w.heap.size v (relK l).1 ∧ Below w.heap.size w w'
end Go.Proofs.Yteflefmlicamlaa.Pk
