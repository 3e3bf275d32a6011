/- What package wire promises of Valid. -/
import Derived.Test.YtneijohbmphheaaWiVal
namespace Go.Proofs.Ytneijohbmphheaa.Pk
open Go.RowKit
set_option linter.unusedVariables false
def ValidC : Prop := ∀ (m : Mg) (w : World), m.I → Calls Try.prog 23 #[m.val] w fun e w' => e = .returned (.bool (decide m.Be)) ∧ Below w.heap.size w w'
end Go.Proofs.Ytneijohbmphheaa.Pk
