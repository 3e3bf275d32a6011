/- The walk of the law PackTakes: Take answers as the document's answer does. -/
import Derived.Test.YtkgkiplidjoamaaPackWakes
import Derived.Test.YtkgkiplidjoamaaPackRef
import Derived.Test.YtkgkiplidjoamaaArgs
namespace Go.Proofs.Ytkgkiplidjoamaa.Pk
open Go.RowKit Go.Proofs.Ytkgkiplidjoamaa.Ar
set_option linter.unusedVariables false

set_option maxHeartbeats 1600000 in
theorem law_PackTakes (a : Option Addr) (n c : Nat) (l : List Int) (w : World) (h : ArgB w a n c l) :
    Calls Try.prog 4 #[.slice a n c] w fun e w' => e = .returned (.bool true) ∧ Below w.heap.size w w' := by
  obtain ⟨hr, hnc, hc, hB⟩ := h
  have HB := Lib.hid hB
  have HR := Lib.hid hr
  clear hB hr
  go_enter Try.func4, Try.ntmps4
  go_wp2_with fail
  refine (wakes_any w).mono ?_
  rintro e w1 ⟨rfl, hb⟩
  go_wp2_with fail
  refine (take_any a n c l w1 w.heap.size (HR.out.below hb) HB.out hnc (by omega)).mono ?_
  rintro e w2 ⟨rfl, rfl⟩
  go_wp2_with fail
  refine (reftake_any a n c l w1 w.heap.size (HR.out.below hb) HB.out (by omega)).mono ?_
  rintro e w2 ⟨rfl, rfl⟩
  go_wp2
  go_ret
  exact ⟨rfl, hb⟩
end Go.Proofs.Ytkgkiplidjoamaa.Pk
