/- How an argument that is a list of numbers is opened. -/
import Derived.Test.YtcomiininaemhaaZArg0
namespace Go.Proofs.Ytcomiininaemhaa.Ar
open Go.ChangeShapes Go.WideShapes Go.ChangeAt Go.RowKit Go.Proofs.Ytcomiininaemhaa.Pk
set_option linter.unusedVariables false
theorem bytes3 : Try.prog.bytesOf 3 = 8 := by kernel_rfl
/-- A list of numbers that came in. -/
def ArgN (w : World) (a : Option Addr) (n c : Nat) (l : List Int) : Prop := Reads w w.heap.size 1 a n (nms l) ∧ n ≤ c ∧ c * 8 ≤ 140737488351232 ∧ ∀ x ∈ l, -9223372036854775808 ≤ x ∧ x ≤ 9223372036854775807

section
variable {H : Type} {enc : TypeId × Value → H} {W : World} {d : DataW H} {ps : List MemPlace}
theorem open_n {a : Option Addr} {n c : Nat} (h : DataW.Trod enc Try.prog W 0 (fun _ => true) true 26 (.slice a n c) d ps)
    (hsz : ∀ elems spare, d = .slice elems spare → (elems.length + spare.length) * Try.prog.bytesOf 3 ≤ reachBytes) : ∃ l, ArgN W a n c l ∧ n < Rows.uptoBulk d := by
  obtain ⟨l, h1, h2, h3, h4, h5⟩ := open_raw Try.underlying26 Try.underlying3 (by kernel_rfl) h hsz
  rw [bytes3] at h3
  unfold reachBytes at h3
  exact ⟨l, ⟨h1, h2, by omega, fun x hx => i64_rng (h4 x hx)⟩, h5⟩
end
end Go.Proofs.Ytcomiininaemhaa.Ar
