/- How an argument that is an array of two numbers is opened. -/
import Derived.Test.YtcomiininaemhaaArgN
namespace Go.Proofs.Ytcomiininaemhaa.Ar
open Go.ChangeShapes Go.WideShapes Go.ChangeAt Go.RowKit Go.Proofs.Ytcomiininaemhaa.Pk
set_option linter.unusedVariables false
theorem cellsP : Try.prog.cellsOf 48 = 2 := by kernel_rfl
theorem cellsI : Try.prog.cellsOf 3 = 1 := by kernel_rfl
theorem open_p {H : Type} {enc : TypeId × Value → H} {W : World} {r : Reach} {b0 : Nat} {v : Value} {d : DataW H} {ps : List MemPlace} (hval : Value.okWide Try.prog W r b0 48 v)
    (h : DataW.Trod enc Try.prog W 0 (fun _ => true) true 48 v d ps) : ∃ x y : Int, v = .agg #[.int .i64 x, .int .i64 y] ∧ (-9223372036854775808 ≤ x ∧ x ≤ 9223372036854775807) ∧ (-9223372036854775808 ≤ y ∧ y ≤ 9223372036854775807) := by
  simp only [Value.okWide, Try.underlying48] at hval
  obtain ⟨cs, rfl, hs, _⟩ := hval
  rw [cellsP] at hs
  obtain ⟨fuel, hf⟩ := h
  obtain ⟨xs, m, rfl, hx, hl, hn, hall⟩ := DataW.trod_array Try.underlying48 hf
  have hone : ∀ i, i < 2 → ∃ z, ((Value.agg cs).cells.toList.drop i).take 1 = [.int .i64 z] ∧ -9223372036854775808 ≤ z ∧ z ≤ 9223372036854775807 := by
    intro i hi
    have h1 := hall i hi
    rw [cellsI, Nat.mul_one, List.getElem?_eq_getElem (by omega)] at h1
    obtain ⟨z, hz, _, hw⟩ := DataW.trod_int Try.underlying3 h1
    exact ⟨z, hz, i64_rng hw⟩
  obtain ⟨a, ha, ha1⟩ := hone 0 (by omega)
  obtain ⟨b, hb, hb1⟩ := hone 1 (by omega)
  clear hone hall hl
  obtain ⟨q⟩ := cs
  simp only [Value.cells] at ha hb
  match q, hs with
  | [x0, x1], _ =>
    simp at ha hb
    subst ha; subst hb
    exact ⟨a, b, rfl, ha1, hb1⟩
end Go.Proofs.Ytcomiininaemhaa.Ar
