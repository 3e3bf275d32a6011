/- How an argument that is a struct of three numbers is opened. -/
import Derived.Test.YtadfcinfnbfefaaArgN
import Derived.Lib.SmallJoins
namespace Go.Proofs.Ytadfcinfnbfefaa.Ar
open Go.ChangeShapes Go.WideShapes Go.ChangeAt Go.RowKit Go.Deep Go.Joins Go.Proofs.Ytadfcinfnbfefaa.Pk
set_option linter.unusedVariables false
section
variable {H : Type} {enc : TypeId × Value → H} {W : World} {d : DataW H} {ps : List MemPlace}
theorem open_e {r : Reach} {b0 : Nat} {v : Value} (hv : Value.okWide Try.prog W r b0 40 v) (h : DataW.Trod enc Try.prog W 0 (fun _ => true) true 40 v d ps) :
    ∃ x y z : Int, v = .agg #[.int .i64 x, .int .i64 y, .int .i64 z] ∧ (-9223372036854775808 ≤ x ∧ x ≤ 9223372036854775807) ∧ (-9223372036854775808 ≤ y ∧ y ≤ 9223372036854775807) ∧ (-9223372036854775808 ≤ z ∧ z ≤ 9223372036854775807) := by
  have hst : ∃ f0 f1 f2, Try.prog.underlying 40 = some (.struct #[f0, f1, f2]) ∧ oneCellFields Try.prog #[f0, f1, f2] = true ∧ Try.prog.cellsOf 40 = 3 ∧ f0.type = 3 ∧ f1.type = 3 ∧ f2.type = 3 :=
    ⟨_, _, _, Try.underlying40, by kernel_rfl, by kernel_rfl, rfl, rfl, rfl⟩
  obtain ⟨f0, f1, f2, hs, hone, hc, t0, t1, t2⟩ := hst
  obtain ⟨v0, v1, v2, y0, y1, y2, n, rfl, _, _, h0, h1, h2⟩ := open_agg3 hs hone hc hv h
  rw [t0] at h0; rw [t1] at h1; rw [t2] at h2
  obtain ⟨z0, q0, _, w0⟩ := DataW.trod_int Try.underlying3 h0
  obtain ⟨z1, q1, _, w1⟩ := DataW.trod_int Try.underlying3 h1
  obtain ⟨z2, q2, _, w2⟩ := DataW.trod_int Try.underlying3 h2
  simp at q0 q1 q2
  subst q0; subst q1; subst q2
  exact ⟨z0, z1, z2, rfl, i64_rng w0, i64_rng w1, i64_rng w2⟩
end
end Go.Proofs.Ytadfcinfnbfefaa.Ar
