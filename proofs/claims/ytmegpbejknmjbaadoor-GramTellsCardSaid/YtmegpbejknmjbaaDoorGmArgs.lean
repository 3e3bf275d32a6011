/- How a datagram that comes in is opened. -/
import Derived.Test.YtmegpbejknmjbaaDoorArgs
import Derived.Test.YtmegpbejknmjbaaDoorGmSpec
import Derived.Lib.SmallJoins
import Derived.Deep.Slices
import Derived.Deep.Fields
import Derived.ChangeSame
namespace Go.Proofs.YtmegpbejknmjbaaDoor.Ar
open Go.ChangeShapes Go.WideShapes Go.ChangeAt Go.RowKit Go.Deep Go.Joins Go.Proofs.YtmegpbejknmjbaaDoor.Pk
set_option linter.unusedVariables false
section
variable {H : Type} {enc : TypeId × Value → H} {W : World} {d : DataW H} {ps : List MemPlace}
theorem ints5 {fuel : Nat} {c0 c1 c2 c3 c4 : Value} {x : DataW H × List MemPlace} (hf : DataW.trod enc Tryd.prog W 0 (fun _ => true) true fuel 24 [c0, c1, c2, c3, c4] = some x) : ∃ m : Mg, [c0, c1, c2, c3, c4] = [.int .i64 m.k, .int .i64 m.o, .int .i64 m.n, .int .i64 m.u, .int .i64 m.v] ∧ m.I := by
  have hst : ∃ f0 f1 f2 f3 f4, Tryd.prog.underlying 24 = some (.struct #[f0, f1, f2, f3, f4]) ∧ oneCellFields Tryd.prog #[f0, f1, f2, f3, f4] = true ∧ f0.type = 3 ∧ f1.type = 3 ∧ f2.type = 3 ∧ f3.type = 3 ∧ f4.type = 3 :=
    ⟨_, _, _, _, _, Tryd.underlying24, by kernel_rfl, rfl, rfl, rfl, rfl, rfl⟩
  obtain ⟨f0, f1, f2, f3, f4, hs, hone, t0, t1, t2, t3, t4⟩ := hst
  obtain ⟨xs, n, _, _, _, hlen, hff⟩ := DataW.trod_struct hs hf
  obtain ⟨o0, k0⟩ := hone_of hone 0 f0 rfl
  obtain ⟨o1, k1⟩ := hone_of hone 1 f1 rfl
  obtain ⟨o2, k2⟩ := hone_of hone 2 f2 rfl
  obtain ⟨o3, k3⟩ := hone_of hone 3 f3 rfl
  obtain ⟨o4, k4⟩ := hone_of hone 4 f4 rfl
  have h0 := hff 0 f0 rfl
  rw [t0] at k0 h0
  have h1 := hff 1 f1 rfl
  rw [t1] at k1 h1
  have h2 := hff 2 f2 rfl
  rw [t2] at k2 h2
  have h3 := hff 3 f3 rfl
  rw [t3] at k3 h3
  have h4 := hff 4 f4 rfl
  rw [t4] at k4 h4
  match xs, hlen with
  | [x0, x1, x2, x3, x4], _ =>
  obtain ⟨z0, q0, _, w0⟩ := DataW.trod_int Tryd.underlying3 (show DataW.trod enc Tryd.prog W 0 (fun _ => true) true n 3 [c0] = some x0 by simpa [o0, k0] using h0)
  obtain ⟨z1, q1, _, w1⟩ := DataW.trod_int Tryd.underlying3 (show DataW.trod enc Tryd.prog W 0 (fun _ => true) true n 3 [c1] = some x1 by simpa [o1, k1] using h1)
  obtain ⟨z2, q2, _, w2⟩ := DataW.trod_int Tryd.underlying3 (show DataW.trod enc Tryd.prog W 0 (fun _ => true) true n 3 [c2] = some x2 by simpa [o2, k2] using h2)
  obtain ⟨z3, q3, _, w3⟩ := DataW.trod_int Tryd.underlying3 (show DataW.trod enc Tryd.prog W 0 (fun _ => true) true n 3 [c3] = some x3 by simpa [o3, k3] using h3)
  obtain ⟨z4, q4, _, w4⟩ := DataW.trod_int Tryd.underlying3 (show DataW.trod enc Tryd.prog W 0 (fun _ => true) true n 3 [c4] = some x4 by simpa [o4, k4] using h4)
  simp at q0 q1 q2 q3 q4
  subst q0; subst q1; subst q2; subst q3; subst q4
  exact ⟨⟨z0, z1, z2, z3, z4⟩, rfl, i64_rng w0, i64_rng w1, i64_rng w2, i64_rng w3, i64_rng w4⟩
set_option maxRecDepth 100000 in
theorem open_q {r : Reach} {b0 : Nat} {v : Value} (hv : Value.okWide Tryd.prog W r b0 26 v) (h : DataW.Trod enc Tryd.prog W 0 (fun _ => true) true 26 v d ps) : ∃ g : Gm, v = g.val ∧ g.I := by
  have hst : ∃ f0 f1 f2 f3 f4, Tryd.prog.underlying 26 = some (.struct #[f0, f1, f2, f3, f4]) ∧ Tryd.prog.cellsOf 26 = 9 ∧ Tryd.prog.cellsOf 3 = 1 ∧ Tryd.prog.cellsOf 24 = 5 ∧ f0.type = 3 ∧ f1.type = 3 ∧ f2.type = 3 ∧ f3.type = 3 ∧ f4.type = 24 ∧ f0.offset = 0 ∧ f1.offset = 1 ∧ f2.offset = 2 ∧ f3.offset = 3 ∧ f4.offset = 4 :=
    ⟨_, _, _, _, _, Tryd.underlying26, by kernel_rfl, by kernel_rfl, by kernel_rfl, rfl, rfl, rfl, rfl, rfl, rfl, rfl, rfl, rfl, rfl⟩
  obtain ⟨f0, f1, f2, f3, f4, hs, hc, ci, cm, t0, t1, t2, t3, t4, o0, o1, o2, o3, o4⟩ := hst
  obtain ⟨cs, rfl, hsz⟩ := okWide_struct hs hv
  obtain ⟨c0, c1, c2, c3, c4, c5, c6, c7, c8, rfl⟩ : ∃ c0 c1 c2 c3 c4 c5 c6 c7 c8, cs = #[c0, c1, c2, c3, c4, c5, c6, c7, c8] := by
    have h5 := hsz.trans hc
    obtain ⟨l⟩ := cs
    match l, h5 with
    | [c0, c1, c2, c3, c4, c5, c6, c7, c8], _ => exact ⟨c0, c1, c2, c3, c4, c5, c6, c7, c8, rfl⟩
  obtain ⟨fuel, hf⟩ := h
  obtain ⟨xs, n, _, _, _, hlen, hff⟩ := DataW.trod_struct hs hf
  have h0 := hff 0 f0 rfl
  rw [t0, ci] at h0
  have h1 := hff 1 f1 rfl
  rw [t1, ci] at h1
  have h2 := hff 2 f2 rfl
  rw [t2, ci] at h2
  have h3 := hff 3 f3 rfl
  rw [t3, ci] at h3
  have h4 := hff 4 f4 rfl
  rw [t4, cm] at h4
  match xs, hlen with
  | [x0, x1, x2, x3, x4], _ =>
  obtain ⟨z0, q0, _, w0⟩ := DataW.trod_int Tryd.underlying3 (show DataW.trod enc Tryd.prog W 0 (fun _ => true) true n 3 [c0] = some x0 by simpa [Value.cells, o0] using h0)
  obtain ⟨z1, q1, _, w1⟩ := DataW.trod_int Tryd.underlying3 (show DataW.trod enc Tryd.prog W 0 (fun _ => true) true n 3 [c1] = some x1 by simpa [Value.cells, o1] using h1)
  obtain ⟨z2, q2, _, w2⟩ := DataW.trod_int Tryd.underlying3 (show DataW.trod enc Tryd.prog W 0 (fun _ => true) true n 3 [c2] = some x2 by simpa [Value.cells, o2] using h2)
  obtain ⟨z3, q3, _, w3⟩ := DataW.trod_int Tryd.underlying3 (show DataW.trod enc Tryd.prog W 0 (fun _ => true) true n 3 [c3] = some x3 by simpa [Value.cells, o3] using h3)
  obtain ⟨m, q4, hm⟩ := ints5 (show DataW.trod enc Tryd.prog W 0 (fun _ => true) true n 24 [c4, c5, c6, c7, c8] = some x4 by simpa [Value.cells, o4] using h4)
  simp at q0 q1 q2 q3 q4
  obtain ⟨rfl, rfl, rfl, rfl, rfl⟩ := q4
  subst q0; subst q1; subst q2; subst q3
  exact ⟨⟨z0, z1, z2, z3, m⟩, rfl, i64_rng w0, i64_rng w1, i64_rng w2, i64_rng w3, hm⟩
end
end Go.Proofs.YtmegpbejknmjbaaDoor.Ar
