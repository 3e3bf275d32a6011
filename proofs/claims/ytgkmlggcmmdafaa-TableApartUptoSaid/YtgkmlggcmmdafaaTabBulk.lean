/- How long a script is, against the bulk of the datum that it reads as. -/
import Derived.Test.YtgkmlggcmmdafaaTabArgs
namespace Go.Proofs.Ytgkmlggcmmdafaa.Ar
open Go.ChangeShapes Go.WideShapes Go.ChangeAt Go.RowKit Go.Proofs.Ytgkmlggcmmdafaa.Pk Go.Deep
set_option linter.unusedVariables false
theorem bulk_c {H : Type} {enc : TypeId × Value → H} {W : World} {d : DataW H} {ps : List MemPlace} {a : Option Addr} {n c : Nat} (h : DataW.Trod enc Try.prog W 0 (fun _ => true) true 22 (.slice a n c) d ps) : n ≤ Rows.uptoBulk d := by
  obtain ⟨fuel, hf⟩ := h
  have hst : ∃ fs, Try.prog.underlying 28 = some (.struct fs) ∧ fs.size = 3 ∧ oneCellFields Try.prog fs = true ∧ (fs[0]?).map (·.type) = some 3 ∧ (fs[1]?).map (·.type) = some 3 ∧ (fs[2]?).map (·.type) = some 9 :=
    ⟨_, Try.underlying28, by kernel_rfl, by kernel_rfl, by kernel_rfl, by kernel_rfl, by kernel_rfl⟩
  obtain ⟨fs, hs, h3, hone, t0, t1, t2⟩ := hst
  rcases open_fields Try.underlying22 hs hone (by rw [cellsOp, h3]) hf with hcs | ⟨x, len, cap, m, els, rest, hcs, hl, hmm, hd, he, hr, hall⟩
  · simp [Value.cells] at hcs
    omega
  · simp [Value.cells] at hcs
    obtain ⟨rfl, rfl, rfl⟩ := hcs
    have hb := bulk_slice els rest
    have hd' : d = .slice els rest := hd
    rw [hd']
    omega
end Go.Proofs.Ytgkmlggcmmdafaa.Ar
