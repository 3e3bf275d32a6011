/- The walk of the statements' own 'wakes'. -/
import Derived.Test.YtkgkiplidjoamaaPackTake
import Derived.Test.YtkgkiplidjoamaaPackPut
import Derived.Test.YtkgkiplidjoamaaSame
namespace Go.Proofs.Ytkgkiplidjoamaa.Pk
open Go.RowKit
set_option linter.unusedVariables false

theorem w_take : tkv [172, 2, 7] = (300, 2) := by decide
theorem w_put : encs [0, 127, 128, 300] = [0, 127, 128, 1, 172, 2] := by decide


set_option maxHeartbeats 1600000 in
theorem wakes_any (w : World) : Calls Try.prog 11 #[] w fun e w' => e = .returned (.bool true) ∧ Below w.heap.size w w' := by
  go_enter Try.func11, Try.ntmps11
  go_wp2_with fail
  refine (take_any _ 3 3 [172, 2, 7] _ (w.heap.size + 1) (reads_new w _ _ _ 3 (bts [172, 2, 7]) rfl rfl (by omega)) (by unfold isB; decide) (by omega) (by omega)).mono ?_
  rw [w_take]
  rintro e w' ⟨rfl, rfl⟩
  go_wp2_with fail
  refine (put_any none _ 0 0 4 4 [] [0, 127, 128, 300] _ Reads.none_ (reads_at _ _ (by simp) _ _ _ 4 (nms [0, 127, 128, 300]) rfl rfl (by simp)) (by omega) (by omega) (by decide)).mono ?_
  rw [w_put]
  rintro e w1 ⟨v, rfl, hown, hb⟩
  have hb0 : Below w.heap.size w w1 := (((Below.refl _ _).alloc (Nat.le_refl _) _).alloc (by simp) _).trans (hb.mono (by simp; omega))
  obtain ⟨A, c, rfl, hc, hr⟩ := hown.reads
  have hz := hb0.size
  clear hb hown
  go_wp2_with fail
  refine (same_any A _ 6 c 6 6 [0, 127, 128, 1, 172, 2] [0, 127, 128, 1, 172, 2] _ w1.heap.size (w1.heap.size + 1) (hr.alloc (Nat.le_refl _) _) (reads_at _ _ rfl _ _ _ 6 (bts [0, 127, 128, 1, 172, 2]) rfl rfl (by omega)) (by omega)).mono ?_
  rintro e w2 ⟨rfl, k, rfl⟩
  go_wp2_with fail
  go_ret
  exact ⟨rfl, below_drewN (hb0.alloc hz _) _⟩
end Go.Proofs.Ytkgkiplidjoamaa.Pk
