/- The landed Valid: whether a message can be. -/
import Derived.Test.YtneijohbmphheaaWiRef
import Derived.Test.YtneijohbmphheaaWiValD
namespace Go.Proofs.Ytneijohbmphheaa.Pk
open Go.RowKit
set_option linter.unusedVariables false
theorem be_bool {k o n u v : Int} {t b : Bool} (ht : t = decide (Mg.Be ⟨k, o, n, u, v⟩)) (h : b = true ↔ (1 ≤ k ∧ k ≤ 4 ∧ 0 ≤ o ∧ o ≤ 7 ∧ 0 ≤ n ∧ n ≤ 31 ∧ 1 ≤ u ∧ u ≤ 1099511627776 ∧ (k = 4 → 0 ≤ v ∧ v ≤ 31) ∧ (k ≠ 4 → v = 0))) : Ending.returned (Value.bool b) = Ending.returned (Value.bool t) := by
  have e : b = t := by
    rw [ht]
    cases b
    · symm
      refine decide_eq_false (fun hb => ?_)
      exact absurd (h.2 hb) (by simp)
    · symm
      exact decide_eq_true (h.1 rfl)
  rw [e]
set_option maxHeartbeats 4000000 in
theorem validC : ValidC := by
  intro m w hm
  obtain ⟨k, o, n, u, v⟩ := m
  obtain ⟨⟨ik, jk⟩, ⟨io, jo⟩, ⟨in_, jn⟩, ⟨iu, ju⟩, ⟨iv, jv⟩⟩ := hm
  simp only at ik jk io jo in_ jn iu ju iv jv
  obtain ⟨t, ht⟩ : ∃ t, t = decide (Mg.Be ⟨k, o, n, u, v⟩) := ⟨_, rfl⟩
  rw [← ht]
  have HT := Lib.hid ht
  clear ht
  unfold Mg.val
  simp only
  by_cases hk : k = 4
  case pos =>
    have tk : (k == 4) = true := by simpa using hk
    have HK := Lib.hid hk
    clear hk
    go_enter Try.func23, Try.ntmps23
    go_wp2
    all_goals
      go_ret
      exact ⟨be_bool HT.out (by have := HK.out; simp; omega), (Below.refl _ w).alloc (Nat.le_refl _) _⟩
  case neg =>
    have tk : (k == 4) = false := by simpa using hk
    have HK := Lib.hid hk
    clear hk
    go_enter Try.func23, Try.ntmps23
    go_wp2
    all_goals
      go_ret
      exact ⟨be_bool HT.out (by have := HK.out; simp; omega), (Below.refl _ w).alloc (Nat.le_refl _) _⟩
end Go.Proofs.Ytneijohbmphheaa.Pk
