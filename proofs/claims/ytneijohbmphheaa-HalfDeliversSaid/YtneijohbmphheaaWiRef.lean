/- The document's answers for messages: Valid, Put, Fault, Take. -/
import Derived.Test.YtneijohbmphheaaWiVal
import Derived.Test.YtneijohbmphheaaNums
namespace Go.Proofs.Ytneijohbmphheaa.Pk
open Go.RowKit
set_option linter.unusedVariables false
/-- The ways through Valid. -/
theorem be_ways (k o n u v : Int) : k < 1 ∨ (1 ≤ k ∧ 4 < k) ∨ (1 ≤ k ∧ k ≤ 4 ∧ o < 0) ∨ (1 ≤ k ∧ k ≤ 4 ∧ 0 ≤ o ∧ 7 < o) ∨ (1 ≤ k ∧ k ≤ 4 ∧ 0 ≤ o ∧ o ≤ 7 ∧ n < 0) ∨ (1 ≤ k ∧ k ≤ 4 ∧ 0 ≤ o ∧ o ≤ 7 ∧ 0 ≤ n ∧ 31 < n) ∨ (1 ≤ k ∧ k ≤ 4 ∧ 0 ≤ o ∧ o ≤ 7 ∧ 0 ≤ n ∧ n ≤ 31 ∧ u < 1) ∨
    (1 ≤ k ∧ k ≤ 4 ∧ 0 ≤ o ∧ o ≤ 7 ∧ 0 ≤ n ∧ n ≤ 31 ∧ 1 ≤ u ∧ 1099511627776 < u) ∨ (1 ≤ k ∧ k ≤ 4 ∧ 0 ≤ o ∧ o ≤ 7 ∧ 0 ≤ n ∧ n ≤ 31 ∧ 1 ≤ u ∧ u ≤ 1099511627776) := by omega
set_option maxHeartbeats 4000000 in
theorem refvalid_any (m : Mg) (w : World) (hm : m.I) : Calls Try.prog 26 #[m.val] w fun e w' => e = .returned (.bool (decide m.Be)) ∧ Below w.heap.size w w' := by
  obtain ⟨k, o, n, u, v⟩ := m
  obtain ⟨⟨ik, jk⟩, ⟨io, jo⟩, ⟨in_, jn⟩, ⟨iu, ju⟩, ⟨iv, jv⟩⟩ := hm
  simp only at ik jk io jo in_ jn iu ju iv jv
  obtain ⟨t, ht⟩ : ∃ t, t = decide (Mg.Be ⟨k, o, n, u, v⟩) := ⟨_, rfl⟩
  have HF : Hid (¬ Mg.Be ⟨k, o, n, u, v⟩ → t = false) := Lib.hid (fun h => by rw [ht]; exact decide_eq_false h)
  have HY : Hid (Mg.Be ⟨k, o, n, u, v⟩ → t = true) := Lib.hid (fun h => by rw [ht]; exact decide_eq_true h)
  rw [← ht]
  clear ht
  unfold Mg.val
  simp only
  rcases be_ways k o n u v with h1 | ⟨h1, h2⟩ | ⟨h1, h2, h3⟩ | ⟨h1, h2, h3, h4⟩ | ⟨h1, h2, h3, h4, h5⟩ | ⟨h1, h2, h3, h4, h5, h6⟩ | ⟨h1, h2, h3, h4, h5, h6, h7⟩ | ⟨h1, h2, h3, h4, h5, h6, h7, h8⟩ | ⟨h1, h2, h3, h4, h5, h6, h7, h8⟩
  case inr.inr.inr.inr.inr.inr.inr.inr =>
    have b1 : decide (k < 1) = false := by simp; omega
    have b2 : decide (4 < k) = false := by simp; omega
    have b3 : decide (o < 0) = false := by simp; omega
    have b4 : decide (8 ≤ o) = false := by simp; omega
    have b5 : decide (n < 0) = false := by simp; omega
    have b6 : decide (32 ≤ n) = false := by simp; omega
    have b7 : decide (u < 1) = false := by simp; omega
    have b8 : decide (1099511627776 < u) = false := by simp; omega
    by_cases hk : k = 4
    case pos =>
      subst hk
      by_cases hv : 0 ≤ v ∧ v ≤ 31
      case pos =>
        obtain ⟨hv1, hv2⟩ := hv
        obtain rfl := HY.out ⟨h1, h2, h3, h4, h5, h6, h7, h8, fun _ => ⟨hv1, hv2⟩, fun h => absurd rfl h⟩
        have b9 : decide (v < 0) = false := by simp; omega
        have b10 : decide (v < 32) = true := by simp; omega
        have b11 : decide (0 ≤ v) = true := by simp; omega
        go_enter Try.func26, Try.ntmps26
        go_wp2
        go_ret
        exact ⟨rfl, (Below.refl _ w).alloc (Nat.le_refl _) _⟩
      obtain rfl := HF.out (fun h => hv (h.2.2.2.2.2.2.2.2.1 rfl))
      rcases (show (v < 0 ∧ decide (0 ≤ v) = false) ∨ (0 ≤ v ∧ decide (v < 32) = false ∧ decide (0 ≤ v) = true) by simp; omega) with ⟨hv1, hv2⟩ | ⟨hv1, hv2, hv3⟩
      all_goals
        clear hv
        go_enter Try.func26, Try.ntmps26
        go_wp2
        go_ret
        exact ⟨rfl, (Below.refl _ w).alloc (Nat.le_refl _) _⟩
    case neg =>
      have tk : (k == 4) = false := by simpa using hk
      by_cases hv : v = 0
      case pos =>
        obtain rfl := HY.out ⟨h1, h2, h3, h4, h5, h6, h7, h8, fun h => absurd h hk, fun _ => hv⟩
        subst hv
        go_enter Try.func26, Try.ntmps26
        go_wp2
        go_ret
        exact ⟨rfl, (Below.refl _ w).alloc (Nat.le_refl _) _⟩
      obtain rfl := HF.out (fun h => hv (h.2.2.2.2.2.2.2.2.2 hk))
      have tv : (v == 0) = false := by simpa using hv
      go_enter Try.func26, Try.ntmps26
      go_wp2
      go_ret
      exact ⟨rfl, (Below.refl _ w).alloc (Nat.le_refl _) _⟩
  all_goals
    obtain rfl := HF.out (fun h => by have h' := h; unfold Mg.Be at h'; simp only at h'; omega)
    go_enter Try.func26, Try.ntmps26
    go_wp2
    go_ret
    exact ⟨rfl, (Below.refl _ w).alloc (Nat.le_refl _) _⟩
end Go.Proofs.Ytneijohbmphheaa.Pk
