/- The landed within, free and led of package chain. -/
import Derived.Test.YtcicpgiljceioaaZStOpenP
import Derived.BigQuiet
import Derived.Deep.QuietTactic
namespace Go.Proofs.Ytcicpgiljceioaa.Pk
open Go.RowKit
set_option linter.unusedVariables false
attribute [local go_sem] Oper.semAt_some
theorem within_any {x a b : Int} (w : World) : Calls Try.prog 75 #[.int .i64 x, .int .i64 a, .int .i64 b] w fun e w' => e = .returned (.bool (decide (a ≤ x ∧ x ≤ b))) ∧ w' = w := by
  by_cases h0 : a ≤ x
  · have b1 : decide (a ≤ x) = true := decide_eq_true h0
    by_cases h1 : x ≤ b
    · have b2 : decide (x ≤ b) = true := decide_eq_true h1
      have HG : Hid (decide (a ≤ x ∧ x ≤ b) = true) := Lib.hid (decide_eq_true ⟨h0, h1⟩)
      rw [HG.out]
      clear h0 h1
      go_enter Try.func75, Try.ntmps75
      go_wp2
      go_ret
      exact ⟨rfl, rfl⟩
    · have b2 : decide (x ≤ b) = false := decide_eq_false h1
      have HG : Hid (decide (a ≤ x ∧ x ≤ b) = false) := Lib.hid (decide_eq_false (fun h => h1 h.2))
      rw [HG.out]
      clear h0 h1
      go_enter Try.func75, Try.ntmps75
      go_wp2
      go_ret
      exact ⟨rfl, rfl⟩
  · have b1 : decide (a ≤ x) = false := decide_eq_false h0
    have HG : Hid (decide (a ≤ x ∧ x ≤ b) = false) := Lib.hid (decide_eq_false (fun h => h0 h.1))
    rw [HG.out]
    clear h0
    go_enter Try.func75, Try.ntmps75
    go_wp2
    go_ret
    exact ⟨rfl, rfl⟩
theorem free_any {n s d x : Int} (w : World) : Calls Try.prog 74 #[.agg #[.int .i64 n, .int .i64 s, .int .i64 d, .int .i64 x]] w fun e w' => e = .returned (.bool (decide (d = -1 ∧ x = 0))) ∧ Below w.heap.size w w' := by
  by_cases h0 : d = -1
  · have b1 : (d == -1) = true := by simp [h0]
    by_cases h1 : x = 0
    · have b2 : (x == 0) = true := by simp [h1]
      have HG : Hid (decide (d = -1 ∧ x = 0) = true) := Lib.hid (decide_eq_true ⟨h0, h1⟩)
      rw [HG.out]
      clear h0 h1
      go_enter Try.func74, Try.ntmps74
      go_wp2
      go_ret
      exact ⟨rfl, (Below.refl _ w).alloc (Nat.le_refl _) _⟩
    · have b2 : (x == 0) = false := by simp [h1]
      have HG : Hid (decide (d = -1 ∧ x = 0) = false) := Lib.hid (decide_eq_false (fun h => h1 h.2))
      rw [HG.out]
      clear h0 h1
      go_enter Try.func74, Try.ntmps74
      go_wp2
      go_ret
      exact ⟨rfl, (Below.refl _ w).alloc (Nat.le_refl _) _⟩
  · have b1 : (d == -1) = false := by simp [h0]
    have HG : Hid (decide (d = -1 ∧ x = 0) = false) := Lib.hid (decide_eq_false (fun h => h0 h.1))
    rw [HG.out]
    clear h0
    go_enter Try.func74, Try.ntmps74
    go_wp2
    go_ret
    exact ⟨rfl, (Below.refl _ w).alloc (Nat.le_refl _) _⟩
def Led (d x me nn : Int) (m : Nat) : Prop := (0 ≤ d ∧ d ≤ 31) ∧ (1 ≤ x ∧ x ≤ 1099511627776) ∧ (d = me → 0 < m ∧ nn = x)
instance (d x me nn : Int) (m : Nat) : Decidable (Led d x me nn m) := by unfold Led; exact inferInstance
set_option maxHeartbeats 4000000 in
theorem led_any {n s d x me nn : Int} (A : Option Addr) (m c : Nat) (w : World) (hm : m ≤ 4398046511104) (hmc : m ≤ c)
    (hc : 0 < m → ∃ b off, A = some ⟨b, off, none⟩ ∧ b < w.heap.size ∧ w.cell? ⟨b, off, none⟩ = some (.int .i64 nn)) :
    Calls Try.prog 73 #[.agg #[.int .i64 n, .int .i64 s, .int .i64 d, .int .i64 x], .int .i64 me, .slice A m c] w fun e w' => e = .returned (.bool (decide (Led d x me nn m))) ∧ Below w.heap.size w w' := by
  obtain ⟨r, hr⟩ : ∃ r, r = decide (Led d x me nn m) := ⟨_, rfl⟩
  rw [← hr]
  have HR := Lib.hid hr
  clear hr
  have HW1 := Lib.hid (fun w => within_any (x := d) (a := 0) (b := 31) w)
  have HW2 := Lib.hid (fun w => within_any (x := x) (a := 1) (b := 1099511627776) w)
  have HC := Lib.hid hc
  clear hc
  by_cases h1 : 0 ≤ d ∧ d ≤ 31
  case neg =>
    have hrf : r = false := by rw [HR.out]; exact decide_eq_false (fun h => h1 h.1)
    rw [hrf]
    have HG : Hid (decide (0 ≤ d ∧ d ≤ 31) = false) := Lib.hid (decide_eq_false h1)
    rw [HG.out] at HW1
    clear h1 hrf
    go_enter Try.func73, Try.ntmps73
    go_wp2_with fail
    refine (HW1.out _).mono ?_
    rintro e w2 ⟨rfl, hw⟩
    rw [hw]
    clear hw w2
    go_wp2
    go_ret
    exact ⟨rfl, (Below.refl _ w).alloc (Nat.le_refl _) _⟩
  by_cases h2 : 1 ≤ x ∧ x ≤ 1099511627776
  case neg =>
    have hrf : r = false := by rw [HR.out]; exact decide_eq_false (fun h => h2 h.2.1)
    rw [hrf]
    have HG : Hid (decide (0 ≤ d ∧ d ≤ 31) = true) := Lib.hid (decide_eq_true h1)
    have HG2 : Hid (decide (1 ≤ x ∧ x ≤ 1099511627776) = false) := Lib.hid (decide_eq_false h2)
    rw [HG.out] at HW1
    rw [HG2.out] at HW2
    clear h1 h2 hrf
    go_enter Try.func73, Try.ntmps73
    go_wp2_with fail
    refine (HW1.out _).mono ?_
    rintro e w2 ⟨rfl, hw⟩
    rw [hw]
    clear hw w2
    go_wp2_with fail
    refine (HW2.out _).mono ?_
    rintro e w2 ⟨rfl, hw⟩
    rw [hw]
    clear hw w2
    go_wp2
    go_ret
    exact ⟨rfl, (Below.refl _ w).alloc (Nat.le_refl _) _⟩
  have HG : Hid (decide (0 ≤ d ∧ d ≤ 31) = true) := Lib.hid (decide_eq_true h1)
  have HG2 : Hid (decide (1 ≤ x ∧ x ≤ 1099511627776) = true) := Lib.hid (decide_eq_true h2)
  rw [HG.out] at HW1
  rw [HG2.out] at HW2
  have HS : Hid (r = decide (d = me → 0 < m ∧ nn = x)) := Lib.hid (by
    rw [HR.out]; exact decide_eq_decide.2 ⟨fun h => h.2.2, fun h => ⟨h1, h2, h⟩⟩)
  clear h1 h2
  obtain ⟨p, hp⟩ : ∃ p, p = w.heap.size := ⟨_, rfl⟩
  obtain ⟨W1, hW1⟩ : ∃ W1, W1 = w.alloc (.cells #[.int .i64 n, .int .i64 s, .int .i64 d, .int .i64 x] 57) := ⟨_, rfl⟩
  have HB1 : Hid (Below w.heap.size w W1) := Lib.hid (by rw [hW1]; exact (Below.refl _ w).alloc (Nat.le_refl _) _)
  have k2 : ∀ k, (W1.drewN k).cell? ⟨p, 2, none⟩ = some (.int .i64 d) := fun k => by rw [hW1, hp]; exact (Blk.new w _ _).cell 2
  have k3 : ∀ k, (W1.drewN k).cell? ⟨p, 3, none⟩ = some (.int .i64 x) := fun k => by rw [hW1, hp]; exact (Blk.new w _ _).cell 3
  by_cases h3 : d = me
  case neg =>
    have hrf : r = true := by rw [HS.out]; exact decide_eq_true (fun h => absurd h h3)
    rw [hrf]
    have b3 : (d != me) = true := by simp [h3]
    clear h3 hrf
    go_enter Try.func73, Try.ntmps73
    go_wp2_with fail
    refine (HW1.out _).mono ?_
    rintro e w2 ⟨rfl, hw⟩
    rw [hw]
    clear hw w2
    go_wp2_with fail
    refine (HW2.out _).mono ?_
    rintro e w2 ⟨rfl, hw⟩
    rw [hw]
    clear hw w2
    go_wp2_with fail
    rw [← hW1, ← hp]
    clear hW1 hp
    go_quiet (fail)
    go_wp2
    go_ret
    exact ⟨rfl, below_drewC HB1.out _⟩
  have b3 : (d != me) = false := by simp [h3]
  by_cases h4 : 0 < m
  case neg =>
    have hrf : r = false := by rw [HS.out]; exact decide_eq_false (fun h => h4 (h h3).1)
    rw [hrf]
    have hm0 : m = 0 := by omega
    have b4 : decide ((0 : Int) < (m : Int)) = false := decide_eq_false (by omega)
    clear h3 hrf h4
    go_enter Try.func73, Try.ntmps73
    go_wp2_with fail
    refine (HW1.out _).mono ?_
    rintro e w2 ⟨rfl, hw⟩
    rw [hw]
    clear hw w2
    go_wp2_with fail
    refine (HW2.out _).mono ?_
    rintro e w2 ⟨rfl, hw⟩
    rw [hw]
    clear hw w2
    go_wp2_with fail
    rw [← hW1, ← hp]
    clear hW1 hp
    go_quiet (fail)
    go_wp2
    go_ret
    exact ⟨rfl, below_drewC HB1.out _⟩
  have b4 : decide ((0 : Int) < (m : Int)) = true := decide_eq_true (by omega)
  obtain ⟨b, off, rfl, hb, hcell⟩ := HC.out h4
  have k4 : ∀ k, (W1.drewN k).cell? ⟨b, off, none⟩ = some (.int .i64 nn) := fun k => (HB1.out.cell (p := ⟨b, off, none⟩) hb).trans hcell
  clear hcell hb
  by_cases h5 : nn = x
  case neg =>
    have hrf : r = false := by rw [HS.out]; exact decide_eq_false (fun h => h5 (h h3).2)
    rw [hrf]
    have b5 : (nn == x) = false := by simp [h5]
    clear h3 hrf h5
    go_enter Try.func73, Try.ntmps73
    go_wp2_with fail
    refine (HW1.out _).mono ?_
    rintro e w2 ⟨rfl, hw⟩
    rw [hw]
    clear hw w2
    go_wp2_with fail
    refine (HW2.out _).mono ?_
    rintro e w2 ⟨rfl, hw⟩
    rw [hw]
    clear hw w2
    go_wp2_with fail
    rw [← hW1, ← hp]
    clear hW1 hp
    go_quiet (fail)
    go_wp2
    go_ret
    exact ⟨rfl, below_drewC HB1.out _⟩
  have hrf : r = true := by rw [HS.out]; exact decide_eq_true (fun _ => ⟨h4, h5⟩)
  rw [hrf]
  have b5 : (nn == x) = true := by simp [h5]
  clear h3 hrf h5
  go_enter Try.func73, Try.ntmps73
  go_wp2_with fail
  refine (HW1.out _).mono ?_
  rintro e w2 ⟨rfl, hw⟩
  rw [hw]
  clear hw w2
  go_wp2_with fail
  refine (HW2.out _).mono ?_
  rintro e w2 ⟨rfl, hw⟩
  rw [hw]
  clear hw w2
  go_wp2_with fail
  rw [← hW1, ← hp]
  clear hW1 hp
  go_quiet (fail)
  go_wp2
  go_ret
  exact ⟨rfl, below_drewC HB1.out _⟩
end Go.Proofs.Ytcicpgiljceioaa.Pk
