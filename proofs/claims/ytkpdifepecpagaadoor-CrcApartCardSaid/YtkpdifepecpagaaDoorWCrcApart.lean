/- The walk of the law CrcApart: unlike sums lead to unlike sums. -/
import Derived.Test.YtkpdifepecpagaaDoorCrcWakes
import Derived.Test.YtkpdifepecpagaaDoorArgs
namespace Go.Proofs.YtkpdifepecpagaaDoor.Pk
open Go.RowKit Go.Proofs.YtkpdifepecpagaaDoor.Ar Go.Proofs.YtkpdifepecpagaaDoor.Crc
set_option linter.unusedVariables false

theorem ints_eq (a b : Nat) : ((a : Int) == (b : Int)) = decide (a = b) := by
  by_cases h : a = b
  · subst h; simp
  · have : ¬ (a : Int) = (b : Int) := by omega
    simp only [h, decide_false, beq_eq_false_iff_ne, ne_eq]; exact this
theorem bool_same (a : Bool) : (a == a) = true := by cases a <;> rfl

set_option maxHeartbeats 1600000 in
theorem law_CrcApart (x y : Int) (a : Option Addr) (n c : Nat) (l : List Int) (w : World) (ht : Tab w) (hx : 0 ≤ x ∧ x ≤ 4294967295) (hy : 0 ≤ y ∧ y ≤ 4294967295) (h : ArgB w a n c l) :
    Calls Tryd.prog 9 #[.int .u32 x, .int .u32 y, .slice a n c] w fun e w' => e = .returned (.bool true) ∧ Below w.heap.size w w' := by
  obtain ⟨hr, hnc, hc, hB⟩ := h
  obtain ⟨X, rfl⟩ := Int.eq_ofNat_of_zero_le hx.1
  obtain ⟨Y, rfl⟩ := Int.eq_ofNat_of_zero_le hy.1
  have HB : Hid (Bytes l) := hB
  have HR := Lib.hid hr
  have HT := Lib.hid ht
  have HA : Hid (crc X l = crc Y l ↔ X = Y) := crc_apart (by omega) (by omega) HB.out
  have hX : X < 4294967296 := by omega
  have hY : Y < 4294967296 := by omega
  clear hB hr ht hx hy
  by_cases hxy : X = Y
  · subst hxy
    go_enter Tryd.func9, Tryd.ntmps9
    go_wp2_with fail
    refine (wakes_any w HT.out).mono ?_
    rintro e w1 ⟨rfl, hb⟩
    have HR1 := Lib.hid (HR.out.below hb)
    have HT1 := Lib.hid (HT.out.next hb)
    go_wp2_with fail
    refine (add_any a n c X l w1 w.heap.size HR1.out (by omega) HB.out (by omega) HT1.out).mono ?_
    rintro e w2 ⟨rfl, rfl⟩
    go_wp2_with fail
    refine (add_any a n c X l w1 w.heap.size HR1.out (by omega) HB.out (by omega) HT1.out).mono ?_
    rintro e w2 ⟨rfl, rfl⟩
    go_wp2
    go_ret
    exact ⟨rfl, hb⟩
  · have e1 : ((X : Int) == (Y : Int)) = false := by rw [ints_eq]; simp [hxy]
    have e2 : (((crc X l : Nat) : Int) == ((crc Y l : Nat) : Int)) = false := by rw [ints_eq]; simp [HA.out, hxy]
    obtain ⟨U, hU⟩ : ∃ u, u = crc X l := ⟨_, rfl⟩
    obtain ⟨V, hV⟩ : ∃ u, u = crc Y l := ⟨_, rfl⟩
    rw [← hU, ← hV] at e2
    have HU := Lib.hid hU
    have HV := Lib.hid hV
    clear hU hV hxy
    go_enter Tryd.func9, Tryd.ntmps9
    go_wp2_with fail
    refine (wakes_any w HT.out).mono ?_
    rintro e w1 ⟨rfl, hb⟩
    have HR1 := Lib.hid (HR.out.below hb)
    have HT1 := Lib.hid (HT.out.next hb)
    go_wp2_with fail
    refine (add_any a n c X l w1 w.heap.size HR1.out (by omega) HB.out (by omega) HT1.out).mono ?_
    rw [← HU.out]
    rintro e w2 ⟨rfl, rfl⟩
    go_wp2_with fail
    refine (add_any a n c Y l w1 w.heap.size HR1.out (by omega) HB.out (by omega) HT1.out).mono ?_
    rw [← HV.out]
    rintro e w2 ⟨rfl, rfl⟩
    go_wp2
    go_ret
    exact ⟨rfl, hb⟩
end Go.Proofs.YtkpdifepecpagaaDoor.Pk
