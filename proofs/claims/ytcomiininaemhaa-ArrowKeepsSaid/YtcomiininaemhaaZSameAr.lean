/- The walk of the statements' own 'same': two lists of numbers are the same. -/
import Derived.Test.YtcomiininaemhaaZMem
import Derived.Test.YtcomiininaemhaaProg
import Derived.LoopTactic
import Derived.Outline
import Derived.Lib.Hide
import Derived.Deep.QuietTactic
import Derived.BigQuiet
namespace Go.Proofs.Ytcomiininaemhaa.Pk
open Go.RowKit
set_option linter.unusedVariables false

/-- The first k numbers of both are the same. -/
def Alike (l r : List Int) (k : Nat) : Prop := ∀ j, j < k → l.getD j 0 = r.getD j 0
theorem alike_all {l r : List Int} (h : Alike l r l.length) (hl : l.length = r.length) : l = r := by
  apply List.ext_getElem hl
  intro i h1 h2
  have := h i h1
  rw [List.getD_eq_getElem?_getD, List.getD_eq_getElem?_getD, List.getElem?_eq_getElem h1, List.getElem?_eq_getElem h2] at this
  simpa using this
theorem alike_not {l r : List Int} {k : Nat} (h : l.getD k 0 ≠ r.getD k 0) : decide (l = r) = false := by
  simp only [decide_eq_false_iff_not]
  intro e; exact h (by rw [e])
theorem alike_succ {l r : List Int} {k : Nat} (h : Alike l r k) (e : l.getD k 0 = r.getD k 0) : Alike l r (k + 1) := by
  intro j hj
  rcases Nat.lt_or_ge j k with h1 | h1
  · exact h j h1
  · obtain rfl : j = k := by omega
    exact e
theorem alike_len {l r : List Int} (h : l.length ≠ r.length) : decide (l = r) = false := by
  simp only [decide_eq_false_iff_not]
  intro e; exact h (by rw [e])

set_option maxHeartbeats 800000 in
theorem same_any (A A' : Option Addr) (n c n' c' : Nat) (l r : List Int) (w : World) (B B' : Nat) (hl : Reads w B 1 A n (nms l)) (hr : Reads w B' 1 A' n' (nms r)) (hn : n ≤ 4611686018427387904) :
    Calls Try.prog 16 #[.slice A n c, .slice A' n' c'] w fun e w' => e = .returned (.bool (decide (l = r))) ∧ ∃ k, w' = w.drewN k := by
  have HL : Hid (l.length = n) := Lib.hid (by have := hl.1; simpa [nms] using this)
  have HR : Hid (r.length = n') := Lib.hid (by have := hr.1; simpa [nms] using this)
  have RL := Lib.hid hl
  have RR := Lib.hid hr
  clear hl hr
  by_cases hnn : n = n'
  · subst hnn
    go_enter Try.func16, Try.ntmps16
    go_wp2
    go_loopw [5, 13] (fun i j wr => ∃ (k q : Nat), j = .int .i64 k ∧ k ≤ n ∧ Alike l r k ∧ wr = w.drewN q) (fun _ j _ => n - (intOf j).toNat)
    case atStart => exact ⟨0, 0, rfl, by omega, fun j hj => by omega, rfl⟩
    case round =>
      obtain ⟨k, q, rfl, hk, ht, rfl⟩ := hrel
      have HT := Lib.hid ht
      clear ht
      by_cases hlt : k < n
      · obtain ⟨b, off, rfl, hbb, hc⟩ := RL.out.i64 (by omega)
        obtain ⟨b', off', rfl, hbb', hc'⟩ := RR.out.i64 (by omega)
        have hx := hc k hlt
        have hy := hc' k hlt
        clear hc hc'
        obtain ⟨x, hxx⟩ : ∃ x, x = l.getD k 0 := ⟨_, rfl⟩
        obtain ⟨y, hyy⟩ : ∃ y, y = r.getD k 0 := ⟨_, rfl⟩
        rw [← hxx] at hx
        rw [← hyy] at hy
        have HX := Lib.hid hxx
        have HY := Lib.hid hyy
        clear hxx hyy
        by_cases hxy : x = y
        · have HE : Hid (l.getD k 0 = r.getD k 0) := by rw [← HX.out, ← HY.out, hxy]; rfl
          have hne : (y != y) = false := by simp
          subst hxy
          go_wp2
          go_quiet (fail)
          go_wp2
          go_roundw
          case rel => exact ⟨k + 1, _, by go_num, by omega, alike_succ HT.out HE.out, rfl⟩
          case measure => simp [intOf]; omega
        · have HE : Hid (decide (l = r) = false) := alike_not (k := k) (by rw [← HX.out, ← HY.out]; exact hxy)
          have hne : (x != y) = true := by simp [hxy]
          go_wp2
          go_quiet (fail)
          go_wp2
          go_ret
          exact ⟨by rw [HE.out]; rfl, _, World.drewN_drewN _ _ _⟩
      · have HE : Hid (decide (l = r) = true) := by
          have : k = n := by omega
          subst this
          rw [decide_eq_true_eq]
          exact alike_all (by rw [HL.out]; exact HT.out) (by rw [HL.out, HR.out])
        go_wp2
        go_ret
        exact ⟨by rw [HE.out]; rfl, _, rfl⟩
  · have hne : ((n : Int) == (n' : Int)) = false := by simp; omega
    have hne : ((n : Int) != (n' : Int)) = true := by simp; omega
    have HE : Hid (decide (l = r) = false) := alike_len (by rw [HL.out, HR.out]; exact hnn)
    go_enter Try.func16, Try.ntmps16
    go_wp2
    go_ret
    exact ⟨by rw [HE.out]; rfl, 0, rfl⟩
theorem same_refl (A A' : Option Addr) (n c n' c' : Nat) (l : List Int) (w : World) (B B' : Nat) (hl : Reads w B 1 A n (nms l)) (hr : Reads w B' 1 A' n' (nms l)) (hn : n ≤ 4611686018427387904) :
    Calls Try.prog 16 #[.slice A n c, .slice A' n' c'] w fun e w' => e = .returned (.bool true) ∧ ∃ k, w' = w.drewN k :=
  (same_any A A' n c n' c' l l w B B' hl hr hn).mono fun e w' ⟨h1, h2⟩ => ⟨by rw [h1, decide_eq_true (rfl : l = l)], h2⟩
end Go.Proofs.Ytcomiininaemhaa.Pk
