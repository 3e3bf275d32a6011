/- The document's answers (fletchref14): Homes. -/
import Derived.Test.YtcicpgiljceioaaZCeOwn
namespace Go.Proofs.Ytcicpgiljceioaa.Pk
open Go.RowKit
set_option linter.unusedVariables false
set_option maxHeartbeats 4000000 in
theorem refhomes_any (Ap : Option Addr) (np cp : Nat) (A : Option Addr) (n c : Nat) (hs : List Int) (w : World) (hr : Reads w w.heap.size 1 A n (nms hs)) (hn : n ≤ 4611686018427387904) (hp : np ≤ 4611686018427387904) :
    Calls Try.prog 13 #[.slice Ap np cp, .slice A n c] w fun e w' => e = .returned (.bool (decide (HomesS np hs))) ∧ Below w.heap.size w w' := by
  have HL : Hid (hs.length = n) := Lib.hid (by have := hr.1; simp [nms] at this; exact this)
  have HR := Lib.hid hr
  clear hr
  by_cases h8 : 1 ≤ n ∧ n ≤ 8
  · obtain ⟨h1, h2⟩ := h8
    go_enter Try.func13, Try.ntmps13
    go_wp2
    go_loop [17] (fun j => ∃ i : Nat, j = .int .i64 i ∧ i ≤ n ∧ ∀ k, k < i → 0 ≤ hs.getD k 0 ∧ hs.getD k 0 < (np : Int)) (fun j => n - (intOf j).toNat)
    case atStart => exact ⟨0, rfl, by omega, fun k hk => by omega⟩
    case round =>
      obtain ⟨i, rfl, hi, hall⟩ := hrel
      have HA := Lib.hid hall
      clear hall
      by_cases hlt : i < n
      · obtain ⟨b, off, rfl, _, hc⟩ := HR.out.i64 (by omega)
        have m0 := hc i hlt
        have HX : Hid (∀ x, x = hs.getD i 0 → x ∈ hs) := Lib.hid (fun x hx => by
          rw [hx, List.getD_eq_getElem?_getD, List.getElem?_eq_getElem (by rw [HL.out]; exact hlt)]
          exact List.getElem_mem _)
        obtain ⟨x, hx⟩ : ∃ x, x = hs.getD i 0 := ⟨_, rfl⟩
        rw [← hx] at m0
        have HM := Lib.hid (HX.out x hx)
        have HXx := Lib.hid hx
        clear hc hx HX
        rcases (show x < 0 ∨ (0 ≤ x ∧ (np : Int) ≤ x) ∨ (0 ≤ x ∧ x < (np : Int)) by omega) with q | ⟨q1, q2⟩ | ⟨q1, q2⟩
        · have HD : Hid (decide (HomesS np hs) = false) := Lib.hid (decide_eq_false (fun hh => by have := hh.2 x HM.out; omega))
          go_wp2
          go_ret
          exact ⟨by rw [HD.out]; rfl, Below.refl _ _⟩
        · have HD : Hid (decide (HomesS np hs) = false) := Lib.hid (decide_eq_false (fun hh => by have := hh.2 x HM.out; omega))
          go_wp2
          go_ret
          exact ⟨by rw [HD.out]; rfl, Below.refl _ _⟩
        · have HN : Hid (∀ k, k < i + 1 → 0 ≤ hs.getD k 0 ∧ hs.getD k 0 < (np : Int)) := Lib.hid (fun k hk => by
            rcases Nat.lt_or_ge k i with hk2 | hk2
            · exact HA.out k hk2
            · have : k = i := by omega
              subst this
              rw [← HXx.out]; exact ⟨q1, q2⟩)
          go_wp2
          go_round
          case rel => exact ⟨i + 1, by go_num, by omega, HN.out⟩
          case measure => simp [intOf]; omega
      · have HD : Hid (decide (HomesS np hs) = true) := Lib.hid (decide_eq_true ⟨by rw [HL.out]; exact ⟨h1, h2⟩, fun h hh => by
          obtain ⟨k, hk⟩ := List.getElem?_of_mem hh
          have h3 := (List.getElem?_eq_some_iff.1 hk).1
          have := HA.out k (by rw [HL.out] at h3; omega)
          rw [List.getD_eq_getElem?_getD, hk] at this
          exact this⟩)
        go_wp2
        go_ret
        exact ⟨by rw [HD.out]; rfl, Below.refl _ _⟩
  · have hd : decide (HomesS np hs) = false := decide_eq_false (fun hh => by have := hh.1; rw [HL.out] at this; omega)
    rw [hd]
    clear hd
    rcases (show n < 1 ∨ (1 ≤ n ∧ 8 < n) by omega) with q | ⟨q1, q2⟩
    · go_enter Try.func13, Try.ntmps13
      go_wp2
      go_ret
      exact ⟨rfl, Below.refl _ _⟩
    · go_enter Try.func13, Try.ntmps13
      go_wp2
      go_ret
      exact ⟨rfl, Below.refl _ _⟩
end Go.Proofs.Ytcicpgiljceioaa.Pk
