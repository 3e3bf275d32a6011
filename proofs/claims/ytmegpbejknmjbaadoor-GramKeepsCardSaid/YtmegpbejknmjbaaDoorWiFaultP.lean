/- The landed Fault: why bytes begin with no number. -/
import Derived.Test.YtmegpbejknmjbaaDoorWiRef3
namespace Go.Proofs.YtmegpbejknmjbaaDoor.Pk
open Go.RowKit
set_option linter.unusedVariables false
set_option maxRecDepth 100000 in
set_option maxHeartbeats 1600000 in
theorem fault_p (A : Option Addr) (n c : Nat) (l : List Int) (w : World) (B : Nat) (h : Reads w B 1 A n (bts l)) (hB : isB l) (hn : n ≤ 4611686018427387904) :
    Calls Tryd.prog 31 #[.slice A n c] w fun e w' => e = .returned (.int .i64 (fault l)) ∧ w' = w := by
  have HL : Hid (l.length = n) := by have := h.1; simp at this; exact this
  have HR := Lib.hid h
  have HB := Lib.hid hB
  have HZ := Lib.hid (high_zero l)
  obtain ⟨q, hq⟩ : ∃ q, q = fault l := ⟨_, rfl⟩
  rw [← hq]
  have HQ := Lib.hid hq
  clear h hB hq
  by_cases h8 : 8 < n
  · obtain rfl : q = 31 := HQ.out.trans (fault_long (by have := HL.out; omega))
    go_enter Tryd.func31, Tryd.ntmps31
    go_wp2
    go_ret
    exact ⟨rfl, rfl⟩
  have t8 : decide ((8 : Int) < (n : Int)) = false := by simp; omega
  go_enter Tryd.func31, Tryd.ntmps31
  go_wp2
  go_loop [4, 10] (fun _ j => ∃ (k : Nat), j = .int .i64 k ∧ k ≤ n ∧ High l k) (fun _ j => n - (intOf j).toNat)
  case atStart => exact ⟨0, rfl, by omega, HZ.out⟩
  case round =>
    clear HZ
    obtain ⟨k, rfl, hk, hh⟩ := hrel
    have HH := Lib.hid hh
    clear hh
    by_cases hlt : k < n
    · obtain ⟨b, off, rfl, hbb, hc⟩ := HR.out.u8 (by omega)
      have hcx := hc k hlt
      have hm := HB.out _ (getD_mem l k (by rw [HL.out]; exact hlt))
      obtain ⟨x, hxx⟩ : ∃ x, x = l.getD k 0 := ⟨_, rfl⟩
      rw [← hxx] at hcx hm
      have HX := Lib.hid hxx
      clear hxx hc
      obtain ⟨hm1, hm2⟩ := hm
      by_cases hx : x < 128
      · obtain rfl : q = 31 := HQ.out.trans (fault_low (i := k) (by have := HL.out; omega) (by rw [← HX.out]; exact hx))
        go_wp2
        go_ret
        exact ⟨rfl, rfl⟩
      · go_wp2
        go_round
        case rel => exact ⟨k + 1, by go_num, by omega, high_succ HH.out (by rw [HL.out]; exact hlt) (by rw [← HX.out]; omega)⟩
        case measure => simp [intOf]; omega
    · obtain rfl : n = k := by omega
      obtain rfl : q = 30 := HQ.out.trans (fault_all (by have := HL.out; omega) (by rw [HL.out]; exact HH.out))
      go_wp2
      go_ret
      exact ⟨rfl, rfl⟩
theorem faultC : FaultC := by
  intro A n c l w B hr hnc hB hn
  refine (fault_p A n c l w B hr hB hn).mono ?_
  rintro e w' ⟨rfl, rfl⟩
  exact ⟨rfl, Below.refl _ _⟩
end Go.Proofs.YtmegpbejknmjbaaDoor.Pk
