/- The walk of pack.Size: it answers how many bytes the number has. -/
import Derived.Test.YtmegpbejknmjbaaDoorPackMath
import Derived.Test.YtmegpbejknmjbaaDoorProg
import Derived.LoopTactic
import Derived.Outline
import Derived.Lib.Hide
namespace Go.Proofs.YtmegpbejknmjbaaDoor.Pk
open Go.RowKit
set_option linter.unusedVariables false

theorem size_any (x : Int) (w : World) (hx : x ≤ 9223372036854775807) :
    Calls Tryd.prog 40 #[.int .i64 x] w fun e w' => e = .returned (.int .i64 ((enc 8 x).length : Nat)) ∧ w = w' := by
  go_enter Tryd.func40, Tryd.ntmps40
  go_wp2
  go_loop [0, 3] (fun s n => ∃ (y : Int) (k m : Nat), s = .int .i64 y ∧ n = .int .i64 k ∧ k ≤ 9 ∧ k + m = 9 ∧ fits m y ∧ k + (enc m y).length = 1 + (enc 8 x).length) (fun s _ => (intOf s).toNat)
  case atStart => exact ⟨x, 1, 8, rfl, rfl, by omega, by omega, fits_top x hx, rfl⟩
  case round =>
    obtain ⟨y, k, m, rfl, rfl, h0, h1, hf, h2⟩ := hrel
    have H1 := Lib.hid h1
    have H2 := Lib.hid h2
    have HF := Lib.hid hf
    clear h1 h2 hf
    by_cases hy : y < 128
    · go_wp2
      go_ret
      have h2 := H2.out
      rw [enc_lo _ hy] at h2
      simp at h2
      obtain rfl : k = (enc 8 x).length := by omega
      exact ⟨rfl, rfl⟩
    · go_wp2
      go_round
      case rel =>
        obtain ⟨m', hm, hf'⟩ := fits_down HF.out hy
        have h1 := H1.out
        have h2 := H2.out
        subst hm
        rw [enc_hi _ hy] at h2
        simp at h2
        exact ⟨y / 128, k + 1, m', rfl, by go_num, by omega, by omega, hf', by omega⟩
      case measure => simp [intOf]; omega
end Go.Proofs.YtmegpbejknmjbaaDoor.Pk
