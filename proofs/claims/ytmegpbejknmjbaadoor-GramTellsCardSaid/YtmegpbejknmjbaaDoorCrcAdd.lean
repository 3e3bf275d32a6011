/- The contract of crc.Sum. -/
import Derived.Test.YtmegpbejknmjbaaDoorCrcAdd0
namespace Go.Proofs.YtmegpbejknmjbaaDoor.Pk
open Go.RowKit Go.Proofs.YtmegpbejknmjbaaDoor.Crc
set_option linter.unusedVariables false


set_option maxHeartbeats 400000 in
theorem sum_any (A : Option Addr) (n c : Nat) (l : List Int) (w : World) (B : Nat) (hl : Reads w B 1 A n (bts l)) (hn : n ≤ 9223372036854775807) (hby : Bytes l) (htab : Tab w) :
    Calls Tryd.prog 37 #[.slice A n c] w fun e w' => e = .returned (.int .u32 (crc 0 l : Nat)) ∧ w = w' := by
  have HC : Hid (Calls Tryd.prog 41 #[.int .u32 0, .slice A n c] w fun e w' => e = .returned (.int .u32 (crc 0 l : Nat)) ∧ w = w') := add_any A n c 0 l w B hl hn hby (by omega) htab
  clear hl hby htab
  go_enter Tryd.func37, Tryd.ntmps37
  go_wp2_with (go_at_call 41; refine HC.out.mono ?_; rintro e w' ⟨rfl, rfl⟩)
  go_ret
  exact ⟨rfl, rfl⟩
end Go.Proofs.YtmegpbejknmjbaaDoor.Pk
