/- The landed gram.sumOf: the sum of bytes in four bytes, the lowest first. -/
import Derived.Test.YtmegpbejknmjbaaDoorGmSpec
import Derived.Test.YtmegpbejknmjbaaDoorCut
import Derived.Deep.RegionHeld3
import Derived.Deep.DeepMust
import Derived.BigRegion
namespace Go.Proofs.YtmegpbejknmjbaaDoor.Pk
open Go.RowKit Go.Proofs.YtmegpbejknmjbaaDoor.Crc
set_option linter.unusedVariables false
theorem le4_cells {z : Nat} (hz : z < 4294967296) : (#[.int .u8 ((z : Int) % 256), .int .u8 ((z : Int) / 256 % 256), .int .u8 ((z : Int) / 65536 % 256), .int .u8 ((z : Int) / 16777216)] : Array Value).toList = bts (Fr.le4 z) := by
  show [Value.int .u8 _, Value.int .u8 _, Value.int .u8 _, Value.int .u8 _] = [Value.int .u8 _, Value.int .u8 _, Value.int .u8 _, Value.int .u8 _]
  congr 1
  congr 1
  congr 1
  congr 1
  congr 1
  omega
set_option maxRecDepth 100000 in
set_option maxHeartbeats 1600000 in
theorem sumOf_any (A : Option Addr) (n c : Nat) (l : List Int) (w : World) (B : Nat) (htab : Tab w) (hl : Reads w B 1 A n (bts l)) (hn : n ≤ 4611686018427387904) (hb : isB l) :
    Calls Tryd.prog 21 #[.slice A n c] w fun e w' => ∃ v, e = .returned v ∧ OwnB w' w.heap.size v (Fr.le4 (crc 0 l)) ∧ Below w.heap.size w w' := by
  have HS := Lib.hid (sum_any A n c l w B hl (by omega) hb htab)
  obtain ⟨z, hz⟩ : ∃ z, z = crc 0 l := ⟨_, rfl⟩
  have hzl : z < 4294967296 := by rw [hz]; exact crc_lt hb (by omega)
  rw [← hz] at HS ⊢
  clear hz hl htab hb
  have HC := Lib.hid (le4_cells hzl)
  go_enter Tryd.func21, Tryd.ntmps21
  go_wp2_with fail
  refine HS.out.mono ?_
  rintro e w1 ⟨rfl, hw⟩
  rw [← hw]
  clear hw w1
  go_wp2_with fail
  go_ret
  exact ⟨_, rfl, OwnB.lit (l := Fr.le4 z) HC.out (Nat.le_refl _) (by show 4 ≤ _; omega), (Below.refl _ _).alloc (Nat.le_refl _) _⟩
end Go.Proofs.YtmegpbejknmjbaaDoor.Pk
