/- The walk of the law CrcAdds: Add and Sum answer as the document's answer does. -/
import Derived.Test.YtkpdifepecpagaaDoorCrcWakes
import Derived.Test.YtkpdifepecpagaaDoorCrcRef
import Derived.Test.YtkpdifepecpagaaDoorArgs
namespace Go.Proofs.YtkpdifepecpagaaDoor.Pk
open Go.RowKit Go.Proofs.YtkpdifepecpagaaDoor.Ar Go.Proofs.YtkpdifepecpagaaDoor.Crc
set_option linter.unusedVariables false

set_option maxHeartbeats 1600000 in
theorem law_CrcAdds (s : Int) (a : Option Addr) (n c : Nat) (l : List Int) (w : World) (ht : Tab w) (hs : 0 ≤ s ∧ s ≤ 4294967295) (h : ArgB w a n c l) :
    Calls Tryd.prog 3 #[.int .u32 s, .slice a n c] w fun e w' => e = .returned (.bool true) ∧ Below w.heap.size w w' := by
  obtain ⟨hr, hnc, hc, hB⟩ := h
  obtain ⟨S, rfl⟩ := Int.eq_ofNat_of_zero_le hs.1
  have HB : Hid (Bytes l) := hB
  have HR := Lib.hid hr
  have HT := Lib.hid ht
  clear hB hr ht
  go_enter Tryd.func3, Tryd.ntmps3
  go_wp2_with fail
  refine (wakes_any w HT.out).mono ?_
  rintro e w1 ⟨rfl, hb⟩
  have HR1 := Lib.hid (HR.out.below hb)
  have HT1 := Lib.hid (HT.out.next hb)
  go_wp2_with fail
  refine (add_any a n c S l w1 w.heap.size HR1.out (by omega) HB.out (by omega) HT1.out).mono ?_
  rintro e w2 ⟨rfl, rfl⟩
  go_wp2_with fail
  refine (refAdd_any a n c S l w1 w.heap.size HR1.out (by omega) HB.out (by omega)).mono ?_
  rintro e w2 ⟨rfl, rfl⟩
  go_wp2_with fail
  refine (sum_any a n c l w1 w.heap.size HR1.out (by omega) HB.out HT1.out).mono ?_
  rintro e w2 ⟨rfl, rfl⟩
  go_wp2_with fail
  refine (refSum_any a n c l w1 w.heap.size HR1.out (by omega) HB.out).mono ?_
  rintro e w2 ⟨rfl, rfl⟩
  go_wp2
  go_ret
  exact ⟨rfl, hb⟩
end Go.Proofs.YtkpdifepecpagaaDoor.Pk
