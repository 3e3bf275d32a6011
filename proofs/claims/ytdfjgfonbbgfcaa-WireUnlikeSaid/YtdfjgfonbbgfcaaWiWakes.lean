/- The law's own 'wakes'. -/
import Derived.Test.YtdfjgfonbbgfcaaWiSpec
import Derived.Test.YtdfjgfonbbgfcaaSameWi
import Derived.Test.YtdfjgfonbbgfcaaCut
namespace Go.Proofs.Ytdfjgfonbbgfcaa.Pk
open Go.RowKit
set_option linter.unusedVariables false
theorem wake_bytes : (Mg.put ⟨1, 2, 3, 300, 0⟩) = [1, 2, 3, 172, 2] := by decide
set_option maxHeartbeats 1600000 in
theorem wakes_any (putC : PutC) (w : World) : Calls Try.prog 9 #[] w fun e w' => e = .returned (.bool true) ∧ Below w.heap.size w w' := by
  have HP := Lib.hid (putC none 0 0 [] ⟨1, 2, 3, 300, 0⟩ w Reads.none_ (Nat.le_refl _) (fun c hc => by cases hc) (by omega) ⟨by decide, by decide, by decide, by decide, by decide⟩)
  go_enter Try.func9, Try.ntmps9
  go_wp2_with fail
  refine HP.out.mono ?_
  rintro e w1 ⟨v1, rfl, hown, hb⟩
  rw [wake_bytes, List.nil_append] at hown
  obtain ⟨A1, n1, c1, rfl⟩ := own_slice hown
  obtain rfl : n1 = 5 := by have := (own_len hown).1; simpa using this.symm
  have HO := Lib.hid hown
  have HB := Lib.hid hb
  have hs := hb.size
  clear hown hb HP
  go_wp2_with fail
  obtain ⟨w2, hw2⟩ : ∃ w2, w2 = w1.alloc (.cells #[.int .u8 1, .int .u8 2, .int .u8 3, .int .u8 172, .int .u8 2] 5) := ⟨_, rfl⟩
  have hb2 : Below w1.heap.size w1 w2 := hw2 ▸ (Below.refl _ _).alloc (Nat.le_refl _) _
  have hrd : Reads w2 w2.heap.size 1 (some ⟨w1.heap.size, 0, none⟩) 5 (bts [1, 2, 3, 172, 2]) := by
    rw [hw2]
    exact reads_new w1 _ _ _ 5 (bts [1, 2, 3, 172, 2]) rfl rfl (by simp)
  rw [← hw2]
  have HB2 := Lib.hid (HB.out.trans (hb2.mono hs))
  have HO2 := Lib.hid (own_reads (HO.out.keep hb2 (Nat.le_refl _)))
  clear hw2 hb2
  refine (same_any A1 (some ⟨w1.heap.size, 0, none⟩) 5 c1 5 5 [1, 2, 3, 172, 2] [1, 2, 3, 172, 2] w2 _ _ HO2.out hrd (by omega)).mono ?_
  rintro e w3 ⟨rfl, k, rfl⟩
  go_wp2
  go_ret
  exact ⟨rfl, below_drewN HB2.out _⟩
end Go.Proofs.Ytdfjgfonbbgfcaa.Pk
