/- The walk of the statements' own 'wakes', from a table's promises. -/
import Derived.Test.YtgkmlggcmmdafaaTabWords
namespace Go.Proofs.Ytgkmlggcmmdafaa.Pk
open Go.RowKit Go.Proofs.Ytgkmlggcmmdafaa.Tb
set_option linter.unusedVariables false

set_option maxHeartbeats 1600000 in
theorem wakes_any {Tb : World → Nat → List Rw → (Nat → Prop) → (Nat → Prop) → Prop} (C : TableC Tb) (w : World) : Calls Try.prog 9 #[] w fun e w' => e = .returned (.bool true) ∧ Below w.heap.size w w' := by
  have HC := Lib.hid C
  clear C
  go_enter Try.func9, Try.ntmps9
  go_wp2_with fail
  refine (HC.out.new w).mono ?_
  rintro e w1 ⟨T, S, D, rfl, h1, hb1, hD1⟩
  have H1 := Lib.hid h1
  have HB1 := Lib.hid hb1
  have HS1 : Hid (∀ b, S b → w.heap.size ≤ b) := Lib.hid fun b hb => hD1 b (HC.out.sub h1 b hb)
  clear h1 hb1 hD1
  go_wp2_with fail
  refine (HC.out.put w1 T [] S D 5 _ H1.out (by omega) (by omega) (by simp)).mono ?_
  rintro e w2 ⟨rfl, S2, D2, h2, t2, f2, g2⟩
  have H2 := Lib.hid h2
  have HB2 := Lib.hid (t2.below HB1.out HB1.out.size HS1.out)
  have HS2 : Hid (∀ b, S2 b → w.heap.size ≤ b) := Lib.hid fun b hb => by
    have := HB1.out.size
    rcases f2 b hb with h | h
    · exact HS1.out b h
    · omega
  clear h2 t2 f2 g2
  go_wp2_with fail
  refine (HC.out.put w2 T _ S2 D2 2 _ H2.out (by omega) (by omega) (by simp [ins])).mono ?_
  rintro e w3 ⟨rfl, S3, D3, h3, t3, f3, g3⟩
  have H3 := Lib.hid h3
  have HB3 := Lib.hid (t3.below HB2.out HB2.out.size HS2.out)
  have HS3 : Hid (∀ b, S3 b → w.heap.size ≤ b) := Lib.hid fun b hb => by
    have := HB2.out.size
    rcases f3 b hb with h | h
    · exact HS2.out b h
    · omega
  clear h3 t3 f3 g3
  go_wp2_with fail
  refine (HC.out.put w3 T _ S3 D3 5 _ H3.out (by omega) (by omega) (by simp [ins])).mono ?_
  rintro e w4 ⟨rfl, S4, D4, h4, t4, f4, g4⟩
  have H4 := Lib.hid h4
  have HB4 := Lib.hid (t4.below HB3.out HB3.out.size HS3.out)
  have HS4 : Hid (∀ b, S4 b → w.heap.size ≤ b) := Lib.hid fun b hb => by
    have := HB3.out.size
    rcases f4 b hb with h | h
    · exact HS3.out b h
    · omega
  clear h4 t4 f4 g4
  go_wp2_with fail
  refine (HC.out.len w4 T _ S4 D4 H4.out (by simp [ins])).mono ?_
  rintro e w5 ⟨rfl, S5, D5, h5, t5, f5, g5⟩
  have H5 := Lib.hid h5
  have HB5 := Lib.hid (t5.below HB4.out HB4.out.size HS4.out)
  have HS5 : Hid (∀ b, S5 b → w.heap.size ≤ b) := Lib.hid fun b hb => by
    have := HB4.out.size
    rcases f5 b hb with h | h
    · exact HS4.out b h
    · omega
  clear h5 t5 f5 g5
  go_wp2_with fail
  have hg := HC.out.get w5 T _ S5 D5 5 H5.out (by omega) (by omega) (by simp [ins])
  rw [look_ins (HC.out.rises H3.out), if_pos rfl] at hg
  simp only [Option.getD_some, Option.isSome_some] at hg
  refine hg.mono ?_
  clear hg
  rintro e w6 ⟨rfl, S6, D6, h6, t6, f6, g6⟩
  have HB6 := Lib.hid (t6.below HB5.out HB5.out.size HS5.out)
  clear h6 t6 f6 g6
  go_wp2
  go_ret
  exact ⟨rfl, HB6.out⟩
end Go.Proofs.Ytgkmlggcmmdafaa.Pk
