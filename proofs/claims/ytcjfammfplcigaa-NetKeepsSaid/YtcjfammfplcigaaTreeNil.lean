/- Calls of a nil table: nothing is there. -/
import Derived.Test.YtcjfammfplcigaaTreeFrom
namespace Go.Proofs.Ytcjfammfplcigaa.Pk
open Go.RowKit Go.Shelf Go.Proofs.Ytcjfammfplcigaa.Tb
set_option linter.unusedVariables false

theorem len_nil (w : World) : Calls Try.prog 27 #[.pointer none] w fun e w' => e = .returned (.int .i64 0) ∧ w' = w := by
  have H1 := Lib.hid (root_nil w)
  have H2 := Lib.hid (count_any .leaf w trivial)
  go_enter Try.func27, Try.ntmps27
  go_wp2_with fail
  refine H1.out.mono ?_
  rintro e w' ⟨rfl, rfl⟩
  go_wp2_with fail
  refine H2.out.mono ?_
  rintro e w' ⟨rfl, rfl⟩
  go_wp2
  go_ret
  exact ⟨rfl, rfl⟩
theorem get_nil (k : Int) (w : World) : Calls Try.prog 25 #[.pointer none, .int .i64 k] w fun e w' => e = .returned (.tuple #[.string ByteArray.empty, .bool false]) ∧ w' = w := by
  have H1 := Lib.hid (root_nil w)
  have H2 := Lib.hid (find_tree .leaf k w trivial)
  go_enter Try.func25, Try.ntmps25
  go_wp2_with fail
  refine H1.out.mono ?_
  rintro e w' ⟨rfl, rfl⟩
  go_wp2_with fail
  refine H2.out.mono ?_
  rintro e w' ⟨rfl, rfl⟩
  have hp : (Tr.seek k .leaf).p = none := rfl
  rw [hp]
  go_wp2
  go_ret2
  exact ⟨rfl, rfl⟩
theorem nth_nil (w : World) : Calls Try.prog 23 #[.pointer none, .int .i64 0] w fun e w' => e = .returned (.tuple #[.int .i64 0, .bool false]) ∧ w' = w := by
  have H1 := Lib.hid (len_nil w)
  go_enter Try.func23, Try.ntmps23
  go_wp2_with fail
  refine H1.out.mono ?_
  rintro e w' ⟨rfl, rfl⟩
  go_wp2
  go_ret2
  exact ⟨rfl, rfl⟩
theorem put_nil (k : Int) (s : ByteArray) (w : World) : Calls Try.prog 24 #[.pointer none, .int .i64 k, .string s] w fun e w' => e = .returned (.bool false) ∧ w' = w := by
  go_enter Try.func24, Try.ntmps24
  go_wp2
  go_ret
  exact ⟨rfl, rfl⟩
theorem delete_nil (k : Int) (w : World) : Calls Try.prog 26 #[.pointer none, .int .i64 k] w fun e w' => e = .returned (.bool false) ∧ w' = w := by
  have H1 := Lib.hid (root_nil w)
  have H2 := Lib.hid (find_tree .leaf k w trivial)
  go_enter Try.func26, Try.ntmps26
  go_wp2_with fail
  refine H1.out.mono ?_
  rintro e w' ⟨rfl, rfl⟩
  go_wp2_with fail
  refine H2.out.mono ?_
  rintro e w' ⟨rfl, rfl⟩
  have hp : (Tr.seek k .leaf).p = none := rfl
  rw [hp]
  go_wp2
  go_ret
  exact ⟨rfl, rfl⟩
/-- What From answers of a nil table. -/
theorem from_nil (k : Int) (w : World) :
    Calls Try.prog 36 #[.pointer none, .int .i64 k] w fun e w' =>
      ∃ v R, e = .returned v ∧ SeqC v [] R w' ∧ Below w.heap.size w w' ∧ (∀ b, R b → w.heap.size ≤ b) := by
  have H := Lib.hid (fun w1 => root_nil w1)
  go_enter Try.func36, Try.ntmps36
  go_wp2_with fail
  refine (H.out _).mono ?_
  rintro e w' ⟨rfl, rfl⟩
  go_wp2
  go_ret
  have hBt := Blk.new (w.alloc (.cells #[.int .i64 k] 3)) 60 #[.pointer none]
  have hBk := (Blk.new w 3 #[.int .i64 k]).alloc (.cells #[.pointer none] 60)
  rw [World.size_alloc] at hBt
  refine ⟨_, _, rfl, from_seq .leaf k (w.heap.size + 1) w.heap.size _ hBt hBk trivial List.Pairwise.nil, ((Below.refl _ w).alloc (Nat.le_refl _) _).alloc (by simp) _, ?_⟩
  intro b hb
  rcases hb with rfl | rfl | hb
  · omega
  · omega
  · exact hb.elim
theorem all_nil (w : World) :
    Calls Try.prog 28 #[.pointer none] w fun e w' =>
      ∃ v R, e = .returned v ∧ SeqC v [] R w' ∧ Below w.heap.size w w' ∧ (∀ b, R b → w.heap.size ≤ b) := by
  have H := Lib.hid (from_nil (-9223372036854775808) w)
  go_enter Try.func28, Try.ntmps28
  go_wp2_with fail
  refine H.out.mono ?_
  rintro e w' ⟨v, R, rfl, hs, hb, hr⟩
  obtain ⟨gf, lb, rfl, h1, h2, h3⟩ := hs
  have HZ : Hid (SeqC (.func (.func gf) #[] lb) [] R w' ∧ Below w.heap.size w w' ∧ ∀ b, R b → w.heap.size ≤ b) := Lib.hid ⟨⟨gf, lb, rfl, h1, h2, h3⟩, hb, hr⟩
  clear h1 h2 h3 hb hr
  go_wp2
  go_ret
  exact ⟨_, R, rfl, HZ.out⟩
end Go.Proofs.Ytcjfammfplcigaa.Pk
