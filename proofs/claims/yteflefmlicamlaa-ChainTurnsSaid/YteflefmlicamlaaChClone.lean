/- The library's slices.Clone and slices.IndexFunc, of cells. -/
import Derived.Test.YteflefmlicamlaaChSpec
import Derived.Lib.SliceRun
namespace Go.Proofs.Yteflefmlicamlaa.Pk
open Go.RowKit
set_option linter.unusedVariables false
set_option maxHeartbeats 1600000 in
/-- A copy of cells, whatever the slice. -/
theorem cloneK (A : Option Addr) (n c : Nat) (l : List Ce) (w : World) (hr : Reads w w.heap.size 4 A n (ces l)) (hlen : n * 32 ≤ 140737488355328) :
    Calls Try.prog 26 #[.slice A n c] w fun e w' => ∃ v, e = .returned v ∧ OwnK w' w.heap.size v l ∧ Below w.heap.size w w' := by
  have HR := Lib.hid hr
  have HL := Lib.hid hlen
  clear hr hlen
  cases A with
  | none =>
    have hn0 : n = 0 := by
      rcases Nat.eq_zero_or_pos n with h | h
      · exact h
      · obtain ⟨b, off, e, _⟩ := HR.out.ces_ h
        cases e
    subst hn0
    have hl : l = [] := by have := HR.out.klen; exact List.length_eq_zero_iff.1 this
    subst hl
    go_enter Try.func26, Try.ntmps26
    have E0 : (binOp .eql 22 (.slice none 0 c) (.slice none 0 0)).run Try.prog w = .ok (.bool true) w := Lib.run_eql_slice_nil w _ _ none 0 c 0 0 Try.underlying22
    go_wp2_with fail
    go_ret
    exact ⟨_, rfl, OwnK.none_ _ _, Below.refl _ _⟩
  | some ad =>
    go_enter Try.func26, Try.ntmps26
    have E0 : (binOp .eql 22 (.slice (some ad) n c) (.slice none 0 0)).run Try.prog w = .ok (.bool false) w := Lib.run_eql_slice_nil w _ _ (some ad) n c 0 0 Try.underlying22
    go_wp2_with (at_builtin; refine appKE w rfl (.tmp 5) (.tmp 6) rfl w.heap.size rfl w.heap.size (some ad) c l n rfl HR.out (Nat.le_refl _) HL.out (Nat.le_refl _) ?_; intro v2 w2 hown2 hb2; have HO := Lib.hid hown2; have HB := Lib.hid hb2; clear hown2 hb2)
    go_ret
    exact ⟨_, rfl, HO.out, HB.out⟩
end Go.Proofs.Yteflefmlicamlaa.Pk
