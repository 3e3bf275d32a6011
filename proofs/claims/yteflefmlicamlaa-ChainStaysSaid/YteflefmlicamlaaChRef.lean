/- The document's answers (fletchref13): Add. -/
import Derived.Test.YteflefmlicamlaaChRefA
namespace Go.Proofs.Yteflefmlicamlaa.Pk
open Go.RowKit
set_option linter.unusedVariables false
attribute [local go_sem] Oper.semAt_some
set_option maxHeartbeats 4000000 in
theorem refadd_any (A : Option Addr) (n c : Nat) (l : List Ce) (x : Int) (w : World) (hin : InK w l A n c) :
    Calls Try.prog 15 #[.slice A n c, .int .i64 x] w fun e w' => ∃ v, e = .returned v ∧ OwnK w' w.heap.size v (addK l x) ∧ Below w.heap.size w w' := by
  have HI := Lib.hid hin
  have HL := Lib.hid hin.len
  have hn := hin.few
  clear hin
  go_enter Try.func15, Try.ntmps15
  go_wp2_with (first
    | (at_builtin; refine appKE w rfl (.tmp 5) (.tmp 6) rfl w.heap.size rfl w.heap.size A c l n rfl HI.out.rd (Nat.le_refl _) (by omega) (Nat.le_refl _) ?_; intro v3 w3 ho3 hb3; have HO3 := Lib.hid ho3; have HB3 := Lib.hid hb3; clear ho3 hb3)
    | (at_builtin; refine appK w3 ⟨x, 1, -1, 0⟩ _ rfl (.tmp 7) (.tmp 10) rfl w.heap.size _ l rfl HO3.out w3.heap.size rfl rfl (by have h9 := HL.out; omega) HB3.out.size ?_; intro v4 w4 ho4 hb4 hg4 hat4; have HO4 := Lib.hid ho4; have HB4 := Lib.hid (HB3.out.trans hb4); clear ho4 hb4 hg4 hat4))
  go_ret
  exact ⟨_, rfl, HO4.out, HB4.out⟩
end Go.Proofs.Yteflefmlicamlaa.Pk
