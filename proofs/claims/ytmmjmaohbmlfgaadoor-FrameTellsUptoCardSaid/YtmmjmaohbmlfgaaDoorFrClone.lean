/- The library's bytes.Clone. -/
import Derived.Test.YtmmjmaohbmlfgaaDoorFrGood
import Derived.Lib.SliceRun
namespace Go.Proofs.YtmmjmaohbmlfgaaDoor.Pk
open Go.RowKit Go.Proofs.YtmmjmaohbmlfgaaDoor.Crc Go.Proofs.YtmmjmaohbmlfgaaDoor.Fr
set_option linter.unusedVariables false
def CloneC : Prop := ∀ (A : Option Addr) (n c : Nat) (l : List Int) (w : World), Reads w w.heap.size 1 A n (bts l) → n ≤ 140737488355328 →
    Calls Tryd.prog 24 #[.slice A n c] w fun e w' => ∃ v, e = .returned v ∧ OwnB w' w.heap.size v l ∧ Below w.heap.size w w'
set_option maxHeartbeats 800000 in
theorem clone_code : CloneC := by
  intro A n c l w h hn
  have HR := Lib.hid h
  clear h
  have heq := fun (w : World) => Lib.run_eql_slice_nil (P := Tryd.prog) w 22 5 A n c 0 0 Tryd.underlying22
  cases A with
  | none =>
    have hn0 : n = 0 := HR.out.nil rfl
    subst hn0
    have hl : l = [] := by have := HR.out.1; simpa using this
    subst hl
    go_enter Tryd.func24, Tryd.ntmps24
    go_wp2
    go_ret
    exact ⟨_, rfl, ⟨rfl, .inl ⟨rfl, rfl⟩⟩, Below.refl _ _⟩
  | some ad =>
    go_enter Tryd.func24, Tryd.ntmps24
    go_wp2_with (at_builtin; refine appE w rfl (.tmp 5) (.tmp 6) rfl w.heap.size rfl w.heap.size (some ad) c l n rfl HR.out (Nat.le_refl _) (by omega) (Nat.le_refl _) ?_; intro v2 w2 hown2 hb2)
    go_ret
    exact ⟨_, rfl, hown2, hb2⟩

end Go.Proofs.YtmmjmaohbmlfgaaDoor.Pk
