/- A function that goes over numbers and messages and changes nothing that was made before: what its caller says may speak of what the rounds made. -/
import Derived.Test.YtneijohbmphheaaHfSpec
namespace Go.Proofs.Ytneijohbmphheaa.Pk
open Go.RowKit Go.Shelf
set_option linter.unusedVariables false
def SeqW (v : Value) (l : List (Int × Mg)) (R : Nat → Prop) (w : World) : Prop :=
  ∃ gf pb lb, v = .func (.func gf) pb lb ∧ (∀ args u, (callFunc gf args).run Try.prog u = .ok (.enter gf args) u) ∧ (∀ g, R g → g < w.heap.size) ∧
    ∀ m W, Stay R w W → GoesW m Try.prog gf pb lb encH (Stay R) (fun ys => ys = l) (fun pre => pre <+: l) (OkH l) W
theorem SeqW.stay {v : Value} {l : List (Int × Mg)} {R : Nat → Prop} {w W : World} (h : SeqW v l R w) (hs : Stay R w W) : SeqW v l R W := by
  obtain ⟨gf, pb, lb, e, h1, h2, h3⟩ := h
  exact ⟨gf, pb, lb, e, h1, fun g hg => Nat.lt_of_lt_of_le (h2 g hg) hs.1, fun m W' hW => h3 m W' (StayH.trans hs hW)⟩
theorem SeqW.at_ {gf : Nat} {pb lb : Array Value} {l : List (Int × Mg)} {R : Nat → Prop} {w : World} (h : SeqW (.func (.func gf) pb lb) l R w) (m : Nat) :
    GoesW m Try.prog gf pb lb encH (Stay R) (fun ys => ys = l) (fun pre => pre <+: l) (OkH l) w := by
  obtain ⟨gf', pb', lb', e, _, _, h3⟩ := h
  injection e with e1 e3 e2
  injection e1 with e1
  subst e1; subst e2; subst e3
  exact h3 m w (StayH.refl _ _)
/-- Left, with both readings of what it answers. -/
def LeftW : Prop := ∀ (h : Hf) (seen : Int) (A : Option Addr) (n c : Nat) (w : World), InH w h A n c → -9223372036854775808 ≤ seen → seen ≤ 9223372036854775807 →
  Calls Try.prog 22 #[h.val (.slice A n c), .int .i64 seen] w fun e w' => ∃ v R, e = .returned v ∧ SeqH v (hleft h seen) R w' ∧ SeqW v (hleft h seen) R w' ∧ Below w.heap.size w w' ∧ ∀ g, R g → w.heap.size ≤ g
end Go.Proofs.Ytneijohbmphheaa.Pk
