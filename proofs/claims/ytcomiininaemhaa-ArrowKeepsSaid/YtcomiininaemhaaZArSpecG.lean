/- What Follow promises to those whose rounds make memory of their own. -/
import Derived.Test.YtcomiininaemhaaZArSpec
import Derived.Test.YtcomiininaemhaaZRs
namespace Go.Proofs.Ytcomiininaemhaa.Pk
open Go.RowKit Go.Shelf Go.Proofs.Ytcomiininaemhaa.Gr
set_option linter.unusedVariables false
def SeqAG (v : Value) (l : List Int) (R : Nat → Prop) (w : World) : Prop :=
  ∃ gf pb lb, v = .func (.func gf) pb lb ∧ (∀ args u, (callFunc gf args).run Try.prog u = .ok (.enter gf args) u) ∧ (∀ g, R g → g < w.heap.size) ∧
    ∀ m W, Stay R w W → GoesG m Try.prog gf pb lb encA (Stay R) (fun ys => ys = l) (fun pre => pre <+: l) (OkA l) W
theorem SeqAG.stay {v : Value} {l : List Int} {R : Nat → Prop} {w W : World} (h : SeqAG v l R w) (hs : Stay R w W) : SeqAG v l R W := by
  obtain ⟨gf, pb, lb, e, h1, h2, h3⟩ := h
  exact ⟨gf, pb, lb, e, h1, fun g hg => Nat.lt_of_lt_of_le (h2 g hg) hs.1, fun m W' hW => h3 m W' (Stay.trans hs hW)⟩
theorem SeqAG.lt {v : Value} {l : List Int} {R : Nat → Prop} {w : World} (h : SeqAG v l R w) : ∀ g, R g → g < w.heap.size := by
  obtain ⟨_, _, _, _, _, h2, _⟩ := h
  exact h2
theorem SeqAG.at_ {gf : Nat} {pb lb : Array Value} {l : List Int} {R : Nat → Prop} {w : World} (h : SeqAG (.func (.func gf) pb lb) l R w) (m : Nat) :
    GoesG m Try.prog gf pb lb encA (Stay R) (fun ys => ys = l) (fun pre => pre <+: l) (OkA l) w := by
  obtain ⟨gf', pb', lb', e, _, _, h3⟩ := h
  injection e with e1 e3 e2
  injection e1 with e1
  subst e1; subst e2; subst e3
  exact h3 m w (Stay.refl _ _)
theorem SeqAG.std {v : Value} {l : List Int} {R : Nat → Prop} {w : World} (h : SeqAG v l R w) : SeqA v l R w := by
  obtain ⟨gf, pb, lb, e, h1, h2, h3⟩ := h
  exact ⟨gf, pb, lb, e, h1, h2, fun m W hW => (h3 m W hW).std⟩
def FollowG : Prop := ∀ (A : Option Addr) (n c : Nat) (ar : List Int) (f : Int) (w : World), InA w ar A n c → I64 f →
  Calls Try.prog 24 #[.slice A n c, .int .i64 f] w fun e w' => ∃ v R, e = .returned v ∧ SeqAG v (followI ar f) R w' ∧ Below w.heap.size w w' ∧ ∀ g, R g → w.heap.size ≤ g
theorem FollowG.followA (h : FollowG) : FollowA := fun A n c ar f w hi hf => (h A n c ar f w hi hf).mono fun e w' ⟨v, R, h1, h2, h3, h4⟩ => ⟨v, R, h1, h2.std, h3, h4⟩
end Go.Proofs.Ytcomiininaemhaa.Pk
