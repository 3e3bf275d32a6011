/- The walk of the law TreeChecks. -/
import Derived.Test.YtadfcinfnbfefaaTrWakes
import Derived.Test.YtadfcinfnbfefaaArgN
namespace Go.Proofs.Ytadfcinfnbfefaa.Pk
open Go.RowKit Go.Shelf Go.Proofs.Ytadfcinfnbfefaa.Gr Go.Proofs.Ytadfcinfnbfefaa.Ar
set_option linter.unusedVariables false

set_option maxRecDepth 100000 in
set_option maxHeartbeats 4000000 in
theorem law_TreeChecks (a : Option Addr) (n c : Nat) (l : List Int) (w : World) (h : ArgN w a n c l) :
    Calls Try.prog 3 #[.slice a n c] w fun e w' => e = .returned (.bool true) ∧ Below w.heap.size w w' := by
  obtain ⟨hr, hnc, hc8, _⟩ := h
  have hbig : n ≤ 4611686018427387904 := by omega
  have HR := Lib.hid hr
  clear hr
  go_enter Try.func3, Try.ntmps3
  go_wp2_with fail
  refine (wakes_any w).mono ?_
  rintro e w1 ⟨rfl, hb1⟩
  have HB1 := Lib.hid hb1
  have HR1 := Lib.hid (HR.out.below hb1)
  have HS1 := Lib.hid hb1.size
  clear hb1
  go_wp2_with fail
  refine (chk_any a n c l w1 _ HR1.out hbig).mono ?_
  rintro e w2 ⟨p, er, rfl, hck, hw⟩
  rw [hw]; clear hw w2
  go_wp2_with fail
  refine (check_any a n c l w1 _ HR1.out hnc hbig).mono ?_
  rintro e w2 ⟨p', er', rfl, hck', hw⟩
  rw [hw]; clear hw w2
  obtain ⟨rfl, rfl⟩ := hck.only hck'
  have HC := Lib.hid hck
  clear hck hck'
  go_wp2_with fail
  refine (new_any a n c l w1 _ HR1.out HS1.out hbig).mono ?_
  rintro e w3 ⟨hb3, ⟨T, g, rfl, hc3, _⟩ | ⟨p3, e3, rfl, hc3, hne⟩⟩
  · obtain ⟨_, e0⟩ := HC.out.only hc3
    have HB := Lib.hid (HB1.out.trans (hb3.mono HB1.out.size))
    subst e0
    clear hb3 hc3
    go_wp2
    go_ret
    exact ⟨by simp, HB.out⟩
  · obtain ⟨_, e0⟩ := HC.out.only hc3
    have HB := Lib.hid (HB1.out.trans (hb3.mono HB1.out.size))
    rw [← e0] at hne ⊢
    have t1 : (er == 0) = false := by simp [hne]
    clear hb3 hc3 e0 hne
    go_wp2
    go_ret
    exact ⟨by simp, HB.out⟩
end Go.Proofs.Ytadfcinfnbfefaa.Pk
