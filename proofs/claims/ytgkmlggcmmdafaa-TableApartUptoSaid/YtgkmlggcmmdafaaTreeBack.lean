/- The table's Back keeps its promise. -/
import Derived.Test.YtgkmlggcmmdafaaTreeFall
import Derived.Test.YtgkmlggcmmdafaaTabBack
namespace Go.Proofs.Ytgkmlggcmmdafaa.Pk
open Go.RowKit Go.Shelf Go.Proofs.Ytgkmlggcmmdafaa.Tb
set_option linter.unusedVariables false

theorem back_seq (t : Tr) (w : World) (hT : IsT w t) : SeqB (.func (.func 31) #[.pointer t.p] #[]) t.rows.reverse t.has w := by
  refine ⟨_, _, rfl, enters_of Try.func31 (by kernel_rfl) rfl, hT.lt, ?_⟩
  intro m W hs
  rw [List.length_reverse]
  exact fall_in t m t.has W (hT.stay fun b hb => hs.2 b hb) (fun b hb => hb) (fun b hb => Nat.lt_of_lt_of_le (hT.lt b hb) hs.1)
theorem back_any (T : Nat) (t : Tr) (w : World) (h : IsTab w T t) :
    Calls Try.prog 14 #[.pointer (some ⟨T, 0, none⟩)] w fun e w' => e = .returned (.func (.func 31) #[.pointer t.p] #[]) ∧ w' = w := by
  have H := Lib.hid (root_any T t w h.1)
  clear h
  go_enter Try.func14, Try.ntmps14
  go_wp2_with fail
  refine H.out.mono ?_
  rintro e w' ⟨rfl, rfl⟩
  go_wp2
  go_ret
  exact ⟨rfl, rfl⟩
theorem tabK : SeqK TbT where
  qback := by
    rintro w T l S D ⟨t, h, rfl, rfl, rfl⟩ hn
    refine (back_any T t w h).mono fun e w' ⟨he, hw⟩ => ?_
    subst hw
    refine ⟨_, _, he, back_seq t w' h.2.1, Below.refl _ _, fun b hb => .inl (.inr hb), fun b hb hs => ?_⟩
    have hs' : b = T := hs
    subst hs'
    exact IsT.not_has h.1 (by decide) h.2.1 hb
end Go.Proofs.Ytgkmlggcmmdafaa.Pk
