/- Package net: a nil net's Send; what All answers. -/
import Derived.Test.YtcjfammfplcigaaNtCode3
namespace Go.Proofs.Ytcjfammfplcigaa.Pk
open Go.RowKit Go.Shelf Go.Proofs.Ytcjfammfplcigaa.Tb Go.Proofs.Ytcjfammfplcigaa.Nt
set_option linter.unusedVariables false
set_option maxRecDepth 100000 in
set_option maxHeartbeats 2000000 in
theorem send_nilQ (A : Option Addr) (n c : Nat) (x : List Int) (w : World) (hr : Reads w w.heap.size 1 A n (bts x)) :
    Calls Try.prog 10 #[.pointer none, .slice A n c] w fun e w' => e = .returned (.bool false) ∧ Below w.heap.size w w' := by
  have HLn := Lib.hid (lenN_nil w)
  have H1 := Lib.hid (fun q => flight_nil (w.drewN q))
  have H2 := Lib.hid (nth_nilAny (-1) w)
  have HPt := Lib.hid (fun q => put_nil 1 (strOfNums x) (w.drewN q))
  have cv := fun q => conv_b (hr.drewN q) c
  clear hr
  go_enter Try.func10, Try.ntmps10
  go_wp2_with fail
  refine HLn.out.mono ?_
  rintro e w' ⟨rfl, hw⟩
  rw [hw]; clear hw w'
  go_wp2_with fail
  refine (H1.out 0).mono ?_
  rintro e w' ⟨rfl, hw⟩
  rw [hw]; clear hw w'
  go_wp2_with fail
  refine HLn.out.mono ?_
  rintro e w' ⟨rfl, hw⟩
  rw [hw]; clear hw w'
  go_wp2_with fail
  refine H2.out.mono ?_
  rintro e w' ⟨rfl, hw⟩
  rw [hw]; clear hw w'
  go_wp2_with fail
  refine wp_region_noPanic ?_
  have cv1 := cv 1
  refine (wpIn_wide (n := 9)).1 ?_
  refine wpIn_region_any (by kernel_rfl) ?_
  change wpAnyIn _ _ _ _ _ _ _ _ _ (World.drewN w 1)
  refine take_lit (i := 0) rfl rfl rfl (by kernel_rfl) (by kernel_rfl) (by kernel_rfl) (fun _ _ _ h => h) ⟨Or.inl ⟨by rfl, fun _ => rfl⟩, fun _ => rfl⟩ (by simp only [List.setIfInBounds_toArray, List.set_cons_succ, List.set_cons_zero]; first | done | rfl) ?_
  refine take_lit (i := 2) rfl rfl rfl (by kernel_rfl) (by kernel_rfl) (by kernel_rfl) (fun _ _ _ h => h) ⟨Or.inl ⟨by rfl, fun _ => rfl⟩, fun _ => rfl⟩ (by simp only [List.setIfInBounds_toArray, List.set_cons_succ, List.set_cons_zero]; first | done | rfl) ?_
  refine take_lit (i := 3) (v := ?_) rfl rfl rfl (by kernel_rfl) (by kernel_rfl) (by kernel_rfl) (fun _ _ _ h => h) ⟨Or.inl ⟨by rfl, ?_⟩, fun _ => rfl⟩ rfl ?_
  rotate_left
  · intro w; go_simp; first | done | with_reducible rfl
  simp only [List.setIfInBounds_toArray, List.set_cons_succ, List.set_cons_zero]
  refine take_lit (i := 4) rfl rfl rfl (by kernel_rfl) (by kernel_rfl) (by kernel_rfl) (fun _ _ _ h => h) ⟨Or.inl ⟨by rfl, fun _ => rfl⟩, fun _ => rfl⟩ (by simp only [List.setIfInBounds_toArray, List.set_cons_succ, List.set_cons_zero]; first | done | rfl) ?_
  refine wpAnyIn_ready (rs := [1, 5]) (by kernel_rfl) (by simp) (AllReadyIn.cons rfl (fun K hK => ?_) (AllReadyIn.cons rfl (fun K hK => ?_) AllReadyIn.nil))
  · go_simp
    refine ⟨trivial, (callsIn_wide.2 (H1.out 1)).mono ?_⟩
    rintro e w' ⟨rfl, hw⟩
    rw [hw]; clear hw w'
    refine hK _ _ ?_
    clear hK K
    refine wpAnyIn_ready (rs := [5]) (by kernel_rfl) (by simp) (AllReadyIn.cons rfl (fun K hK => ?_) AllReadyIn.nil)
    go_simp
    refine hK _ _ ?_
    clear hK K
    refine wpAnyIn_ready (rs := [6]) (by kernel_rfl) (by simp) (AllReadyIn.cons rfl (fun K hK => ?_) AllReadyIn.nil)
    go_simp
    refine ⟨trivial, (callsIn_wide.2 (HPt.out 1)).mono ?_⟩
    rintro e w2 ⟨rfl, hw⟩
    rw [hw]; clear hw w2
    refine hK _ _ ?_
    clear hK K
    refine take_lit (i := 7) rfl rfl rfl (by kernel_rfl) (by kernel_rfl) (by kernel_rfl) (fun _ _ _ h => h) ⟨Or.inl ⟨by rfl, fun _ => rfl⟩, fun _ => rfl⟩ (by simp only [List.setIfInBounds_toArray, List.set_cons_succ, List.set_cons_zero]; first | done | rfl) ?_
    refine wpAnyIn_done (by kernel_rfl) ?_ _
    refine NoPanic.normal ?_
    go_wp2
    go_ret
    exact ⟨rfl, below_drewN (Below.refl _ _) 1⟩
  · go_simp
    refine hK _ _ ?_
    clear hK K
    refine wpAnyIn_ready (rs := [1]) (by kernel_rfl) (by simp) (AllReadyIn.cons rfl (fun K hK => ?_) AllReadyIn.nil)
    go_simp
    refine ⟨trivial, (callsIn_wide.2 (H1.out 1)).mono ?_⟩
    rintro e w' ⟨rfl, hw⟩
    rw [hw]; clear hw w'
    refine hK _ _ ?_
    clear hK K
    refine wpAnyIn_ready (rs := [6]) (by kernel_rfl) (by simp) (AllReadyIn.cons rfl (fun K hK => ?_) AllReadyIn.nil)
    go_simp
    refine ⟨trivial, (callsIn_wide.2 (HPt.out 1)).mono ?_⟩
    rintro e w2 ⟨rfl, hw⟩
    rw [hw]; clear hw w2
    refine hK _ _ ?_
    clear hK K
    refine take_lit (i := 7) rfl rfl rfl (by kernel_rfl) (by kernel_rfl) (by kernel_rfl) (fun _ _ _ h => h) ⟨Or.inl ⟨by rfl, fun _ => rfl⟩, fun _ => rfl⟩ (by simp only [List.setIfInBounds_toArray, List.set_cons_succ, List.set_cons_zero]; first | done | rfl) ?_
    refine wpAnyIn_done (by kernel_rfl) ?_ _
    refine NoPanic.normal ?_
    go_wp2
    go_ret
    exact ⟨rfl, below_drewN (Below.refl _ _) 1⟩
end Go.Proofs.Ytcjfammfplcigaa.Pk
