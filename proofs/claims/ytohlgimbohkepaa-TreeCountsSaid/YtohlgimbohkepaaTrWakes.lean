/- The statements' own wakes: a tree that the document tells. -/
import Derived.Test.YtohlgimbohkepaaTrDist
namespace Go.Proofs.Ytohlgimbohkepaa.Gr
set_option linter.unusedVariables false
theorem Good.path_le {ps : List Int} (G : Good ps) (a b : Int) : (pathI ps a b).length ≤ ps.length := by
  unfold pathI
  split
  · rename_i h
    have ha : a.toNat < ps.length := by omega
    have hb : b.toNat < ps.length := by omega
    have h1 := G.pathN_len ha hb
    have h2 : distL ps a.toNat b.toNat < ps.length := G.rt.dist_lt ha hb
    simp only [ints, List.length_map]
    omega
  · simp
theorem good4 : Good [-1, 0, 0, 1] where
  pos := by decide
  few := by decide
  rng := by
    intro v hv
    have : v = 0 ∨ v = 1 ∨ v = 2 ∨ v = 3 := by simp at hv; omega
    rcases this with rfl | rfl | rfl | rfl <;> decide
  one := by
    intro u v hu hv h1 h2
    have a1 : u = 0 ∨ u = 1 ∨ u = 2 ∨ u = 3 := by simp at hu; omega
    have a2 : v = 0 ∨ v = 1 ∨ v = 2 ∨ v = 3 := by simp at hv; omega
    rcases a1 with rfl | rfl | rfl | rfl <;> first | (exact absurd h1 (by decide)) | (rcases a2 with rfl | rfl | rfl | rfl <;> first | rfl | exact absurd h2 (by decide))
  all := by
    intro v hv
    have : v = 0 ∨ v = 1 ∨ v = 2 ∨ v = 3 := by simp at hv; omega
    rcases this with rfl | rfl | rfl | rfl <;> decide
end Go.Proofs.Ytohlgimbohkepaa.Gr
namespace Go.Proofs.Ytohlgimbohkepaa.Pk
open Go.RowKit Go.Shelf Go.Proofs.Ytohlgimbohkepaa.Gr
set_option linter.unusedVariables false

theorem next32 : nextI [-1, 0, 0, 1] 3 2 = 1 := by decide +kernel
theorem next03 : nextI [-1, 0, 0, 1] 0 3 = 1 := by decide +kernel
theorem dist32 : distI [-1, 0, 0, 1] 3 2 = 3 := by decide +kernel
theorem NewR.good {ps : List Int} {w : World} {e : Ending} {w' : World} (h : NewR ps w e w') (G : Gr.Good ps) : Below w.heap.size w w' ∧ ∃ T g, e = .returned (.tuple #[.pointer (some ⟨T, 0, none⟩), .int .i64 0]) ∧ IsTr w' T g ps ∧ w.heap.size ≤ T ∧ w.heap.size ≤ g ∧ T ≠ g := by
  obtain ⟨hb, ⟨T, g, he, hc, h1, h2, h3, h4⟩ | ⟨p, er, he, hc, hne⟩⟩ := h
  · exact ⟨hb, T, g, he, h1, h2, h3, h4⟩
  · exact absurd (hc.only (good_chk G)).2 hne
set_option maxRecDepth 100000 in
set_option maxHeartbeats 4000000 in
theorem wakes_any (w : World) : Calls Try.prog 11 #[] w fun e w' => e = .returned (.bool true) ∧ Below w.heap.size w w' := by
  obtain ⟨W0, hW0⟩ : ∃ W0, W0 = w.alloc (.cells #[.int .i64 (-1), .int .i64 0, .int .i64 0, .int .i64 1] 3) := ⟨_, rfl⟩
  have hb0 : Below w.heap.size w W0 := hW0 ▸ (Below.refl _ w).alloc (Nat.le_refl _) _
  have hr : Reads W0 W0.heap.size 1 (some ⟨w.heap.size, 0, none⟩) 4 (nms [-1, 0, 0, 1]) := hW0 ▸ reads_top w _ _ 4 _ rfl rfl
  have HN := Lib.hid ((new_any (some ⟨w.heap.size, 0, none⟩) 4 4 [-1, 0, 0, 1] W0 W0.heap.size hr (Nat.le_refl _) (by omega)).mono fun e w' h => h.good good4)
  have HB0 := Lib.hid hb0
  clear hr hb0
  go_enter Try.func11, Try.ntmps11
  go_wp2_with fail
  rw [← hW0]
  refine HN.out.mono ?_
  rintro e w1 ⟨hb1, T, g, rfl, ht, _, _, _⟩
  have HB1 := Lib.hid (HB0.out.trans (hb1.mono HB0.out.size))
  have HT := Lib.hid ht
  have HS := Lib.hid (size_any T g _ w1 ht)
  have HX1 := Lib.hid (nxt_any T g _ 3 2 w1 ht good4)
  have HX2 := Lib.hid (nxt_any T g _ 0 3 w1 ht good4)
  have HD := Lib.hid (dist_any T g _ 3 2 w1 ht good4 (by decide +kernel))
  rw [next32] at HX1
  rw [next03] at HX2
  rw [dist32] at HD
  clear hb1 ht hW0 HN
  go_wp2_with (first
    | (go_at_call 15; refine HS.out.mono ?_; rintro e w2 ⟨rfl, hw⟩; rw [hw]; clear hw w2)
    | (go_at_call 18; first | (refine HX1.out.mono ?_; rintro e w2 ⟨rfl, hw⟩; rw [hw]; clear hw w2 HX1) | (refine HX2.out.mono ?_; rintro e w2 ⟨rfl, hw⟩; rw [hw]; clear hw w2))
    | (go_at_call 19; refine HD.out.mono ?_; rintro e w2 ⟨rfl, hb2⟩))
  go_ret
  exact ⟨rfl, HB1.out.trans (hb2.mono HB1.out.size)⟩
end Go.Proofs.Ytohlgimbohkepaa.Pk
