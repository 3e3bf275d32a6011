/- The arrows' statements' own wakes. -/
import Derived.Test.YtcomiininaemhaaZArSpec
import Derived.Test.YtcomiininaemhaaZSameAr
namespace Go.Proofs.Ytcomiininaemhaa.Gr
set_option linter.unusedVariables false
theorem good4a : Good [-1, 0, 0, 1] where
  pos := by decide
  few := by decide
  rng := by
    intro v hv
    have : v = 0 ∨ v = 1 ∨ v = 2 ∨ v = 3 := by simp at hv; omega
    rcases this with rfl | rfl | rfl | rfl <;> decide
  one := by
    intro u v hu hv h1 h2
    have a1 : u = 0 ∨ u = 1 ∨ u = 2 ∨ u = 3 := by simp at hu; omega
    have a2 : v = 0 ∨ v = 1 ∨ v = 2 ∨ v = 3 := by simp at hv; omega
    rcases a1 with rfl | rfl | rfl | rfl <;> first | (exact absurd h1 (by decide)) | (rcases a2 with rfl | rfl | rfl | rfl <;> first | rfl | exact absurd h2 (by decide))
  all := by
    intro v hv
    have : v = 0 ∨ v = 1 ∨ v = 2 ∨ v = 3 := by simp at hv; omega
    rcases this with rfl | rfl | rfl | rfl <;> decide
theorem run4a : runI [-1, 0, 0, 1] [2, 0, 2, 1] 3 = ([1, 3, 0, 3], 2) := by decide +kernel
end Go.Proofs.Ytcomiininaemhaa.Gr
namespace Go.Proofs.Ytcomiininaemhaa.Pk
open Go.RowKit Go.Shelf Go.Proofs.Ytcomiininaemhaa.Gr
set_option linter.unusedVariables false
theorem NewR.good_ {ps : List Int} {w : World} {e : Ending} {w' : World} (h : NewR ps w e w') (G : Gr.Good ps) : Below w.heap.size w w' ∧ ∃ T g, e = .returned (.tuple #[.pointer (some ⟨T, 0, none⟩), .int .i64 0]) ∧ IsTr w' T g ps ∧ w.heap.size ≤ T ∧ w.heap.size ≤ g ∧ T ≠ g := by
  obtain ⟨hb, ⟨T, g, he, hc, h1, h2, h3, h4⟩ | ⟨p, er, he, hc, hne⟩⟩ := h
  · exact ⟨hb, T, g, he, h1, h2, h3, h4⟩
  · exact absurd (hc.only (good_chk G)).2 hne
theorem below_drewA {B : Nat} {w w' : World} (h : Below B w w') (k : Nat) : Below B w (w'.drewN k) := ⟨h.os, h.tape, h.output, h.size, h.block⟩
theorem top_reads (w : World) (T : TypeId) (a b c d : Int) : Reads (w.alloc (.cells #[.int .i64 a, .int .i64 b, .int .i64 c, .int .i64 d] T)) (w.heap.size + 1) 1 (some ⟨w.heap.size, 0, none⟩) 4 (nms [a, b, c, d]) := by
  refine ⟨rfl, fun _ => ⟨_, rfl, by simp, fun j u hj => ?_⟩⟩
  match j, hj with
  | 0, hj => simp [nms] at hj; subst hj; simp [Addr.add]
  | 1, hj => simp [nms] at hj; subst hj; simp [Addr.add]
  | 2, hj => simp [nms] at hj; subst hj; simp [Addr.add]
  | 3, hj => simp [nms] at hj; subst hj; simp [Addr.add]
  | j + 4, hj => simp [nms] at hj
set_option maxRecDepth 100000 in
set_option maxHeartbeats 4000000 in
theorem wakes_any (HRu : RunA) (w : World) : Calls Try.prog 12 #[] w fun e w' => e = .returned (.bool true) ∧ Below w.heap.size w w' := by
  obtain ⟨W0, hW0⟩ : ∃ W0, W0 = w.alloc (.cells #[.int .i64 (-1), .int .i64 0, .int .i64 0, .int .i64 1] 3) := ⟨_, rfl⟩
  have hb0 : Below w.heap.size w W0 := hW0 ▸ (Below.refl _ w).alloc (Nat.le_refl _) _
  have hr : Reads W0 W0.heap.size 1 (some ⟨w.heap.size, 0, none⟩) 4 (nms [-1, 0, 0, 1]) := by rw [hW0, World.size_alloc]; exact top_reads w _ _ _ _ _
  have HN := Lib.hid ((new_any (some ⟨w.heap.size, 0, none⟩) 4 4 [-1, 0, 0, 1] W0 W0.heap.size hr (Nat.le_refl _) (by omega)).mono fun e w' h => h.good_ good4a)
  have HB0 := Lib.hid hb0
  have HRu := Lib.hid HRu
  clear hr hb0
  go_enter Try.func12, Try.ntmps12
  go_wp2_with fail
  rw [← hW0]
  refine HN.out.mono ?_
  rintro e w1 ⟨hb1, T, g, rfl, ht, _, _, _⟩
  have HB1 := Lib.hid (HB0.out.trans (hb1.mono HB0.out.size))
  have HT := Lib.hid ht
  clear hb1 ht hW0 HN
  have hin : InA (w1.alloc (.cells #[.int .i64 2, .int .i64 0, .int .i64 2, .int .i64 1] 3)) [2, 0, 2, 1] (some ⟨w1.heap.size, 0, none⟩) 4 4 := ⟨by rw [World.size_alloc]; exact top_reads w1 _ _ _ _ _, by omega, by omega, by intro x hx; simp at hx; omega⟩
  have hc := HRu.out T g [-1, 0, 0, 1] _ 4 4 [2, 0, 2, 1] 3 _ (HT.out.alloc _) good4a hin (by unfold I64; omega)
  rw [run4a] at hc
  have HC := Lib.hid hc
  clear hc hin
  go_wp2_with fail
  refine HC.out.mono ?_
  rintro e w2 ⟨v, rfl, ho, hb2⟩
  have hb12 : Below w1.heap.size w1 w2 := ((Below.refl _ w1).alloc (Nat.le_refl _) _).trans (hb2.mono (by simp))
  have HB2 := Lib.hid (HB1.out.trans (hb12.mono HB1.out.size))
  obtain ⟨A2, c2, rfl, _, hr2⟩ := ho.reads
  have HR2 : Hid (Reads w2 w2.heap.size 1 A2 4 (nms [1, 3, 0, 3])) := Lib.hid hr2
  clear ho hb2 hb12 hr2
  have HS := Lib.hid (same_refl A2 (some ⟨w2.heap.size, 0, none⟩) 4 c2 4 4 [1, 3, 0, 3] (w2.alloc (.cells #[.int .i64 1, .int .i64 3, .int .i64 0, .int .i64 3] 3)) w2.heap.size (w2.heap.size + 1) (HR2.out.alloc (Nat.le_refl _) _) (top_reads w2 _ _ _ _ _) (by omega))
  go_wp2_with fail
  refine HS.out.mono ?_
  rintro e w3 ⟨rfl, k, hw⟩
  rw [hw]
  clear hw w3
  go_wp2
  go_ret
  exact ⟨rfl, below_drewA (HB2.out.trans (((Below.refl _ w2).alloc (Nat.le_refl _) _).mono HB2.out.size)) k⟩
end Go.Proofs.Ytcomiininaemhaa.Pk
