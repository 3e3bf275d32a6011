/- The tree's calls that make new nodes: between, and its two turns. -/
import Derived.Test.YtcjfammfplcigaaTreeRead
import Derived.Deep.RegionHeld3
import Derived.Deep.DeepMust
import Derived.BigRegion
namespace Go.Proofs.Ytcjfammfplcigaa.Pk
open Go.RowKit Go.Proofs.Ytcjfammfplcigaa.Tb
set_option linter.unusedVariables false

/-- A node's own number and value: what a receiver must show. -/
def Top (w : World) (b : Nat) (k : Int) (v : ByteArray) : Prop := ∃ l r, Blk w b 64 (ncells l k v r) ∧ (-9223372036854775808 ≤ k ∧ k ≤ 9223372036854775807)
theorem IsT.top {w : World} {b : Nat} {l : Tr} {k : Int} {v : ByteArray} {r : Tr} (h : IsT w (.node b l k v r)) : Top w b k v := ⟨l, r, h.1, h.2.1⟩

set_option maxHeartbeats 2000000 in
theorem between_any (b : Nat) (k : Int) (v : ByteArray) (L R : Tr) (w : World) (ht : Top w b k v) (hL : IsT w L) (hR : IsT w R) (hn : L.len + R.len ≤ 100000000000000000) :
    Calls Try.prog 42 #[.pointer (some ⟨b, 0, none⟩), .pointer L.p, .pointer R.p] w fun e w' =>
      ∃ b', e = .returned (.pointer (some ⟨b', 0, none⟩)) ∧ w.heap.size ≤ b' ∧ Below w.heap.size w w' ∧ IsT w' (.node b' L k v R) := by
  obtain ⟨l, r, hb, hk⟩ := ht
  have X0 := hb.cell 0
  have X1 := hb.cell 1
  simp only [ncells] at X0 X1
  have HB := Lib.hid hb
  have HK := Lib.hid hk
  have HC := Lib.hid (fun q => count_any L (w.drewN q) (hL.drewN q))
  have HD := Lib.hid (fun q => count_any R (w.drewN q) (hR.drewN q))
  have HL := Lib.hid hL
  have HR := Lib.hid hR
  clear hb hk hL hR
  go_enter Try.func42, Try.ntmps42
  go_wp2_with fail
  go_region_held3 (fun w' => w'.cell? ⟨b, 0, none⟩ = some (.int .i64 k) ∧ w'.cell? ⟨b, 1, none⟩ = some (.string v)) (first | exact ⟨X0, X1⟩ | go_keep) (first
    | (go_at_call_of 35 (Tr.p L); refine (HC.out 1).mono ?_; rintro e w' ⟨rfl, rfl⟩)
    | (go_at_call_of 35 (Tr.p R); refine (HD.out 1).mono ?_; rintro e w' ⟨rfl, rfl⟩))
  all_goals go_wp2
  all_goals go_ret
  have e1 : IntKind.i64.wrap ((L.len : Int) + 1) = (L.len : Int) + 1 := IntWalk.i64_in _ (by omega)
  have e2 : IntKind.i64.wrap ((L.len : Int) + 1 + (R.len : Int)) = (L.len : Int) + 1 + (R.len : Int) := IntWalk.i64_in _ (by omega)
  rw [e1, e2]
  refine ⟨w.heap.size, rfl, Nat.le_refl _, (below_dn (Below.refl _ w) 1).alloc (Nat.le_refl _) _, Blk.new (w.drewN 1) _ _, HK.out, (HL.out.drewN 1).alloc _, (HR.out.drewN 1).alloc _⟩

set_option maxHeartbeats 2000000 in
theorem raiseLeft_any (b b1 : Nat) (l1 : Tr) (k1 : Int) (v1 : ByteArray) (r1 : Tr) (k : Int) (v : ByteArray) (r : Tr) (w : World) (h : IsT w (.node b (.node b1 l1 k1 v1 r1) k v r)) (hn : l1.len + r1.len + r.len ≤ 10000000000000000) :
    Calls Try.prog 41 #[.pointer (some ⟨b, 0, none⟩)] w fun e w' =>
      ∃ b2 b3, e = .returned (.pointer (some ⟨b2, 0, none⟩)) ∧ w.heap.size ≤ b2 ∧ w.heap.size ≤ b3 ∧ Below w.heap.size w w' ∧ IsT w' (.node b2 l1 k1 v1 (.node b3 r1 k v r)) := by
  have h1 := h.2.2.1
  have X2 := h.1.cell 2
  have X3 := h.1.cell 3
  have Y2 := h1.1.cell 2
  have Y3 := h1.1.cell 3
  have hp : (Tr.node b1 l1 k1 v1 r1).p = some ⟨b1, 0, none⟩ := rfl
  simp only [ncells, hp] at X2 X3 Y2 Y3
  have HI := Lib.hid (fun w1 (hb : Below w.heap.size w w1) => between_any b k v r1 r w1 (h.below hb).top (h1.below hb).2.2.2 (h.below hb).2.2.2 (by omega))
  have HO := Lib.hid (fun w1 (hb : Below w.heap.size w w1) b3 (h3 : IsT w1 (.node b3 r1 k v r)) => between_any b1 k1 v1 l1 (.node b3 r1 k v r) w1 (h1.below hb).top (h1.below hb).2.2.1 h3 (by rw [len_node]; omega))
  have HY := Lib.hid (show ∀ w1, Below w.heap.size w w1 → w1.cell? ⟨b, 3, none⟩ = some (.pointer r.p) ∧ w1.cell? ⟨b1, 3, none⟩ = some (.pointer r1.p) ∧ w1.cell? ⟨b1, 2, none⟩ = some (.pointer l1.p) from fun w1 hb => ⟨(h.below hb).1.cell 3, (h1.below hb).1.cell 3, (h1.below hb).1.cell 2⟩)
  have HB := Lib.hid h
  clear h h1 hp
  go_enter Try.func41, Try.ntmps41
  go_wp2_with fail
  go_region_held3 (fun w' => w'.cell? ⟨b, 3, none⟩ = some (.pointer r.p) ∧ w'.cell? ⟨b1, 3, none⟩ = some (.pointer r1.p) ∧ w'.cell? ⟨b1, 2, none⟩ = some (.pointer l1.p)) (first | exact ⟨X3, Y3, Y2⟩ | exact Z1 | exact Z2 | go_keep) (first
    | (go_at_call_of 42 (Tr.p r1); refine (HI.out _ (below_dn (Below.refl _ w) 1)).mono ?_; rintro e w1 ⟨b3, rfl, hb3, bel1, ht1⟩; have Z1 := HY.out w1 ((below_dn (Below.refl _ w) 1).trans bel1); have Y2' := Z1.2.2)
    | (go_at_call_of 42 (Tr.p l1); refine (HO.out w1 ((below_dn (Below.refl _ w) 1).trans bel1) b3 ht1).mono ?_; rintro e w2 ⟨b2, rfl, hb2, bel2, ht2⟩; have Z2 := HY.out w2 (((below_dn (Below.refl _ w) 1).trans bel1).trans (bel2.mono bel1.size))))
  all_goals go_wp2
  all_goals go_ret
  exact ⟨b2, b3, rfl, Nat.le_trans bel1.size hb2, hb3, ((below_dn (Below.refl _ w) 1).trans bel1).trans (bel2.mono bel1.size), ht2⟩

set_option maxHeartbeats 2000000 in
theorem raiseRight_any (b b1 : Nat) (l : Tr) (l1 : Tr) (k1 : Int) (v1 : ByteArray) (r1 : Tr) (k : Int) (v : ByteArray) (w : World) (h : IsT w (.node b l k v (.node b1 l1 k1 v1 r1))) (hn : l.len + l1.len + r1.len ≤ 10000000000000000) :
    Calls Try.prog 43 #[.pointer (some ⟨b, 0, none⟩)] w fun e w' =>
      ∃ b2 b3, e = .returned (.pointer (some ⟨b2, 0, none⟩)) ∧ w.heap.size ≤ b2 ∧ w.heap.size ≤ b3 ∧ Below w.heap.size w w' ∧ IsT w' (.node b2 (.node b3 l k v l1) k1 v1 r1) := by
  have h1 := h.2.2.2
  have X2 := h.1.cell 2
  have X3 := h.1.cell 3
  have Y2 := h1.1.cell 2
  have Y3 := h1.1.cell 3
  have hp : (Tr.node b1 l1 k1 v1 r1).p = some ⟨b1, 0, none⟩ := rfl
  simp only [ncells, hp] at X2 X3 Y2 Y3
  have HI := Lib.hid (fun w1 (hb : Below w.heap.size w w1) => between_any b k v l l1 w1 (h.below hb).top (h.below hb).2.2.1 (h1.below hb).2.2.1 (by omega))
  have HO := Lib.hid (fun w1 (hb : Below w.heap.size w w1) b3 (h3 : IsT w1 (.node b3 l k v l1)) => between_any b1 k1 v1 (.node b3 l k v l1) r1 w1 (h1.below hb).top h3 (h1.below hb).2.2.2 (by rw [len_node]; omega))
  have HY := Lib.hid (show ∀ w1, Below w.heap.size w w1 → w1.cell? ⟨b, 2, none⟩ = some (.pointer l.p) ∧ w1.cell? ⟨b1, 2, none⟩ = some (.pointer l1.p) ∧ w1.cell? ⟨b1, 3, none⟩ = some (.pointer r1.p) from fun w1 hb => ⟨(h.below hb).1.cell 2, (h1.below hb).1.cell 2, (h1.below hb).1.cell 3⟩)
  clear h h1 hp
  go_enter Try.func43, Try.ntmps43
  go_wp2_with fail
  go_region_held3 (fun w' => w'.cell? ⟨b, 2, none⟩ = some (.pointer l.p) ∧ w'.cell? ⟨b1, 2, none⟩ = some (.pointer l1.p) ∧ w'.cell? ⟨b1, 3, none⟩ = some (.pointer r1.p)) (first | exact ⟨X2, Y2, Y3⟩ | exact Z1 | exact Z2 | go_keep) (first
    | (go_at_call_of 42 (Tr.p l); refine (HI.out _ (below_dn (Below.refl _ w) 1)).mono ?_; rintro e w1 ⟨b3, rfl, hb3, bel1, ht1⟩; have Z1 := HY.out w1 ((below_dn (Below.refl _ w) 1).trans bel1); have Y3' := Z1.2.2)
    | (go_at_call_of 42 (Tr.p r1); refine (HO.out w1 ((below_dn (Below.refl _ w) 1).trans bel1) b3 ht1).mono ?_; rintro e w2 ⟨b2, rfl, hb2, bel2, ht2⟩; have Z2 := HY.out w2 (((below_dn (Below.refl _ w) 1).trans bel1).trans (bel2.mono bel1.size))))
  all_goals go_wp2
  all_goals go_ret
  exact ⟨b2, b3, rfl, Nat.le_trans bel1.size hb2, hb3, ((below_dn (Below.refl _ w) 1).trans bel1).trans (bel2.mono bel1.size), ht2⟩
end Go.Proofs.Ytcjfammfplcigaa.Pk
