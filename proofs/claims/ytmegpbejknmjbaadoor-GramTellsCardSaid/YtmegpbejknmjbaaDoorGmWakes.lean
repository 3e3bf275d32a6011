/- The law's own 'wakes'. -/
import Derived.Test.YtmegpbejknmjbaaDoorGmSpec
import Derived.Test.YtmegpbejknmjbaaDoorSameGm
import Derived.Test.YtmegpbejknmjbaaDoorCut
namespace Go.Proofs.YtmegpbejknmjbaaDoor.Pk
open Go.RowKit Go.Proofs.YtmegpbejknmjbaaDoor.Crc
set_option linter.unusedVariables false
theorem lt_heap0 {w : World} {a : Addr} {u : Value} (h : w.cell? a = some u) : a.block < w.heap.size := World.block_lt_of_cell? w _ h
theorem Tab.pos {w : World} (h : Tab w) : 0 < w.heap.size := lt_heap0 (h 0 (by omega))
theorem Tab.next {w w' : World} (h : Tab w) (hb : Below w.heap.size w w') : Tab w' := h.below hb h.pos
theorem Tab.alloc {w : World} (h : Tab w) (o : Obj) : Tab (w.alloc o) := h.next ((Below.refl _ _).alloc (Nat.le_refl _) _)
theorem Tab.drewN {w : World} (h : Tab w) (n : Nat) : Tab (w.drewN n) := h
theorem wake_be : Gm.Be ⟨0, 1, 2, 0, ⟨0, 0, 0, 0, 0⟩⟩ := by decide
theorem wake_bytes : Gm.bytes ⟨0, 1, 2, 0, ⟨0, 0, 0, 0, 0⟩⟩ = [0, 1, 2, 0] := by decide
theorem wake_enc : genc ⟨0, 1, 2, 0, ⟨0, 0, 0, 0, 0⟩⟩ = ([0, 1, 2, 0] ++ Fr.le4 (crc 0 [0, 1, 2, 0]), 0) := by
  unfold genc Gm.all
  rw [if_pos wake_be, wake_bytes]
set_option maxRecDepth 100000 in
set_option maxHeartbeats 1600000 in
theorem wakes_any (encG : EncG) (w : World) (ht : Tab w) : Calls Tryd.prog 9 #[] w fun e w' => e = .returned (.bool true) ∧ Below w.heap.size w w' := by
  have HE := Lib.hid (encG ⟨0, 1, 2, 0, ⟨0, 0, 0, 0, 0⟩⟩ w ht wake_be.i)
  clear ht
  go_enter Tryd.func9, Tryd.ntmps9
  go_wp2_with fail
  refine HE.out.mono ?_
  rintro e w1 ⟨v1, rfl, hown, hb⟩
  rw [wake_enc] at hown ⊢
  obtain ⟨q, hq⟩ : ∃ q, q = Fr.le4 (crc 0 [0, 1, 2, 0]) := ⟨_, rfl⟩
  have hq4 : q.length = 4 := by rw [hq]; rfl
  rw [← hq] at hown ⊢
  clear hq
  obtain ⟨A1, n1, c1, rfl⟩ := own_slice hown
  have hl := own_len hown
  obtain rfl : n1 = 8 := by have := hl.1; simp [hq4] at this; omega
  have hc1 : 8 ≤ c1 := hl.2
  have HO := Lib.hid hown
  have HB := Lib.hid hb
  have hs := hb.size
  clear hown hb HE hl
  obtain ⟨w2, hw2⟩ : ∃ w2, w2 = w1.alloc (.cells #[.int .u8 0, .int .u8 1, .int .u8 2, .int .u8 0] 5) := ⟨_, rfl⟩
  have hb2 : Below w1.heap.size w1 w2 := hw2 ▸ (Below.refl _ _).alloc (Nat.le_refl _) _
  have hrd : Reads w2 w2.heap.size 1 (some ⟨w1.heap.size, 0, none⟩) 4 (bts [0, 1, 2, 0]) := by
    rw [hw2]
    exact reads_new w1 _ _ _ 4 (bts [0, 1, 2, 0]) rfl rfl (by simp)
  have HRD := Lib.hid hrd
  have HB2 := Lib.hid (HB.out.trans (hb2.mono hs))
  have HO2 := Lib.hid (own_reads (HO.out.keep hb2 (Nat.le_refl _)))
  have HW2 := Lib.hid hw2
  have HO3 : Hid (Reads w2 w2.heap.size 1 A1 4 (bts [0, 1, 2, 0])) := Lib.hid (by
    have := HO2.out.take (k := 4) (by omega)
    simpa using this)
  clear hw2 hb2 hrd
  go_wp2_with fail
  rw [← HW2.out]
  refine (same_any A1 (some ⟨w1.heap.size, 0, none⟩) 4 c1 4 4 [0, 1, 2, 0] [0, 1, 2, 0] w2 _ _ HO3.out HRD.out (by omega)).mono ?_
  rintro e w3 ⟨rfl, k, rfl⟩
  go_wp2
  go_ret
  exact ⟨rfl, below_drewN HB2.out _⟩
end Go.Proofs.YtmegpbejknmjbaaDoor.Pk
