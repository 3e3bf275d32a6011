/- The walk of the law WireTakes. -/
import Derived.Test.YtdfjgfonbbgfcaaWiWakes
import Derived.Test.YtdfjgfonbbgfcaaWiRef3
import Derived.Test.YtdfjgfonbbgfcaaWiArgs
import Derived.Test.YtdfjgfonbbgfcaaWiEq
import Derived.Deep.RegionHeld3
import Derived.Deep.DeepMust
namespace Go.Proofs.Ytdfjgfonbbgfcaa.Pk
open Go.RowKit Go.Proofs.Ytdfjgfonbbgfcaa.Ar
set_option linter.unusedVariables false
theorem below_by {w w' : World} {i : Nat} (h : Below w.heap.size (w.drewN i) w') : Below w.heap.size w w' := ⟨h.os, h.tape, h.output, h.size, h.block⟩
set_option maxRecDepth 100000 in
set_option maxHeartbeats 4000000 in
theorem law_WireTakes (putC : PutC) (takeC : TakeC) (faultC : FaultC) (a : Option Addr) (n c : Nat) (l : List Int) (w : World) (h : ArgB w a n c l) :
    Calls Try.prog 4 #[.slice a n c] w fun e w' => e = .returned (.bool true) ∧ Below w.heap.size w w' := by
  obtain ⟨hr, hnc, hcx, hB⟩ := h
  have hB' : isB l := fun x hx => hB x hx
  have HR := Lib.hid hr
  have HT := Lib.hid (fun u h => takeC a n c l u u.heap.size h hnc hB' (by omega))
  have HTr := Lib.hid (fun u h => reftake8_any a n c l u u.heap.size h hnc hB' (Nat.le_refl _) (by omega))
  have HF := Lib.hid (fun u h => faultC a n c l u u.heap.size h hnc hB' (by omega))
  have HFr := Lib.hid (fun u h => reffault_any a n c l u u.heap.size h hB' (by omega))
  have HW := Lib.hid (wakes_any putC w)
  obtain ⟨M, hM⟩ : ∃ M, M = (wtake l).1 := ⟨_, rfl⟩
  obtain ⟨z, hz⟩ : ∃ z, z = (wtake l).2.1 := ⟨_, rfl⟩
  obtain ⟨x, hx⟩ : ∃ x, x = (wtake l).2.2 := ⟨_, rfl⟩
  obtain ⟨y, hy⟩ : ∃ y, y = fault l := ⟨_, rfl⟩
  rw [← hM, ← hz, ← hx] at HT HTr
  rw [← hy] at HF HFr
  clear hr hB hB' hM hz hx hy putC takeC faultC
  obtain ⟨k, o, d, u, v⟩ := M
  unfold Mg.val at HT HTr
  simp only at HT HTr
  go_enter Try.func4, Try.ntmps4
  go_wp2_with fail
  refine HW.out.mono ?_
  rintro e w1 ⟨rfl, hb1⟩
  have HB1 := Lib.hid hb1
  have HR1 := Lib.hid ((HR.out.below hb1).more hb1.size)
  clear hb1
  go_wp2_with fail
  refine (HT.out w1 HR1.out).mono ?_
  rintro e w2 ⟨rfl, hb2⟩
  have HB2 := Lib.hid (HB1.out.trans (hb2.mono HB1.out.size))
  have HR2 := Lib.hid ((HR.out.below HB2.out).more HB2.out.size)
  clear hb2
  obtain ⟨p, hp⟩ : ∃ p, p = w2.heap.size := ⟨_, rfl⟩
  obtain ⟨w3, hw3⟩ : ∃ w3, w3 = w2.alloc (.cells #[.int .i64 k, .int .i64 o, .int .i64 d, .int .i64 u, .int .i64 v] 24) := ⟨_, rfl⟩
  have hb3 : Below w2.heap.size w2 w3 := hw3 ▸ (Below.refl _ _).alloc (Nat.le_refl _) _
  have k3 : Blk w3 p 24 #[.int .i64 k, .int .i64 o, .int .i64 d, .int .i64 u, .int .i64 v] := by rw [hw3, hp]; exact Blk.new w2 _ _
  have HB3 := Lib.hid (HB2.out.trans (hb3.mono HB2.out.size))
  have HR3 := Lib.hid ((HR.out.below HB3.out).more HB3.out.size)
  have HK3 := Lib.hid k3
  go_wp2_with fail
  rw [← hw3, ← hp]
  clear hw3 hp hb3 k3 HR2 HB1
  refine (HTr.out w3 HR3.out).mono ?_
  rintro e w4 ⟨rfl, hb4⟩
  have HB4 := Lib.hid (HB3.out.trans (hb4.mono HB3.out.size))
  have HK4 := Lib.hid (HK3.out.below hb4 HK3.out.lt)
  clear hb4
  obtain ⟨w5, hw5⟩ : ∃ w5, w5 = w4.alloc (.cells #[.int .i64 k, .int .i64 o, .int .i64 d, .int .i64 u, .int .i64 v] 24) := ⟨_, rfl⟩
  have hb5 : Below w4.heap.size w4 w5 := hw5 ▸ (Below.refl _ _).alloc (Nat.le_refl _) _
  have HB5 := Lib.hid (HB4.out.trans (hb5.mono HB4.out.size))
  have HR5 := Lib.hid ((HR.out.below HB5.out).more HB5.out.size)
  have HW5 := Lib.hid hw5
  have hpl : p < w4.heap.size := HK4.out.lt
  have a0 : w4.cell? ⟨p, 0, none⟩ = some (.int .i64 k) := HK4.out.cell 0
  have a1 : w4.cell? ⟨p, 1, none⟩ = some (.int .i64 o) := HK4.out.cell 1
  have a2 : w4.cell? ⟨p, 2, none⟩ = some (.int .i64 d) := HK4.out.cell 2
  have a3 : w4.cell? ⟨p, 3, none⟩ = some (.int .i64 u) := HK4.out.cell 3
  have a4 : w4.cell? ⟨p, 4, none⟩ = some (.int .i64 v) := HK4.out.cell 4
  clear hw5 hb5
  have ke : ∀ W : World, (Op.equalIn 10000 24 (.agg #[.int .i64 k, .int .i64 o, .int .i64 d, .int .i64 u, .int .i64 v]) (.agg #[.int .i64 k, .int .i64 o, .int .i64 d, .int .i64 u, .int .i64 v])).run Try.prog W = .ok true W := fun W => by rw [eq_msg]; simp
  go_wp2_with fail
  rw [← HW5.out]
  refine (HF.out w5 HR5.out).mono ?_
  rintro e w6 ⟨rfl, hb6⟩
  have HB6 := Lib.hid (HB5.out.trans (hb6.mono HB5.out.size))
  have HR6 := Lib.hid ((HR.out.below HB6.out).more HB6.out.size)
  clear hb6
  go_wp2_with fail
  refine (HFr.out w6 HR6.out).mono ?_
  rintro e w7 ⟨rfl, hw7⟩
  rw [hw7]
  clear hw7 w7
  go_wp2
  go_ret
  exact ⟨rfl, HB6.out⟩
end Go.Proofs.Ytdfjgfonbbgfcaa.Pk
