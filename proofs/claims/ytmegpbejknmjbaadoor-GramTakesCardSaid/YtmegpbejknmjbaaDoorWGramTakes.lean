/- The walk of the law GramTakes. -/
import Derived.Test.YtmegpbejknmjbaaDoorGmWakes
import Derived.Test.YtmegpbejknmjbaaDoorGmRef5
import Derived.Test.YtmegpbejknmjbaaDoorGmArgs
import Derived.Test.YtmegpbejknmjbaaDoorGmEq
namespace Go.Proofs.YtmegpbejknmjbaaDoor.Pk
open Go.RowKit Go.Proofs.YtmegpbejknmjbaaDoor.Ar Go.Proofs.YtmegpbejknmjbaaDoor.Crc
set_option linter.unusedVariables false
set_option maxRecDepth 100000 in
set_option maxHeartbeats 4000000 in
theorem law_GramTakes (encG : EncG) (takeG : TakeG) (decG : DecG) (a : Option Addr) (n c : Nat) (l : List Int) (w : World) (ht : Tab w) (h : ArgB w a n c l) :
    Calls Tryd.prog 4 #[.slice a n c] w fun e w' => e = .returned (.bool true) ∧ Below w.heap.size w w' := by
  obtain ⟨hr, hnc, hcx, hB⟩ := h
  have hB' : isB l := fun x hx => hB x hx
  have HR := Lib.hid hr
  have HTb := Lib.hid ht
  have HT := Lib.hid (fun u h => takeG a n c l u u.heap.size h hnc hB' (by omega))
  have HTr := Lib.hid (fun u h => reftake9_any a n c l u u.heap.size h hnc hB' (Nat.le_refl _) (by omega))
  have HD := Lib.hid (fun u ht h => decG a n c l u u.heap.size ht h hnc hB' (by omega))
  have HDr := Lib.hid (fun u h => refdec9_any a n c l u u.heap.size h hnc hB' (Nat.le_refl _) (by omega))
  have HW := Lib.hid (wakes_any encG w ht)
  obtain ⟨M, hM⟩ : ∃ M, M = (gtake l).1 := ⟨_, rfl⟩
  obtain ⟨z, hz⟩ : ∃ z, z = (gtake l).2.1 := ⟨_, rfl⟩
  obtain ⟨x, hx⟩ : ∃ x, x = (gtake l).2.2 := ⟨_, rfl⟩
  obtain ⟨M2, hM2⟩ : ∃ M, M = (gdec l).1 := ⟨_, rfl⟩
  obtain ⟨x2, hx2⟩ : ∃ x, x = (gdec l).2 := ⟨_, rfl⟩
  rw [← hM, ← hz, ← hx] at HT HTr
  rw [← hM2, ← hx2] at HD HDr
  clear hr hB hB' hM hz hx hM2 hx2 ht encG takeG decG
  obtain ⟨f, t, b, s, ⟨k, o, d, u, v⟩⟩ := M
  obtain ⟨f2, t2, b2, s2, ⟨k2, o2, d2, u2, v2⟩⟩ := M2
  unfold Gm.val at HT HTr HD HDr
  simp only at HT HTr HD HDr
  go_enter Tryd.func4, Tryd.ntmps4
  go_wp2_with fail
  refine HW.out.mono ?_
  rintro e w1 ⟨rfl, hb1⟩
  have HB1 := Lib.hid hb1
  have HR1 := Lib.hid ((HR.out.below hb1).more hb1.size)
  clear hb1
  go_wp2_with fail
  refine (HT.out w1 HR1.out).mono ?_
  rintro e w2 ⟨rfl, hb2⟩
  have HB2 := Lib.hid (HB1.out.trans (hb2.mono HB1.out.size))
  clear hb2
  obtain ⟨p, hp⟩ : ∃ p, p = w2.heap.size := ⟨_, rfl⟩
  obtain ⟨w3, hw3⟩ : ∃ w3, w3 = w2.alloc (.cells #[.int .i64 f, .int .i64 t, .int .i64 b, .int .i64 s, .int .i64 k, .int .i64 o, .int .i64 d, .int .i64 u, .int .i64 v] 26) := ⟨_, rfl⟩
  have hb3 : Below w2.heap.size w2 w3 := hw3 ▸ (Below.refl _ _).alloc (Nat.le_refl _) _
  have k3 : Blk w3 p 26 #[.int .i64 f, .int .i64 t, .int .i64 b, .int .i64 s, .int .i64 k, .int .i64 o, .int .i64 d, .int .i64 u, .int .i64 v] := by rw [hw3, hp]; exact Blk.new w2 _ _
  have HB3 := Lib.hid (HB2.out.trans (hb3.mono HB2.out.size))
  have HR3 := Lib.hid ((HR.out.below HB3.out).more HB3.out.size)
  have HK3 := Lib.hid k3
  have HP3 : Hid (w.heap.size ≤ p) := Lib.hid (by rw [hp]; exact HB2.out.size)
  go_wp2_with fail
  rw [← hw3, ← hp]
  clear hw3 hp hb3 k3 HB1
  refine (HTr.out w3 HR3.out).mono ?_
  rintro e w4 ⟨rfl, hb4⟩
  have HB4 := Lib.hid (HB3.out.trans (hb4.mono HB3.out.size))
  have HK4 := Lib.hid (HK3.out.below hb4 HK3.out.lt)
  clear hb4
  obtain ⟨q, hq⟩ : ∃ q, q = w4.heap.size := ⟨_, rfl⟩
  obtain ⟨w5, hw5⟩ : ∃ w5, w5 = w4.alloc (.cells #[.int .i64 f, .int .i64 t, .int .i64 b, .int .i64 s, .int .i64 k, .int .i64 o, .int .i64 d, .int .i64 u, .int .i64 v] 26) := ⟨_, rfl⟩
  have hb5 : Below w4.heap.size w4 w5 := hw5 ▸ (Below.refl _ _).alloc (Nat.le_refl _) _
  have HQ5 : Hid (Blk w5 q 26 #[.int .i64 f, .int .i64 t, .int .i64 b, .int .i64 s, .int .i64 k, .int .i64 o, .int .i64 d, .int .i64 u, .int .i64 v]) := Lib.hid (by rw [hw5, hq]; exact Blk.new w4 _ _)
  have HB5 := Lib.hid (HB4.out.trans (hb5.mono HB4.out.size))
  have HK5 := Lib.hid (HK4.out.below hb5 HK4.out.lt)
  have HR5 := Lib.hid ((HR.out.below HB5.out).more HB5.out.size)
  have HT5 := Lib.hid (HTb.out.below HB5.out HTb.out.pos)
  have HW5 := Lib.hid hw5
  have HQq := Lib.hid hq
  have hpl : p < w4.heap.size := HK4.out.lt
  have hpq : p < q := by rw [hq]; exact hpl
  have HPq := Lib.hid hpq
  have k4 := HK4.out
  have a0_ : w4.cell? ⟨p, 0, none⟩ = some (.int .i64 f) := k4.cell 0
  have a1_ : w4.cell? ⟨p, 1, none⟩ = some (.int .i64 t) := k4.cell 1
  have a2_ : w4.cell? ⟨p, 2, none⟩ = some (.int .i64 b) := k4.cell 2
  have a3_ : w4.cell? ⟨p, 3, none⟩ = some (.int .i64 s) := k4.cell 3
  have a4_ : w4.cell? ⟨p, 4, none⟩ = some (.int .i64 k) := k4.cell 4
  have a5_ : w4.cell? ⟨p, 5, none⟩ = some (.int .i64 o) := k4.cell 5
  have a6_ : w4.cell? ⟨p, 6, none⟩ = some (.int .i64 d) := k4.cell 6
  have a7_ : w4.cell? ⟨p, 7, none⟩ = some (.int .i64 u) := k4.cell 7
  have a8_ : w4.cell? ⟨p, 8, none⟩ = some (.int .i64 v) := k4.cell 8
  clear hw5 hb5 k4 hq hpq
  have ke : ∀ W : World, (Op.equalIn 10000 26 (.agg #[.int .i64 f, .int .i64 t, .int .i64 b, .int .i64 s, .int .i64 k, .int .i64 o, .int .i64 d, .int .i64 u, .int .i64 v]) (.agg #[.int .i64 f, .int .i64 t, .int .i64 b, .int .i64 s, .int .i64 k, .int .i64 o, .int .i64 d, .int .i64 u, .int .i64 v])).run Tryd.prog W = .ok true W := fun W => by rw [eq_gram]; simp
  have ke2 : ∀ W : World, (Op.equalIn 10000 26 (.agg #[.int .i64 f2, .int .i64 t2, .int .i64 b2, .int .i64 s2, .int .i64 k2, .int .i64 o2, .int .i64 d2, .int .i64 u2, .int .i64 v2]) (.agg #[.int .i64 f2, .int .i64 t2, .int .i64 b2, .int .i64 s2, .int .i64 k2, .int .i64 o2, .int .i64 d2, .int .i64 u2, .int .i64 v2])).run Tryd.prog W = .ok true W := fun W => by rw [eq_gram]; simp
  go_wp2_with fail
  rw [← HW5.out]
  refine (HD.out w5 HT5.out HR5.out).mono ?_
  rintro e w6 ⟨rfl, hb6⟩
  have HB6 := Lib.hid (HB5.out.trans (hb6.mono HB5.out.size))
  have HK6 := Lib.hid (HK5.out.below hb6 HK5.out.lt)
  have HQ6 := Lib.hid (HQ5.out.below hb6 HQ5.out.lt)
  clear hb6
  have k6 := HK6.out
  clear a0_ a1_ a2_ a3_ a4_ a5_ a6_ a7_ a8_
  have a0_ : w6.cell? ⟨p, 0, none⟩ = some (.int .i64 f) := k6.cell 0
  have a1_ : w6.cell? ⟨p, 1, none⟩ = some (.int .i64 t) := k6.cell 1
  have a2_ : w6.cell? ⟨p, 2, none⟩ = some (.int .i64 b) := k6.cell 2
  have a3_ : w6.cell? ⟨p, 3, none⟩ = some (.int .i64 s) := k6.cell 3
  have a4_ : w6.cell? ⟨p, 4, none⟩ = some (.int .i64 k) := k6.cell 4
  have a5_ : w6.cell? ⟨p, 5, none⟩ = some (.int .i64 o) := k6.cell 5
  have a6_ : w6.cell? ⟨p, 6, none⟩ = some (.int .i64 d) := k6.cell 6
  have a7_ : w6.cell? ⟨p, 7, none⟩ = some (.int .i64 u) := k6.cell 7
  have a8_ : w6.cell? ⟨p, 8, none⟩ = some (.int .i64 v) := k6.cell 8
  have z0_ : w6.frozen? ⟨p, 0, none⟩ = false := k6.frozen 0
  have z1_ : w6.frozen? ⟨p, 1, none⟩ = false := k6.frozen 1
  have z2_ : w6.frozen? ⟨p, 2, none⟩ = false := k6.frozen 2
  have z3_ : w6.frozen? ⟨p, 3, none⟩ = false := k6.frozen 3
  have z4_ : w6.frozen? ⟨p, 4, none⟩ = false := k6.frozen 4
  have z5_ : w6.frozen? ⟨p, 5, none⟩ = false := k6.frozen 5
  have z6_ : w6.frozen? ⟨p, 6, none⟩ = false := k6.frozen 6
  have z7_ : w6.frozen? ⟨p, 7, none⟩ = false := k6.frozen 7
  have z8_ : w6.frozen? ⟨p, 8, none⟩ = false := k6.frozen 8
  obtain ⟨w7, hw7, k7, hb7⟩ := gram_set k6 (.int .i64 f2) (.int .i64 t2) (.int .i64 b2) (.int .i64 s2) (.int .i64 k2) (.int .i64 o2) (.int .i64 d2) (.int .i64 u2) (.int .i64 v2)
  have HB7 := Lib.hid (hb7 w.heap.size w HP3.out HB6.out)
  have HK7 := Lib.hid k7
  have HW7 := Lib.hid hw7
  have HR7 := Lib.hid ((HR.out.below HB7.out).more HB7.out.size)
  have HQ7 : Hid (Blk w7 q 26 #[.int .i64 f, .int .i64 t, .int .i64 b, .int .i64 s, .int .i64 k, .int .i64 o, .int .i64 d, .int .i64 u, .int .i64 v]) := Lib.hid (by
    rw [hw7]
    exact ((((((((HQ6.out.far (by have := HPq.out; show q ≠ p; omega) _).far (by have := HPq.out; show q ≠ p; omega) _).far (by have := HPq.out; show q ≠ p; omega) _).far (by have := HPq.out; show q ≠ p; omega) _).far (by have := HPq.out; show q ≠ p; omega) _).far (by have := HPq.out; show q ≠ p; omega) _).far (by have := HPq.out; show q ≠ p; omega) _).far (by have := HPq.out; show q ≠ p; omega) _).far (by have := HPq.out; show q ≠ p; omega) _)
  clear hw7 k6 k7 hb7
  go_wp2_with fail
  rw [← HW7.out]
  try rw [← HQq.out]
  refine (HDr.out w7 HR7.out).mono ?_
  rintro e w8 ⟨rfl, hb8⟩
  have HB8 := Lib.hid (HB7.out.trans (hb8.mono HB7.out.size))
  have HK8 := Lib.hid (HK7.out.below hb8 HK7.out.lt)
  have HQ8 := Lib.hid (HQ7.out.below hb8 HQ7.out.lt)
  clear hb8
  have k8 := HK8.out
  have q8 := HQ8.out
  clear a0_ a1_ a2_ a3_ a4_ a5_ a6_ a7_ a8_ z0_ z1_ z2_ z3_ z4_ z5_ z6_ z7_ z8_
  have a0_ : w8.cell? ⟨q, 0, none⟩ = some (.int .i64 f) := q8.cell 0
  have a1_ : w8.cell? ⟨q, 1, none⟩ = some (.int .i64 t) := q8.cell 1
  have a2_ : w8.cell? ⟨q, 2, none⟩ = some (.int .i64 b) := q8.cell 2
  have a3_ : w8.cell? ⟨q, 3, none⟩ = some (.int .i64 s) := q8.cell 3
  have a4_ : w8.cell? ⟨q, 4, none⟩ = some (.int .i64 k) := q8.cell 4
  have a5_ : w8.cell? ⟨q, 5, none⟩ = some (.int .i64 o) := q8.cell 5
  have a6_ : w8.cell? ⟨q, 6, none⟩ = some (.int .i64 d) := q8.cell 6
  have a7_ : w8.cell? ⟨q, 7, none⟩ = some (.int .i64 u) := q8.cell 7
  have a8_ : w8.cell? ⟨q, 8, none⟩ = some (.int .i64 v) := q8.cell 8
  have z0_ : w8.frozen? ⟨q, 0, none⟩ = false := q8.frozen 0
  have z1_ : w8.frozen? ⟨q, 1, none⟩ = false := q8.frozen 1
  have z2_ : w8.frozen? ⟨q, 2, none⟩ = false := q8.frozen 2
  have z3_ : w8.frozen? ⟨q, 3, none⟩ = false := q8.frozen 3
  have z4_ : w8.frozen? ⟨q, 4, none⟩ = false := q8.frozen 4
  have z5_ : w8.frozen? ⟨q, 5, none⟩ = false := q8.frozen 5
  have z6_ : w8.frozen? ⟨q, 6, none⟩ = false := q8.frozen 6
  have z7_ : w8.frozen? ⟨q, 7, none⟩ = false := q8.frozen 7
  have z8_ : w8.frozen? ⟨q, 8, none⟩ = false := q8.frozen 8
  obtain ⟨w9, hw9, k9, hb9⟩ := gram_set q8 (.int .i64 f2) (.int .i64 t2) (.int .i64 b2) (.int .i64 s2) (.int .i64 k2) (.int .i64 o2) (.int .i64 d2) (.int .i64 u2) (.int .i64 v2)
  have HB9 := Lib.hid (hb9 w.heap.size w (by have := HPq.out; have := HP3.out; omega) HB8.out)
  have HW9 := Lib.hid hw9
  have HK9 : Hid (Blk w9 p 26 #[.int .i64 f2, .int .i64 t2, .int .i64 b2, .int .i64 s2, .int .i64 k2, .int .i64 o2, .int .i64 d2, .int .i64 u2, .int .i64 v2]) := Lib.hid (by
    rw [hw9]
    exact ((((((((k8.far (by have := HPq.out; show p ≠ q; omega) _).far (by have := HPq.out; show p ≠ q; omega) _).far (by have := HPq.out; show p ≠ q; omega) _).far (by have := HPq.out; show p ≠ q; omega) _).far (by have := HPq.out; show p ≠ q; omega) _).far (by have := HPq.out; show p ≠ q; omega) _).far (by have := HPq.out; show p ≠ q; omega) _).far (by have := HPq.out; show p ≠ q; omega) _).far (by have := HPq.out; show p ≠ q; omega) _)
  have p9 := HK9.out
  have c0_ : w8.cell? ⟨p, 0, none⟩ = some (.int .i64 f2) := k8.cell 0
  have c1_ : w8.cell? ⟨p, 1, none⟩ = some (.int .i64 t2) := k8.cell 1
  have c2_ : w8.cell? ⟨p, 2, none⟩ = some (.int .i64 b2) := k8.cell 2
  have c3_ : w8.cell? ⟨p, 3, none⟩ = some (.int .i64 s2) := k8.cell 3
  have c4_ : w8.cell? ⟨p, 4, none⟩ = some (.int .i64 k2) := k8.cell 4
  have c5_ : w8.cell? ⟨p, 5, none⟩ = some (.int .i64 o2) := k8.cell 5
  have c6_ : w8.cell? ⟨p, 6, none⟩ = some (.int .i64 d2) := k8.cell 6
  have c7_ : w8.cell? ⟨p, 7, none⟩ = some (.int .i64 u2) := k8.cell 7
  have c8_ : w8.cell? ⟨p, 8, none⟩ = some (.int .i64 v2) := k8.cell 8
  have d0_ : w9.cell? ⟨q, 0, none⟩ = some (.int .i64 f2) := k9.cell 0
  have d1_ : w9.cell? ⟨q, 1, none⟩ = some (.int .i64 t2) := k9.cell 1
  have d2_ : w9.cell? ⟨q, 2, none⟩ = some (.int .i64 b2) := k9.cell 2
  have d3_ : w9.cell? ⟨q, 3, none⟩ = some (.int .i64 s2) := k9.cell 3
  have d4_ : w9.cell? ⟨q, 4, none⟩ = some (.int .i64 k2) := k9.cell 4
  have d5_ : w9.cell? ⟨q, 5, none⟩ = some (.int .i64 o2) := k9.cell 5
  have d6_ : w9.cell? ⟨q, 6, none⟩ = some (.int .i64 d2) := k9.cell 6
  have d7_ : w9.cell? ⟨q, 7, none⟩ = some (.int .i64 u2) := k9.cell 7
  have d8_ : w9.cell? ⟨q, 8, none⟩ = some (.int .i64 v2) := k9.cell 8
  have e0_ : w9.cell? ⟨p, 0, none⟩ = some (.int .i64 f2) := p9.cell 0
  have e1_ : w9.cell? ⟨p, 1, none⟩ = some (.int .i64 t2) := p9.cell 1
  have e2_ : w9.cell? ⟨p, 2, none⟩ = some (.int .i64 b2) := p9.cell 2
  have e3_ : w9.cell? ⟨p, 3, none⟩ = some (.int .i64 s2) := p9.cell 3
  have e4_ : w9.cell? ⟨p, 4, none⟩ = some (.int .i64 k2) := p9.cell 4
  have e5_ : w9.cell? ⟨p, 5, none⟩ = some (.int .i64 o2) := p9.cell 5
  have e6_ : w9.cell? ⟨p, 6, none⟩ = some (.int .i64 d2) := p9.cell 6
  have e7_ : w9.cell? ⟨p, 7, none⟩ = some (.int .i64 u2) := p9.cell 7
  have e8_ : w9.cell? ⟨p, 8, none⟩ = some (.int .i64 v2) := p9.cell 8
  clear hw9 k9 q8 k8 p9
  have hpq := HPq.out
  have hne1 : p ≠ q := by omega
  have hne2 : q ≠ p := by omega
  go_wp2
  rw [← HW9.out]
  go_ret
  exact ⟨rfl, HB9.out⟩
end Go.Proofs.YtmegpbejknmjbaaDoor.Pk
