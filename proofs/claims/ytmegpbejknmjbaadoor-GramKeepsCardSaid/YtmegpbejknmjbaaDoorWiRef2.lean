/- The document's Put of a message. -/
import Derived.Test.YtmegpbejknmjbaaDoorWiRef
import Derived.Test.YtmegpbejknmjbaaDoorCut
namespace Go.Proofs.YtmegpbejknmjbaaDoor.Pk
open Go.RowKit
set_option linter.unusedVariables false
theorem put_parts {m : Mg} (h : m.Be) : (m.k = 4 → m.put = enc 8 (max m.k 0) ++ enc 8 (max m.o 0) ++ enc 8 (max m.n 0) ++ enc 8 (max m.u 0) ++ enc 8 (max m.v 0)) ∧ (m.k ≠ 4 → m.put = enc 8 (max m.k 0) ++ enc 8 (max m.o 0) ++ enc 8 (max m.n 0) ++ enc 8 (max m.u 0)) := by
  unfold Mg.put Mg.bytes Mg.nums encs
  rw [if_pos h]
  constructor
  · intro hk; rw [if_pos hk]; simp
  · intro hk; rw [if_neg hk]; simp
set_option maxHeartbeats 4000000 in
theorem refput8_any (A : Option Addr) (n c : Nat) (l : List Int) (m : Mg) (w : World) (hr : Reads w w.heap.size 1 A n (bts l)) (hn : n + 45 ≤ 140737488355328) (hm : m.I) :
    Calls Tryd.prog 29 #[.slice A n c, m.val] w fun e w' => ∃ v, e = .returned v ∧ OwnB w' w.heap.size v (l ++ m.put) ∧ Below w.heap.size w w' := by
  have HR := Lib.hid hr
  have HL : Hid (l.length = n) := Lib.hid (by have := hr.1; simpa using this)
  have HV := Lib.hid (fun u => refvalid_any m u hm)
  have HU : Hid (m.k ≤ 9223372036854775807 ∧ m.o ≤ 9223372036854775807 ∧ m.n ≤ 9223372036854775807 ∧ m.u ≤ 9223372036854775807 ∧ m.v ≤ 9223372036854775807) := Lib.hid ⟨hm.k.2, hm.o.2, hm.n.2, hm.u.2, hm.v.2⟩
  have HP := Lib.hid (@put_parts m)
  have HN : Hid (¬ m.Be → m.put = []) := Lib.hid (fun h => if_neg h)
  obtain ⟨t, ht⟩ : ∃ t, t = decide m.Be := ⟨_, rfl⟩
  rw [← ht] at HV
  have HTt := Lib.hid ht
  obtain ⟨ik, jk⟩ := hm.k
  obtain ⟨q, hq⟩ : ∃ q, q = m.put := ⟨_, rfl⟩
  rw [← hq] at HP HN ⊢
  clear hr hm ht hq
  obtain ⟨k, o, d, u, v⟩ := m
  unfold Mg.val at HV ⊢
  simp only at HU HP HV ik jk ⊢
  have HL1 := fun x => enc_len_le 8 x
  have HLe := Lib.hid HL1
  clear HL1
  go_enter Tryd.func29, Tryd.ntmps29
  obtain ⟨w1, hw1⟩ : ∃ w1, w1 = w.alloc (.cells #[.int .i64 k, .int .i64 o, .int .i64 d, .int .i64 u, .int .i64 v] 24) := ⟨_, rfl⟩
  have hb1 : Below w.heap.size w w1 := hw1 ▸ (Below.refl _ _).alloc (Nat.le_refl _) _
  have k1 : Blk w1 w.heap.size 24 #[.int .i64 k, .int .i64 o, .int .i64 d, .int .i64 u, .int .i64 v] := by rw [hw1]; exact Blk.new w _ _
  obtain ⟨p, hp⟩ : ∃ p, p = w.heap.size := ⟨_, rfl⟩
  have HW : Hid (p = w.heap.size) := Lib.hid hp
  have HZ1 : Hid (w1.heap.size = p + 1) := Lib.hid (by rw [hw1, World.size_alloc, hp])
  rw [← hp] at k1
  have HR1 := Lib.hid ((HR.out.below hb1).more hb1.size)
  have hs1 := hb1.size
  have HB1 := Lib.hid hb1
  have HK1 := Lib.hid k1
  clear hb1 k1
  go_wp2_with (at_builtin; rw [← hw1, ← hp]; clear hw1 hp; refine appE w1 rfl (.tmp 6) (.tmp 7) rfl w1.heap.size (by rw [HZ1.out]; rfl) w1.heap.size A c l n rfl HR1.out (Nat.le_refl _) (by omega) (Nat.le_refl _) ?_; intro v2 w2 hown2 hb2; obtain ⟨A2, n2, c2, rfl⟩ := own_slice hown2; have HO2 := Lib.hid (hown2.mono hs1); have HB2 := Lib.hid (HB1.out.trans (hb2.mono hs1)); have k2 := HK1.out.below hb2 HK1.out.lt; have hs2 : w.heap.size ≤ w2.heap.size := HB2.out.size; have HK2 := Lib.hid k2; have hl2 := own_len hown2; clear hown2 hb2 HB1 HK1; have x0 : w2.cell? ⟨p, 0, none⟩ = some (.int .i64 k) := k2.cell 0; have x1 : w2.cell? ⟨p, 1, none⟩ = some (.int .i64 o) := k2.cell 1; have x2 : w2.cell? ⟨p, 2, none⟩ = some (.int .i64 d) := k2.cell 2; have x3 : w2.cell? ⟨p, 3, none⟩ = some (.int .i64 u) := k2.cell 3; have x4 : w2.cell? ⟨p, 4, none⟩ = some (.int .i64 v) := k2.cell 4; clear k2)
  have hn2 : n2 ≤ n := by have := HL.out; omega
  clear hl2
  refine (HV.out w2).mono ?_
  rintro e w3 ⟨rfl, hb3⟩
  have HB3 := Lib.hid (HB2.out.trans (hb3.mono hs2))
  have HO3 := Lib.hid (HO2.out.keep hb3 (Nat.le_refl _))
  have k3 := HK2.out.below hb3 HK2.out.lt
  have hs3 : w.heap.size ≤ w3.heap.size := HB3.out.size
  have HK3 := Lib.hid k3
  have y0 : w3.cell? ⟨p, 0, none⟩ = some (.int .i64 k) := k3.cell 0
  have y1 : w3.cell? ⟨p, 1, none⟩ = some (.int .i64 o) := k3.cell 1
  have y2 : w3.cell? ⟨p, 2, none⟩ = some (.int .i64 d) := k3.cell 2
  have y3 : w3.cell? ⟨p, 3, none⟩ = some (.int .i64 u) := k3.cell 3
  have y4 : w3.cell? ⟨p, 4, none⟩ = some (.int .i64 v) := k3.cell 4
  clear hb3 k3 HB2 HO2 HK2
  cases t
  case false =>
    have h0 : Hid (q = []) := Lib.hid (HN.out (fun h => by have h1 := HTt.out; rw [decide_eq_true h] at h1; cases h1))
    go_wp2
    go_ret
    refine ⟨_, rfl, ?_, HB3.out⟩
    rw [h0.out, List.append_nil]
    exact HO3.out
  case true =>
  have HBe : Hid (Mg.Be ⟨k, o, d, u, v⟩) := Lib.hid (of_decide_eq_true HTt.out.symm)
  go_wp2_with fail
  have hl3 := own_len HO3.out
  have hr3 := own_reads HO3.out
  refine (refput_any _ _ _ (l) k w3 hr3 (by rw [← hl3.1]; (try simp only [List.length_append]); rw [HL.out];  omega) HU.out.1).mono ?_
  rintro e w4 ⟨vv, rfl, hown, hb⟩
  obtain ⟨A4, n4, c4, rfl⟩ := own_slice hown
  have HO4 := Lib.hid (hown.mono hs3)
  have HB4 := Lib.hid (HB3.out.trans (hb.mono hs3))
  have k4 := HK3.out.below hb HK3.out.lt
  have hs4 : w.heap.size ≤ w4.heap.size := HB4.out.size
  have HK4 := Lib.hid k4
  have z4_0 : w4.cell? ⟨p, 0, none⟩ = some (.int .i64 k) := k4.cell 0
  have z4_1 : w4.cell? ⟨p, 1, none⟩ = some (.int .i64 o) := k4.cell 1
  have z4_2 : w4.cell? ⟨p, 2, none⟩ = some (.int .i64 d) := k4.cell 2
  have z4_3 : w4.cell? ⟨p, 3, none⟩ = some (.int .i64 u) := k4.cell 3
  have z4_4 : w4.cell? ⟨p, 4, none⟩ = some (.int .i64 v) := k4.cell 4
  clear hown hb k4 hl3 hr3 HB3 HO3 HK3
  go_wp2_with fail
  have hl4 := own_len HO4.out
  have hr4 := own_reads HO4.out
  refine (refput_any _ _ _ (l ++ enc 8 (max k 0)) o w4 hr4 (by rw [← hl4.1]; (try simp only [List.length_append]); rw [HL.out]; have := HLe.out (max k 0);  omega) HU.out.2.1).mono ?_
  rintro e w5 ⟨vv, rfl, hown, hb⟩
  obtain ⟨A5, n5, c5, rfl⟩ := own_slice hown
  have HO5 := Lib.hid (hown.mono hs4)
  have HB5 := Lib.hid (HB4.out.trans (hb.mono hs4))
  have k5 := HK4.out.below hb HK4.out.lt
  have hs5 : w.heap.size ≤ w5.heap.size := HB5.out.size
  have HK5 := Lib.hid k5
  have z5_0 : w5.cell? ⟨p, 0, none⟩ = some (.int .i64 k) := k5.cell 0
  have z5_1 : w5.cell? ⟨p, 1, none⟩ = some (.int .i64 o) := k5.cell 1
  have z5_2 : w5.cell? ⟨p, 2, none⟩ = some (.int .i64 d) := k5.cell 2
  have z5_3 : w5.cell? ⟨p, 3, none⟩ = some (.int .i64 u) := k5.cell 3
  have z5_4 : w5.cell? ⟨p, 4, none⟩ = some (.int .i64 v) := k5.cell 4
  clear hown hb k5 hl4 hr4 HB4 HO4 HK4
  go_wp2_with fail
  have hl5 := own_len HO5.out
  have hr5 := own_reads HO5.out
  refine (refput_any _ _ _ (l ++ enc 8 (max k 0) ++ enc 8 (max o 0)) d w5 hr5 (by rw [← hl5.1]; (try simp only [List.length_append]); rw [HL.out]; have := HLe.out (max k 0); have := HLe.out (max o 0);  omega) HU.out.2.2.1).mono ?_
  rintro e w6 ⟨vv, rfl, hown, hb⟩
  obtain ⟨A6, n6, c6, rfl⟩ := own_slice hown
  have HO6 := Lib.hid (hown.mono hs5)
  have HB6 := Lib.hid (HB5.out.trans (hb.mono hs5))
  have k6 := HK5.out.below hb HK5.out.lt
  have hs6 : w.heap.size ≤ w6.heap.size := HB6.out.size
  have HK6 := Lib.hid k6
  have z6_0 : w6.cell? ⟨p, 0, none⟩ = some (.int .i64 k) := k6.cell 0
  have z6_1 : w6.cell? ⟨p, 1, none⟩ = some (.int .i64 o) := k6.cell 1
  have z6_2 : w6.cell? ⟨p, 2, none⟩ = some (.int .i64 d) := k6.cell 2
  have z6_3 : w6.cell? ⟨p, 3, none⟩ = some (.int .i64 u) := k6.cell 3
  have z6_4 : w6.cell? ⟨p, 4, none⟩ = some (.int .i64 v) := k6.cell 4
  clear hown hb k6 hl5 hr5 HB5 HO5 HK5
  go_wp2_with fail
  have hl6 := own_len HO6.out
  have hr6 := own_reads HO6.out
  refine (refput_any _ _ _ (l ++ enc 8 (max k 0) ++ enc 8 (max o 0) ++ enc 8 (max d 0)) u w6 hr6 (by rw [← hl6.1]; (try simp only [List.length_append]); rw [HL.out]; have := HLe.out (max k 0); have := HLe.out (max o 0); have := HLe.out (max d 0);  omega) HU.out.2.2.2.1).mono ?_
  rintro e w7 ⟨vv, rfl, hown, hb⟩
  obtain ⟨A7, n7, c7, rfl⟩ := own_slice hown
  have HO7 := Lib.hid (hown.mono hs6)
  have HB7 := Lib.hid (HB6.out.trans (hb.mono hs6))
  have k7 := HK6.out.below hb HK6.out.lt
  have hs7 : w.heap.size ≤ w7.heap.size := HB7.out.size
  have HK7 := Lib.hid k7
  have z7_0 : w7.cell? ⟨p, 0, none⟩ = some (.int .i64 k) := k7.cell 0
  have z7_1 : w7.cell? ⟨p, 1, none⟩ = some (.int .i64 o) := k7.cell 1
  have z7_2 : w7.cell? ⟨p, 2, none⟩ = some (.int .i64 d) := k7.cell 2
  have z7_3 : w7.cell? ⟨p, 3, none⟩ = some (.int .i64 u) := k7.cell 3
  have z7_4 : w7.cell? ⟨p, 4, none⟩ = some (.int .i64 v) := k7.cell 4
  clear hown hb k7 hl6 hr6 HB6 HO6 HK6
  by_cases h4 : k = 4
  case neg =>
    have t4 : (k == 4) = false := by simpa using h4
    go_wp2
    go_ret
    refine ⟨_, rfl, ?_, HB7.out⟩
    rw [(HP.out HBe.out).2 h4, ← List.append_assoc, ← List.append_assoc, ← List.append_assoc]
    exact HO7.out
  case pos =>
    have HE := Lib.hid ((HP.out HBe.out).1 h4)
    have t4 : (k == 4) = true := by simpa using h4
    clear h4
    go_wp2_with fail
    have hl7 := own_len HO7.out
    have hr7 := own_reads HO7.out
    refine (refput_any _ _ _ (l ++ enc 8 (max k 0) ++ enc 8 (max o 0) ++ enc 8 (max d 0) ++ enc 8 (max u 0)) v w7 hr7 (by rw [← hl7.1]; (try simp only [List.length_append]); rw [HL.out]; have := HLe.out (max k 0); have := HLe.out (max o 0); have := HLe.out (max d 0); have := HLe.out (max u 0);  omega) HU.out.2.2.2.2).mono ?_
    rintro e w8 ⟨vv, rfl, hown, hb⟩
    obtain ⟨A8, n8, c8, rfl⟩ := own_slice hown
    have HO8 := Lib.hid (hown.mono hs7)
    have HB8 := Lib.hid (HB7.out.trans (hb.mono hs7))
    have k8 := HK7.out.below hb HK7.out.lt
    have hs8 : w.heap.size ≤ w8.heap.size := HB8.out.size
    have HK8 := Lib.hid k8
    have z8_0 : w8.cell? ⟨p, 0, none⟩ = some (.int .i64 k) := k8.cell 0
    have z8_1 : w8.cell? ⟨p, 1, none⟩ = some (.int .i64 o) := k8.cell 1
    have z8_2 : w8.cell? ⟨p, 2, none⟩ = some (.int .i64 d) := k8.cell 2
    have z8_3 : w8.cell? ⟨p, 3, none⟩ = some (.int .i64 u) := k8.cell 3
    have z8_4 : w8.cell? ⟨p, 4, none⟩ = some (.int .i64 v) := k8.cell 4
    clear hown hb k8 hl7 hr7 HB7 HO7 HK7
    go_wp2
    go_ret
    refine ⟨_, rfl, ?_, HB8.out⟩
    rw [HE.out, ← List.append_assoc, ← List.append_assoc, ← List.append_assoc, ← List.append_assoc]
    exact HO8.out
end Go.Proofs.YtmegpbejknmjbaaDoor.Pk
