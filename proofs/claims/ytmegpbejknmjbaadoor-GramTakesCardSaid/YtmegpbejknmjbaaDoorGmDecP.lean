/- The landed Decode of a datagram. -/
import Derived.Test.YtmegpbejknmjbaaDoorGmTakeP
import Derived.Test.YtmegpbejknmjbaaDoorGmSumP
import Derived.Test.YtmegpbejknmjbaaDoorGmRef5
import Derived.Test.YtmegpbejknmjbaaDoorEqual
import Derived.Test.YtmegpbejknmjbaaDoorGmWakes
namespace Go.Proofs.YtmegpbejknmjbaaDoor.Pk
open Go.RowKit Go.Proofs.YtmegpbejknmjbaaDoor.Crc
set_option linter.unusedVariables false
set_option maxRecDepth 100000 in
set_option maxHeartbeats 4000000 in
theorem decG : DecG := by
  intro A n c l w B htab h hc hB hn
  have HTb := Lib.hid htab
  have HL : Hid (l.length = n) := by have := h.1; simp at this; exact this
  have HR := Lib.hid (reads_in h)
  have HB := Lib.hid hB
  clear h hB htab
  go_enter Tryd.func19, Tryd.ntmps19
  obtain ⟨p, hp⟩ : ∃ p, p = w.heap.size := ⟨_, rfl⟩
  obtain ⟨w1, hw1⟩ : ∃ w1, w1 = w.alloc (.cells #[.int .i64 0, .int .i64 0, .int .i64 0, .int .i64 0, .int .i64 0, .int .i64 0, .int .i64 0, .int .i64 0, .int .i64 0] 26) := ⟨_, rfl⟩
  have hb1 : Below w.heap.size w w1 := hw1 ▸ (Below.refl _ _).alloc (Nat.le_refl _) _
  have HK1 : Hid (Blk w1 p 26 #[.int .i64 0, .int .i64 0, .int .i64 0, .int .i64 0, .int .i64 0, .int .i64 0, .int .i64 0, .int .i64 0, .int .i64 0]) := Lib.hid (by rw [hw1, hp]; exact Blk.new w _ _)
  have HB1 := Lib.hid hb1
  have HR1 := Lib.hid ((HR.out.below hb1).more hb1.size)
  have HPw : Hid (p = w.heap.size) := Lib.hid hp
  by_cases h4 : n < 4
  case pos =>
    have HS : Hid (gdec l = (Gm.zero, 30)) := Lib.hid (by unfold gdec; rw [if_pos (by rw [HL.out]; exact h4)])
    have hneg : decide ((n : Int) - 4 < 0) = true := by simp; omega
    have HW1 := Lib.hid hw1
    have HPp := Lib.hid hp
    clear hw1 hp hb1
    go_wp2
    refine bodyPost_ret (v := .tuple #[Gm.zero.val, .int .i64 30]) (by simp [results, Tryd.f19, go_sem, Gm.val, Gm.zero, Mg.zero]) rfl ⟨?_, (Below.refl _ w).alloc (Nat.le_refl _) _⟩
    rw [HS.out]
  case neg =>
  obtain ⟨m, hm⟩ : ∃ m, m + 4 = n := ⟨n - 4, by omega⟩
  have HG := Lib.hid (gdec_at (l := l) (m := m) (hm.trans HL.out.symm))
  have HHL := Lib.hid hm
  have hwr : IntKind.i64.wrap ((n : Int) - 4) = (m : Int) := by rw [IntWalk.i64_in _ (by omega)]; (try omega)
  have hnm : (n : Int) - 4 = (m : Int) := by omega
  have hpos : decide ((m : Int) < 0) = false := by simp
  have hmn : m ≤ n := by omega
  have hmc : m ≤ c := by omega
  have hnc : c ≤ c := Nat.le_refl _
  have HRm : Hid (Reads w1 w1.heap.size 1 A m (bts (l.take m))) := Lib.hid (HR1.out.take hmn)
  have HBm : Hid (isB (l.take m)) := Lib.hid (fun x hx => HB.out x (List.mem_of_mem_take hx))
  have kc : ∀ u : World, (Instr.slice 22 (.slice A n c) none (some (.int .i64 (m : Int))) none).run Tryd.prog u = .ok (.slice A m c) u := fun u => run_cutk Tryd.underlying22 (by kernel_rfl) A n c m hmc u
  have kd : ∀ u : World, (Instr.slice 22 (.slice A n c) (some (.int .i64 (m : Int))) none none).run Tryd.prog u = .ok (.slice (cutA A c m) (n - m) (c - m)) u := fun u => run_cut1 Tryd.underlying22 (by kernel_rfl) A n c m hmn u
  have HT1 : Hid (Tab w1) := Lib.hid (HTb.out.next HB1.out)
  have HSm : Hid (∀ i, Calls Tryd.prog 21 #[.slice A m c] (w1.drewN i) fun e w' => ∃ v, e = .returned v ∧ OwnB w' w1.heap.size v (Fr.le4 (Crc.crc 0 (l.take m))) ∧ Below w1.heap.size w1 w') := Lib.hid (fun i => (sumOf_any A m c (l.take m) (w1.drewN i) w1.heap.size (HT1.out.drewN i) (HRm.out.drewN i) (by omega) HBm.out).mono (fun e w' h => by
    obtain ⟨v, h1, h2, h3⟩ := h
    exact ⟨v, h1, h2, (below_drewN (Below.refl _ _) i).trans h3⟩))
  obtain ⟨Z, hZ⟩ : ∃ Z, Z = Fr.le4 (Crc.crc 0 (l.take m)) := ⟨_, rfl⟩
  have HZb : Hid (isB Z) := Lib.hid (by rw [hZ]; exact Fr.le4_bytes _)
  rw [← hZ] at HSm HG
  have HHm := Lib.hid hm
  have hmi : (m : Int) ≤ (n : Int) := by omega
  have hmw : IntKind.i64.wrap (m : Int) = (m : Int) := IntWalk.i64_in _ (by omega)
  clear hm h4 hZ hb1
  go_wp2_with fail
  rw [← hw1, ← hp]
  clear hw1 hp
  have HGo : Hid (∀ A2 n2 c2 w2, OwnB w2 w1.heap.size (.slice A2 n2 c2) Z → Below w1.heap.size w1 w2 → Calls Tryd.prog 36 #[.slice (cutA A c m) (n - m) (c - m), .slice A2 n2 c2] w2 fun e w' => e = .returned (.bool (decide (l.drop m = Z))) ∧ w' = w2) := Lib.hid (by
    intro A2 n2 c2 w2 ho hb
    have h1 := reads_cut (c := c) ((HR1.out.below hb).more hb.size) hmn (Nat.le_refl _) hc
    rw [← HL.out, List.take_length, HL.out] at h1
    exact equal_any (cutA A c m) A2 (n - m) (c - m) n2 c2 (l.drop m) Z w2 w2.heap.size w2.heap.size h1 (own_reads ho) (isB_drop_ HB.out m) HZb.out)
  by_cases hs : Z = l.drop m
  case neg =>
    have HS : Hid (gdec l = (Gm.zero, 32)) := Lib.hid (HG.out.trans (if_neg hs))
    rw [decide_eq_false (fun e => hs e.symm)] at HGo
    clear hs HG
    go_region_held3 (fun _ => True) (first | exact trivial | go_keep) (first
      | (go_at_call 21; go_must (refine (HSm.out _).mono ?_; rintro e w2 ⟨v2, rfl, ho2, hb2⟩; obtain ⟨A2, n2, c2, rfl⟩ := own_slice ho2; have HO2 := Lib.hid ho2; have HB2b := Lib.hid hb2; clear ho2 hb2))
      | (go_at_call 36; go_must (refine (HGo.out _ _ _ _ HO2.out HB2b.out).mono ?_; rintro e w3 ⟨rfl, hw⟩; rw [hw]; clear hw w3)))
    all_goals
     have HB2 := Lib.hid (HB1.out.trans (HB2b.out.mono HB1.out.size))
     have HK2 := Lib.hid (HK1.out.below HB2b.out HK1.out.lt)
     have k2 := HK2.out
     have x0_ : w2.cell? ⟨p, 0, none⟩ = some (.int .i64 (0)) := k2.cell 0
     have x1_ : w2.cell? ⟨p, 1, none⟩ = some (.int .i64 (0)) := k2.cell 1
     have x2_ : w2.cell? ⟨p, 2, none⟩ = some (.int .i64 (0)) := k2.cell 2
     have x3_ : w2.cell? ⟨p, 3, none⟩ = some (.int .i64 (0)) := k2.cell 3
     have x4_ : w2.cell? ⟨p, 4, none⟩ = some (.int .i64 (0)) := k2.cell 4
     have x5_ : w2.cell? ⟨p, 5, none⟩ = some (.int .i64 (0)) := k2.cell 5
     have x6_ : w2.cell? ⟨p, 6, none⟩ = some (.int .i64 (0)) := k2.cell 6
     have x7_ : w2.cell? ⟨p, 7, none⟩ = some (.int .i64 (0)) := k2.cell 7
     have x8_ : w2.cell? ⟨p, 8, none⟩ = some (.int .i64 (0)) := k2.cell 8
     have f0_ : w2.frozen? ⟨p, 0, none⟩ = false := k2.frozen 0
     have f1_ : w2.frozen? ⟨p, 1, none⟩ = false := k2.frozen 1
     have f2_ : w2.frozen? ⟨p, 2, none⟩ = false := k2.frozen 2
     have f3_ : w2.frozen? ⟨p, 3, none⟩ = false := k2.frozen 3
     have f4_ : w2.frozen? ⟨p, 4, none⟩ = false := k2.frozen 4
     have f5_ : w2.frozen? ⟨p, 5, none⟩ = false := k2.frozen 5
     have f6_ : w2.frozen? ⟨p, 6, none⟩ = false := k2.frozen 6
     have f7_ : w2.frozen? ⟨p, 7, none⟩ = false := k2.frozen 7
     have f8_ : w2.frozen? ⟨p, 8, none⟩ = false := k2.frozen 8
     obtain ⟨w5, hw5, k5, hb5⟩ := gram_set k2 (.int .i64 0) (.int .i64 0) (.int .i64 0) (.int .i64 0) (.int .i64 0) (.int .i64 0) (.int .i64 0) (.int .i64 0) (.int .i64 0)
     have HB5 := Lib.hid (hb5 w.heap.size w (by have := HPw.out; omega) HB2.out)
     have HW5 := Lib.hid hw5
     have y0_ : w5.cell? ⟨p, 0, none⟩ = some (.int .i64 (0)) := k5.cell 0
     have y1_ : w5.cell? ⟨p, 1, none⟩ = some (.int .i64 (0)) := k5.cell 1
     have y2_ : w5.cell? ⟨p, 2, none⟩ = some (.int .i64 (0)) := k5.cell 2
     have y3_ : w5.cell? ⟨p, 3, none⟩ = some (.int .i64 (0)) := k5.cell 3
     have y4_ : w5.cell? ⟨p, 4, none⟩ = some (.int .i64 (0)) := k5.cell 4
     have y5_ : w5.cell? ⟨p, 5, none⟩ = some (.int .i64 (0)) := k5.cell 5
     have y6_ : w5.cell? ⟨p, 6, none⟩ = some (.int .i64 (0)) := k5.cell 6
     have y7_ : w5.cell? ⟨p, 7, none⟩ = some (.int .i64 (0)) := k5.cell 7
     have y8_ : w5.cell? ⟨p, 8, none⟩ = some (.int .i64 (0)) := k5.cell 8
     clear k2 hw5 k5 hb5
     go_wp2
     all_goals
       rw [← HW5.out]
       refine bodyPost_ret (v := .tuple #[Gm.zero.val, .int .i64 (32)]) (by simp [results, Tryd.f19, go_sem, y0_, y1_, y2_, y3_, y4_, y5_, y6_, y7_, y8_, Gm.val, Gm.zero, Mg.zero]) rfl ⟨?_, HB5.out⟩
       rw [HS.out]
       try rfl
  case pos =>
    have HG2 := Lib.hid (HG.out.trans (if_pos hs))
    rw [decide_eq_true hs.symm] at HGo
    clear hs HG
    obtain ⟨⟨⟨f, t, a, s, ⟨k, o, d, u, v⟩⟩, j, er⟩, hgt⟩ : ∃ r, r = gtake (l.take m) := ⟨_, rfl⟩
    have HTa : Hid (∀ u, Reads u u.heap.size 1 A n (bts l) → Hid (Calls Tryd.prog 17 #[.slice A m c] u fun e w' => e = .returned (.tuple #[(gtake (l.take m)).1.val, .int .i64 ((gtake (l.take m)).2.1 : Int), .int .i64 (gtake (l.take m)).2.2]) ∧ Below u.heap.size u w')) := Lib.hid (fun u hu => Lib.hid (takeG A m c (l.take m) u u.heap.size (hu.take hmn) hmc HBm.out (by omega)))
    rw [← hgt] at HG2 HTa
    have HG3 : Hid (gdec l = if er = 0 ∧ j = m then (⟨f, t, a, s, ⟨k, o, d, u, v⟩⟩, 0) else (Gm.zero, 31)) := Lib.hid HG2.out
    have hjm : j ≤ m ∧ (er = 0 ∨ er = 30 ∨ er = 31) := by
      have hlm : (l.take m).length = m := by rw [List.length_take, HL.out]; omega
      rcases gtake_cases _ HBm.out with ⟨g, _, h1, h2, _⟩ | ⟨e, h1, h2⟩
      · rw [h1] at hgt
        have h3 : j = g.bytes.length := congrArg (fun r => r.2.1) hgt
        have h4 : er = 0 := congrArg (fun r => r.2.2) hgt
        omega
      · rw [h1] at hgt
        have h3 : j = 0 := congrArg (fun r => r.2.1) hgt
        have h4 : er = e := congrArg (fun r => r.2.2) hgt
        omega
    obtain ⟨hj1, hj2⟩ := hjm
    unfold Gm.val at HTa
    try simp only at HTa
    clear hgt HG2
    go_region_held3 (fun _ => True) (first | exact trivial | go_keep) (first
      | (go_at_call 21; go_must (refine (HSm.out _).mono ?_; rintro e w2 ⟨v2, rfl, ho2, hb2⟩; obtain ⟨A2, n2, c2, rfl⟩ := own_slice ho2; have HO2 := Lib.hid ho2; have HB2b := Lib.hid hb2; clear ho2 hb2))
      | (go_at_call 36; go_must (refine (HGo.out _ _ _ _ HO2.out HB2b.out).mono ?_; rintro e w3 ⟨rfl, hw⟩; rw [hw]; clear hw w3)))
    all_goals
     have HB2 := Lib.hid (HB1.out.trans (HB2b.out.mono HB1.out.size))
     have HR2 := Lib.hid ((HR1.out.below HB2b.out).more HB2b.out.size)
     have HK2 := Lib.hid (HK1.out.below HB2b.out HK1.out.lt)
     have HTk := HTa.out w2 HR2.out
    go_wp2_with fail
    refine HTk.out.mono ?_
    rintro e3 w3 ⟨rfl, hb3⟩
    have HB3 := Lib.hid (HB2.out.trans (hb3.mono HB2.out.size))
    have HK3 := Lib.hid (HK2.out.below hb3 HK2.out.lt)
    have hb3b : Below w3.heap.size w3 (w3.alloc (.cells #[.int .i64 f, .int .i64 t, .int .i64 a, .int .i64 s, .int .i64 k, .int .i64 o, .int .i64 d, .int .i64 u, .int .i64 v] 26)) := (Below.refl _ _).alloc (Nat.le_refl _) _
    have HB4 := Lib.hid (HB3.out.trans (hb3b.mono HB3.out.size))
    have HK4 := Lib.hid (HK3.out.below hb3b HK3.out.lt)
    have HM4 : Hid (Blk (w3.alloc (.cells #[.int .i64 f, .int .i64 t, .int .i64 a, .int .i64 s, .int .i64 k, .int .i64 o, .int .i64 d, .int .i64 u, .int .i64 v] 26)) w3.heap.size 26 #[.int .i64 f, .int .i64 t, .int .i64 a, .int .i64 s, .int .i64 k, .int .i64 o, .int .i64 d, .int .i64 u, .int .i64 v]) := Lib.hid (Blk.new w3 _ _)
    clear hb3 hb3b
    by_cases he : er = 0 ∧ j = m
    case neg =>
      have HS : Hid (gdec l = (Gm.zero, 31)) := Lib.hid (HG3.out.trans (if_neg he))
      have hw4 : er ≠ 0 ∨ (er = 0 ∧ j < m) := by omega
      clear he hj2
      rcases hw4 with hb4 | ⟨rfl, hb4⟩
      all_goals
        have k2 := HK4.out
        have x0_ : (w3.alloc (.cells #[.int .i64 f, .int .i64 t, .int .i64 a, .int .i64 s, .int .i64 k, .int .i64 o, .int .i64 d, .int .i64 u, .int .i64 v] 26)).cell? ⟨p, 0, none⟩ = some (.int .i64 (0)) := k2.cell 0
        have x1_ : (w3.alloc (.cells #[.int .i64 f, .int .i64 t, .int .i64 a, .int .i64 s, .int .i64 k, .int .i64 o, .int .i64 d, .int .i64 u, .int .i64 v] 26)).cell? ⟨p, 1, none⟩ = some (.int .i64 (0)) := k2.cell 1
        have x2_ : (w3.alloc (.cells #[.int .i64 f, .int .i64 t, .int .i64 a, .int .i64 s, .int .i64 k, .int .i64 o, .int .i64 d, .int .i64 u, .int .i64 v] 26)).cell? ⟨p, 2, none⟩ = some (.int .i64 (0)) := k2.cell 2
        have x3_ : (w3.alloc (.cells #[.int .i64 f, .int .i64 t, .int .i64 a, .int .i64 s, .int .i64 k, .int .i64 o, .int .i64 d, .int .i64 u, .int .i64 v] 26)).cell? ⟨p, 3, none⟩ = some (.int .i64 (0)) := k2.cell 3
        have x4_ : (w3.alloc (.cells #[.int .i64 f, .int .i64 t, .int .i64 a, .int .i64 s, .int .i64 k, .int .i64 o, .int .i64 d, .int .i64 u, .int .i64 v] 26)).cell? ⟨p, 4, none⟩ = some (.int .i64 (0)) := k2.cell 4
        have x5_ : (w3.alloc (.cells #[.int .i64 f, .int .i64 t, .int .i64 a, .int .i64 s, .int .i64 k, .int .i64 o, .int .i64 d, .int .i64 u, .int .i64 v] 26)).cell? ⟨p, 5, none⟩ = some (.int .i64 (0)) := k2.cell 5
        have x6_ : (w3.alloc (.cells #[.int .i64 f, .int .i64 t, .int .i64 a, .int .i64 s, .int .i64 k, .int .i64 o, .int .i64 d, .int .i64 u, .int .i64 v] 26)).cell? ⟨p, 6, none⟩ = some (.int .i64 (0)) := k2.cell 6
        have x7_ : (w3.alloc (.cells #[.int .i64 f, .int .i64 t, .int .i64 a, .int .i64 s, .int .i64 k, .int .i64 o, .int .i64 d, .int .i64 u, .int .i64 v] 26)).cell? ⟨p, 7, none⟩ = some (.int .i64 (0)) := k2.cell 7
        have x8_ : (w3.alloc (.cells #[.int .i64 f, .int .i64 t, .int .i64 a, .int .i64 s, .int .i64 k, .int .i64 o, .int .i64 d, .int .i64 u, .int .i64 v] 26)).cell? ⟨p, 8, none⟩ = some (.int .i64 (0)) := k2.cell 8
        have f0_ : (w3.alloc (.cells #[.int .i64 f, .int .i64 t, .int .i64 a, .int .i64 s, .int .i64 k, .int .i64 o, .int .i64 d, .int .i64 u, .int .i64 v] 26)).frozen? ⟨p, 0, none⟩ = false := k2.frozen 0
        have f1_ : (w3.alloc (.cells #[.int .i64 f, .int .i64 t, .int .i64 a, .int .i64 s, .int .i64 k, .int .i64 o, .int .i64 d, .int .i64 u, .int .i64 v] 26)).frozen? ⟨p, 1, none⟩ = false := k2.frozen 1
        have f2_ : (w3.alloc (.cells #[.int .i64 f, .int .i64 t, .int .i64 a, .int .i64 s, .int .i64 k, .int .i64 o, .int .i64 d, .int .i64 u, .int .i64 v] 26)).frozen? ⟨p, 2, none⟩ = false := k2.frozen 2
        have f3_ : (w3.alloc (.cells #[.int .i64 f, .int .i64 t, .int .i64 a, .int .i64 s, .int .i64 k, .int .i64 o, .int .i64 d, .int .i64 u, .int .i64 v] 26)).frozen? ⟨p, 3, none⟩ = false := k2.frozen 3
        have f4_ : (w3.alloc (.cells #[.int .i64 f, .int .i64 t, .int .i64 a, .int .i64 s, .int .i64 k, .int .i64 o, .int .i64 d, .int .i64 u, .int .i64 v] 26)).frozen? ⟨p, 4, none⟩ = false := k2.frozen 4
        have f5_ : (w3.alloc (.cells #[.int .i64 f, .int .i64 t, .int .i64 a, .int .i64 s, .int .i64 k, .int .i64 o, .int .i64 d, .int .i64 u, .int .i64 v] 26)).frozen? ⟨p, 5, none⟩ = false := k2.frozen 5
        have f6_ : (w3.alloc (.cells #[.int .i64 f, .int .i64 t, .int .i64 a, .int .i64 s, .int .i64 k, .int .i64 o, .int .i64 d, .int .i64 u, .int .i64 v] 26)).frozen? ⟨p, 6, none⟩ = false := k2.frozen 6
        have f7_ : (w3.alloc (.cells #[.int .i64 f, .int .i64 t, .int .i64 a, .int .i64 s, .int .i64 k, .int .i64 o, .int .i64 d, .int .i64 u, .int .i64 v] 26)).frozen? ⟨p, 7, none⟩ = false := k2.frozen 7
        have f8_ : (w3.alloc (.cells #[.int .i64 f, .int .i64 t, .int .i64 a, .int .i64 s, .int .i64 k, .int .i64 o, .int .i64 d, .int .i64 u, .int .i64 v] 26)).frozen? ⟨p, 8, none⟩ = false := k2.frozen 8
        obtain ⟨w5, hw5, k5, hb5⟩ := gram_set k2 (.int .i64 0) (.int .i64 0) (.int .i64 0) (.int .i64 0) (.int .i64 0) (.int .i64 0) (.int .i64 0) (.int .i64 0) (.int .i64 0)
        have HB5 := Lib.hid (hb5 w.heap.size w (by have := HPw.out; omega) HB4.out)
        have HW5 := Lib.hid hw5
        have y0_ : w5.cell? ⟨p, 0, none⟩ = some (.int .i64 (0)) := k5.cell 0
        have y1_ : w5.cell? ⟨p, 1, none⟩ = some (.int .i64 (0)) := k5.cell 1
        have y2_ : w5.cell? ⟨p, 2, none⟩ = some (.int .i64 (0)) := k5.cell 2
        have y3_ : w5.cell? ⟨p, 3, none⟩ = some (.int .i64 (0)) := k5.cell 3
        have y4_ : w5.cell? ⟨p, 4, none⟩ = some (.int .i64 (0)) := k5.cell 4
        have y5_ : w5.cell? ⟨p, 5, none⟩ = some (.int .i64 (0)) := k5.cell 5
        have y6_ : w5.cell? ⟨p, 6, none⟩ = some (.int .i64 (0)) := k5.cell 6
        have y7_ : w5.cell? ⟨p, 7, none⟩ = some (.int .i64 (0)) := k5.cell 7
        have y8_ : w5.cell? ⟨p, 8, none⟩ = some (.int .i64 (0)) := k5.cell 8
        clear k2 hw5 k5 hb5
        go_wp2
        all_goals try (exfalso; omega)
        all_goals
          rw [← HW5.out]
          refine bodyPost_ret (v := .tuple #[Gm.zero.val, .int .i64 (31)]) (by simp [results, Tryd.f19, go_sem, y0_, y1_, y2_, y3_, y4_, y5_, y6_, y7_, y8_, Gm.val, Gm.zero, Mg.zero]) rfl ⟨?_, HB5.out⟩
          rw [HS.out]
          try rfl
    case pos =>
      have HS : Hid (gdec l = (⟨f, t, a, s, ⟨k, o, d, u, v⟩⟩, 0)) := Lib.hid (HG3.out.trans (if_pos he))
      obtain ⟨rfl, rfl⟩ := he
      have k2 := HK4.out
      have x0_ : (w3.alloc (.cells #[.int .i64 f, .int .i64 t, .int .i64 a, .int .i64 s, .int .i64 k, .int .i64 o, .int .i64 d, .int .i64 u, .int .i64 v] 26)).cell? ⟨p, 0, none⟩ = some (.int .i64 (0)) := k2.cell 0
      have x1_ : (w3.alloc (.cells #[.int .i64 f, .int .i64 t, .int .i64 a, .int .i64 s, .int .i64 k, .int .i64 o, .int .i64 d, .int .i64 u, .int .i64 v] 26)).cell? ⟨p, 1, none⟩ = some (.int .i64 (0)) := k2.cell 1
      have x2_ : (w3.alloc (.cells #[.int .i64 f, .int .i64 t, .int .i64 a, .int .i64 s, .int .i64 k, .int .i64 o, .int .i64 d, .int .i64 u, .int .i64 v] 26)).cell? ⟨p, 2, none⟩ = some (.int .i64 (0)) := k2.cell 2
      have x3_ : (w3.alloc (.cells #[.int .i64 f, .int .i64 t, .int .i64 a, .int .i64 s, .int .i64 k, .int .i64 o, .int .i64 d, .int .i64 u, .int .i64 v] 26)).cell? ⟨p, 3, none⟩ = some (.int .i64 (0)) := k2.cell 3
      have x4_ : (w3.alloc (.cells #[.int .i64 f, .int .i64 t, .int .i64 a, .int .i64 s, .int .i64 k, .int .i64 o, .int .i64 d, .int .i64 u, .int .i64 v] 26)).cell? ⟨p, 4, none⟩ = some (.int .i64 (0)) := k2.cell 4
      have x5_ : (w3.alloc (.cells #[.int .i64 f, .int .i64 t, .int .i64 a, .int .i64 s, .int .i64 k, .int .i64 o, .int .i64 d, .int .i64 u, .int .i64 v] 26)).cell? ⟨p, 5, none⟩ = some (.int .i64 (0)) := k2.cell 5
      have x6_ : (w3.alloc (.cells #[.int .i64 f, .int .i64 t, .int .i64 a, .int .i64 s, .int .i64 k, .int .i64 o, .int .i64 d, .int .i64 u, .int .i64 v] 26)).cell? ⟨p, 6, none⟩ = some (.int .i64 (0)) := k2.cell 6
      have x7_ : (w3.alloc (.cells #[.int .i64 f, .int .i64 t, .int .i64 a, .int .i64 s, .int .i64 k, .int .i64 o, .int .i64 d, .int .i64 u, .int .i64 v] 26)).cell? ⟨p, 7, none⟩ = some (.int .i64 (0)) := k2.cell 7
      have x8_ : (w3.alloc (.cells #[.int .i64 f, .int .i64 t, .int .i64 a, .int .i64 s, .int .i64 k, .int .i64 o, .int .i64 d, .int .i64 u, .int .i64 v] 26)).cell? ⟨p, 8, none⟩ = some (.int .i64 (0)) := k2.cell 8
      have f0_ : (w3.alloc (.cells #[.int .i64 f, .int .i64 t, .int .i64 a, .int .i64 s, .int .i64 k, .int .i64 o, .int .i64 d, .int .i64 u, .int .i64 v] 26)).frozen? ⟨p, 0, none⟩ = false := k2.frozen 0
      have f1_ : (w3.alloc (.cells #[.int .i64 f, .int .i64 t, .int .i64 a, .int .i64 s, .int .i64 k, .int .i64 o, .int .i64 d, .int .i64 u, .int .i64 v] 26)).frozen? ⟨p, 1, none⟩ = false := k2.frozen 1
      have f2_ : (w3.alloc (.cells #[.int .i64 f, .int .i64 t, .int .i64 a, .int .i64 s, .int .i64 k, .int .i64 o, .int .i64 d, .int .i64 u, .int .i64 v] 26)).frozen? ⟨p, 2, none⟩ = false := k2.frozen 2
      have f3_ : (w3.alloc (.cells #[.int .i64 f, .int .i64 t, .int .i64 a, .int .i64 s, .int .i64 k, .int .i64 o, .int .i64 d, .int .i64 u, .int .i64 v] 26)).frozen? ⟨p, 3, none⟩ = false := k2.frozen 3
      have f4_ : (w3.alloc (.cells #[.int .i64 f, .int .i64 t, .int .i64 a, .int .i64 s, .int .i64 k, .int .i64 o, .int .i64 d, .int .i64 u, .int .i64 v] 26)).frozen? ⟨p, 4, none⟩ = false := k2.frozen 4
      have f5_ : (w3.alloc (.cells #[.int .i64 f, .int .i64 t, .int .i64 a, .int .i64 s, .int .i64 k, .int .i64 o, .int .i64 d, .int .i64 u, .int .i64 v] 26)).frozen? ⟨p, 5, none⟩ = false := k2.frozen 5
      have f6_ : (w3.alloc (.cells #[.int .i64 f, .int .i64 t, .int .i64 a, .int .i64 s, .int .i64 k, .int .i64 o, .int .i64 d, .int .i64 u, .int .i64 v] 26)).frozen? ⟨p, 6, none⟩ = false := k2.frozen 6
      have f7_ : (w3.alloc (.cells #[.int .i64 f, .int .i64 t, .int .i64 a, .int .i64 s, .int .i64 k, .int .i64 o, .int .i64 d, .int .i64 u, .int .i64 v] 26)).frozen? ⟨p, 7, none⟩ = false := k2.frozen 7
      have f8_ : (w3.alloc (.cells #[.int .i64 f, .int .i64 t, .int .i64 a, .int .i64 s, .int .i64 k, .int .i64 o, .int .i64 d, .int .i64 u, .int .i64 v] 26)).frozen? ⟨p, 8, none⟩ = false := k2.frozen 8
      obtain ⟨w5, hw5, k5, hb5⟩ := gram_set k2 (.int .i64 (f)) (.int .i64 (t)) (.int .i64 (a)) (.int .i64 (s)) (.int .i64 (k)) (.int .i64 (o)) (.int .i64 (d)) (.int .i64 (u)) (.int .i64 (v))
      have HB5 := Lib.hid (hb5 w.heap.size w (by have := HPw.out; omega) HB4.out)
      have HW5 := Lib.hid hw5
      have y0_ : w5.cell? ⟨p, 0, none⟩ = some (.int .i64 (f)) := k5.cell 0
      have y1_ : w5.cell? ⟨p, 1, none⟩ = some (.int .i64 (t)) := k5.cell 1
      have y2_ : w5.cell? ⟨p, 2, none⟩ = some (.int .i64 (a)) := k5.cell 2
      have y3_ : w5.cell? ⟨p, 3, none⟩ = some (.int .i64 (s)) := k5.cell 3
      have y4_ : w5.cell? ⟨p, 4, none⟩ = some (.int .i64 (k)) := k5.cell 4
      have y5_ : w5.cell? ⟨p, 5, none⟩ = some (.int .i64 (o)) := k5.cell 5
      have y6_ : w5.cell? ⟨p, 6, none⟩ = some (.int .i64 (d)) := k5.cell 6
      have y7_ : w5.cell? ⟨p, 7, none⟩ = some (.int .i64 (u)) := k5.cell 7
      have y8_ : w5.cell? ⟨p, 8, none⟩ = some (.int .i64 (v)) := k5.cell 8
      clear k2 hw5 k5 hb5
      go_wp2
      all_goals
        rw [← HW5.out]
        refine bodyPost_ret (v := .tuple #[Gm.val ⟨f, t, a, s, ⟨k, o, d, u, v⟩⟩, .int .i64 (0)]) (by simp [results, Tryd.f19, go_sem, y0_, y1_, y2_, y3_, y4_, y5_, y6_, y7_, y8_, Gm.val]) rfl ⟨?_, HB5.out⟩
        rw [HS.out]
        try rfl
end Go.Proofs.YtmegpbejknmjbaaDoor.Pk
