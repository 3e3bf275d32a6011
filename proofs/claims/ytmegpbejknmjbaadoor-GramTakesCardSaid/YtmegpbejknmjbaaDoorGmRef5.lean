/- The document's Decode of a datagram. -/
import Derived.Test.YtmegpbejknmjbaaDoorGmRef4
namespace Go.Proofs.YtmegpbejknmjbaaDoor.Pk
open Go.RowKit Go.Proofs.YtmegpbejknmjbaaDoor.Crc
set_option linter.unusedVariables false
theorem run_cutk {P : Program} {t e : TypeId} (ht : P.underlying t = some (.slice e)) (hi : (P.info? e).map (·.size) = some 1) (a : Option Addr) (n c j : Nat) (h2 : j ≤ c) (w : World) :
    (Instr.slice t (.slice a n c) none (some (.int .i64 (j : Int))) none).run P w = .ok (.slice a j c) w := by
  obtain ⟨f, hi1, _⟩ := Option.map_eq_some_iff.1 hi
  have e3 : (0 : Int) ≤ (j : Int) := by omega
  simp [Instr.slice, run_underlying ht, go_sem, Instr.sliceBounds, sizeOf, typeInfo, hi1, h2, e3]
theorem drop4 {l : List Int} {m : Nat} (h : m + 4 = l.length) : l.drop m = [l.getD m 0, l.getD (m + 1) 0, l.getD (m + 2) 0, l.getD (m + 3) 0] := by
  have hg : ∀ i, i < l.length → l.getD i 0 = l[i]! := fun i hi => by simp [List.getD_eq_getElem?_getD, List.getElem?_eq_getElem hi]
  rw [List.drop_eq_getElem_cons (by omega), List.drop_eq_getElem_cons (by omega), List.drop_eq_getElem_cons (by omega), List.drop_eq_getElem_cons (by omega), List.drop_of_length_le (by omega)]
  simp only [List.getD_eq_getElem?_getD, List.getElem?_eq_getElem (show m < l.length by omega), List.getElem?_eq_getElem (show m + 1 < l.length by omega), List.getElem?_eq_getElem (show m + 2 < l.length by omega), List.getElem?_eq_getElem (show m + 3 < l.length by omega), Option.getD_some]
theorem gdec_at {l : List Int} {m : Nat} (h : m + 4 = l.length) : gdec l = if Fr.le4 (crc 0 (l.take m)) = l.drop m then (if (gtake (l.take m)).2.2 = 0 ∧ (gtake (l.take m)).2.1 = m then ((gtake (l.take m)).1, 0) else (Gm.zero, 31)) else (Gm.zero, 32) := by
  unfold gdec
  rw [if_neg (by omega), show l.length - 4 = m by omega]
set_option maxRecDepth 100000 in
set_option maxHeartbeats 4000000 in
theorem refdec9_any (A : Option Addr) (n c : Nat) (l : List Int) (w : World) (B : Nat) (h : Reads w B 1 A n (bts l)) (hc : n ≤ c) (hB : isB l) (hBw : B ≤ w.heap.size) (hn : n ≤ 4611686018427387904) :
    Calls Tryd.prog 20 #[.slice A n c] w fun e w' => e = .returned (.tuple #[(gdec l).1.val, .int .i64 (gdec l).2]) ∧ Below w.heap.size w w' := by
  have HL : Hid (l.length = n) := by have := h.1; simp at this; exact this
  have HR := Lib.hid (h.more hBw)
  have HB := Lib.hid hB
  clear h hB
  go_enter Tryd.func20, Tryd.ntmps20
  obtain ⟨p, hp⟩ : ∃ p, p = w.heap.size := ⟨_, rfl⟩
  obtain ⟨w1, hw1⟩ : ∃ w1, w1 = w.alloc (.cells #[.int .i64 0, .int .i64 0, .int .i64 0, .int .i64 0, .int .i64 0, .int .i64 0, .int .i64 0, .int .i64 0, .int .i64 0] 26) := ⟨_, rfl⟩
  have hb1 : Below w.heap.size w w1 := hw1 ▸ (Below.refl _ _).alloc (Nat.le_refl _) _
  have HK1 : Hid (Blk w1 p 26 #[.int .i64 0, .int .i64 0, .int .i64 0, .int .i64 0, .int .i64 0, .int .i64 0, .int .i64 0, .int .i64 0, .int .i64 0]) := Lib.hid (by rw [hw1, hp]; exact Blk.new w _ _)
  have HB1 := Lib.hid hb1
  have HR1 := Lib.hid ((HR.out.below hb1).more hb1.size)
  have HPw : Hid (p = w.heap.size) := Lib.hid hp
  by_cases h4 : n < 4
  case pos =>
    have HS : Hid (gdec l = (Gm.zero, 30)) := Lib.hid (by unfold gdec; rw [if_pos (by rw [HL.out]; exact h4)])
    have hneg : decide ((n : Int) - 4 < 0) = true := by simp; omega
    have HW1 := Lib.hid hw1
    have HPp := Lib.hid hp
    clear hw1 hp hb1
    go_wp2
    refine bodyPost_ret (v := .tuple #[Gm.zero.val, .int .i64 30]) (by simp [results, Tryd.f20, go_sem, Gm.val, Gm.zero, Mg.zero]) rfl ⟨?_, (Below.refl _ w).alloc (Nat.le_refl _) _⟩
    rw [HS.out]
  case neg =>
  obtain ⟨m, hm⟩ : ∃ m, m + 4 = n := ⟨n - 4, by omega⟩
  have HG := Lib.hid (gdec_at (l := l) (m := m) (hm.trans HL.out.symm))
  have HHL := Lib.hid hm
  have hwr : IntKind.i64.wrap ((n : Int) - 4) = (m : Int) := by rw [IntWalk.i64_in _ (by omega)]; (try omega)
  have hnm : (n : Int) - 4 = (m : Int) := by omega
  have hpos : decide ((m : Int) < 0) = false := by simp
  have hmn : m ≤ n := by omega
  have hmc : m ≤ c := by omega
  have hnc : c ≤ c := Nat.le_refl _
  have HRm : Hid (Reads w1 w1.heap.size 1 A m (bts (l.take m))) := Lib.hid (HR1.out.take hmn)
  have HBm : Hid (isB (l.take m)) := Lib.hid (fun x hx => HB.out x (List.mem_of_mem_take hx))
  have kc : ∀ u : World, (Instr.slice 22 (.slice A n c) none (some (.int .i64 (m : Int))) none).run Tryd.prog u = .ok (.slice A m c) u := fun u => run_cutk Tryd.underlying22 (by kernel_rfl) A n c m hmc u
  have HS2 := Lib.hid (refSum_any A m c (l.take m) w1 w1.heap.size HRm.out (by omega) HBm.out)
  have HTk := Lib.hid (reftake9_any A m c (l.take m) w1 w1.heap.size HRm.out hmc HBm.out (Nat.le_refl _) (by omega))
  obtain ⟨z, hz⟩ : ∃ z, z = crc 0 (l.take m) := ⟨_, rfl⟩
  have hzl : z < 4294967296 := by rw [hz]; exact crc_lt HBm.out (by omega)
  rw [← hz] at HS2 HG
  obtain ⟨b, off, rfl, hbb, hcs⟩ := HR1.out.u8 (by omega)
  have hc0 := hcs m (by omega)
  have hc1 := hcs (m + 1) (by omega)
  have hc2 := hcs (m + 2) (by omega)
  have hc3 := hcs (m + 3) (by omega)
  have HD4 := Lib.hid (drop4 (l := l) (m := m) (HHL.out.trans HL.out.symm))
  have hbd : ∀ i, i < n → 0 ≤ l.getD i 0 ∧ l.getD i 0 ≤ 255 := fun i hi => HB.out _ (getD_mem l i (by rw [HL.out]; exact hi))
  have e0 := hbd m (by omega)
  have e1 := hbd (m + 1) (by omega)
  have e2 := hbd (m + 2) (by omega)
  have e3 := hbd (m + 3) (by omega)
  obtain ⟨d0, hd0⟩ : ∃ d, d = l.getD m 0 := ⟨_, rfl⟩
  obtain ⟨d1, hd1⟩ : ∃ d, d = l.getD (m + 1) 0 := ⟨_, rfl⟩
  obtain ⟨d2, hd2⟩ : ∃ d, d = l.getD (m + 2) 0 := ⟨_, rfl⟩
  obtain ⟨d3, hd3⟩ : ∃ d, d = l.getD (m + 3) 0 := ⟨_, rfl⟩
  rw [← hd0, ← hd1, ← hd2, ← hd3] at HD4
  rw [← hd0] at hc0 e0
  rw [← hd1] at hc1 e1
  rw [← hd2] at hc2 e2
  rw [← hd3] at hc3 e3
  rw [HD4.out] at HG
  clear hz hd0 hd1 hd2 hd3 hcs hbd HD4 hb1
  have HLE : Hid (Fr.le4 z = [d0, d1, d2, d3] ↔ (d0 = (z : Int) % 256 ∧ d1 = (z : Int) / 256 % 256 ∧ d2 = (z : Int) / 65536 % 256 ∧ d3 = (z : Int) / 16777216)) := Lib.hid (by
    unfold Fr.le4
    simp only [List.cons.injEq, and_true]
    constructor
    · rintro ⟨h0, h1, h2, h3⟩; omega
    · rintro ⟨h0, h1, h2, h3⟩; omega)
  have HHZ := Lib.hid hzl
  have HHm := Lib.hid hm
  clear hm h4
  go_wp2_with fail
  rw [← hw1, ← hp]
  clear hw1 hp
  refine HS2.out.mono ?_
  rintro e w2 ⟨rfl, hw⟩
  rw [← hw]
  clear hw w2
  by_cases hs : Fr.le4 z = [d0, d1, d2, d3]
  case neg =>
    have HS : Hid (gdec l = (Gm.zero, 32)) := Lib.hid (HG.out.trans (if_neg hs))
    have hn2 : ¬ (d0 = (z : Int) % 256 ∧ d1 = (z : Int) / 256 % 256 ∧ d2 = (z : Int) / 65536 % 256 ∧ d3 = (z : Int) / 16777216) := fun h => hs (HLE.out.2 h)
    clear HG HS2 HTk HLE hs
    have hw4 : (d0 == (z : Int) % 256) = false ∨ (d0 = (z : Int) % 256 ∧ ((d1 == (z : Int) / 256 % 256) = false ∨ (d1 = (z : Int) / 256 % 256 ∧ ((d2 == (z : Int) / 65536 % 256) = false ∨ (d2 = (z : Int) / 65536 % 256 ∧ (d3 == (z : Int) / 16777216) = false))))) := by
      simp only [beq_eq_false_iff_ne, ne_eq]
      omega
    clear hn2
    rcases hw4 with hb1 | ⟨rfl, hb1 | ⟨rfl, hb1 | ⟨rfl, hb1⟩⟩⟩
    all_goals
      have k2 := HK1.out
      have x0 : w1.cell? ⟨p, 0, none⟩ = some (.int .i64 0) := k2.cell 0
      have x1 : w1.cell? ⟨p, 1, none⟩ = some (.int .i64 0) := k2.cell 1
      have x2 : w1.cell? ⟨p, 2, none⟩ = some (.int .i64 0) := k2.cell 2
      have x3 : w1.cell? ⟨p, 3, none⟩ = some (.int .i64 0) := k2.cell 3
      have x4 : w1.cell? ⟨p, 4, none⟩ = some (.int .i64 0) := k2.cell 4
      have x5 : w1.cell? ⟨p, 5, none⟩ = some (.int .i64 0) := k2.cell 5
      have x6 : w1.cell? ⟨p, 6, none⟩ = some (.int .i64 0) := k2.cell 6
      have x7 : w1.cell? ⟨p, 7, none⟩ = some (.int .i64 0) := k2.cell 7
      have x8 : w1.cell? ⟨p, 8, none⟩ = some (.int .i64 0) := k2.cell 8
      have f0 : w1.frozen? ⟨p, 0, none⟩ = false := k2.frozen 0
      have f1 : w1.frozen? ⟨p, 1, none⟩ = false := k2.frozen 1
      have f2 : w1.frozen? ⟨p, 2, none⟩ = false := k2.frozen 2
      have f3 : w1.frozen? ⟨p, 3, none⟩ = false := k2.frozen 3
      have f4 : w1.frozen? ⟨p, 4, none⟩ = false := k2.frozen 4
      have f5 : w1.frozen? ⟨p, 5, none⟩ = false := k2.frozen 5
      have f6 : w1.frozen? ⟨p, 6, none⟩ = false := k2.frozen 6
      have f7 : w1.frozen? ⟨p, 7, none⟩ = false := k2.frozen 7
      have f8 : w1.frozen? ⟨p, 8, none⟩ = false := k2.frozen 8
      obtain ⟨w5, hw5, k5, hb5⟩ := gram_set k2 (.int .i64 0) (.int .i64 0) (.int .i64 0) (.int .i64 0) (.int .i64 0) (.int .i64 0) (.int .i64 0) (.int .i64 0) (.int .i64 0)
      have HB5 := Lib.hid (hb5 w.heap.size w (by have := HPw.out; omega) HB1.out)
      have HW5 := Lib.hid hw5
      have y0_ : w5.cell? ⟨p, 0, none⟩ = some (.int .i64 (0)) := k5.cell 0
      have y1_ : w5.cell? ⟨p, 1, none⟩ = some (.int .i64 (0)) := k5.cell 1
      have y2_ : w5.cell? ⟨p, 2, none⟩ = some (.int .i64 (0)) := k5.cell 2
      have y3_ : w5.cell? ⟨p, 3, none⟩ = some (.int .i64 (0)) := k5.cell 3
      have y4_ : w5.cell? ⟨p, 4, none⟩ = some (.int .i64 (0)) := k5.cell 4
      have y5_ : w5.cell? ⟨p, 5, none⟩ = some (.int .i64 (0)) := k5.cell 5
      have y6_ : w5.cell? ⟨p, 6, none⟩ = some (.int .i64 (0)) := k5.cell 6
      have y7_ : w5.cell? ⟨p, 7, none⟩ = some (.int .i64 (0)) := k5.cell 7
      have y8_ : w5.cell? ⟨p, 8, none⟩ = some (.int .i64 (0)) := k5.cell 8
      clear k2 hw5 k5 hb5
      go_wp2
      all_goals
        rw [← HW5.out]
        refine bodyPost_ret (v := .tuple #[Gm.zero.val, .int .i64 (32)]) (by simp [results, Tryd.f20, go_sem, y0_, y1_, y2_, y3_, y4_, y5_, y6_, y7_, y8_, Gm.val, Gm.zero, Mg.zero]) rfl ⟨?_, HB5.out⟩
        rw [HS.out]
        try rfl
  case pos =>
    have HG2 := Lib.hid (HG.out.trans (if_pos hs))
    obtain ⟨rfl, rfl, rfl, rfl⟩ := HLE.out.1 hs
    clear hs HLE HG
    obtain ⟨⟨⟨f, t, a, s, ⟨k, o, d, u, v⟩⟩, j, er⟩, hgt⟩ : ∃ r, r = gtake (l.take m) := ⟨_, rfl⟩
    rw [← hgt] at HG2 HTk
    have HG3 : Hid (gdec l = if er = 0 ∧ j = m then (⟨f, t, a, s, ⟨k, o, d, u, v⟩⟩, 0) else (Gm.zero, 31)) := Lib.hid HG2.out
    have hjm : j ≤ m ∧ (er = 0 ∨ er = 30 ∨ er = 31) := by
      have hlm : (l.take m).length = m := by rw [List.length_take, HL.out]; omega
      rcases gtake_cases _ HBm.out with ⟨g, _, h1, h2, _⟩ | ⟨e, h1, h2⟩
      · rw [h1] at hgt
        have h3 : j = g.bytes.length := congrArg (fun r => r.2.1) hgt
        have h4 : er = 0 := congrArg (fun r => r.2.2) hgt
        omega
      · rw [h1] at hgt
        have h3 : j = 0 := congrArg (fun r => r.2.1) hgt
        have h4 : er = e := congrArg (fun r => r.2.2) hgt
        omega
    obtain ⟨hj1, hj2⟩ := hjm
    unfold Gm.val at HTk
    try simp only at HTk
    clear hgt HG2
    go_wp2_with fail
    refine HTk.out.mono ?_
    rintro e3 w3 ⟨rfl, hb3⟩
    have HB3 := Lib.hid (HB1.out.trans (hb3.mono HB1.out.size))
    have HK3 := Lib.hid (HK1.out.below hb3 HK1.out.lt)
    have hb3b : Below w3.heap.size w3 (w3.alloc (.cells #[.int .i64 f, .int .i64 t, .int .i64 a, .int .i64 s, .int .i64 k, .int .i64 o, .int .i64 d, .int .i64 u, .int .i64 v] 26)) := (Below.refl _ _).alloc (Nat.le_refl _) _
    have HB4 := Lib.hid (HB3.out.trans (hb3b.mono HB3.out.size))
    have HK4 := Lib.hid (HK3.out.below hb3b HK3.out.lt)
    clear hb3 hb3b
    by_cases he : er = 0 ∧ j = m
    case neg =>
      have HS : Hid (gdec l = (Gm.zero, 31)) := Lib.hid (HG3.out.trans (if_neg he))
      have hw4 : (er == 0) = false ∨ (er = 0 ∧ ((j : Int) == (m : Int)) = false) := by
        simp only [beq_eq_false_iff_ne, ne_eq]
        omega
      clear he hj2
      rcases hw4 with hb4 | ⟨rfl, hb4⟩
      all_goals
        have k2 := HK4.out
        have x0 : (w3.alloc (.cells #[.int .i64 f, .int .i64 t, .int .i64 a, .int .i64 s, .int .i64 k, .int .i64 o, .int .i64 d, .int .i64 u, .int .i64 v] 26)).cell? ⟨p, 0, none⟩ = some (.int .i64 0) := k2.cell 0
        have x1 : (w3.alloc (.cells #[.int .i64 f, .int .i64 t, .int .i64 a, .int .i64 s, .int .i64 k, .int .i64 o, .int .i64 d, .int .i64 u, .int .i64 v] 26)).cell? ⟨p, 1, none⟩ = some (.int .i64 0) := k2.cell 1
        have x2 : (w3.alloc (.cells #[.int .i64 f, .int .i64 t, .int .i64 a, .int .i64 s, .int .i64 k, .int .i64 o, .int .i64 d, .int .i64 u, .int .i64 v] 26)).cell? ⟨p, 2, none⟩ = some (.int .i64 0) := k2.cell 2
        have x3 : (w3.alloc (.cells #[.int .i64 f, .int .i64 t, .int .i64 a, .int .i64 s, .int .i64 k, .int .i64 o, .int .i64 d, .int .i64 u, .int .i64 v] 26)).cell? ⟨p, 3, none⟩ = some (.int .i64 0) := k2.cell 3
        have x4 : (w3.alloc (.cells #[.int .i64 f, .int .i64 t, .int .i64 a, .int .i64 s, .int .i64 k, .int .i64 o, .int .i64 d, .int .i64 u, .int .i64 v] 26)).cell? ⟨p, 4, none⟩ = some (.int .i64 0) := k2.cell 4
        have x5 : (w3.alloc (.cells #[.int .i64 f, .int .i64 t, .int .i64 a, .int .i64 s, .int .i64 k, .int .i64 o, .int .i64 d, .int .i64 u, .int .i64 v] 26)).cell? ⟨p, 5, none⟩ = some (.int .i64 0) := k2.cell 5
        have x6 : (w3.alloc (.cells #[.int .i64 f, .int .i64 t, .int .i64 a, .int .i64 s, .int .i64 k, .int .i64 o, .int .i64 d, .int .i64 u, .int .i64 v] 26)).cell? ⟨p, 6, none⟩ = some (.int .i64 0) := k2.cell 6
        have x7 : (w3.alloc (.cells #[.int .i64 f, .int .i64 t, .int .i64 a, .int .i64 s, .int .i64 k, .int .i64 o, .int .i64 d, .int .i64 u, .int .i64 v] 26)).cell? ⟨p, 7, none⟩ = some (.int .i64 0) := k2.cell 7
        have x8 : (w3.alloc (.cells #[.int .i64 f, .int .i64 t, .int .i64 a, .int .i64 s, .int .i64 k, .int .i64 o, .int .i64 d, .int .i64 u, .int .i64 v] 26)).cell? ⟨p, 8, none⟩ = some (.int .i64 0) := k2.cell 8
        have f0 : (w3.alloc (.cells #[.int .i64 f, .int .i64 t, .int .i64 a, .int .i64 s, .int .i64 k, .int .i64 o, .int .i64 d, .int .i64 u, .int .i64 v] 26)).frozen? ⟨p, 0, none⟩ = false := k2.frozen 0
        have f1 : (w3.alloc (.cells #[.int .i64 f, .int .i64 t, .int .i64 a, .int .i64 s, .int .i64 k, .int .i64 o, .int .i64 d, .int .i64 u, .int .i64 v] 26)).frozen? ⟨p, 1, none⟩ = false := k2.frozen 1
        have f2 : (w3.alloc (.cells #[.int .i64 f, .int .i64 t, .int .i64 a, .int .i64 s, .int .i64 k, .int .i64 o, .int .i64 d, .int .i64 u, .int .i64 v] 26)).frozen? ⟨p, 2, none⟩ = false := k2.frozen 2
        have f3 : (w3.alloc (.cells #[.int .i64 f, .int .i64 t, .int .i64 a, .int .i64 s, .int .i64 k, .int .i64 o, .int .i64 d, .int .i64 u, .int .i64 v] 26)).frozen? ⟨p, 3, none⟩ = false := k2.frozen 3
        have f4 : (w3.alloc (.cells #[.int .i64 f, .int .i64 t, .int .i64 a, .int .i64 s, .int .i64 k, .int .i64 o, .int .i64 d, .int .i64 u, .int .i64 v] 26)).frozen? ⟨p, 4, none⟩ = false := k2.frozen 4
        have f5 : (w3.alloc (.cells #[.int .i64 f, .int .i64 t, .int .i64 a, .int .i64 s, .int .i64 k, .int .i64 o, .int .i64 d, .int .i64 u, .int .i64 v] 26)).frozen? ⟨p, 5, none⟩ = false := k2.frozen 5
        have f6 : (w3.alloc (.cells #[.int .i64 f, .int .i64 t, .int .i64 a, .int .i64 s, .int .i64 k, .int .i64 o, .int .i64 d, .int .i64 u, .int .i64 v] 26)).frozen? ⟨p, 6, none⟩ = false := k2.frozen 6
        have f7 : (w3.alloc (.cells #[.int .i64 f, .int .i64 t, .int .i64 a, .int .i64 s, .int .i64 k, .int .i64 o, .int .i64 d, .int .i64 u, .int .i64 v] 26)).frozen? ⟨p, 7, none⟩ = false := k2.frozen 7
        have f8 : (w3.alloc (.cells #[.int .i64 f, .int .i64 t, .int .i64 a, .int .i64 s, .int .i64 k, .int .i64 o, .int .i64 d, .int .i64 u, .int .i64 v] 26)).frozen? ⟨p, 8, none⟩ = false := k2.frozen 8
        obtain ⟨w5, hw5, k5, hb5⟩ := gram_set k2 (.int .i64 0) (.int .i64 0) (.int .i64 0) (.int .i64 0) (.int .i64 0) (.int .i64 0) (.int .i64 0) (.int .i64 0) (.int .i64 0)
        have HB5 := Lib.hid (hb5 w.heap.size w (by have := HPw.out; omega) HB4.out)
        have HW5 := Lib.hid hw5
        have y0_ : w5.cell? ⟨p, 0, none⟩ = some (.int .i64 (0)) := k5.cell 0
        have y1_ : w5.cell? ⟨p, 1, none⟩ = some (.int .i64 (0)) := k5.cell 1
        have y2_ : w5.cell? ⟨p, 2, none⟩ = some (.int .i64 (0)) := k5.cell 2
        have y3_ : w5.cell? ⟨p, 3, none⟩ = some (.int .i64 (0)) := k5.cell 3
        have y4_ : w5.cell? ⟨p, 4, none⟩ = some (.int .i64 (0)) := k5.cell 4
        have y5_ : w5.cell? ⟨p, 5, none⟩ = some (.int .i64 (0)) := k5.cell 5
        have y6_ : w5.cell? ⟨p, 6, none⟩ = some (.int .i64 (0)) := k5.cell 6
        have y7_ : w5.cell? ⟨p, 7, none⟩ = some (.int .i64 (0)) := k5.cell 7
        have y8_ : w5.cell? ⟨p, 8, none⟩ = some (.int .i64 (0)) := k5.cell 8
        clear k2 hw5 k5 hb5
        go_wp2
        all_goals
          rw [← HW5.out]
          refine bodyPost_ret (v := .tuple #[Gm.zero.val, .int .i64 (31)]) (by simp [results, Tryd.f20, go_sem, y0_, y1_, y2_, y3_, y4_, y5_, y6_, y7_, y8_, Gm.val, Gm.zero, Mg.zero]) rfl ⟨?_, HB5.out⟩
          rw [HS.out]
          try rfl
    case pos =>
      have HS : Hid (gdec l = (⟨f, t, a, s, ⟨k, o, d, u, v⟩⟩, 0)) := Lib.hid (HG3.out.trans (if_pos he))
      obtain ⟨rfl, rfl⟩ := he
      have k2 := HK4.out
      have x0 : (w3.alloc (.cells #[.int .i64 f, .int .i64 t, .int .i64 a, .int .i64 s, .int .i64 k, .int .i64 o, .int .i64 d, .int .i64 u, .int .i64 v] 26)).cell? ⟨p, 0, none⟩ = some (.int .i64 0) := k2.cell 0
      have x1 : (w3.alloc (.cells #[.int .i64 f, .int .i64 t, .int .i64 a, .int .i64 s, .int .i64 k, .int .i64 o, .int .i64 d, .int .i64 u, .int .i64 v] 26)).cell? ⟨p, 1, none⟩ = some (.int .i64 0) := k2.cell 1
      have x2 : (w3.alloc (.cells #[.int .i64 f, .int .i64 t, .int .i64 a, .int .i64 s, .int .i64 k, .int .i64 o, .int .i64 d, .int .i64 u, .int .i64 v] 26)).cell? ⟨p, 2, none⟩ = some (.int .i64 0) := k2.cell 2
      have x3 : (w3.alloc (.cells #[.int .i64 f, .int .i64 t, .int .i64 a, .int .i64 s, .int .i64 k, .int .i64 o, .int .i64 d, .int .i64 u, .int .i64 v] 26)).cell? ⟨p, 3, none⟩ = some (.int .i64 0) := k2.cell 3
      have x4 : (w3.alloc (.cells #[.int .i64 f, .int .i64 t, .int .i64 a, .int .i64 s, .int .i64 k, .int .i64 o, .int .i64 d, .int .i64 u, .int .i64 v] 26)).cell? ⟨p, 4, none⟩ = some (.int .i64 0) := k2.cell 4
      have x5 : (w3.alloc (.cells #[.int .i64 f, .int .i64 t, .int .i64 a, .int .i64 s, .int .i64 k, .int .i64 o, .int .i64 d, .int .i64 u, .int .i64 v] 26)).cell? ⟨p, 5, none⟩ = some (.int .i64 0) := k2.cell 5
      have x6 : (w3.alloc (.cells #[.int .i64 f, .int .i64 t, .int .i64 a, .int .i64 s, .int .i64 k, .int .i64 o, .int .i64 d, .int .i64 u, .int .i64 v] 26)).cell? ⟨p, 6, none⟩ = some (.int .i64 0) := k2.cell 6
      have x7 : (w3.alloc (.cells #[.int .i64 f, .int .i64 t, .int .i64 a, .int .i64 s, .int .i64 k, .int .i64 o, .int .i64 d, .int .i64 u, .int .i64 v] 26)).cell? ⟨p, 7, none⟩ = some (.int .i64 0) := k2.cell 7
      have x8 : (w3.alloc (.cells #[.int .i64 f, .int .i64 t, .int .i64 a, .int .i64 s, .int .i64 k, .int .i64 o, .int .i64 d, .int .i64 u, .int .i64 v] 26)).cell? ⟨p, 8, none⟩ = some (.int .i64 0) := k2.cell 8
      have f0 : (w3.alloc (.cells #[.int .i64 f, .int .i64 t, .int .i64 a, .int .i64 s, .int .i64 k, .int .i64 o, .int .i64 d, .int .i64 u, .int .i64 v] 26)).frozen? ⟨p, 0, none⟩ = false := k2.frozen 0
      have f1 : (w3.alloc (.cells #[.int .i64 f, .int .i64 t, .int .i64 a, .int .i64 s, .int .i64 k, .int .i64 o, .int .i64 d, .int .i64 u, .int .i64 v] 26)).frozen? ⟨p, 1, none⟩ = false := k2.frozen 1
      have f2 : (w3.alloc (.cells #[.int .i64 f, .int .i64 t, .int .i64 a, .int .i64 s, .int .i64 k, .int .i64 o, .int .i64 d, .int .i64 u, .int .i64 v] 26)).frozen? ⟨p, 2, none⟩ = false := k2.frozen 2
      have f3 : (w3.alloc (.cells #[.int .i64 f, .int .i64 t, .int .i64 a, .int .i64 s, .int .i64 k, .int .i64 o, .int .i64 d, .int .i64 u, .int .i64 v] 26)).frozen? ⟨p, 3, none⟩ = false := k2.frozen 3
      have f4 : (w3.alloc (.cells #[.int .i64 f, .int .i64 t, .int .i64 a, .int .i64 s, .int .i64 k, .int .i64 o, .int .i64 d, .int .i64 u, .int .i64 v] 26)).frozen? ⟨p, 4, none⟩ = false := k2.frozen 4
      have f5 : (w3.alloc (.cells #[.int .i64 f, .int .i64 t, .int .i64 a, .int .i64 s, .int .i64 k, .int .i64 o, .int .i64 d, .int .i64 u, .int .i64 v] 26)).frozen? ⟨p, 5, none⟩ = false := k2.frozen 5
      have f6 : (w3.alloc (.cells #[.int .i64 f, .int .i64 t, .int .i64 a, .int .i64 s, .int .i64 k, .int .i64 o, .int .i64 d, .int .i64 u, .int .i64 v] 26)).frozen? ⟨p, 6, none⟩ = false := k2.frozen 6
      have f7 : (w3.alloc (.cells #[.int .i64 f, .int .i64 t, .int .i64 a, .int .i64 s, .int .i64 k, .int .i64 o, .int .i64 d, .int .i64 u, .int .i64 v] 26)).frozen? ⟨p, 7, none⟩ = false := k2.frozen 7
      have f8 : (w3.alloc (.cells #[.int .i64 f, .int .i64 t, .int .i64 a, .int .i64 s, .int .i64 k, .int .i64 o, .int .i64 d, .int .i64 u, .int .i64 v] 26)).frozen? ⟨p, 8, none⟩ = false := k2.frozen 8
      obtain ⟨w5, hw5, k5, hb5⟩ := gram_set k2 (.int .i64 (f)) (.int .i64 (t)) (.int .i64 (a)) (.int .i64 (s)) (.int .i64 (k)) (.int .i64 (o)) (.int .i64 (d)) (.int .i64 (u)) (.int .i64 (v))
      have HB5 := Lib.hid (hb5 w.heap.size w (by have := HPw.out; omega) HB4.out)
      have HW5 := Lib.hid hw5
      have y0_ : w5.cell? ⟨p, 0, none⟩ = some (.int .i64 (f)) := k5.cell 0
      have y1_ : w5.cell? ⟨p, 1, none⟩ = some (.int .i64 (t)) := k5.cell 1
      have y2_ : w5.cell? ⟨p, 2, none⟩ = some (.int .i64 (a)) := k5.cell 2
      have y3_ : w5.cell? ⟨p, 3, none⟩ = some (.int .i64 (s)) := k5.cell 3
      have y4_ : w5.cell? ⟨p, 4, none⟩ = some (.int .i64 (k)) := k5.cell 4
      have y5_ : w5.cell? ⟨p, 5, none⟩ = some (.int .i64 (o)) := k5.cell 5
      have y6_ : w5.cell? ⟨p, 6, none⟩ = some (.int .i64 (d)) := k5.cell 6
      have y7_ : w5.cell? ⟨p, 7, none⟩ = some (.int .i64 (u)) := k5.cell 7
      have y8_ : w5.cell? ⟨p, 8, none⟩ = some (.int .i64 (v)) := k5.cell 8
      clear k2 hw5 k5 hb5
      go_wp2
      all_goals
        rw [← HW5.out]
        refine bodyPost_ret (v := .tuple #[Gm.val ⟨f, t, a, s, ⟨k, o, d, u, v⟩⟩, .int .i64 (0)]) (by simp [results, Tryd.f20, go_sem, y0_, y1_, y2_, y3_, y4_, y5_, y6_, y7_, y8_, Gm.val]) rfl ⟨?_, HB5.out⟩
        rw [HS.out]
        try rfl
end Go.Proofs.YtmegpbejknmjbaaDoor.Pk
