/- The landed Take: the datagram whose fields' bytes bytes begin with. -/
import Derived.Test.YtmegpbejknmjbaaDoorGmValidP
import Derived.Test.YtmegpbejknmjbaaDoorGmRef3
import Derived.Test.YtmegpbejknmjbaaDoorWiTakeP
namespace Go.Proofs.YtmegpbejknmjbaaDoor.Pk
open Go.RowKit
set_option linter.unusedVariables false
def gcells (xs : List Int) : Array Value := #[.int .i64 (xs.getD 0 0), .int .i64 (xs.getD 1 0), .int .i64 (xs.getD 2 0), .int .i64 (xs.getD 3 0), .int .i64 0, .int .i64 0, .int .i64 0, .int .i64 0, .int .i64 0]
set_option maxRecDepth 100000 in
set_option maxHeartbeats 4000000 in
theorem takeG : TakeG := by
  intro A n c l w B h hc hB hn
  have HL : Hid (l.length = n) := by have := h.1; simp at this; exact this
  have HR := Lib.hid (reads_in h)
  have HB := Lib.hid hB
  clear h hB
  go_enter Tryd.func17, Tryd.ntmps17
  go_wp2
  obtain ⟨p, hp⟩ : ∃ p, p = w.heap.size := ⟨_, rfl⟩
  obtain ⟨g, hg⟩ : ∃ g, g = p + 1 := ⟨_, rfl⟩
  obtain ⟨w1, hw1⟩ : ∃ w1, w1 = w.alloc (.cells #[.int .i64 0, .int .i64 0, .int .i64 0, .int .i64 0, .int .i64 0, .int .i64 0, .int .i64 0, .int .i64 0, .int .i64 0] 26) := ⟨_, rfl⟩
  obtain ⟨w2, hw2⟩ : ∃ w2, w2 = w1.alloc (.cells #[.int .i64 0, .int .i64 0, .int .i64 0, .int .i64 0, .int .i64 0, .int .i64 0, .int .i64 0, .int .i64 0, .int .i64 0] 26) := ⟨_, rfl⟩
  rw [← hw1, ← hw2, ← hp, ← hg]
  have hb1 : Below w.heap.size w w1 := hw1 ▸ (Below.refl _ _).alloc (Nat.le_refl _) _
  have k1 : Blk w1 p 26 #[.int .i64 0, .int .i64 0, .int .i64 0, .int .i64 0, .int .i64 0, .int .i64 0, .int .i64 0, .int .i64 0, .int .i64 0] := by rw [hw1, hp]; exact Blk.new w _ _
  have hsz : w1.heap.size = p + 1 := by rw [hw1, hp]; simp
  have HB2 : Hid (Below w.heap.size w w2) := Lib.hid (hw2 ▸ hb1.alloc (by have := hb1.size; omega) _)
  have HP2 : Hid (Blk w2 p 26 #[.int .i64 0, .int .i64 0, .int .i64 0, .int .i64 0, .int .i64 0, .int .i64 0, .int .i64 0, .int .i64 0, .int .i64 0]) := Lib.hid (by rw [hw2]; exact k1.alloc _)
  have HG2 : Hid (Blk w2 g 26 (gcells [])) := Lib.hid (by rw [hw2, hg, ← hsz]; exact Blk.new w1 _ _)
  have HPw : Hid (p = w.heap.size) := Lib.hid hp
  have HGp : Hid (g = p + 1) := Lib.hid hg
  clear hw1 hw2 hp hg hb1 k1 hsz w1
  go_loopw [6, 8, 9, 10, 19] (fun at_ _ _ _ iv wr => ∃ (xs : List Int) (a : Nat) (i : Int), at_ = .int .i64 (a : Int) ∧ iv = .int .i64 i ∧ i = (xs.length : Int) ∧ GkR l n xs a ∧ Blk wr g 26 (gcells xs) ∧ Blk wr p 26 #[.int .i64 0, .int .i64 0, .int .i64 0, .int .i64 0, .int .i64 0, .int .i64 0, .int .i64 0, .int .i64 0, .int .i64 0] ∧ Below w.heap.size w wr) (fun _ _ _ _ iv _ => 4 - (intOf iv).toNat)
  case atStart => exact ⟨[], 0, 0, rfl, rfl, rfl, GkR.start l n, HG2.out, HP2.out, HB2.out⟩
  case round =>
    obtain ⟨xs, a, i, rfl, rfl, hi, hT, hG, hP, hb⟩ := hrel
    obtain ⟨w3, rfl⟩ : ∃ w3 : World, w3 = wr := ⟨_, rfl⟩
    have han : a ≤ n := hT.at_
    have HTk := Lib.hid hT
    have HG := Lib.hid hG
    have HP := Lib.hid hP
    have HB3 := Lib.hid hb
    clear hT hb hG hP HB2 HP2 HG2
    have HRl : Hid (Reads w3 w3.heap.size 1 A n (bts l)) := Lib.hid ((HR.out.below HB3.out).more HB3.out.size)
    have HRc : Hid (Reads w3 w3.heap.size 1 (cutA A c a) (n - a) (bts (l.drop a))) := Lib.hid (by
      have h1 := reads_cut (c := c) HRl.out han (Nat.le_refl _) hc
      rw [← HL.out, List.take_length, HL.out] at h1
      exact h1)
    have HT := Lib.hid (take_any (cutA A c a) (n - a) (c - a) (l.drop a) w3 w3.heap.size HRc.out (isB_drop_ HB.out a) (by omega) (by omega))
    have HFa := Lib.hid (fault_p (cutA A c a) (n - a) (c - a) (l.drop a) w3 w3.heap.size HRc.out (isB_drop_ HB.out a) (by omega))
    have kc : ∀ u : World, (Instr.slice 22 (.slice A n c) (some (.int .i64 (a : Int))) none none).run Tryd.prog u = .ok (.slice (cutA A c a) (n - a) (c - a)) u := fun u => run_cut1 Tryd.underlying22 (by kernel_rfl) A n c a han u
    have hain : (a : Int) ≤ (n : Int) := by omega
    have HC := Lib.hid (tkv_cases (l.drop a) (isB_drop_ HB.out a))
    have hdl : (l.drop a).length = n - a := by rw [List.length_drop, HL.out]
    have HDl := Lib.hid hdl
    have hlen := HTk.out.len
    clear hdl
    rcases xs with _ | ⟨z0, _ | ⟨z1, _ | ⟨z2, _ | ⟨z3, _ | ⟨z4, r⟩⟩⟩⟩⟩
    case nil =>
      obtain rfl : i = 0 := by simpa using hi
      clear hi hlen
      have kix : ∀ u : World, (Instr.index 54 (.agg #[.pointer (some ⟨g, 0, none⟩), .pointer (some ⟨g, 1, none⟩), .pointer (some ⟨g, 2, none⟩), .pointer (some ⟨g, 3, none⟩)]) (.int .i64 0)).run Tryd.prog u = .ok (.pointer (some ⟨g, 0, none⟩)) u := fun u => run_index_ptrs (k := 0) Tryd.underlying54 Tryd.underlying53 (by kernel_rfl) (by omega) rfl u
      have HMo : Hid (([] : List Int).length < 4) := Lib.hid (by simp)
      rcases HC.out with ht | ⟨y, k, ht, y0, y1, k1, k2, k3, _⟩
      · have HS := Lib.hid (HTk.out.stop HMo.out (by rw [ht]))
        rw [ht] at HT
        clear ht
        have k2 := HP.out
        have x0_ : w3.cell? ⟨p, 0, none⟩ = some (.int .i64 (0)) := k2.cell 0
        have x1_ : w3.cell? ⟨p, 1, none⟩ = some (.int .i64 (0)) := k2.cell 1
        have x2_ : w3.cell? ⟨p, 2, none⟩ = some (.int .i64 (0)) := k2.cell 2
        have x3_ : w3.cell? ⟨p, 3, none⟩ = some (.int .i64 (0)) := k2.cell 3
        have x4_ : w3.cell? ⟨p, 4, none⟩ = some (.int .i64 (0)) := k2.cell 4
        have x5_ : w3.cell? ⟨p, 5, none⟩ = some (.int .i64 (0)) := k2.cell 5
        have x6_ : w3.cell? ⟨p, 6, none⟩ = some (.int .i64 (0)) := k2.cell 6
        have x7_ : w3.cell? ⟨p, 7, none⟩ = some (.int .i64 (0)) := k2.cell 7
        have x8_ : w3.cell? ⟨p, 8, none⟩ = some (.int .i64 (0)) := k2.cell 8
        have f0_ : w3.frozen? ⟨p, 0, none⟩ = false := k2.frozen 0
        have f1_ : w3.frozen? ⟨p, 1, none⟩ = false := k2.frozen 1
        have f2_ : w3.frozen? ⟨p, 2, none⟩ = false := k2.frozen 2
        have f3_ : w3.frozen? ⟨p, 3, none⟩ = false := k2.frozen 3
        have f4_ : w3.frozen? ⟨p, 4, none⟩ = false := k2.frozen 4
        have f5_ : w3.frozen? ⟨p, 5, none⟩ = false := k2.frozen 5
        have f6_ : w3.frozen? ⟨p, 6, none⟩ = false := k2.frozen 6
        have f7_ : w3.frozen? ⟨p, 7, none⟩ = false := k2.frozen 7
        have f8_ : w3.frozen? ⟨p, 8, none⟩ = false := k2.frozen 8
        obtain ⟨w5, hw5, k5, hb5⟩ := gram_set k2 (.int .i64 0) (.int .i64 0) (.int .i64 0) (.int .i64 0) (.int .i64 0) (.int .i64 0) (.int .i64 0) (.int .i64 0) (.int .i64 0)
        have HB5 := Lib.hid (hb5 w.heap.size w (by have := HPw.out; omega) HB3.out)
        have HW5 := Lib.hid hw5
        have y0_ : w5.cell? ⟨p, 0, none⟩ = some (.int .i64 (0)) := k5.cell 0
        have y1_ : w5.cell? ⟨p, 1, none⟩ = some (.int .i64 (0)) := k5.cell 1
        have y2_ : w5.cell? ⟨p, 2, none⟩ = some (.int .i64 (0)) := k5.cell 2
        have y3_ : w5.cell? ⟨p, 3, none⟩ = some (.int .i64 (0)) := k5.cell 3
        have y4_ : w5.cell? ⟨p, 4, none⟩ = some (.int .i64 (0)) := k5.cell 4
        have y5_ : w5.cell? ⟨p, 5, none⟩ = some (.int .i64 (0)) := k5.cell 5
        have y6_ : w5.cell? ⟨p, 6, none⟩ = some (.int .i64 (0)) := k5.cell 6
        have y7_ : w5.cell? ⟨p, 7, none⟩ = some (.int .i64 (0)) := k5.cell 7
        have y8_ : w5.cell? ⟨p, 8, none⟩ = some (.int .i64 (0)) := k5.cell 8
        clear k2 hw5 k5 hb5
        go_wp2_with fail
        refine HT.out.mono ?_
        rintro e w4 ⟨rfl, hw⟩
        rw [← hw]
        clear hw w4
        go_wp2_with fail
        refine HFa.out.mono ?_
        rintro e w4 ⟨rfl, hw⟩
        rw [hw]
        clear hw w4
        go_wp2
        rw [← HW5.out]
        refine bodyPost_ret (v := .tuple #[Gm.zero.val, .int .i64 0, .int .i64 (fault (l.drop a))]) (by simp [results, Tryd.f17, go_sem, y0_, y1_, y2_, y3_, y4_, y5_, y6_, y7_, y8_, Gm.val, Gm.zero, Mg.zero]) rfl ⟨?_, HB5.out⟩
        rw [HS.out]
        try rfl
      · have hk0 : ((k : Int) == 0) = false := beq_eq_false_iff_ne.2 (by omega)
        have hkn : a + k ≤ n := by have := HDl.out; omega
        obtain ⟨a2, ha2⟩ : ∃ a2, a2 = a + k := ⟨_, rfl⟩
        have hwr : IntKind.i64.wrap ((a : Int) + (k : Int)) = (a2 : Int) := by rw [IntWalk.i64_in _ (by omega), ha2]; simp
        have HTn : Hid (GkR l n ([] ++ [y]) a2) := Lib.hid (by rw [ha2]; exact HTk.out.step HMo.out ht (by omega) hkn ⟨y0, y1⟩)
        have k2 := HG.out
        have f0 : w3.frozen? ⟨g, 0, none⟩ = false := k2.frozen 0
        have HG3 : Hid (Blk (w3.setCell ⟨g, 0, none⟩ (.int .i64 y)) g 26 (gcells ([] ++ [y]))) := Lib.hid (k2.set_ 0 (.int .i64 y))
        have HP3 : Hid (Blk (w3.setCell ⟨g, 0, none⟩ (.int .i64 y)) p 26 #[.int .i64 0, .int .i64 0, .int .i64 0, .int .i64 0, .int .i64 0, .int .i64 0, .int .i64 0, .int .i64 0, .int .i64 0]) := Lib.hid (HP.out.far (by show p ≠ g; have := HGp.out; omega) _)
        have HB4 : Hid (Below w.heap.size w (w3.setCell ⟨g, 0, none⟩ (.int .i64 y))) := Lib.hid (below_setAt HB3.out (by have := HGp.out; have := HPw.out; omega) _ _)
        have hcs : ∃ u, w3.cell? ⟨g, 0, none⟩ = some u := ⟨_, k2.cell 0⟩
        obtain ⟨u0, hu0⟩ := hcs
        clear k2
        rw [ht] at HT
        clear ht ha2 k3
        go_wp2_with fail
        refine HT.out.mono ?_
        rintro e w4 ⟨rfl, hw⟩
        rw [← hw]
        clear hw w4
        go_wp2
        go_roundw
        case rel => exact ⟨[] ++ [y], a2, _, rfl, rfl, rfl, HTn.out, HG3.out, HP3.out, HB4.out⟩
        case measure => simp [intOf]
    case cons.nil =>
      obtain rfl : i = 1 := by simpa using hi
      clear hi hlen
      have kix : ∀ u : World, (Instr.index 54 (.agg #[.pointer (some ⟨g, 0, none⟩), .pointer (some ⟨g, 1, none⟩), .pointer (some ⟨g, 2, none⟩), .pointer (some ⟨g, 3, none⟩)]) (.int .i64 1)).run Tryd.prog u = .ok (.pointer (some ⟨g, 1, none⟩)) u := fun u => run_index_ptrs (k := 1) Tryd.underlying54 Tryd.underlying53 (by kernel_rfl) (by omega) rfl u
      have HMo : Hid (([z0] : List Int).length < 4) := Lib.hid (by simp)
      rcases HC.out with ht | ⟨y, k, ht, y0, y1, k1, k2, k3, _⟩
      · have HS := Lib.hid (HTk.out.stop HMo.out (by rw [ht]))
        rw [ht] at HT
        clear ht
        have k2 := HP.out
        have x0_ : w3.cell? ⟨p, 0, none⟩ = some (.int .i64 (0)) := k2.cell 0
        have x1_ : w3.cell? ⟨p, 1, none⟩ = some (.int .i64 (0)) := k2.cell 1
        have x2_ : w3.cell? ⟨p, 2, none⟩ = some (.int .i64 (0)) := k2.cell 2
        have x3_ : w3.cell? ⟨p, 3, none⟩ = some (.int .i64 (0)) := k2.cell 3
        have x4_ : w3.cell? ⟨p, 4, none⟩ = some (.int .i64 (0)) := k2.cell 4
        have x5_ : w3.cell? ⟨p, 5, none⟩ = some (.int .i64 (0)) := k2.cell 5
        have x6_ : w3.cell? ⟨p, 6, none⟩ = some (.int .i64 (0)) := k2.cell 6
        have x7_ : w3.cell? ⟨p, 7, none⟩ = some (.int .i64 (0)) := k2.cell 7
        have x8_ : w3.cell? ⟨p, 8, none⟩ = some (.int .i64 (0)) := k2.cell 8
        have f0_ : w3.frozen? ⟨p, 0, none⟩ = false := k2.frozen 0
        have f1_ : w3.frozen? ⟨p, 1, none⟩ = false := k2.frozen 1
        have f2_ : w3.frozen? ⟨p, 2, none⟩ = false := k2.frozen 2
        have f3_ : w3.frozen? ⟨p, 3, none⟩ = false := k2.frozen 3
        have f4_ : w3.frozen? ⟨p, 4, none⟩ = false := k2.frozen 4
        have f5_ : w3.frozen? ⟨p, 5, none⟩ = false := k2.frozen 5
        have f6_ : w3.frozen? ⟨p, 6, none⟩ = false := k2.frozen 6
        have f7_ : w3.frozen? ⟨p, 7, none⟩ = false := k2.frozen 7
        have f8_ : w3.frozen? ⟨p, 8, none⟩ = false := k2.frozen 8
        obtain ⟨w5, hw5, k5, hb5⟩ := gram_set k2 (.int .i64 0) (.int .i64 0) (.int .i64 0) (.int .i64 0) (.int .i64 0) (.int .i64 0) (.int .i64 0) (.int .i64 0) (.int .i64 0)
        have HB5 := Lib.hid (hb5 w.heap.size w (by have := HPw.out; omega) HB3.out)
        have HW5 := Lib.hid hw5
        have y0_ : w5.cell? ⟨p, 0, none⟩ = some (.int .i64 (0)) := k5.cell 0
        have y1_ : w5.cell? ⟨p, 1, none⟩ = some (.int .i64 (0)) := k5.cell 1
        have y2_ : w5.cell? ⟨p, 2, none⟩ = some (.int .i64 (0)) := k5.cell 2
        have y3_ : w5.cell? ⟨p, 3, none⟩ = some (.int .i64 (0)) := k5.cell 3
        have y4_ : w5.cell? ⟨p, 4, none⟩ = some (.int .i64 (0)) := k5.cell 4
        have y5_ : w5.cell? ⟨p, 5, none⟩ = some (.int .i64 (0)) := k5.cell 5
        have y6_ : w5.cell? ⟨p, 6, none⟩ = some (.int .i64 (0)) := k5.cell 6
        have y7_ : w5.cell? ⟨p, 7, none⟩ = some (.int .i64 (0)) := k5.cell 7
        have y8_ : w5.cell? ⟨p, 8, none⟩ = some (.int .i64 (0)) := k5.cell 8
        clear k2 hw5 k5 hb5
        go_wp2_with fail
        refine HT.out.mono ?_
        rintro e w4 ⟨rfl, hw⟩
        rw [← hw]
        clear hw w4
        go_wp2_with fail
        refine HFa.out.mono ?_
        rintro e w4 ⟨rfl, hw⟩
        rw [hw]
        clear hw w4
        go_wp2
        rw [← HW5.out]
        refine bodyPost_ret (v := .tuple #[Gm.zero.val, .int .i64 0, .int .i64 (fault (l.drop a))]) (by simp [results, Tryd.f17, go_sem, y0_, y1_, y2_, y3_, y4_, y5_, y6_, y7_, y8_, Gm.val, Gm.zero, Mg.zero]) rfl ⟨?_, HB5.out⟩
        rw [HS.out]
        try rfl
      · have hk0 : ((k : Int) == 0) = false := beq_eq_false_iff_ne.2 (by omega)
        have hkn : a + k ≤ n := by have := HDl.out; omega
        obtain ⟨a2, ha2⟩ : ∃ a2, a2 = a + k := ⟨_, rfl⟩
        have hwr : IntKind.i64.wrap ((a : Int) + (k : Int)) = (a2 : Int) := by rw [IntWalk.i64_in _ (by omega), ha2]; simp
        have HTn : Hid (GkR l n ([z0] ++ [y]) a2) := Lib.hid (by rw [ha2]; exact HTk.out.step HMo.out ht (by omega) hkn ⟨y0, y1⟩)
        have k2 := HG.out
        have f0 : w3.frozen? ⟨g, 1, none⟩ = false := k2.frozen 1
        have HG3 : Hid (Blk (w3.setCell ⟨g, 1, none⟩ (.int .i64 y)) g 26 (gcells ([z0] ++ [y]))) := Lib.hid (k2.set_ 1 (.int .i64 y))
        have HP3 : Hid (Blk (w3.setCell ⟨g, 1, none⟩ (.int .i64 y)) p 26 #[.int .i64 0, .int .i64 0, .int .i64 0, .int .i64 0, .int .i64 0, .int .i64 0, .int .i64 0, .int .i64 0, .int .i64 0]) := Lib.hid (HP.out.far (by show p ≠ g; have := HGp.out; omega) _)
        have HB4 : Hid (Below w.heap.size w (w3.setCell ⟨g, 1, none⟩ (.int .i64 y))) := Lib.hid (below_setAt HB3.out (by have := HGp.out; have := HPw.out; omega) _ _)
        have hcs : ∃ u, w3.cell? ⟨g, 1, none⟩ = some u := ⟨_, k2.cell 1⟩
        obtain ⟨u0, hu0⟩ := hcs
        clear k2
        rw [ht] at HT
        clear ht ha2 k3
        go_wp2_with fail
        refine HT.out.mono ?_
        rintro e w4 ⟨rfl, hw⟩
        rw [← hw]
        clear hw w4
        go_wp2
        go_roundw
        case rel => exact ⟨[z0] ++ [y], a2, _, rfl, rfl, rfl, HTn.out, HG3.out, HP3.out, HB4.out⟩
        case measure => simp [intOf]
    case cons.cons.nil =>
      obtain rfl : i = 2 := by simpa using hi
      clear hi hlen
      have kix : ∀ u : World, (Instr.index 54 (.agg #[.pointer (some ⟨g, 0, none⟩), .pointer (some ⟨g, 1, none⟩), .pointer (some ⟨g, 2, none⟩), .pointer (some ⟨g, 3, none⟩)]) (.int .i64 2)).run Tryd.prog u = .ok (.pointer (some ⟨g, 2, none⟩)) u := fun u => run_index_ptrs (k := 2) Tryd.underlying54 Tryd.underlying53 (by kernel_rfl) (by omega) rfl u
      have HMo : Hid (([z0, z1] : List Int).length < 4) := Lib.hid (by simp)
      rcases HC.out with ht | ⟨y, k, ht, y0, y1, k1, k2, k3, _⟩
      · have HS := Lib.hid (HTk.out.stop HMo.out (by rw [ht]))
        rw [ht] at HT
        clear ht
        have k2 := HP.out
        have x0_ : w3.cell? ⟨p, 0, none⟩ = some (.int .i64 (0)) := k2.cell 0
        have x1_ : w3.cell? ⟨p, 1, none⟩ = some (.int .i64 (0)) := k2.cell 1
        have x2_ : w3.cell? ⟨p, 2, none⟩ = some (.int .i64 (0)) := k2.cell 2
        have x3_ : w3.cell? ⟨p, 3, none⟩ = some (.int .i64 (0)) := k2.cell 3
        have x4_ : w3.cell? ⟨p, 4, none⟩ = some (.int .i64 (0)) := k2.cell 4
        have x5_ : w3.cell? ⟨p, 5, none⟩ = some (.int .i64 (0)) := k2.cell 5
        have x6_ : w3.cell? ⟨p, 6, none⟩ = some (.int .i64 (0)) := k2.cell 6
        have x7_ : w3.cell? ⟨p, 7, none⟩ = some (.int .i64 (0)) := k2.cell 7
        have x8_ : w3.cell? ⟨p, 8, none⟩ = some (.int .i64 (0)) := k2.cell 8
        have f0_ : w3.frozen? ⟨p, 0, none⟩ = false := k2.frozen 0
        have f1_ : w3.frozen? ⟨p, 1, none⟩ = false := k2.frozen 1
        have f2_ : w3.frozen? ⟨p, 2, none⟩ = false := k2.frozen 2
        have f3_ : w3.frozen? ⟨p, 3, none⟩ = false := k2.frozen 3
        have f4_ : w3.frozen? ⟨p, 4, none⟩ = false := k2.frozen 4
        have f5_ : w3.frozen? ⟨p, 5, none⟩ = false := k2.frozen 5
        have f6_ : w3.frozen? ⟨p, 6, none⟩ = false := k2.frozen 6
        have f7_ : w3.frozen? ⟨p, 7, none⟩ = false := k2.frozen 7
        have f8_ : w3.frozen? ⟨p, 8, none⟩ = false := k2.frozen 8
        obtain ⟨w5, hw5, k5, hb5⟩ := gram_set k2 (.int .i64 0) (.int .i64 0) (.int .i64 0) (.int .i64 0) (.int .i64 0) (.int .i64 0) (.int .i64 0) (.int .i64 0) (.int .i64 0)
        have HB5 := Lib.hid (hb5 w.heap.size w (by have := HPw.out; omega) HB3.out)
        have HW5 := Lib.hid hw5
        have y0_ : w5.cell? ⟨p, 0, none⟩ = some (.int .i64 (0)) := k5.cell 0
        have y1_ : w5.cell? ⟨p, 1, none⟩ = some (.int .i64 (0)) := k5.cell 1
        have y2_ : w5.cell? ⟨p, 2, none⟩ = some (.int .i64 (0)) := k5.cell 2
        have y3_ : w5.cell? ⟨p, 3, none⟩ = some (.int .i64 (0)) := k5.cell 3
        have y4_ : w5.cell? ⟨p, 4, none⟩ = some (.int .i64 (0)) := k5.cell 4
        have y5_ : w5.cell? ⟨p, 5, none⟩ = some (.int .i64 (0)) := k5.cell 5
        have y6_ : w5.cell? ⟨p, 6, none⟩ = some (.int .i64 (0)) := k5.cell 6
        have y7_ : w5.cell? ⟨p, 7, none⟩ = some (.int .i64 (0)) := k5.cell 7
        have y8_ : w5.cell? ⟨p, 8, none⟩ = some (.int .i64 (0)) := k5.cell 8
        clear k2 hw5 k5 hb5
        go_wp2_with fail
        refine HT.out.mono ?_
        rintro e w4 ⟨rfl, hw⟩
        rw [← hw]
        clear hw w4
        go_wp2_with fail
        refine HFa.out.mono ?_
        rintro e w4 ⟨rfl, hw⟩
        rw [hw]
        clear hw w4
        go_wp2
        rw [← HW5.out]
        refine bodyPost_ret (v := .tuple #[Gm.zero.val, .int .i64 0, .int .i64 (fault (l.drop a))]) (by simp [results, Tryd.f17, go_sem, y0_, y1_, y2_, y3_, y4_, y5_, y6_, y7_, y8_, Gm.val, Gm.zero, Mg.zero]) rfl ⟨?_, HB5.out⟩
        rw [HS.out]
        try rfl
      · have hk0 : ((k : Int) == 0) = false := beq_eq_false_iff_ne.2 (by omega)
        have hkn : a + k ≤ n := by have := HDl.out; omega
        obtain ⟨a2, ha2⟩ : ∃ a2, a2 = a + k := ⟨_, rfl⟩
        have hwr : IntKind.i64.wrap ((a : Int) + (k : Int)) = (a2 : Int) := by rw [IntWalk.i64_in _ (by omega), ha2]; simp
        have HTn : Hid (GkR l n ([z0, z1] ++ [y]) a2) := Lib.hid (by rw [ha2]; exact HTk.out.step HMo.out ht (by omega) hkn ⟨y0, y1⟩)
        have k2 := HG.out
        have f0 : w3.frozen? ⟨g, 2, none⟩ = false := k2.frozen 2
        have HG3 : Hid (Blk (w3.setCell ⟨g, 2, none⟩ (.int .i64 y)) g 26 (gcells ([z0, z1] ++ [y]))) := Lib.hid (k2.set_ 2 (.int .i64 y))
        have HP3 : Hid (Blk (w3.setCell ⟨g, 2, none⟩ (.int .i64 y)) p 26 #[.int .i64 0, .int .i64 0, .int .i64 0, .int .i64 0, .int .i64 0, .int .i64 0, .int .i64 0, .int .i64 0, .int .i64 0]) := Lib.hid (HP.out.far (by show p ≠ g; have := HGp.out; omega) _)
        have HB4 : Hid (Below w.heap.size w (w3.setCell ⟨g, 2, none⟩ (.int .i64 y))) := Lib.hid (below_setAt HB3.out (by have := HGp.out; have := HPw.out; omega) _ _)
        have hcs : ∃ u, w3.cell? ⟨g, 2, none⟩ = some u := ⟨_, k2.cell 2⟩
        obtain ⟨u0, hu0⟩ := hcs
        clear k2
        rw [ht] at HT
        clear ht ha2 k3
        go_wp2_with fail
        refine HT.out.mono ?_
        rintro e w4 ⟨rfl, hw⟩
        rw [← hw]
        clear hw w4
        go_wp2
        go_roundw
        case rel => exact ⟨[z0, z1] ++ [y], a2, _, rfl, rfl, rfl, HTn.out, HG3.out, HP3.out, HB4.out⟩
        case measure => simp [intOf]
    case cons.cons.cons.nil =>
      obtain rfl : i = 3 := by simpa using hi
      clear hi hlen
      have kix : ∀ u : World, (Instr.index 54 (.agg #[.pointer (some ⟨g, 0, none⟩), .pointer (some ⟨g, 1, none⟩), .pointer (some ⟨g, 2, none⟩), .pointer (some ⟨g, 3, none⟩)]) (.int .i64 3)).run Tryd.prog u = .ok (.pointer (some ⟨g, 3, none⟩)) u := fun u => run_index_ptrs (k := 3) Tryd.underlying54 Tryd.underlying53 (by kernel_rfl) (by omega) rfl u
      have HMo : Hid (([z0, z1, z2] : List Int).length < 4) := Lib.hid (by simp)
      rcases HC.out with ht | ⟨y, k, ht, y0, y1, k1, k2, k3, _⟩
      · have HS := Lib.hid (HTk.out.stop HMo.out (by rw [ht]))
        rw [ht] at HT
        clear ht
        have k2 := HP.out
        have x0_ : w3.cell? ⟨p, 0, none⟩ = some (.int .i64 (0)) := k2.cell 0
        have x1_ : w3.cell? ⟨p, 1, none⟩ = some (.int .i64 (0)) := k2.cell 1
        have x2_ : w3.cell? ⟨p, 2, none⟩ = some (.int .i64 (0)) := k2.cell 2
        have x3_ : w3.cell? ⟨p, 3, none⟩ = some (.int .i64 (0)) := k2.cell 3
        have x4_ : w3.cell? ⟨p, 4, none⟩ = some (.int .i64 (0)) := k2.cell 4
        have x5_ : w3.cell? ⟨p, 5, none⟩ = some (.int .i64 (0)) := k2.cell 5
        have x6_ : w3.cell? ⟨p, 6, none⟩ = some (.int .i64 (0)) := k2.cell 6
        have x7_ : w3.cell? ⟨p, 7, none⟩ = some (.int .i64 (0)) := k2.cell 7
        have x8_ : w3.cell? ⟨p, 8, none⟩ = some (.int .i64 (0)) := k2.cell 8
        have f0_ : w3.frozen? ⟨p, 0, none⟩ = false := k2.frozen 0
        have f1_ : w3.frozen? ⟨p, 1, none⟩ = false := k2.frozen 1
        have f2_ : w3.frozen? ⟨p, 2, none⟩ = false := k2.frozen 2
        have f3_ : w3.frozen? ⟨p, 3, none⟩ = false := k2.frozen 3
        have f4_ : w3.frozen? ⟨p, 4, none⟩ = false := k2.frozen 4
        have f5_ : w3.frozen? ⟨p, 5, none⟩ = false := k2.frozen 5
        have f6_ : w3.frozen? ⟨p, 6, none⟩ = false := k2.frozen 6
        have f7_ : w3.frozen? ⟨p, 7, none⟩ = false := k2.frozen 7
        have f8_ : w3.frozen? ⟨p, 8, none⟩ = false := k2.frozen 8
        obtain ⟨w5, hw5, k5, hb5⟩ := gram_set k2 (.int .i64 0) (.int .i64 0) (.int .i64 0) (.int .i64 0) (.int .i64 0) (.int .i64 0) (.int .i64 0) (.int .i64 0) (.int .i64 0)
        have HB5 := Lib.hid (hb5 w.heap.size w (by have := HPw.out; omega) HB3.out)
        have HW5 := Lib.hid hw5
        have y0_ : w5.cell? ⟨p, 0, none⟩ = some (.int .i64 (0)) := k5.cell 0
        have y1_ : w5.cell? ⟨p, 1, none⟩ = some (.int .i64 (0)) := k5.cell 1
        have y2_ : w5.cell? ⟨p, 2, none⟩ = some (.int .i64 (0)) := k5.cell 2
        have y3_ : w5.cell? ⟨p, 3, none⟩ = some (.int .i64 (0)) := k5.cell 3
        have y4_ : w5.cell? ⟨p, 4, none⟩ = some (.int .i64 (0)) := k5.cell 4
        have y5_ : w5.cell? ⟨p, 5, none⟩ = some (.int .i64 (0)) := k5.cell 5
        have y6_ : w5.cell? ⟨p, 6, none⟩ = some (.int .i64 (0)) := k5.cell 6
        have y7_ : w5.cell? ⟨p, 7, none⟩ = some (.int .i64 (0)) := k5.cell 7
        have y8_ : w5.cell? ⟨p, 8, none⟩ = some (.int .i64 (0)) := k5.cell 8
        clear k2 hw5 k5 hb5
        go_wp2_with fail
        refine HT.out.mono ?_
        rintro e w4 ⟨rfl, hw⟩
        rw [← hw]
        clear hw w4
        go_wp2_with fail
        refine HFa.out.mono ?_
        rintro e w4 ⟨rfl, hw⟩
        rw [hw]
        clear hw w4
        go_wp2
        rw [← HW5.out]
        refine bodyPost_ret (v := .tuple #[Gm.zero.val, .int .i64 0, .int .i64 (fault (l.drop a))]) (by simp [results, Tryd.f17, go_sem, y0_, y1_, y2_, y3_, y4_, y5_, y6_, y7_, y8_, Gm.val, Gm.zero, Mg.zero]) rfl ⟨?_, HB5.out⟩
        rw [HS.out]
        try rfl
      · have hk0 : ((k : Int) == 0) = false := beq_eq_false_iff_ne.2 (by omega)
        have hkn : a + k ≤ n := by have := HDl.out; omega
        obtain ⟨a2, ha2⟩ : ∃ a2, a2 = a + k := ⟨_, rfl⟩
        have hwr : IntKind.i64.wrap ((a : Int) + (k : Int)) = (a2 : Int) := by rw [IntWalk.i64_in _ (by omega), ha2]; simp
        have HTn : Hid (GkR l n ([z0, z1, z2] ++ [y]) a2) := Lib.hid (by rw [ha2]; exact HTk.out.step HMo.out ht (by omega) hkn ⟨y0, y1⟩)
        have k2 := HG.out
        have f0 : w3.frozen? ⟨g, 3, none⟩ = false := k2.frozen 3
        have HG3 : Hid (Blk (w3.setCell ⟨g, 3, none⟩ (.int .i64 y)) g 26 (gcells ([z0, z1, z2] ++ [y]))) := Lib.hid (k2.set_ 3 (.int .i64 y))
        have HP3 : Hid (Blk (w3.setCell ⟨g, 3, none⟩ (.int .i64 y)) p 26 #[.int .i64 0, .int .i64 0, .int .i64 0, .int .i64 0, .int .i64 0, .int .i64 0, .int .i64 0, .int .i64 0, .int .i64 0]) := Lib.hid (HP.out.far (by show p ≠ g; have := HGp.out; omega) _)
        have HB4 : Hid (Below w.heap.size w (w3.setCell ⟨g, 3, none⟩ (.int .i64 y))) := Lib.hid (below_setAt HB3.out (by have := HGp.out; have := HPw.out; omega) _ _)
        have hcs : ∃ u, w3.cell? ⟨g, 3, none⟩ = some u := ⟨_, k2.cell 3⟩
        obtain ⟨u0, hu0⟩ := hcs
        clear k2
        rw [ht] at HT
        clear ht ha2 k3
        go_wp2_with fail
        refine HT.out.mono ?_
        rintro e w4 ⟨rfl, hw⟩
        rw [← hw]
        clear hw w4
        go_wp2
        go_roundw
        case rel => exact ⟨[z0, z1, z2] ++ [y], a2, _, rfl, rfl, rfl, HTn.out, HG3.out, HP3.out, HB4.out⟩
        case measure => simp [intOf]
    case cons.cons.cons.cons.nil =>
      obtain rfl : i = 4 := by simpa using hi
      clear hi hlen
      have HMo : Hid (¬ ([z0, z1, z2, z3] : List Int).length < 4) := Lib.hid (by simp)
      have HD : Hid (gtake l = gend [z0, z1, z2, z3] a l) := Lib.hid (HTk.out.done HMo.out)
      have HR0 : Hid (0 ≤ z0 ∧ z0 ≤ 9223372036854775807) := Lib.hid (HTk.out.get 0)
      have HR1 : Hid (0 ≤ z1 ∧ z1 ≤ 9223372036854775807) := Lib.hid (HTk.out.get 1)
      have HR2 : Hid (0 ≤ z2 ∧ z2 ≤ 9223372036854775807) := Lib.hid (HTk.out.get 2)
      have r3 : 0 ≤ z3 ∧ z3 ≤ 9223372036854775807 := HTk.out.get 3
      obtain ⟨r31, r32⟩ := r3
      have hgp : p ≠ g := by have := HGp.out; omega
      have HGk : Hid (Blk w3 g 26 #[.int .i64 z0, .int .i64 z1, .int .i64 z2, .int .i64 z3, .int .i64 0, .int .i64 0, .int .i64 0, .int .i64 0, .int .i64 0]) := Lib.hid HG.out
      have kG := HGk.out
      have c0_ : w3.cell? ⟨g, 0, none⟩ = some (.int .i64 (z0)) := kG.cell 0
      have c1_ : w3.cell? ⟨g, 1, none⟩ = some (.int .i64 (z1)) := kG.cell 1
      have c2_ : w3.cell? ⟨g, 2, none⟩ = some (.int .i64 (z2)) := kG.cell 2
      have c3_ : w3.cell? ⟨g, 3, none⟩ = some (.int .i64 (z3)) := kG.cell 3
      have c4_ : w3.cell? ⟨g, 4, none⟩ = some (.int .i64 (0)) := kG.cell 4
      have c5_ : w3.cell? ⟨g, 5, none⟩ = some (.int .i64 (0)) := kG.cell 5
      have c6_ : w3.cell? ⟨g, 6, none⟩ = some (.int .i64 (0)) := kG.cell 6
      have c7_ : w3.cell? ⟨g, 7, none⟩ = some (.int .i64 (0)) := kG.cell 7
      have c8_ : w3.cell? ⟨g, 8, none⟩ = some (.int .i64 (0)) := kG.cell 8
      clear kG
      by_cases h0 : 0 < z3
      case neg =>
        have t3 : decide (0 < z3) = false := by simp; omega
        have HD2 : Hid (gtake l = gfin ⟨z0, z1, z2, z3, ⟨0, 0, 0, 0, 0⟩⟩ a) := Lib.hid (HD.out.trans (if_neg h0))
        have HMI : Hid (Mg.I ⟨0, 0, 0, 0, 0⟩) := Lib.hid mg_zero_i
        go_wp2_with fail
        obtain ⟨t, ht⟩ : ∃ t, t = decide (Gm.Be ⟨z0, z1, z2, z3, ⟨0, 0, 0, 0, 0⟩⟩) := ⟨_, rfl⟩
        have HI : Hid (Gm.I ⟨z0, z1, z2, z3, ⟨0, 0, 0, 0, 0⟩⟩) := Lib.hid ⟨⟨by have := HR0.out; show _ ≤ z0; omega, HR0.out.2⟩, ⟨by have := HR1.out; show _ ≤ z1; omega, HR1.out.2⟩, ⟨by have := HR2.out; show _ ≤ z2; omega, HR2.out.2⟩, ⟨by show _ ≤ z3; omega, by show z3 ≤ _; omega⟩, HMI.out⟩
        have HV := Lib.hid (validG ⟨z0, z1, z2, z3, ⟨0, 0, 0, 0, 0⟩⟩ w3 HI.out)
        rw [← ht] at HV
        have HTt := Lib.hid ht
        clear ht
        refine HV.out.mono ?_
        rintro e9 w9 ⟨rfl, hb9⟩
        have HB9 := Lib.hid (HB3.out.trans (hb9.mono HB3.out.size))
        have HK9 := Lib.hid (HP.out.below hb9 HP.out.lt)
        have kM := HGk.out.below hb9 HGk.out.lt
        have m0_ : w9.cell? ⟨g, 0, none⟩ = some (.int .i64 (z0)) := kM.cell 0
        have m1_ : w9.cell? ⟨g, 1, none⟩ = some (.int .i64 (z1)) := kM.cell 1
        have m2_ : w9.cell? ⟨g, 2, none⟩ = some (.int .i64 (z2)) := kM.cell 2
        have m3_ : w9.cell? ⟨g, 3, none⟩ = some (.int .i64 (z3)) := kM.cell 3
        have m4_ : w9.cell? ⟨g, 4, none⟩ = some (.int .i64 (0)) := kM.cell 4
        have m5_ : w9.cell? ⟨g, 5, none⟩ = some (.int .i64 (0)) := kM.cell 5
        have m6_ : w9.cell? ⟨g, 6, none⟩ = some (.int .i64 (0)) := kM.cell 6
        have m7_ : w9.cell? ⟨g, 7, none⟩ = some (.int .i64 (0)) := kM.cell 7
        have m8_ : w9.cell? ⟨g, 8, none⟩ = some (.int .i64 (0)) := kM.cell 8
        clear hb9 kM HV
        cases t
        case false =>
          have HS : Hid (gtake l = (Gm.zero, 0, 31)) := Lib.hid (HD2.out.trans (if_neg (of_decide_eq_false HTt.out.symm)))
          have k2 := HK9.out
          have x0_ : w9.cell? ⟨p, 0, none⟩ = some (.int .i64 (0)) := k2.cell 0
          have x1_ : w9.cell? ⟨p, 1, none⟩ = some (.int .i64 (0)) := k2.cell 1
          have x2_ : w9.cell? ⟨p, 2, none⟩ = some (.int .i64 (0)) := k2.cell 2
          have x3_ : w9.cell? ⟨p, 3, none⟩ = some (.int .i64 (0)) := k2.cell 3
          have x4_ : w9.cell? ⟨p, 4, none⟩ = some (.int .i64 (0)) := k2.cell 4
          have x5_ : w9.cell? ⟨p, 5, none⟩ = some (.int .i64 (0)) := k2.cell 5
          have x6_ : w9.cell? ⟨p, 6, none⟩ = some (.int .i64 (0)) := k2.cell 6
          have x7_ : w9.cell? ⟨p, 7, none⟩ = some (.int .i64 (0)) := k2.cell 7
          have x8_ : w9.cell? ⟨p, 8, none⟩ = some (.int .i64 (0)) := k2.cell 8
          have f0_ : w9.frozen? ⟨p, 0, none⟩ = false := k2.frozen 0
          have f1_ : w9.frozen? ⟨p, 1, none⟩ = false := k2.frozen 1
          have f2_ : w9.frozen? ⟨p, 2, none⟩ = false := k2.frozen 2
          have f3_ : w9.frozen? ⟨p, 3, none⟩ = false := k2.frozen 3
          have f4_ : w9.frozen? ⟨p, 4, none⟩ = false := k2.frozen 4
          have f5_ : w9.frozen? ⟨p, 5, none⟩ = false := k2.frozen 5
          have f6_ : w9.frozen? ⟨p, 6, none⟩ = false := k2.frozen 6
          have f7_ : w9.frozen? ⟨p, 7, none⟩ = false := k2.frozen 7
          have f8_ : w9.frozen? ⟨p, 8, none⟩ = false := k2.frozen 8
          obtain ⟨w5, hw5, k5, hb5⟩ := gram_set k2 (.int .i64 0) (.int .i64 0) (.int .i64 0) (.int .i64 0) (.int .i64 0) (.int .i64 0) (.int .i64 0) (.int .i64 0) (.int .i64 0)
          have HB5 := Lib.hid (hb5 w.heap.size w (by have := HPw.out; omega) HB9.out)
          have HW5 := Lib.hid hw5
          have y0_ : w5.cell? ⟨p, 0, none⟩ = some (.int .i64 (0)) := k5.cell 0
          have y1_ : w5.cell? ⟨p, 1, none⟩ = some (.int .i64 (0)) := k5.cell 1
          have y2_ : w5.cell? ⟨p, 2, none⟩ = some (.int .i64 (0)) := k5.cell 2
          have y3_ : w5.cell? ⟨p, 3, none⟩ = some (.int .i64 (0)) := k5.cell 3
          have y4_ : w5.cell? ⟨p, 4, none⟩ = some (.int .i64 (0)) := k5.cell 4
          have y5_ : w5.cell? ⟨p, 5, none⟩ = some (.int .i64 (0)) := k5.cell 5
          have y6_ : w5.cell? ⟨p, 6, none⟩ = some (.int .i64 (0)) := k5.cell 6
          have y7_ : w5.cell? ⟨p, 7, none⟩ = some (.int .i64 (0)) := k5.cell 7
          have y8_ : w5.cell? ⟨p, 8, none⟩ = some (.int .i64 (0)) := k5.cell 8
          clear k2 hw5 k5 hb5
          go_wp2
          rw [← HW5.out]
          refine bodyPost_ret (v := .tuple #[Gm.zero.val, .int .i64 0, .int .i64 (31)]) (by simp [results, Tryd.f17, go_sem, y0_, y1_, y2_, y3_, y4_, y5_, y6_, y7_, y8_, Gm.val, Gm.zero, Mg.zero]) rfl ⟨?_, HB5.out⟩
          rw [HS.out]
          try rfl
        case true =>
          have HS : Hid (gtake l = (⟨z0, z1, z2, z3, ⟨0, 0, 0, 0, 0⟩⟩, a, 0)) := Lib.hid (HD2.out.trans (if_pos (of_decide_eq_true HTt.out.symm)))
          have k2 := HK9.out
          have x0_ : w9.cell? ⟨p, 0, none⟩ = some (.int .i64 (0)) := k2.cell 0
          have x1_ : w9.cell? ⟨p, 1, none⟩ = some (.int .i64 (0)) := k2.cell 1
          have x2_ : w9.cell? ⟨p, 2, none⟩ = some (.int .i64 (0)) := k2.cell 2
          have x3_ : w9.cell? ⟨p, 3, none⟩ = some (.int .i64 (0)) := k2.cell 3
          have x4_ : w9.cell? ⟨p, 4, none⟩ = some (.int .i64 (0)) := k2.cell 4
          have x5_ : w9.cell? ⟨p, 5, none⟩ = some (.int .i64 (0)) := k2.cell 5
          have x6_ : w9.cell? ⟨p, 6, none⟩ = some (.int .i64 (0)) := k2.cell 6
          have x7_ : w9.cell? ⟨p, 7, none⟩ = some (.int .i64 (0)) := k2.cell 7
          have x8_ : w9.cell? ⟨p, 8, none⟩ = some (.int .i64 (0)) := k2.cell 8
          have f0_ : w9.frozen? ⟨p, 0, none⟩ = false := k2.frozen 0
          have f1_ : w9.frozen? ⟨p, 1, none⟩ = false := k2.frozen 1
          have f2_ : w9.frozen? ⟨p, 2, none⟩ = false := k2.frozen 2
          have f3_ : w9.frozen? ⟨p, 3, none⟩ = false := k2.frozen 3
          have f4_ : w9.frozen? ⟨p, 4, none⟩ = false := k2.frozen 4
          have f5_ : w9.frozen? ⟨p, 5, none⟩ = false := k2.frozen 5
          have f6_ : w9.frozen? ⟨p, 6, none⟩ = false := k2.frozen 6
          have f7_ : w9.frozen? ⟨p, 7, none⟩ = false := k2.frozen 7
          have f8_ : w9.frozen? ⟨p, 8, none⟩ = false := k2.frozen 8
          obtain ⟨w5, hw5, k5, hb5⟩ := gram_set k2 (.int .i64 (z0)) (.int .i64 (z1)) (.int .i64 (z2)) (.int .i64 (z3)) (.int .i64 0) (.int .i64 0) (.int .i64 0) (.int .i64 0) (.int .i64 0)
          have HB5 := Lib.hid (hb5 w.heap.size w (by have := HPw.out; omega) HB9.out)
          have HW5 := Lib.hid hw5
          have y0_ : w5.cell? ⟨p, 0, none⟩ = some (.int .i64 (z0)) := k5.cell 0
          have y1_ : w5.cell? ⟨p, 1, none⟩ = some (.int .i64 (z1)) := k5.cell 1
          have y2_ : w5.cell? ⟨p, 2, none⟩ = some (.int .i64 (z2)) := k5.cell 2
          have y3_ : w5.cell? ⟨p, 3, none⟩ = some (.int .i64 (z3)) := k5.cell 3
          have y4_ : w5.cell? ⟨p, 4, none⟩ = some (.int .i64 (0)) := k5.cell 4
          have y5_ : w5.cell? ⟨p, 5, none⟩ = some (.int .i64 (0)) := k5.cell 5
          have y6_ : w5.cell? ⟨p, 6, none⟩ = some (.int .i64 (0)) := k5.cell 6
          have y7_ : w5.cell? ⟨p, 7, none⟩ = some (.int .i64 (0)) := k5.cell 7
          have y8_ : w5.cell? ⟨p, 8, none⟩ = some (.int .i64 (0)) := k5.cell 8
          clear k2 hw5 k5 hb5
          go_wp2
          rw [← HW5.out]
          refine bodyPost_ret (v := .tuple #[Gm.val ⟨z0, z1, z2, z3, ⟨0, 0, 0, 0, 0⟩⟩, .int .i64 (a : Nat), .int .i64 (0)]) (by simp [results, Tryd.f17, go_sem, y0_, y1_, y2_, y3_, y4_, y5_, y6_, y7_, y8_, Gm.val]) rfl ⟨?_, HB5.out⟩
          rw [HS.out]
          try rfl
      case pos =>
        have t3 : decide (0 < z3) = true := by simp; omega
        have HWi := Lib.hid (wtake_i (l.drop a) (isB_drop_ HB.out a))
        obtain ⟨⟨⟨k, o, d, u, v⟩, j, e⟩, hwt⟩ : ∃ r, r = wtake (l.drop a) := ⟨_, rfl⟩
        have HDa := Lib.hid (HD.out.trans (if_pos h0))
        rw [← hwt] at HWi HDa
        have HMI : Hid (Mg.I ⟨k, o, d, u, v⟩) := Lib.hid HWi.out.1
        have hje : e = 0 ∨ e = 30 ∨ e = 31 := HWi.out.2.1
        have haj : a + j ≤ n := by have h1 : j ≤ (l.drop a).length := HWi.out.2.2; have := HDl.out; omega
        have HDb : Hid (gtake l = if e = 0 then gfin ⟨z0, z1, z2, z3, ⟨k, o, d, u, v⟩⟩ (a + j) else (Gm.zero, 0, e)) := Lib.hid HDa.out
        have HT8 := Lib.hid (takeC (cutA A c a) (n - a) (c - a) (l.drop a) w3 w3.heap.size HRc.out (by omega) (isB_drop_ HB.out a) (by omega))
        rw [← hwt] at HT8
        unfold Mg.val at HT8
        try simp only at HT8
        have HWt := Lib.hid hwt
        clear hwt HDa HWi
        go_wp2_with fail
        refine HT8.out.mono ?_
        rintro e4 w4 ⟨rfl, hb4⟩
        have HB4 := Lib.hid (HB3.out.trans (hb4.mono HB3.out.size))
        have HK4 := Lib.hid (HP.out.below hb4 HP.out.lt)
        have HKM4 := Lib.hid (HGk.out.below hb4 HGk.out.lt)
        clear hb4
        have hb4b : Below w4.heap.size w4 (w4.alloc (.cells #[.int .i64 k, .int .i64 o, .int .i64 d, .int .i64 u, .int .i64 v] 24)) := (Below.refl _ _).alloc (Nat.le_refl _) _
        have HB4b := Lib.hid (HB4.out.trans (hb4b.mono HB4.out.size))
        have HK4b := Lib.hid (HK4.out.below hb4b HK4.out.lt)
        have HKM4b := Lib.hid (HKM4.out.below hb4b HKM4.out.lt)
        clear hb4b
        by_cases he : e = 0
        case neg =>
          have te : (e == 0) = false := by simpa using he
          have HS : Hid (gtake l = (Gm.zero, 0, e)) := Lib.hid (HDb.out.trans (if_neg he))
          clear hje
          have k2 := HK4b.out
          have x0_ : (w4.alloc (.cells #[.int .i64 k, .int .i64 o, .int .i64 d, .int .i64 u, .int .i64 v] 24)).cell? ⟨p, 0, none⟩ = some (.int .i64 (0)) := k2.cell 0
          have x1_ : (w4.alloc (.cells #[.int .i64 k, .int .i64 o, .int .i64 d, .int .i64 u, .int .i64 v] 24)).cell? ⟨p, 1, none⟩ = some (.int .i64 (0)) := k2.cell 1
          have x2_ : (w4.alloc (.cells #[.int .i64 k, .int .i64 o, .int .i64 d, .int .i64 u, .int .i64 v] 24)).cell? ⟨p, 2, none⟩ = some (.int .i64 (0)) := k2.cell 2
          have x3_ : (w4.alloc (.cells #[.int .i64 k, .int .i64 o, .int .i64 d, .int .i64 u, .int .i64 v] 24)).cell? ⟨p, 3, none⟩ = some (.int .i64 (0)) := k2.cell 3
          have x4_ : (w4.alloc (.cells #[.int .i64 k, .int .i64 o, .int .i64 d, .int .i64 u, .int .i64 v] 24)).cell? ⟨p, 4, none⟩ = some (.int .i64 (0)) := k2.cell 4
          have x5_ : (w4.alloc (.cells #[.int .i64 k, .int .i64 o, .int .i64 d, .int .i64 u, .int .i64 v] 24)).cell? ⟨p, 5, none⟩ = some (.int .i64 (0)) := k2.cell 5
          have x6_ : (w4.alloc (.cells #[.int .i64 k, .int .i64 o, .int .i64 d, .int .i64 u, .int .i64 v] 24)).cell? ⟨p, 6, none⟩ = some (.int .i64 (0)) := k2.cell 6
          have x7_ : (w4.alloc (.cells #[.int .i64 k, .int .i64 o, .int .i64 d, .int .i64 u, .int .i64 v] 24)).cell? ⟨p, 7, none⟩ = some (.int .i64 (0)) := k2.cell 7
          have x8_ : (w4.alloc (.cells #[.int .i64 k, .int .i64 o, .int .i64 d, .int .i64 u, .int .i64 v] 24)).cell? ⟨p, 8, none⟩ = some (.int .i64 (0)) := k2.cell 8
          have f0_ : (w4.alloc (.cells #[.int .i64 k, .int .i64 o, .int .i64 d, .int .i64 u, .int .i64 v] 24)).frozen? ⟨p, 0, none⟩ = false := k2.frozen 0
          have f1_ : (w4.alloc (.cells #[.int .i64 k, .int .i64 o, .int .i64 d, .int .i64 u, .int .i64 v] 24)).frozen? ⟨p, 1, none⟩ = false := k2.frozen 1
          have f2_ : (w4.alloc (.cells #[.int .i64 k, .int .i64 o, .int .i64 d, .int .i64 u, .int .i64 v] 24)).frozen? ⟨p, 2, none⟩ = false := k2.frozen 2
          have f3_ : (w4.alloc (.cells #[.int .i64 k, .int .i64 o, .int .i64 d, .int .i64 u, .int .i64 v] 24)).frozen? ⟨p, 3, none⟩ = false := k2.frozen 3
          have f4_ : (w4.alloc (.cells #[.int .i64 k, .int .i64 o, .int .i64 d, .int .i64 u, .int .i64 v] 24)).frozen? ⟨p, 4, none⟩ = false := k2.frozen 4
          have f5_ : (w4.alloc (.cells #[.int .i64 k, .int .i64 o, .int .i64 d, .int .i64 u, .int .i64 v] 24)).frozen? ⟨p, 5, none⟩ = false := k2.frozen 5
          have f6_ : (w4.alloc (.cells #[.int .i64 k, .int .i64 o, .int .i64 d, .int .i64 u, .int .i64 v] 24)).frozen? ⟨p, 6, none⟩ = false := k2.frozen 6
          have f7_ : (w4.alloc (.cells #[.int .i64 k, .int .i64 o, .int .i64 d, .int .i64 u, .int .i64 v] 24)).frozen? ⟨p, 7, none⟩ = false := k2.frozen 7
          have f8_ : (w4.alloc (.cells #[.int .i64 k, .int .i64 o, .int .i64 d, .int .i64 u, .int .i64 v] 24)).frozen? ⟨p, 8, none⟩ = false := k2.frozen 8
          obtain ⟨w5, hw5, k5, hb5⟩ := gram_set k2 (.int .i64 0) (.int .i64 0) (.int .i64 0) (.int .i64 0) (.int .i64 0) (.int .i64 0) (.int .i64 0) (.int .i64 0) (.int .i64 0)
          have HB5 := Lib.hid (hb5 w.heap.size w (by have := HPw.out; omega) HB4b.out)
          have HW5 := Lib.hid hw5
          have y0_ : w5.cell? ⟨p, 0, none⟩ = some (.int .i64 (0)) := k5.cell 0
          have y1_ : w5.cell? ⟨p, 1, none⟩ = some (.int .i64 (0)) := k5.cell 1
          have y2_ : w5.cell? ⟨p, 2, none⟩ = some (.int .i64 (0)) := k5.cell 2
          have y3_ : w5.cell? ⟨p, 3, none⟩ = some (.int .i64 (0)) := k5.cell 3
          have y4_ : w5.cell? ⟨p, 4, none⟩ = some (.int .i64 (0)) := k5.cell 4
          have y5_ : w5.cell? ⟨p, 5, none⟩ = some (.int .i64 (0)) := k5.cell 5
          have y6_ : w5.cell? ⟨p, 6, none⟩ = some (.int .i64 (0)) := k5.cell 6
          have y7_ : w5.cell? ⟨p, 7, none⟩ = some (.int .i64 (0)) := k5.cell 7
          have y8_ : w5.cell? ⟨p, 8, none⟩ = some (.int .i64 (0)) := k5.cell 8
          clear k2 hw5 k5 hb5
          go_wp2
          rw [← HW5.out]
          refine bodyPost_ret (v := .tuple #[Gm.zero.val, .int .i64 0, .int .i64 (e)]) (by simp [results, Tryd.f17, go_sem, y0_, y1_, y2_, y3_, y4_, y5_, y6_, y7_, y8_, Gm.val, Gm.zero, Mg.zero]) rfl ⟨?_, HB5.out⟩
          rw [HS.out]
          try rfl
        case pos =>
          subst he
          have HD2 : Hid (gtake l = gfin ⟨z0, z1, z2, z3, ⟨k, o, d, u, v⟩⟩ (a + j)) := Lib.hid (HDb.out.trans (if_pos rfl))
          have km := HKM4b.out
          have g4_ : (w4.alloc (.cells #[.int .i64 k, .int .i64 o, .int .i64 d, .int .i64 u, .int .i64 v] 24)).frozen? ⟨g, 4, none⟩ = false := km.frozen 4
          have g5_ : (w4.alloc (.cells #[.int .i64 k, .int .i64 o, .int .i64 d, .int .i64 u, .int .i64 v] 24)).frozen? ⟨g, 5, none⟩ = false := km.frozen 5
          have g6_ : (w4.alloc (.cells #[.int .i64 k, .int .i64 o, .int .i64 d, .int .i64 u, .int .i64 v] 24)).frozen? ⟨g, 6, none⟩ = false := km.frozen 6
          have g7_ : (w4.alloc (.cells #[.int .i64 k, .int .i64 o, .int .i64 d, .int .i64 u, .int .i64 v] 24)).frozen? ⟨g, 7, none⟩ = false := km.frozen 7
          have g8_ : (w4.alloc (.cells #[.int .i64 k, .int .i64 o, .int .i64 d, .int .i64 u, .int .i64 v] 24)).frozen? ⟨g, 8, none⟩ = false := km.frozen 8
          have q0_ : (w4.alloc (.cells #[.int .i64 k, .int .i64 o, .int .i64 d, .int .i64 u, .int .i64 v] 24)).cell? ⟨g, 0, none⟩ = some (.int .i64 (z0)) := km.cell 0
          have q1_ : (w4.alloc (.cells #[.int .i64 k, .int .i64 o, .int .i64 d, .int .i64 u, .int .i64 v] 24)).cell? ⟨g, 1, none⟩ = some (.int .i64 (z1)) := km.cell 1
          have q2_ : (w4.alloc (.cells #[.int .i64 k, .int .i64 o, .int .i64 d, .int .i64 u, .int .i64 v] 24)).cell? ⟨g, 2, none⟩ = some (.int .i64 (z2)) := km.cell 2
          have q3_ : (w4.alloc (.cells #[.int .i64 k, .int .i64 o, .int .i64 d, .int .i64 u, .int .i64 v] 24)).cell? ⟨g, 3, none⟩ = some (.int .i64 (z3)) := km.cell 3
          have q4_ : (w4.alloc (.cells #[.int .i64 k, .int .i64 o, .int .i64 d, .int .i64 u, .int .i64 v] 24)).cell? ⟨g, 4, none⟩ = some (.int .i64 (0)) := km.cell 4
          have q5_ : (w4.alloc (.cells #[.int .i64 k, .int .i64 o, .int .i64 d, .int .i64 u, .int .i64 v] 24)).cell? ⟨g, 5, none⟩ = some (.int .i64 (0)) := km.cell 5
          have q6_ : (w4.alloc (.cells #[.int .i64 k, .int .i64 o, .int .i64 d, .int .i64 u, .int .i64 v] 24)).cell? ⟨g, 6, none⟩ = some (.int .i64 (0)) := km.cell 6
          have q7_ : (w4.alloc (.cells #[.int .i64 k, .int .i64 o, .int .i64 d, .int .i64 u, .int .i64 v] 24)).cell? ⟨g, 7, none⟩ = some (.int .i64 (0)) := km.cell 7
          have q8_ : (w4.alloc (.cells #[.int .i64 k, .int .i64 o, .int .i64 d, .int .i64 u, .int .i64 v] 24)).cell? ⟨g, 8, none⟩ = some (.int .i64 (0)) := km.cell 8
          obtain ⟨w6, hw6, k6, hb6, hp6⟩ := gram_msg km (.int .i64 k) (.int .i64 o) (.int .i64 d) (.int .i64 u) (.int .i64 v)
          have HB6 := Lib.hid (hb6 w.heap.size w (by have := HPw.out; have := HGp.out; omega) HB4b.out)
          have HKM6 := Lib.hid k6
          have HK6 := Lib.hid (hp6 p hgp _ _ HK4b.out)
          have HW6 := Lib.hid hw6
          have s0_ : w6.cell? ⟨g, 0, none⟩ = some (.int .i64 (z0)) := k6.cell 0
          have s1_ : w6.cell? ⟨g, 1, none⟩ = some (.int .i64 (z1)) := k6.cell 1
          have s2_ : w6.cell? ⟨g, 2, none⟩ = some (.int .i64 (z2)) := k6.cell 2
          have s3_ : w6.cell? ⟨g, 3, none⟩ = some (.int .i64 (z3)) := k6.cell 3
          have s4_ : w6.cell? ⟨g, 4, none⟩ = some (.int .i64 (k)) := k6.cell 4
          have s5_ : w6.cell? ⟨g, 5, none⟩ = some (.int .i64 (o)) := k6.cell 5
          have s6_ : w6.cell? ⟨g, 6, none⟩ = some (.int .i64 (d)) := k6.cell 6
          have s7_ : w6.cell? ⟨g, 7, none⟩ = some (.int .i64 (u)) := k6.cell 7
          have s8_ : w6.cell? ⟨g, 8, none⟩ = some (.int .i64 (v)) := k6.cell 8
          have hwr : IntKind.i64.wrap ((a : Int) + (j : Int)) = ((a + j : Nat) : Int) := by rw [IntWalk.i64_in _ (by omega)]; simp
          obtain ⟨a2, ha2⟩ : ∃ a2, a2 = a + j := ⟨_, rfl⟩
          rw [← ha2] at hwr HD2
          clear km k6 hb6 hp6 hw6 ha2
          go_wp2_with fail
          rw [← HW6.out]
          obtain ⟨t, ht⟩ : ∃ t, t = decide (Gm.Be ⟨z0, z1, z2, z3, ⟨k, o, d, u, v⟩⟩) := ⟨_, rfl⟩
          have HI : Hid (Gm.I ⟨z0, z1, z2, z3, ⟨k, o, d, u, v⟩⟩) := Lib.hid ⟨⟨by have := HR0.out; show _ ≤ z0; omega, HR0.out.2⟩, ⟨by have := HR1.out; show _ ≤ z1; omega, HR1.out.2⟩, ⟨by have := HR2.out; show _ ≤ z2; omega, HR2.out.2⟩, ⟨by show _ ≤ z3; omega, by show z3 ≤ _; omega⟩, HMI.out⟩
          have HV := Lib.hid (validG ⟨z0, z1, z2, z3, ⟨k, o, d, u, v⟩⟩ w6 HI.out)
          rw [← ht] at HV
          have HTt := Lib.hid ht
          clear ht
          refine HV.out.mono ?_
          rintro e9 w9 ⟨rfl, hb9⟩
          have HB9 := Lib.hid (HB6.out.trans (hb9.mono HB6.out.size))
          have HK9 := Lib.hid (HK6.out.below hb9 HK6.out.lt)
          have kM := HKM6.out.below hb9 HKM6.out.lt
          have m0_ : w9.cell? ⟨g, 0, none⟩ = some (.int .i64 (z0)) := kM.cell 0
          have m1_ : w9.cell? ⟨g, 1, none⟩ = some (.int .i64 (z1)) := kM.cell 1
          have m2_ : w9.cell? ⟨g, 2, none⟩ = some (.int .i64 (z2)) := kM.cell 2
          have m3_ : w9.cell? ⟨g, 3, none⟩ = some (.int .i64 (z3)) := kM.cell 3
          have m4_ : w9.cell? ⟨g, 4, none⟩ = some (.int .i64 (k)) := kM.cell 4
          have m5_ : w9.cell? ⟨g, 5, none⟩ = some (.int .i64 (o)) := kM.cell 5
          have m6_ : w9.cell? ⟨g, 6, none⟩ = some (.int .i64 (d)) := kM.cell 6
          have m7_ : w9.cell? ⟨g, 7, none⟩ = some (.int .i64 (u)) := kM.cell 7
          have m8_ : w9.cell? ⟨g, 8, none⟩ = some (.int .i64 (v)) := kM.cell 8
          clear hb9 kM HV
          cases t
          case false =>
            have HS : Hid (gtake l = (Gm.zero, 0, 31)) := Lib.hid (HD2.out.trans (if_neg (of_decide_eq_false HTt.out.symm)))
            have k2 := HK9.out
            have x0_ : w9.cell? ⟨p, 0, none⟩ = some (.int .i64 (0)) := k2.cell 0
            have x1_ : w9.cell? ⟨p, 1, none⟩ = some (.int .i64 (0)) := k2.cell 1
            have x2_ : w9.cell? ⟨p, 2, none⟩ = some (.int .i64 (0)) := k2.cell 2
            have x3_ : w9.cell? ⟨p, 3, none⟩ = some (.int .i64 (0)) := k2.cell 3
            have x4_ : w9.cell? ⟨p, 4, none⟩ = some (.int .i64 (0)) := k2.cell 4
            have x5_ : w9.cell? ⟨p, 5, none⟩ = some (.int .i64 (0)) := k2.cell 5
            have x6_ : w9.cell? ⟨p, 6, none⟩ = some (.int .i64 (0)) := k2.cell 6
            have x7_ : w9.cell? ⟨p, 7, none⟩ = some (.int .i64 (0)) := k2.cell 7
            have x8_ : w9.cell? ⟨p, 8, none⟩ = some (.int .i64 (0)) := k2.cell 8
            have f0_ : w9.frozen? ⟨p, 0, none⟩ = false := k2.frozen 0
            have f1_ : w9.frozen? ⟨p, 1, none⟩ = false := k2.frozen 1
            have f2_ : w9.frozen? ⟨p, 2, none⟩ = false := k2.frozen 2
            have f3_ : w9.frozen? ⟨p, 3, none⟩ = false := k2.frozen 3
            have f4_ : w9.frozen? ⟨p, 4, none⟩ = false := k2.frozen 4
            have f5_ : w9.frozen? ⟨p, 5, none⟩ = false := k2.frozen 5
            have f6_ : w9.frozen? ⟨p, 6, none⟩ = false := k2.frozen 6
            have f7_ : w9.frozen? ⟨p, 7, none⟩ = false := k2.frozen 7
            have f8_ : w9.frozen? ⟨p, 8, none⟩ = false := k2.frozen 8
            obtain ⟨w5, hw5, k5, hb5⟩ := gram_set k2 (.int .i64 0) (.int .i64 0) (.int .i64 0) (.int .i64 0) (.int .i64 0) (.int .i64 0) (.int .i64 0) (.int .i64 0) (.int .i64 0)
            have HB5 := Lib.hid (hb5 w.heap.size w (by have := HPw.out; omega) HB9.out)
            have HW5 := Lib.hid hw5
            have y0_ : w5.cell? ⟨p, 0, none⟩ = some (.int .i64 (0)) := k5.cell 0
            have y1_ : w5.cell? ⟨p, 1, none⟩ = some (.int .i64 (0)) := k5.cell 1
            have y2_ : w5.cell? ⟨p, 2, none⟩ = some (.int .i64 (0)) := k5.cell 2
            have y3_ : w5.cell? ⟨p, 3, none⟩ = some (.int .i64 (0)) := k5.cell 3
            have y4_ : w5.cell? ⟨p, 4, none⟩ = some (.int .i64 (0)) := k5.cell 4
            have y5_ : w5.cell? ⟨p, 5, none⟩ = some (.int .i64 (0)) := k5.cell 5
            have y6_ : w5.cell? ⟨p, 6, none⟩ = some (.int .i64 (0)) := k5.cell 6
            have y7_ : w5.cell? ⟨p, 7, none⟩ = some (.int .i64 (0)) := k5.cell 7
            have y8_ : w5.cell? ⟨p, 8, none⟩ = some (.int .i64 (0)) := k5.cell 8
            clear k2 hw5 k5 hb5
            go_wp2
            rw [← HW5.out]
            refine bodyPost_ret (v := .tuple #[Gm.zero.val, .int .i64 0, .int .i64 (31)]) (by simp [results, Tryd.f17, go_sem, y0_, y1_, y2_, y3_, y4_, y5_, y6_, y7_, y8_, Gm.val, Gm.zero, Mg.zero]) rfl ⟨?_, HB5.out⟩
            rw [HS.out]
            try rfl
          case true =>
            have HS : Hid (gtake l = (⟨z0, z1, z2, z3, ⟨k, o, d, u, v⟩⟩, a2, 0)) := Lib.hid (HD2.out.trans (if_pos (of_decide_eq_true HTt.out.symm)))
            have k2 := HK9.out
            have x0_ : w9.cell? ⟨p, 0, none⟩ = some (.int .i64 (0)) := k2.cell 0
            have x1_ : w9.cell? ⟨p, 1, none⟩ = some (.int .i64 (0)) := k2.cell 1
            have x2_ : w9.cell? ⟨p, 2, none⟩ = some (.int .i64 (0)) := k2.cell 2
            have x3_ : w9.cell? ⟨p, 3, none⟩ = some (.int .i64 (0)) := k2.cell 3
            have x4_ : w9.cell? ⟨p, 4, none⟩ = some (.int .i64 (0)) := k2.cell 4
            have x5_ : w9.cell? ⟨p, 5, none⟩ = some (.int .i64 (0)) := k2.cell 5
            have x6_ : w9.cell? ⟨p, 6, none⟩ = some (.int .i64 (0)) := k2.cell 6
            have x7_ : w9.cell? ⟨p, 7, none⟩ = some (.int .i64 (0)) := k2.cell 7
            have x8_ : w9.cell? ⟨p, 8, none⟩ = some (.int .i64 (0)) := k2.cell 8
            have f0_ : w9.frozen? ⟨p, 0, none⟩ = false := k2.frozen 0
            have f1_ : w9.frozen? ⟨p, 1, none⟩ = false := k2.frozen 1
            have f2_ : w9.frozen? ⟨p, 2, none⟩ = false := k2.frozen 2
            have f3_ : w9.frozen? ⟨p, 3, none⟩ = false := k2.frozen 3
            have f4_ : w9.frozen? ⟨p, 4, none⟩ = false := k2.frozen 4
            have f5_ : w9.frozen? ⟨p, 5, none⟩ = false := k2.frozen 5
            have f6_ : w9.frozen? ⟨p, 6, none⟩ = false := k2.frozen 6
            have f7_ : w9.frozen? ⟨p, 7, none⟩ = false := k2.frozen 7
            have f8_ : w9.frozen? ⟨p, 8, none⟩ = false := k2.frozen 8
            obtain ⟨w5, hw5, k5, hb5⟩ := gram_set k2 (.int .i64 (z0)) (.int .i64 (z1)) (.int .i64 (z2)) (.int .i64 (z3)) (.int .i64 (k)) (.int .i64 (o)) (.int .i64 (d)) (.int .i64 (u)) (.int .i64 (v))
            have HB5 := Lib.hid (hb5 w.heap.size w (by have := HPw.out; omega) HB9.out)
            have HW5 := Lib.hid hw5
            have y0_ : w5.cell? ⟨p, 0, none⟩ = some (.int .i64 (z0)) := k5.cell 0
            have y1_ : w5.cell? ⟨p, 1, none⟩ = some (.int .i64 (z1)) := k5.cell 1
            have y2_ : w5.cell? ⟨p, 2, none⟩ = some (.int .i64 (z2)) := k5.cell 2
            have y3_ : w5.cell? ⟨p, 3, none⟩ = some (.int .i64 (z3)) := k5.cell 3
            have y4_ : w5.cell? ⟨p, 4, none⟩ = some (.int .i64 (k)) := k5.cell 4
            have y5_ : w5.cell? ⟨p, 5, none⟩ = some (.int .i64 (o)) := k5.cell 5
            have y6_ : w5.cell? ⟨p, 6, none⟩ = some (.int .i64 (d)) := k5.cell 6
            have y7_ : w5.cell? ⟨p, 7, none⟩ = some (.int .i64 (u)) := k5.cell 7
            have y8_ : w5.cell? ⟨p, 8, none⟩ = some (.int .i64 (v)) := k5.cell 8
            clear k2 hw5 k5 hb5
            go_wp2
            rw [← HW5.out]
            refine bodyPost_ret (v := .tuple #[Gm.val ⟨z0, z1, z2, z3, ⟨k, o, d, u, v⟩⟩, .int .i64 (a2 : Nat), .int .i64 (0)]) (by simp [results, Tryd.f17, go_sem, y0_, y1_, y2_, y3_, y4_, y5_, y6_, y7_, y8_, Gm.val]) rfl ⟨?_, HB5.out⟩
            rw [HS.out]
            try rfl
    case cons.cons.cons.cons.cons =>
      simp only [List.length_cons] at hlen
      omega
end Go.Proofs.YtmegpbejknmjbaaDoor.Pk
