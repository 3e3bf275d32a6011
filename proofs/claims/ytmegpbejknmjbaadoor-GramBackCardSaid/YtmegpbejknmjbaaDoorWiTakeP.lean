/- The landed Take: the message that bytes begin with. -/
import Derived.Test.YtmegpbejknmjbaaDoorWiValidP
import Derived.Test.YtmegpbejknmjbaaDoorWiFaultP
import Derived.Test.YtmegpbejknmjbaaDoorPackTake
import Derived.Outline
namespace Go.Proofs.YtmegpbejknmjbaaDoor.Pk
open Go.RowKit
set_option linter.unusedVariables false
theorem reads_in {w : World} {B n : Nat} {A : Option Addr} {l : List Int} (h : Reads w B 1 A n (bts l)) : Reads w w.heap.size 1 A n (bts l) := by
  refine ⟨h.1, fun hn => ?_⟩
  obtain ⟨ad, e, hb, hc⟩ := h.2 hn
  have h1 : 0 < (bts l).length := by have := h.1; omega
  have h2 := World.block_lt_of_cell? w _ (hc 0 _ (List.getElem?_eq_getElem h1))
  rw [block_of_add] at h2
  exact ⟨ad, e, h2, hc⟩
/-- An element of an array of pointers by value. -/
theorem run_index_ptrs {P : Program} {t e : TypeId} {n k : Nat} {cs : Array Value} {v : Value} (h : P.underlying t = some (.array n e)) {q : TypeId} (he : P.underlying e = some (.pointer q)) (hi : (P.info? e).map (·.size) = some 1) (hk : k < n) (hv : cs[k]? = some v) (w : World) :
    (Instr.index t (.agg cs) (.int .i64 (k : Int))).run P w = .ok v w := by
  obtain ⟨i, hi1, hi2⟩ := Option.map_eq_some_iff.1 hi
  simp [Instr.index, run_underlying h, asIntOf, go_sem, sizeOf, typeInfo, hi1, hi2, hk, part, isAgg, run_underlying he, hv]
def mcells (xs : List Int) : Array Value := #[.int .i64 (xs.getD 0 0), .int .i64 (xs.getD 1 0), .int .i64 (xs.getD 2 0), .int .i64 (xs.getD 3 0), .int .i64 (xs.getD 4 0)]
set_option maxRecDepth 100000 in
set_option maxHeartbeats 4000000 in
theorem takeC : TakeC := by
  intro A n c l w B h hc hB hn
  have HL : Hid (l.length = n) := by have := h.1; simp at this; exact this
  have HR := Lib.hid (reads_in h)
  have HB := Lib.hid hB
  clear h hB
  go_enter Tryd.func32, Tryd.ntmps32
  go_wp2
  refine wp_scope_straight ?_
  go_wp2
  refine wp_label ?_
  obtain ⟨p, hp⟩ : ∃ p, p = w.heap.size := ⟨_, rfl⟩
  obtain ⟨g, hg⟩ : ∃ g, g = p + 1 := ⟨_, rfl⟩
  obtain ⟨w1, hw1⟩ : ∃ w1, w1 = w.alloc (.cells #[.int .i64 0, .int .i64 0, .int .i64 0, .int .i64 0, .int .i64 0] 24) := ⟨_, rfl⟩
  obtain ⟨w2, hw2⟩ : ∃ w2, w2 = w1.alloc (.cells #[.int .i64 0, .int .i64 0, .int .i64 0, .int .i64 0, .int .i64 0] 24) := ⟨_, rfl⟩
  rw [← hw1, ← hw2, ← hp, ← hg]
  have hb1 : Below w.heap.size w w1 := hw1 ▸ (Below.refl _ _).alloc (Nat.le_refl _) _
  have k1 : Blk w1 p 24 #[.int .i64 0, .int .i64 0, .int .i64 0, .int .i64 0, .int .i64 0] := by rw [hw1, hp]; exact Blk.new w _ _
  have hsz : w1.heap.size = p + 1 := by rw [hw1, hp]; simp
  have HB2 : Hid (Below w.heap.size w w2) := Lib.hid (hw2 ▸ hb1.alloc (by have := hb1.size; omega) _)
  have HP2 : Hid (Blk w2 p 24 #[.int .i64 0, .int .i64 0, .int .i64 0, .int .i64 0, .int .i64 0]) := Lib.hid (by rw [hw2]; exact k1.alloc _)
  have HG2 : Hid (Blk w2 g 24 (mcells [])) := Lib.hid (by rw [hw2, hg, ← hsz]; exact Blk.new w1 _ _)
  have HPw : Hid (p = w.heap.size) := Lib.hid hp
  have HGp : Hid (g = p + 1) := Lib.hid hg
  clear hw1 hw2 hp hg hb1 k1 hsz w1
  go_wp2
  go_loopw [6, 7, 8, 9, 10, 17] (fun at_ _ _ _ _ iv wr => ∃ (xs : List Int) (a : Nat) (i : Int), at_ = .int .i64 (a : Int) ∧ iv = .int .i64 i ∧ i = (xs.length : Int) ∧ TkR l n xs a ∧ Blk wr g 24 (mcells xs) ∧ Blk wr p 24 #[.int .i64 0, .int .i64 0, .int .i64 0, .int .i64 0, .int .i64 0] ∧ Below w.heap.size w wr) (fun _ _ _ _ _ iv _ => 5 - (intOf iv).toNat)
  case atStart => exact ⟨[], 0, 0, rfl, rfl, rfl, TkR.start l n, HG2.out, HP2.out, HB2.out⟩
  case round =>
    obtain ⟨xs, a, i, rfl, rfl, hi, hT, hG, hP, hb⟩ := hrel
    obtain ⟨w3, rfl⟩ : ∃ w3 : World, w3 = wr := ⟨_, rfl⟩
    have han : a ≤ n := hT.at_
    have HTk := Lib.hid hT
    have HG := Lib.hid hG
    have HP := Lib.hid hP
    have HB3 := Lib.hid hb
    clear hT hb hG hP HB2 HP2 HG2
    have HRl : Hid (Reads w3 w3.heap.size 1 A n (bts l)) := Lib.hid ((HR.out.below HB3.out).more HB3.out.size)
    have HRc : Hid (Reads w3 w3.heap.size 1 (cutA A c a) (n - a) (bts (l.drop a))) := Lib.hid (by
      have h1 := reads_cut (c := c) HRl.out han (Nat.le_refl _) hc
      rw [← HL.out, List.take_length, HL.out] at h1
      exact h1)
    have HT := Lib.hid (take_any (cutA A c a) (n - a) (c - a) (l.drop a) w3 w3.heap.size HRc.out (isB_drop_ HB.out a) (by omega) (by omega))
    have HFa := Lib.hid (fault_p (cutA A c a) (n - a) (c - a) (l.drop a) w3 w3.heap.size HRc.out (isB_drop_ HB.out a) (by omega))
    have kc : ∀ u : World, (Instr.slice 22 (.slice A n c) (some (.int .i64 (a : Int))) none none).run Tryd.prog u = .ok (.slice (cutA A c a) (n - a) (c - a)) u := fun u => run_cut1 Tryd.underlying22 (by kernel_rfl) A n c a han u
    have hain : (a : Int) ≤ (n : Int) := by omega
    have HC := Lib.hid (tkv_cases (l.drop a) (isB_drop_ HB.out a))
    have hdl : (l.drop a).length = n - a := by rw [List.length_drop, HL.out]
    have HDl := Lib.hid hdl
    have hlen := HTk.out.len
    clear hdl
    rcases xs with _ | ⟨z0, _ | ⟨z1, _ | ⟨z2, _ | ⟨z3, _ | ⟨z4, _ | ⟨z5, r⟩⟩⟩⟩⟩⟩
    case nil =>
      obtain rfl : i = 0 := by simpa using hi
      clear hi hlen
      have kix : ∀ u : World, (Instr.index 63 (.agg #[.pointer (some ⟨g, 0, none⟩), .pointer (some ⟨g, 1, none⟩), .pointer (some ⟨g, 2, none⟩), .pointer (some ⟨g, 3, none⟩), .pointer (some ⟨g, 4, none⟩)]) (.int .i64 0)).run Tryd.prog u = .ok (.pointer (some ⟨g, 0, none⟩)) u := fun u => run_index_ptrs (k := 0) Tryd.underlying63 Tryd.underlying53 (by kernel_rfl) (by omega) rfl u
      have HMo : Hid (more []) := Lib.hid (.inl (by simp))
      rcases HC.out with ht | ⟨y, k, ht, y0, y1, k1, k2, k3, _⟩
      · have HS := Lib.hid (HTk.out.stop HMo.out (by rw [ht]))
        rw [ht] at HT
        clear ht
        have k2 := HP.out
        have f0 : w3.frozen? ⟨p, 0, none⟩ = false := k2.frozen 0
        have f1 : w3.frozen? ⟨p, 1, none⟩ = false := k2.frozen 1
        have f2 : w3.frozen? ⟨p, 2, none⟩ = false := k2.frozen 2
        have f3 : w3.frozen? ⟨p, 3, none⟩ = false := k2.frozen 3
        have f4 : w3.frozen? ⟨p, 4, none⟩ = false := k2.frozen 4
        have x0 : w3.cell? ⟨p, 0, none⟩ = some (.int .i64 0) := k2.cell 0
        have x1 : w3.cell? ⟨p, 1, none⟩ = some (.int .i64 0) := k2.cell 1
        have x2 : w3.cell? ⟨p, 2, none⟩ = some (.int .i64 0) := k2.cell 2
        have x3 : w3.cell? ⟨p, 3, none⟩ = some (.int .i64 0) := k2.cell 3
        have x4 : w3.cell? ⟨p, 4, none⟩ = some (.int .i64 0) := k2.cell 4
        obtain ⟨w5, hw5, k5, hb5⟩ := msg_set k2 (.int .i64 0) (.int .i64 0) (.int .i64 0) (.int .i64 0) (.int .i64 0)
        have HB5 := Lib.hid (hb5 w.heap.size w (by have := HPw.out; omega) HB3.out)
        have HW5 := Lib.hid hw5
        have y0 : w5.cell? ⟨p, 0, none⟩ = some (.int .i64 0) := k5.cell 0
        have y1 : w5.cell? ⟨p, 1, none⟩ = some (.int .i64 0) := k5.cell 1
        have y2 : w5.cell? ⟨p, 2, none⟩ = some (.int .i64 0) := k5.cell 2
        have y3 : w5.cell? ⟨p, 3, none⟩ = some (.int .i64 0) := k5.cell 3
        have y4 : w5.cell? ⟨p, 4, none⟩ = some (.int .i64 0) := k5.cell 4
        clear k2 hw5 k5 hb5
        go_wp2_with fail
        refine HT.out.mono ?_
        rintro e w4 ⟨rfl, hw⟩
        rw [← hw]
        clear hw w4
        go_wp2_with fail
        refine HFa.out.mono ?_
        rintro e w4 ⟨rfl, hw⟩
        rw [hw]
        clear hw w4
        go_wp2
        rw [← HW5.out]
        try rw [Exit.noGoto_ret]
        refine bodyPost_ret (v := .tuple #[Mg.zero.val, .int .i64 0, .int .i64 (fault (l.drop a))]) (by simp [results, Tryd.f32, go_sem, y0, y1, y2, y3, y4, Mg.val, Mg.zero]) rfl ⟨?_, HB5.out⟩
        rw [HS.out]
        rfl
      · have hk0 : ((k : Int) == 0) = false := beq_eq_false_iff_ne.2 (by omega)
        have hkn : a + k ≤ n := by have := HDl.out; omega
        obtain ⟨a2, ha2⟩ : ∃ a2, a2 = a + k := ⟨_, rfl⟩
        have hwr : IntKind.i64.wrap ((a : Int) + (k : Int)) = (a2 : Int) := by rw [IntWalk.i64_in _ (by omega), ha2]; simp
        have HTn : Hid (TkR l n ([] ++ [y]) a2) := Lib.hid (by rw [ha2]; exact HTk.out.step HMo.out ht (by omega) hkn ⟨y0, y1⟩)
        have k2 := HG.out
        have f0 : w3.frozen? ⟨g, 0, none⟩ = false := k2.frozen 0
        have HG3 : Hid (Blk (w3.setCell ⟨g, 0, none⟩ (.int .i64 y)) g 24 (mcells ([] ++ [y]))) := Lib.hid (k2.set_ 0 (.int .i64 y))
        have HP3 : Hid (Blk (w3.setCell ⟨g, 0, none⟩ (.int .i64 y)) p 24 #[.int .i64 0, .int .i64 0, .int .i64 0, .int .i64 0, .int .i64 0]) := Lib.hid (HP.out.far (by show p ≠ g; have := HGp.out; omega) _)
        have HB4 : Hid (Below w.heap.size w (w3.setCell ⟨g, 0, none⟩ (.int .i64 y))) := Lib.hid (below_setAt HB3.out (by have := HGp.out; have := HPw.out; omega) _ _)
        have hcs : ∃ u, w3.cell? ⟨g, 0, none⟩ = some u := ⟨_, k2.cell 0⟩
        obtain ⟨u0, hu0⟩ := hcs
        clear k2
        rw [ht] at HT
        clear ht ha2 k3
        go_wp2_with fail
        refine HT.out.mono ?_
        rintro e w4 ⟨rfl, hw⟩
        rw [← hw]
        clear hw w4
        go_wp2
        go_roundw
        case rel => exact ⟨[] ++ [y], a2, _, rfl, rfl, rfl, HTn.out, HG3.out, HP3.out, HB4.out⟩
        case measure => simp [intOf]
    case cons.nil =>
      obtain rfl : i = 1 := by simpa using hi
      clear hi hlen
      have kix : ∀ u : World, (Instr.index 63 (.agg #[.pointer (some ⟨g, 0, none⟩), .pointer (some ⟨g, 1, none⟩), .pointer (some ⟨g, 2, none⟩), .pointer (some ⟨g, 3, none⟩), .pointer (some ⟨g, 4, none⟩)]) (.int .i64 1)).run Tryd.prog u = .ok (.pointer (some ⟨g, 1, none⟩)) u := fun u => run_index_ptrs (k := 1) Tryd.underlying63 Tryd.underlying53 (by kernel_rfl) (by omega) rfl u
      have HMo : Hid (more [z0]) := Lib.hid (.inl (by simp))
      rcases HC.out with ht | ⟨y, k, ht, y0, y1, k1, k2, k3, _⟩
      · have HS := Lib.hid (HTk.out.stop HMo.out (by rw [ht]))
        rw [ht] at HT
        clear ht
        have k2 := HP.out
        have f0 : w3.frozen? ⟨p, 0, none⟩ = false := k2.frozen 0
        have f1 : w3.frozen? ⟨p, 1, none⟩ = false := k2.frozen 1
        have f2 : w3.frozen? ⟨p, 2, none⟩ = false := k2.frozen 2
        have f3 : w3.frozen? ⟨p, 3, none⟩ = false := k2.frozen 3
        have f4 : w3.frozen? ⟨p, 4, none⟩ = false := k2.frozen 4
        have x0 : w3.cell? ⟨p, 0, none⟩ = some (.int .i64 0) := k2.cell 0
        have x1 : w3.cell? ⟨p, 1, none⟩ = some (.int .i64 0) := k2.cell 1
        have x2 : w3.cell? ⟨p, 2, none⟩ = some (.int .i64 0) := k2.cell 2
        have x3 : w3.cell? ⟨p, 3, none⟩ = some (.int .i64 0) := k2.cell 3
        have x4 : w3.cell? ⟨p, 4, none⟩ = some (.int .i64 0) := k2.cell 4
        obtain ⟨w5, hw5, k5, hb5⟩ := msg_set k2 (.int .i64 0) (.int .i64 0) (.int .i64 0) (.int .i64 0) (.int .i64 0)
        have HB5 := Lib.hid (hb5 w.heap.size w (by have := HPw.out; omega) HB3.out)
        have HW5 := Lib.hid hw5
        have y0 : w5.cell? ⟨p, 0, none⟩ = some (.int .i64 0) := k5.cell 0
        have y1 : w5.cell? ⟨p, 1, none⟩ = some (.int .i64 0) := k5.cell 1
        have y2 : w5.cell? ⟨p, 2, none⟩ = some (.int .i64 0) := k5.cell 2
        have y3 : w5.cell? ⟨p, 3, none⟩ = some (.int .i64 0) := k5.cell 3
        have y4 : w5.cell? ⟨p, 4, none⟩ = some (.int .i64 0) := k5.cell 4
        clear k2 hw5 k5 hb5
        go_wp2_with fail
        refine HT.out.mono ?_
        rintro e w4 ⟨rfl, hw⟩
        rw [← hw]
        clear hw w4
        go_wp2_with fail
        refine HFa.out.mono ?_
        rintro e w4 ⟨rfl, hw⟩
        rw [hw]
        clear hw w4
        go_wp2
        rw [← HW5.out]
        try rw [Exit.noGoto_ret]
        refine bodyPost_ret (v := .tuple #[Mg.zero.val, .int .i64 0, .int .i64 (fault (l.drop a))]) (by simp [results, Tryd.f32, go_sem, y0, y1, y2, y3, y4, Mg.val, Mg.zero]) rfl ⟨?_, HB5.out⟩
        rw [HS.out]
        rfl
      · have hk0 : ((k : Int) == 0) = false := beq_eq_false_iff_ne.2 (by omega)
        have hkn : a + k ≤ n := by have := HDl.out; omega
        obtain ⟨a2, ha2⟩ : ∃ a2, a2 = a + k := ⟨_, rfl⟩
        have hwr : IntKind.i64.wrap ((a : Int) + (k : Int)) = (a2 : Int) := by rw [IntWalk.i64_in _ (by omega), ha2]; simp
        have HTn : Hid (TkR l n ([z0] ++ [y]) a2) := Lib.hid (by rw [ha2]; exact HTk.out.step HMo.out ht (by omega) hkn ⟨y0, y1⟩)
        have k2 := HG.out
        have f0 : w3.frozen? ⟨g, 1, none⟩ = false := k2.frozen 1
        have HG3 : Hid (Blk (w3.setCell ⟨g, 1, none⟩ (.int .i64 y)) g 24 (mcells ([z0] ++ [y]))) := Lib.hid (k2.set_ 1 (.int .i64 y))
        have HP3 : Hid (Blk (w3.setCell ⟨g, 1, none⟩ (.int .i64 y)) p 24 #[.int .i64 0, .int .i64 0, .int .i64 0, .int .i64 0, .int .i64 0]) := Lib.hid (HP.out.far (by show p ≠ g; have := HGp.out; omega) _)
        have HB4 : Hid (Below w.heap.size w (w3.setCell ⟨g, 1, none⟩ (.int .i64 y))) := Lib.hid (below_setAt HB3.out (by have := HGp.out; have := HPw.out; omega) _ _)
        have hcs : ∃ u, w3.cell? ⟨g, 1, none⟩ = some u := ⟨_, k2.cell 1⟩
        obtain ⟨u0, hu0⟩ := hcs
        clear k2
        rw [ht] at HT
        clear ht ha2 k3
        go_wp2_with fail
        refine HT.out.mono ?_
        rintro e w4 ⟨rfl, hw⟩
        rw [← hw]
        clear hw w4
        go_wp2
        go_roundw
        case rel => exact ⟨[z0] ++ [y], a2, _, rfl, rfl, rfl, HTn.out, HG3.out, HP3.out, HB4.out⟩
        case measure => simp [intOf]
    case cons.cons.nil =>
      obtain rfl : i = 2 := by simpa using hi
      clear hi hlen
      have kix : ∀ u : World, (Instr.index 63 (.agg #[.pointer (some ⟨g, 0, none⟩), .pointer (some ⟨g, 1, none⟩), .pointer (some ⟨g, 2, none⟩), .pointer (some ⟨g, 3, none⟩), .pointer (some ⟨g, 4, none⟩)]) (.int .i64 2)).run Tryd.prog u = .ok (.pointer (some ⟨g, 2, none⟩)) u := fun u => run_index_ptrs (k := 2) Tryd.underlying63 Tryd.underlying53 (by kernel_rfl) (by omega) rfl u
      have HMo : Hid (more [z0, z1]) := Lib.hid (.inl (by simp))
      rcases HC.out with ht | ⟨y, k, ht, y0, y1, k1, k2, k3, _⟩
      · have HS := Lib.hid (HTk.out.stop HMo.out (by rw [ht]))
        rw [ht] at HT
        clear ht
        have k2 := HP.out
        have f0 : w3.frozen? ⟨p, 0, none⟩ = false := k2.frozen 0
        have f1 : w3.frozen? ⟨p, 1, none⟩ = false := k2.frozen 1
        have f2 : w3.frozen? ⟨p, 2, none⟩ = false := k2.frozen 2
        have f3 : w3.frozen? ⟨p, 3, none⟩ = false := k2.frozen 3
        have f4 : w3.frozen? ⟨p, 4, none⟩ = false := k2.frozen 4
        have x0 : w3.cell? ⟨p, 0, none⟩ = some (.int .i64 0) := k2.cell 0
        have x1 : w3.cell? ⟨p, 1, none⟩ = some (.int .i64 0) := k2.cell 1
        have x2 : w3.cell? ⟨p, 2, none⟩ = some (.int .i64 0) := k2.cell 2
        have x3 : w3.cell? ⟨p, 3, none⟩ = some (.int .i64 0) := k2.cell 3
        have x4 : w3.cell? ⟨p, 4, none⟩ = some (.int .i64 0) := k2.cell 4
        obtain ⟨w5, hw5, k5, hb5⟩ := msg_set k2 (.int .i64 0) (.int .i64 0) (.int .i64 0) (.int .i64 0) (.int .i64 0)
        have HB5 := Lib.hid (hb5 w.heap.size w (by have := HPw.out; omega) HB3.out)
        have HW5 := Lib.hid hw5
        have y0 : w5.cell? ⟨p, 0, none⟩ = some (.int .i64 0) := k5.cell 0
        have y1 : w5.cell? ⟨p, 1, none⟩ = some (.int .i64 0) := k5.cell 1
        have y2 : w5.cell? ⟨p, 2, none⟩ = some (.int .i64 0) := k5.cell 2
        have y3 : w5.cell? ⟨p, 3, none⟩ = some (.int .i64 0) := k5.cell 3
        have y4 : w5.cell? ⟨p, 4, none⟩ = some (.int .i64 0) := k5.cell 4
        clear k2 hw5 k5 hb5
        go_wp2_with fail
        refine HT.out.mono ?_
        rintro e w4 ⟨rfl, hw⟩
        rw [← hw]
        clear hw w4
        go_wp2_with fail
        refine HFa.out.mono ?_
        rintro e w4 ⟨rfl, hw⟩
        rw [hw]
        clear hw w4
        go_wp2
        rw [← HW5.out]
        try rw [Exit.noGoto_ret]
        refine bodyPost_ret (v := .tuple #[Mg.zero.val, .int .i64 0, .int .i64 (fault (l.drop a))]) (by simp [results, Tryd.f32, go_sem, y0, y1, y2, y3, y4, Mg.val, Mg.zero]) rfl ⟨?_, HB5.out⟩
        rw [HS.out]
        rfl
      · have hk0 : ((k : Int) == 0) = false := beq_eq_false_iff_ne.2 (by omega)
        have hkn : a + k ≤ n := by have := HDl.out; omega
        obtain ⟨a2, ha2⟩ : ∃ a2, a2 = a + k := ⟨_, rfl⟩
        have hwr : IntKind.i64.wrap ((a : Int) + (k : Int)) = (a2 : Int) := by rw [IntWalk.i64_in _ (by omega), ha2]; simp
        have HTn : Hid (TkR l n ([z0, z1] ++ [y]) a2) := Lib.hid (by rw [ha2]; exact HTk.out.step HMo.out ht (by omega) hkn ⟨y0, y1⟩)
        have k2 := HG.out
        have f0 : w3.frozen? ⟨g, 2, none⟩ = false := k2.frozen 2
        have HG3 : Hid (Blk (w3.setCell ⟨g, 2, none⟩ (.int .i64 y)) g 24 (mcells ([z0, z1] ++ [y]))) := Lib.hid (k2.set_ 2 (.int .i64 y))
        have HP3 : Hid (Blk (w3.setCell ⟨g, 2, none⟩ (.int .i64 y)) p 24 #[.int .i64 0, .int .i64 0, .int .i64 0, .int .i64 0, .int .i64 0]) := Lib.hid (HP.out.far (by show p ≠ g; have := HGp.out; omega) _)
        have HB4 : Hid (Below w.heap.size w (w3.setCell ⟨g, 2, none⟩ (.int .i64 y))) := Lib.hid (below_setAt HB3.out (by have := HGp.out; have := HPw.out; omega) _ _)
        have hcs : ∃ u, w3.cell? ⟨g, 2, none⟩ = some u := ⟨_, k2.cell 2⟩
        obtain ⟨u0, hu0⟩ := hcs
        clear k2
        rw [ht] at HT
        clear ht ha2 k3
        go_wp2_with fail
        refine HT.out.mono ?_
        rintro e w4 ⟨rfl, hw⟩
        rw [← hw]
        clear hw w4
        go_wp2
        go_roundw
        case rel => exact ⟨[z0, z1] ++ [y], a2, _, rfl, rfl, rfl, HTn.out, HG3.out, HP3.out, HB4.out⟩
        case measure => simp [intOf]
    case cons.cons.cons.nil =>
      obtain rfl : i = 3 := by simpa using hi
      clear hi hlen
      have kix : ∀ u : World, (Instr.index 63 (.agg #[.pointer (some ⟨g, 0, none⟩), .pointer (some ⟨g, 1, none⟩), .pointer (some ⟨g, 2, none⟩), .pointer (some ⟨g, 3, none⟩), .pointer (some ⟨g, 4, none⟩)]) (.int .i64 3)).run Tryd.prog u = .ok (.pointer (some ⟨g, 3, none⟩)) u := fun u => run_index_ptrs (k := 3) Tryd.underlying63 Tryd.underlying53 (by kernel_rfl) (by omega) rfl u
      have HMo : Hid (more [z0, z1, z2]) := Lib.hid (.inl (by simp))
      rcases HC.out with ht | ⟨y, k, ht, y0, y1, k1, k2, k3, _⟩
      · have HS := Lib.hid (HTk.out.stop HMo.out (by rw [ht]))
        rw [ht] at HT
        clear ht
        have k2 := HP.out
        have f0 : w3.frozen? ⟨p, 0, none⟩ = false := k2.frozen 0
        have f1 : w3.frozen? ⟨p, 1, none⟩ = false := k2.frozen 1
        have f2 : w3.frozen? ⟨p, 2, none⟩ = false := k2.frozen 2
        have f3 : w3.frozen? ⟨p, 3, none⟩ = false := k2.frozen 3
        have f4 : w3.frozen? ⟨p, 4, none⟩ = false := k2.frozen 4
        have x0 : w3.cell? ⟨p, 0, none⟩ = some (.int .i64 0) := k2.cell 0
        have x1 : w3.cell? ⟨p, 1, none⟩ = some (.int .i64 0) := k2.cell 1
        have x2 : w3.cell? ⟨p, 2, none⟩ = some (.int .i64 0) := k2.cell 2
        have x3 : w3.cell? ⟨p, 3, none⟩ = some (.int .i64 0) := k2.cell 3
        have x4 : w3.cell? ⟨p, 4, none⟩ = some (.int .i64 0) := k2.cell 4
        obtain ⟨w5, hw5, k5, hb5⟩ := msg_set k2 (.int .i64 0) (.int .i64 0) (.int .i64 0) (.int .i64 0) (.int .i64 0)
        have HB5 := Lib.hid (hb5 w.heap.size w (by have := HPw.out; omega) HB3.out)
        have HW5 := Lib.hid hw5
        have y0 : w5.cell? ⟨p, 0, none⟩ = some (.int .i64 0) := k5.cell 0
        have y1 : w5.cell? ⟨p, 1, none⟩ = some (.int .i64 0) := k5.cell 1
        have y2 : w5.cell? ⟨p, 2, none⟩ = some (.int .i64 0) := k5.cell 2
        have y3 : w5.cell? ⟨p, 3, none⟩ = some (.int .i64 0) := k5.cell 3
        have y4 : w5.cell? ⟨p, 4, none⟩ = some (.int .i64 0) := k5.cell 4
        clear k2 hw5 k5 hb5
        go_wp2_with fail
        refine HT.out.mono ?_
        rintro e w4 ⟨rfl, hw⟩
        rw [← hw]
        clear hw w4
        go_wp2_with fail
        refine HFa.out.mono ?_
        rintro e w4 ⟨rfl, hw⟩
        rw [hw]
        clear hw w4
        go_wp2
        rw [← HW5.out]
        try rw [Exit.noGoto_ret]
        refine bodyPost_ret (v := .tuple #[Mg.zero.val, .int .i64 0, .int .i64 (fault (l.drop a))]) (by simp [results, Tryd.f32, go_sem, y0, y1, y2, y3, y4, Mg.val, Mg.zero]) rfl ⟨?_, HB5.out⟩
        rw [HS.out]
        rfl
      · have hk0 : ((k : Int) == 0) = false := beq_eq_false_iff_ne.2 (by omega)
        have hkn : a + k ≤ n := by have := HDl.out; omega
        obtain ⟨a2, ha2⟩ : ∃ a2, a2 = a + k := ⟨_, rfl⟩
        have hwr : IntKind.i64.wrap ((a : Int) + (k : Int)) = (a2 : Int) := by rw [IntWalk.i64_in _ (by omega), ha2]; simp
        have HTn : Hid (TkR l n ([z0, z1, z2] ++ [y]) a2) := Lib.hid (by rw [ha2]; exact HTk.out.step HMo.out ht (by omega) hkn ⟨y0, y1⟩)
        have k2 := HG.out
        have f0 : w3.frozen? ⟨g, 3, none⟩ = false := k2.frozen 3
        have HG3 : Hid (Blk (w3.setCell ⟨g, 3, none⟩ (.int .i64 y)) g 24 (mcells ([z0, z1, z2] ++ [y]))) := Lib.hid (k2.set_ 3 (.int .i64 y))
        have HP3 : Hid (Blk (w3.setCell ⟨g, 3, none⟩ (.int .i64 y)) p 24 #[.int .i64 0, .int .i64 0, .int .i64 0, .int .i64 0, .int .i64 0]) := Lib.hid (HP.out.far (by show p ≠ g; have := HGp.out; omega) _)
        have HB4 : Hid (Below w.heap.size w (w3.setCell ⟨g, 3, none⟩ (.int .i64 y))) := Lib.hid (below_setAt HB3.out (by have := HGp.out; have := HPw.out; omega) _ _)
        have hcs : ∃ u, w3.cell? ⟨g, 3, none⟩ = some u := ⟨_, k2.cell 3⟩
        obtain ⟨u0, hu0⟩ := hcs
        clear k2
        rw [ht] at HT
        clear ht ha2 k3
        go_wp2_with fail
        refine HT.out.mono ?_
        rintro e w4 ⟨rfl, hw⟩
        rw [← hw]
        clear hw w4
        go_wp2
        go_roundw
        case rel => exact ⟨[z0, z1, z2] ++ [y], a2, _, rfl, rfl, rfl, HTn.out, HG3.out, HP3.out, HB4.out⟩
        case measure => simp [intOf]
    case cons.cons.cons.cons.nil =>
      obtain rfl : i = 4 := by simpa using hi
      clear hi hlen
      have kix : ∀ u : World, (Instr.index 63 (.agg #[.pointer (some ⟨g, 0, none⟩), .pointer (some ⟨g, 1, none⟩), .pointer (some ⟨g, 2, none⟩), .pointer (some ⟨g, 3, none⟩), .pointer (some ⟨g, 4, none⟩)]) (.int .i64 4)).run Tryd.prog u = .ok (.pointer (some ⟨g, 4, none⟩)) u := fun u => run_index_ptrs (k := 4) Tryd.underlying63 Tryd.underlying53 (by kernel_rfl) (by omega) rfl u
      have c0 : w3.cell? ⟨g, 0, none⟩ = some (.int .i64 z0) := HG.out.cell 0
      by_cases h4 : z0 = 4
      case pos =>
        have HMo : Hid (more [z0, z1, z2, z3]) := Lib.hid (.inr ⟨rfl, h4⟩)
        subst h4
        rcases HC.out with ht | ⟨y, k, ht, y0, y1, k1, k2, k3, _⟩
        · have HS := Lib.hid (HTk.out.stop HMo.out (by rw [ht]))
          rw [ht] at HT
          clear ht
          have k2 := HP.out
          have f0 : w3.frozen? ⟨p, 0, none⟩ = false := k2.frozen 0
          have f1 : w3.frozen? ⟨p, 1, none⟩ = false := k2.frozen 1
          have f2 : w3.frozen? ⟨p, 2, none⟩ = false := k2.frozen 2
          have f3 : w3.frozen? ⟨p, 3, none⟩ = false := k2.frozen 3
          have f4 : w3.frozen? ⟨p, 4, none⟩ = false := k2.frozen 4
          have x0 : w3.cell? ⟨p, 0, none⟩ = some (.int .i64 0) := k2.cell 0
          have x1 : w3.cell? ⟨p, 1, none⟩ = some (.int .i64 0) := k2.cell 1
          have x2 : w3.cell? ⟨p, 2, none⟩ = some (.int .i64 0) := k2.cell 2
          have x3 : w3.cell? ⟨p, 3, none⟩ = some (.int .i64 0) := k2.cell 3
          have x4 : w3.cell? ⟨p, 4, none⟩ = some (.int .i64 0) := k2.cell 4
          obtain ⟨w5, hw5, k5, hb5⟩ := msg_set k2 (.int .i64 0) (.int .i64 0) (.int .i64 0) (.int .i64 0) (.int .i64 0)
          have HB5 := Lib.hid (hb5 w.heap.size w (by have := HPw.out; omega) HB3.out)
          have HW5 := Lib.hid hw5
          have y0 : w5.cell? ⟨p, 0, none⟩ = some (.int .i64 0) := k5.cell 0
          have y1 : w5.cell? ⟨p, 1, none⟩ = some (.int .i64 0) := k5.cell 1
          have y2 : w5.cell? ⟨p, 2, none⟩ = some (.int .i64 0) := k5.cell 2
          have y3 : w5.cell? ⟨p, 3, none⟩ = some (.int .i64 0) := k5.cell 3
          have y4 : w5.cell? ⟨p, 4, none⟩ = some (.int .i64 0) := k5.cell 4
          clear k2 hw5 k5 hb5
          go_wp2_with fail
          refine HT.out.mono ?_
          rintro e w4 ⟨rfl, hw⟩
          rw [← hw]
          clear hw w4
          go_wp2_with fail
          refine HFa.out.mono ?_
          rintro e w4 ⟨rfl, hw⟩
          rw [hw]
          clear hw w4
          go_wp2
          rw [← HW5.out]
          try rw [Exit.noGoto_ret]
          refine bodyPost_ret (v := .tuple #[Mg.zero.val, .int .i64 0, .int .i64 (fault (l.drop a))]) (by simp [results, Tryd.f32, go_sem, y0, y1, y2, y3, y4, Mg.val, Mg.zero]) rfl ⟨?_, HB5.out⟩
          rw [HS.out]
          rfl
        · have hk0 : ((k : Int) == 0) = false := beq_eq_false_iff_ne.2 (by omega)
          have hkn : a + k ≤ n := by have := HDl.out; omega
          obtain ⟨a2, ha2⟩ : ∃ a2, a2 = a + k := ⟨_, rfl⟩
          have hwr : IntKind.i64.wrap ((a : Int) + (k : Int)) = (a2 : Int) := by rw [IntWalk.i64_in _ (by omega), ha2]; simp
          have HTn : Hid (TkR l n ([4, z1, z2, z3] ++ [y]) a2) := Lib.hid (by rw [ha2]; exact HTk.out.step HMo.out ht (by omega) hkn ⟨y0, y1⟩)
          have k2 := HG.out
          have f0 : w3.frozen? ⟨g, 4, none⟩ = false := k2.frozen 4
          have HG3 : Hid (Blk (w3.setCell ⟨g, 4, none⟩ (.int .i64 y)) g 24 (mcells ([4, z1, z2, z3] ++ [y]))) := Lib.hid (k2.set_ 4 (.int .i64 y))
          have HP3 : Hid (Blk (w3.setCell ⟨g, 4, none⟩ (.int .i64 y)) p 24 #[.int .i64 0, .int .i64 0, .int .i64 0, .int .i64 0, .int .i64 0]) := Lib.hid (HP.out.far (by show p ≠ g; have := HGp.out; omega) _)
          have HB4 : Hid (Below w.heap.size w (w3.setCell ⟨g, 4, none⟩ (.int .i64 y))) := Lib.hid (below_setAt HB3.out (by have := HGp.out; have := HPw.out; omega) _ _)
          have hcs : ∃ u, w3.cell? ⟨g, 4, none⟩ = some u := ⟨_, k2.cell 4⟩
          obtain ⟨u0, hu0⟩ := hcs
          clear k2
          rw [ht] at HT
          clear ht ha2 k3
          go_wp2_with fail
          refine HT.out.mono ?_
          rintro e w4 ⟨rfl, hw⟩
          rw [← hw]
          clear hw w4
          go_wp2
          go_roundw
          case rel => exact ⟨[4, z1, z2, z3] ++ [y], a2, _, rfl, rfl, rfl, HTn.out, HG3.out, HP3.out, HB4.out⟩
          case measure => simp [intOf]
      case neg =>
        have HMo : Hid (¬ more [z0, z1, z2, z3]) := Lib.hid (fun hm => hm.elim (fun h => absurd h (by simp)) (fun h => h4 h.2))
        have t4 : (z0 == 4) = false := by simpa using h4
        clear h4
        have HD := Lib.hid (HTk.out.done HMo.out)
        have HI : Hid (Mg.I ⟨z0, z1, z2, z3, 0⟩) := Lib.hid (by
          have r0 := HTk.out.get 0; have r1 := HTk.out.get 1; have r2 := HTk.out.get 2; have r3 := HTk.out.get 3; have r4 := HTk.out.get 4
          exact mg_i ⟨r0, r1, r2, r3, r4⟩)
        have HV := Lib.hid (validC _ w3 HI.out)
        obtain ⟨t, hbt⟩ : ∃ t, t = decide (Mg.Be ⟨z0, z1, z2, z3, 0⟩) := ⟨_, rfl⟩
        rw [← hbt] at HV
        have HBt := Lib.hid hbt
        clear hbt
        have k2 := HG.out
        have q0 : w3.cell? ⟨g, 0, none⟩ = some (.int .i64 (z0)) := k2.cell 0
        have q1 : w3.cell? ⟨g, 1, none⟩ = some (.int .i64 (z1)) := k2.cell 1
        have q2 : w3.cell? ⟨g, 2, none⟩ = some (.int .i64 (z2)) := k2.cell 2
        have q3 : w3.cell? ⟨g, 3, none⟩ = some (.int .i64 (z3)) := k2.cell 3
        have q4 : w3.cell? ⟨g, 4, none⟩ = some (.int .i64 (0)) := k2.cell 4
        clear k2
        go_wp2_with fail
        refine HT.out.mono ?_
        rintro e w4 ⟨rfl, hw⟩
        rw [← hw]
        clear hw w4
        go_wp2_with fail
        refine HV.out.mono ?_
        rintro e w4 ⟨rfl, hb4⟩
        have HB4 : Hid (Below w.heap.size w w4) := Lib.hid (HB3.out.trans (hb4.mono HB3.out.size))
        have HP4 := Lib.hid (HP.out.below hb4 HP.out.lt)
        have HG4 := Lib.hid (HG.out.below hb4 HG.out.lt)
        clear hb4
        have k2 := HP4.out
        have f0 : w4.frozen? ⟨p, 0, none⟩ = false := k2.frozen 0
        have f1 : w4.frozen? ⟨p, 1, none⟩ = false := k2.frozen 1
        have f2 : w4.frozen? ⟨p, 2, none⟩ = false := k2.frozen 2
        have f3 : w4.frozen? ⟨p, 3, none⟩ = false := k2.frozen 3
        have f4 : w4.frozen? ⟨p, 4, none⟩ = false := k2.frozen 4
        have x0 : w4.cell? ⟨p, 0, none⟩ = some (.int .i64 0) := k2.cell 0
        have x1 : w4.cell? ⟨p, 1, none⟩ = some (.int .i64 0) := k2.cell 1
        have x2 : w4.cell? ⟨p, 2, none⟩ = some (.int .i64 0) := k2.cell 2
        have x3 : w4.cell? ⟨p, 3, none⟩ = some (.int .i64 0) := k2.cell 3
        have x4 : w4.cell? ⟨p, 4, none⟩ = some (.int .i64 0) := k2.cell 4
        have k3 := HG4.out
        have q0 : w4.cell? ⟨g, 0, none⟩ = some (.int .i64 (z0)) := k3.cell 0
        have q1 : w4.cell? ⟨g, 1, none⟩ = some (.int .i64 (z1)) := k3.cell 1
        have q2 : w4.cell? ⟨g, 2, none⟩ = some (.int .i64 (z2)) := k3.cell 2
        have q3 : w4.cell? ⟨g, 3, none⟩ = some (.int .i64 (z3)) := k3.cell 3
        have q4 : w4.cell? ⟨g, 4, none⟩ = some (.int .i64 (0)) := k3.cell 4
        clear k3
        cases t
        · skip
          have HD2 : Hid (wtake l = (Mg.zero, 0, 31)) := Lib.hid (HD.out.trans (if_neg (of_decide_eq_false HBt.out.symm)))
          obtain ⟨w5, hw5, k5, hb5⟩ := msg_set k2 (.int .i64 (0)) (.int .i64 (0)) (.int .i64 (0)) (.int .i64 (0)) (.int .i64 (0))
          have HB5 := Lib.hid (hb5 w.heap.size w (by have := HPw.out; omega) HB4.out)
          have HW5 := Lib.hid hw5
          have y0 : w5.cell? ⟨p, 0, none⟩ = some (.int .i64 (0)) := k5.cell 0
          have y1 : w5.cell? ⟨p, 1, none⟩ = some (.int .i64 (0)) := k5.cell 1
          have y2 : w5.cell? ⟨p, 2, none⟩ = some (.int .i64 (0)) := k5.cell 2
          have y3 : w5.cell? ⟨p, 3, none⟩ = some (.int .i64 (0)) := k5.cell 3
          have y4 : w5.cell? ⟨p, 4, none⟩ = some (.int .i64 (0)) := k5.cell 4
          clear k2 hw5 k5 hb5
          go_wp2
          rw [← HW5.out]
          try rw [Exit.noGoto_ret]
          refine bodyPost_ret (v := .tuple #[Mg.zero.val, .int .i64 0, .int .i64 31]) (by simp [results, Tryd.f32, go_sem, y0, y1, y2, y3, y4, Mg.val, Mg.zero]) rfl ⟨?_, HB5.out⟩
          rw [HD2.out]
          try rfl
        · skip
          have HD2 : Hid (wtake l = (⟨z0, z1, z2, z3, 0⟩, a, 0)) := Lib.hid (HD.out.trans (if_pos (of_decide_eq_true HBt.out.symm)))
          obtain ⟨w5, hw5, k5, hb5⟩ := msg_set k2 (.int .i64 (z0)) (.int .i64 (z1)) (.int .i64 (z2)) (.int .i64 (z3)) (.int .i64 (0))
          have HB5 := Lib.hid (hb5 w.heap.size w (by have := HPw.out; omega) HB4.out)
          have HW5 := Lib.hid hw5
          have y0 : w5.cell? ⟨p, 0, none⟩ = some (.int .i64 (z0)) := k5.cell 0
          have y1 : w5.cell? ⟨p, 1, none⟩ = some (.int .i64 (z1)) := k5.cell 1
          have y2 : w5.cell? ⟨p, 2, none⟩ = some (.int .i64 (z2)) := k5.cell 2
          have y3 : w5.cell? ⟨p, 3, none⟩ = some (.int .i64 (z3)) := k5.cell 3
          have y4 : w5.cell? ⟨p, 4, none⟩ = some (.int .i64 (0)) := k5.cell 4
          clear k2 hw5 k5 hb5
          go_wp2
          rw [← HW5.out]
          try rw [Exit.noGoto_ret]
          refine bodyPost_ret (v := .tuple #[Mg.val ⟨z0, z1, z2, z3, 0⟩, .int .i64 (a : Int), .int .i64 0]) (by simp [results, Tryd.f32, go_sem, y0, y1, y2, y3, y4, Mg.val]) rfl ⟨?_, HB5.out⟩
          rw [HD2.out]
          try rfl
    case cons.cons.cons.cons.cons.nil =>
      obtain rfl : i = 5 := by simpa using hi
      clear hi hlen
      have HMo : Hid (¬ more [z0, z1, z2, z3, z4]) := Lib.hid (fun hm => hm.elim (fun h => absurd h (by simp)) (fun h => absurd h.1 (by simp)))
      have HD := Lib.hid (HTk.out.done HMo.out)
      have HI : Hid (Mg.I ⟨z0, z1, z2, z3, z4⟩) := Lib.hid (by
        have r0 := HTk.out.get 0; have r1 := HTk.out.get 1; have r2 := HTk.out.get 2; have r3 := HTk.out.get 3; have r4 := HTk.out.get 4
        exact mg_i ⟨r0, r1, r2, r3, r4⟩)
      have HV := Lib.hid (validC _ w3 HI.out)
      obtain ⟨t, hbt⟩ : ∃ t, t = decide (Mg.Be ⟨z0, z1, z2, z3, z4⟩) := ⟨_, rfl⟩
      rw [← hbt] at HV
      have HBt := Lib.hid hbt
      clear hbt
      have k2 := HG.out
      have q0 : w3.cell? ⟨g, 0, none⟩ = some (.int .i64 (z0)) := k2.cell 0
      have q1 : w3.cell? ⟨g, 1, none⟩ = some (.int .i64 (z1)) := k2.cell 1
      have q2 : w3.cell? ⟨g, 2, none⟩ = some (.int .i64 (z2)) := k2.cell 2
      have q3 : w3.cell? ⟨g, 3, none⟩ = some (.int .i64 (z3)) := k2.cell 3
      have q4 : w3.cell? ⟨g, 4, none⟩ = some (.int .i64 (z4)) := k2.cell 4
      clear k2
      go_wp2_with fail
      refine HV.out.mono ?_
      rintro e w4 ⟨rfl, hb4⟩
      have HB4 : Hid (Below w.heap.size w w4) := Lib.hid (HB3.out.trans (hb4.mono HB3.out.size))
      have HP4 := Lib.hid (HP.out.below hb4 HP.out.lt)
      have HG4 := Lib.hid (HG.out.below hb4 HG.out.lt)
      clear hb4
      have k2 := HP4.out
      have f0 : w4.frozen? ⟨p, 0, none⟩ = false := k2.frozen 0
      have f1 : w4.frozen? ⟨p, 1, none⟩ = false := k2.frozen 1
      have f2 : w4.frozen? ⟨p, 2, none⟩ = false := k2.frozen 2
      have f3 : w4.frozen? ⟨p, 3, none⟩ = false := k2.frozen 3
      have f4 : w4.frozen? ⟨p, 4, none⟩ = false := k2.frozen 4
      have x0 : w4.cell? ⟨p, 0, none⟩ = some (.int .i64 0) := k2.cell 0
      have x1 : w4.cell? ⟨p, 1, none⟩ = some (.int .i64 0) := k2.cell 1
      have x2 : w4.cell? ⟨p, 2, none⟩ = some (.int .i64 0) := k2.cell 2
      have x3 : w4.cell? ⟨p, 3, none⟩ = some (.int .i64 0) := k2.cell 3
      have x4 : w4.cell? ⟨p, 4, none⟩ = some (.int .i64 0) := k2.cell 4
      have k3 := HG4.out
      have q0 : w4.cell? ⟨g, 0, none⟩ = some (.int .i64 (z0)) := k3.cell 0
      have q1 : w4.cell? ⟨g, 1, none⟩ = some (.int .i64 (z1)) := k3.cell 1
      have q2 : w4.cell? ⟨g, 2, none⟩ = some (.int .i64 (z2)) := k3.cell 2
      have q3 : w4.cell? ⟨g, 3, none⟩ = some (.int .i64 (z3)) := k3.cell 3
      have q4 : w4.cell? ⟨g, 4, none⟩ = some (.int .i64 (z4)) := k3.cell 4
      clear k3
      cases t
      · skip
        have HD2 : Hid (wtake l = (Mg.zero, 0, 31)) := Lib.hid (HD.out.trans (if_neg (of_decide_eq_false HBt.out.symm)))
        obtain ⟨w5, hw5, k5, hb5⟩ := msg_set k2 (.int .i64 (0)) (.int .i64 (0)) (.int .i64 (0)) (.int .i64 (0)) (.int .i64 (0))
        have HB5 := Lib.hid (hb5 w.heap.size w (by have := HPw.out; omega) HB4.out)
        have HW5 := Lib.hid hw5
        have y0 : w5.cell? ⟨p, 0, none⟩ = some (.int .i64 (0)) := k5.cell 0
        have y1 : w5.cell? ⟨p, 1, none⟩ = some (.int .i64 (0)) := k5.cell 1
        have y2 : w5.cell? ⟨p, 2, none⟩ = some (.int .i64 (0)) := k5.cell 2
        have y3 : w5.cell? ⟨p, 3, none⟩ = some (.int .i64 (0)) := k5.cell 3
        have y4 : w5.cell? ⟨p, 4, none⟩ = some (.int .i64 (0)) := k5.cell 4
        clear k2 hw5 k5 hb5
        go_wp2
        rw [← HW5.out]
        try rw [Exit.noGoto_ret]
        refine bodyPost_ret (v := .tuple #[Mg.zero.val, .int .i64 0, .int .i64 31]) (by simp [results, Tryd.f32, go_sem, y0, y1, y2, y3, y4, Mg.val, Mg.zero]) rfl ⟨?_, HB5.out⟩
        rw [HD2.out]
        try rfl
      · skip
        have HD2 : Hid (wtake l = (⟨z0, z1, z2, z3, z4⟩, a, 0)) := Lib.hid (HD.out.trans (if_pos (of_decide_eq_true HBt.out.symm)))
        obtain ⟨w5, hw5, k5, hb5⟩ := msg_set k2 (.int .i64 (z0)) (.int .i64 (z1)) (.int .i64 (z2)) (.int .i64 (z3)) (.int .i64 (z4))
        have HB5 := Lib.hid (hb5 w.heap.size w (by have := HPw.out; omega) HB4.out)
        have HW5 := Lib.hid hw5
        have y0 : w5.cell? ⟨p, 0, none⟩ = some (.int .i64 (z0)) := k5.cell 0
        have y1 : w5.cell? ⟨p, 1, none⟩ = some (.int .i64 (z1)) := k5.cell 1
        have y2 : w5.cell? ⟨p, 2, none⟩ = some (.int .i64 (z2)) := k5.cell 2
        have y3 : w5.cell? ⟨p, 3, none⟩ = some (.int .i64 (z3)) := k5.cell 3
        have y4 : w5.cell? ⟨p, 4, none⟩ = some (.int .i64 (z4)) := k5.cell 4
        clear k2 hw5 k5 hb5
        go_wp2
        rw [← HW5.out]
        try rw [Exit.noGoto_ret]
        refine bodyPost_ret (v := .tuple #[Mg.val ⟨z0, z1, z2, z3, z4⟩, .int .i64 (a : Int), .int .i64 0]) (by simp [results, Tryd.f32, go_sem, y0, y1, y2, y3, y4, Mg.val]) rfl ⟨?_, HB5.out⟩
        rw [HD2.out]
        try rfl
    case cons.cons.cons.cons.cons.cons =>
      simp only [List.length_cons] at hlen
      omega
end Go.Proofs.YtmegpbejknmjbaaDoor.Pk
