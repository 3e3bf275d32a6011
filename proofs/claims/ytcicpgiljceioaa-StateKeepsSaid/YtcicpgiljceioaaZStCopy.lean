/- The document's answers (fletchref14): Copy. -/
import Derived.Test.YtcicpgiljceioaaZStCopyM
import Derived.Test.YtcicpgiljceioaaZRegLast
import Derived.Deep.RegionHeld3
import Derived.Deep.DeepMust
namespace Go.Proofs.Ytcicpgiljceioaa.Pk
open Go.RowKit
set_option linter.unusedVariables false
attribute [local go_sem] Oper.semAt_some
theorem cells6 {w : World} {p : Nat} {T : TypeId} {a b c d e f : Value} (h : Blk w p T #[a, b, c, d, e, f]) : w.cell? ⟨p, 0, none⟩ = some a ∧ w.cell? ⟨p, 3, none⟩ = some d ∧ w.cell? ⟨p, 4, none⟩ = some e ∧ w.cell? ⟨p, 5, none⟩ = some f := ⟨h.cell 0, h.cell 3, h.cell 4, h.cell 5⟩
theorem below_row {B : Nat} {a w w' : World} {row : Option Nat} (h : Below B a w) (hg : w.grownBy w' row) (hB : B ≤ w.heap.size) (hr : row = none) : Below B a w' := h.grown hg hB (fun k hk => by rw [hr] at hk; cases hk)
theorem keep6 {w : World} {p g : Nat} {a b c d : Value} (hne : p ≠ g) (v0 v1 v2 v3 v4 v5 : Value) (h : w.cell? ⟨p, 0, none⟩ = some a ∧ w.cell? ⟨p, 3, none⟩ = some b ∧ w.cell? ⟨p, 4, none⟩ = some c ∧ w.cell? ⟨p, 5, none⟩ = some d) :
    ((((((w.setCell ⟨g, 0, none⟩ v0).setCell ⟨g, 1, none⟩ v1).setCell ⟨g, 2, none⟩ v2).setCell ⟨g, 3, none⟩ v3).setCell ⟨g, 4, none⟩ v4).setCell ⟨g, 5, none⟩ v5).cell? ⟨p, 0, none⟩ = some a ∧ ((((((w.setCell ⟨g, 0, none⟩ v0).setCell ⟨g, 1, none⟩ v1).setCell ⟨g, 2, none⟩ v2).setCell ⟨g, 3, none⟩ v3).setCell ⟨g, 4, none⟩ v4).setCell ⟨g, 5, none⟩ v5).cell? ⟨p, 3, none⟩ = some b ∧ ((((((w.setCell ⟨g, 0, none⟩ v0).setCell ⟨g, 1, none⟩ v1).setCell ⟨g, 2, none⟩ v2).setCell ⟨g, 3, none⟩ v3).setCell ⟨g, 4, none⟩ v4).setCell ⟨g, 5, none⟩ v5).cell? ⟨p, 4, none⟩ = some c ∧ ((((((w.setCell ⟨g, 0, none⟩ v0).setCell ⟨g, 1, none⟩ v1).setCell ⟨g, 2, none⟩ v2).setCell ⟨g, 3, none⟩ v3).setCell ⟨g, 4, none⟩ v4).setCell ⟨g, 5, none⟩ v5).cell? ⟨p, 5, none⟩ = some d := by
  have key : ∀ o, ((((((w.setCell ⟨g, 0, none⟩ v0).setCell ⟨g, 1, none⟩ v1).setCell ⟨g, 2, none⟩ v2).setCell ⟨g, 3, none⟩ v3).setCell ⟨g, 4, none⟩ v4).setCell ⟨g, 5, none⟩ v5).cell? ⟨p, o, none⟩ = w.cell? ⟨p, o, none⟩ := by
    intro o
    have st : ∀ (V : World) (j : Nat) (u : Value), (V.setCell ⟨g, j, none⟩ u).cell? ⟨p, o, none⟩ = V.cell? ⟨p, o, none⟩ := fun V j u => World.cell?_setCell_other _ _ _ _ (fun e => hne (by injection e with e; exact e.symm))
    rw [st, st, st, st, st, st]
  simp only [key]
  exact h
theorem cells6_alloc {w : World} {p : Nat} {a b c d : Value} (o : Obj) (h : w.cell? ⟨p, 0, none⟩ = some a ∧ w.cell? ⟨p, 3, none⟩ = some b ∧ w.cell? ⟨p, 4, none⟩ = some c ∧ w.cell? ⟨p, 5, none⟩ = some d) :
    (w.alloc o).cell? ⟨p, 0, none⟩ = some a ∧ (w.alloc o).cell? ⟨p, 3, none⟩ = some b ∧ (w.alloc o).cell? ⟨p, 4, none⟩ = some c ∧ (w.alloc o).cell? ⟨p, 5, none⟩ = some d := by
  have st : ∀ o' v, w.cell? ⟨p, o', none⟩ = some v → (w.alloc o).cell? ⟨p, o', none⟩ = some v := fun o' v hv => by
    have hlt : p < w.heap.size := by
      rcases Nat.lt_or_ge p w.heap.size with h | h
      · exact h
      · simp [World.cell?, Array.getElem?_eq_none h] at hv
    exact (((Below.refl w.heap.size w).alloc (Nat.le_refl _) o).cell (p := ⟨p, o', none⟩) hlt).trans hv
  exact ⟨st _ _ h.1, st _ _ h.2.1, st _ _ h.2.2.1, st _ _ h.2.2.2⟩
theorem cells6_drew {w : World} {p : Nat} {a b c d : Value} (h : w.cell? ⟨p, 0, none⟩ = some a ∧ w.cell? ⟨p, 3, none⟩ = some b ∧ w.cell? ⟨p, 4, none⟩ = some c ∧ w.cell? ⟨p, 5, none⟩ = some d) :
    w.drew.cell? ⟨p, 0, none⟩ = some a ∧ w.drew.cell? ⟨p, 3, none⟩ = some b ∧ w.drew.cell? ⟨p, 4, none⟩ = some c ∧ w.drew.cell? ⟨p, 5, none⟩ = some d := h
theorem Blk.drew_ {w : World} {g : Nat} {T : TypeId} {cs : Array Value} (h : Blk w g T cs) : Blk w.drew g T cs := h
set_option maxRecDepth 100000 in
set_option maxHeartbeats 4000000 in
theorem refcopy_any (s : StL) (w : World) (hin : InS w s) :
    Calls Try.prog 24 #[s.val] w fun e w' => ∃ s2 : StL, e = .returned s2.val ∧ s2.v = s.v ∧ OwnS w' w.heap.size s2 ∧ Below w.heap.size w w' := by
  have HI := Lib.hid hin
  obtain ⟨me, os, ⟨A, n, c⟩, es, ⟨A', n', c'⟩, q, as_, ⟨Aa, na, ca⟩, gs, ⟨Ag, ng, cg⟩⟩ := s
  have HLo : Hid (os.length = n) := Lib.hid hin.os.len
  have HLe : Hid (es.length = n') := Lib.hid hin.es.len
  have hn : n * 40 ≤ 140737488351232 := hin.os.few
  have hn' : n' * 48 ≤ 140737488351232 := hin.es.few
  have hna : na * 16 ≤ 140737488351232 := hin.as_.few
  have hng : ng * 24 ≤ 140737488351232 := hin.gs.few
  clear hin
  show Calls Try.prog 24 #[.agg #[.int .i64 me, .slice A n c, .slice A' n' c', .int .i64 q, .slice Aa na ca, .slice Ag ng cg]] w _
  go_enter Try.func24, Try.ntmps24
  obtain ⟨p, hp⟩ : ∃ p, p = w.heap.size := ⟨_, rfl⟩
  obtain ⟨pr, hpr⟩ : ∃ x, x = p + 1 := ⟨_, rfl⟩
  obtain ⟨wa, hwa⟩ : ∃ wa, wa = w.alloc (.cells #[.int .i64 me, .slice A n c, .slice A' n' c', .int .i64 q, .slice Aa na ca, .slice Ag ng cg] 30) := ⟨_, rfl⟩
  obtain ⟨W1, hW1⟩ : ∃ W1, W1 = wa.alloc (.cells #[.int .i64 0, .slice none 0 0, .slice none 0 0, .int .i64 0, .slice none 0 0, .slice none 0 0] 30) := ⟨_, rfl⟩
  have hsa : wa.heap.size = p + 1 := by rw [hwa, World.size_alloc, hp]
  have hba : Below w.heap.size w wa := hwa ▸ (Below.refl _ _).alloc (Nat.le_refl _) _
  have HB1 : Hid (Below w.heap.size w W1) := Lib.hid (hW1 ▸ hba.alloc (by omega) _)
  have HKp : Hid (Blk W1 p 30 #[.int .i64 me, .slice A n c, .slice A' n' c', .int .i64 q, .slice Aa na ca, .slice Ag ng cg]) := Lib.hid (by rw [hW1, hwa, hp]; exact (Blk.new w _ _).alloc _)
  have HKr : Hid (Blk W1 pr 30 #[.int .i64 0, .slice none 0 0, .slice none 0 0, .int .i64 0, .slice none 0 0, .slice none 0 0]) := Lib.hid (by rw [hW1, hpr, ← hsa]; exact Blk.new wa _ _)
  have HP : Hid (p = w.heap.size) := Lib.hid hp
  have HPr : Hid (w.heap.size + 1 = pr) := Lib.hid (by omega)
  have HX1 : Hid (w.heap.size = p) := Lib.hid (by omega)
  have HRa := Lib.hid ((HI.out.next HB1.out).as_.rd)
  have HRg := Lib.hid ((HI.out.next HB1.out).gs.rd)
  go_wp2_with fail
  rw [← hwa, ← hW1, ← hp, ← hpr]
  clear hwa hW1 hp hpr hsa hba
  have X0 := cells6 HKp.out
  have X0d := cells6 (Blk.drew_ HKp.out)
  have hpl : p < W1.heap.size := HKp.out.lt
  refine wp_cut (fun a w' => ∃ (x : Nat) (u12 u16 : Value) (A15 : Option Addr) (n15 c15 : Nat) (A19 : Option Addr) (n19 c19 : Nat), a = { tmps := ((.agg #[.int .i64 me, .slice A n c, .slice A' n' c', .int .i64 q, .slice Aa na ca, .slice Ag ng cg] : Value) :: .pointer (some ⟨p, 0, none⟩) :: .pointer (some ⟨pr, 0, none⟩) :: .pointer (some ⟨x, 0, none⟩) :: undef :: undef :: undef :: undef :: .pointer (some ⟨p, 0, none⟩) :: .int .i64 me :: .pointer (some ⟨p, 3, none⟩) :: .int .i64 q :: u12 :: .pointer (some ⟨p, 4, none⟩) :: .slice Aa na ca :: (.slice A15 n15 c15) :: u16 :: .pointer (some ⟨p, 5, none⟩) :: .slice Ag ng cg :: (.slice A19 n19 c19) :: .agg #[.int .i64 me, .slice none 0 0, .slice none 0 0, .int .i64 q, (.slice A15 n15 c15), (.slice A19 n19 c19)] :: undef :: undef :: undef :: undef :: undef :: undef :: undef :: undef :: undef :: undef :: undef :: undef :: undef :: undef :: undef :: undef :: undef :: undef :: undef :: undef :: undef :: undef :: undef :: undef :: undef :: undef :: undef :: undef :: undef :: undef :: undef :: undef :: undef :: undef :: undef :: undef :: undef :: undef :: undef :: undef :: undef :: undef :: undef :: undef :: undef :: undef :: undef :: []).toArray, defers := [] } ∧ CopyI W1 me q as_ gs x (.slice A15 n15 c15) (.slice A19 n19 c19) w') ?_ ?_
  rotate_left
  · rintro a w2 ⟨x, u12, u16, A15, n15, c15, A19, n19, c19, rfl, hI⟩
    have HC := Lib.hid hI
    have HKp2 := Lib.hid (HKp.out.below HC.out.bel HKp.out.lt)
    clear hI X0 X0d HRa HRg
    obtain ⟨B2, hB2⟩ : ∃ B2, B2 = w2.heap.size := ⟨_, rfl⟩
    have HJ0 := Lib.hid HC.out.j
    rw [← hB2] at HJ0
    clear hB2
    have kp := HKp2.out.cell 1
    go_wp2_with fail
    go_loopw [24] (fun j wr => ∃ i : Nat, j = .int .i64 i ∧ i ≤ n ∧ ∃ vo lo, lo.map (·.v) = (os.take i).map (·.v) ∧ CopyJ W1 me q as_ gs x B2 (.slice A15 n15 c15) (.slice A19 n19 c19) (.slice none 0 0) vo lo wr) (fun j _ => n - (intOf j).toNat)
    case atStart => exact ⟨0, rfl, by omega, _, [], rfl, HJ0.out⟩
    case round =>
      obtain ⟨i, rfl, hi, vo, lo, hlo, hJ⟩ := hrel
      obtain ⟨V0, rfl⟩ : ∃ V : World, V = wr := ⟨_, rfl⟩
      have HJ := Lib.hid hJ
      have HLo2 := Lib.hid hlo
      obtain ⟨Ao, co, rfl⟩ := hJ.o.row.sl
      obtain ⟨no, hno⟩ : ∃ k, k = lo.length := ⟨_, rfl⟩
      rw [← hno] at HJ
      have HNo := Lib.hid hno
      clear hJ hlo hno
      have HBV : Hid (Below w.heap.size w V0) := Lib.hid (HB1.out.trans (HJ.out.bel.mono HB1.out.size))
      by_cases hlt : i < n
      · have hil : i < os.length := by rw [HLo.out]; exact hlt
        obtain ⟨b, off, rfl, _, hc⟩ := owR.spots (HI.out.os.next HBV.out).rd (show 0 < n by omega)
        have hg := owA_get hil
        have HOk := Lib.hid (HI.out.o _ (List.mem_of_getElem? hg))
        have HTk : Hid ((os.take (i + 1)).map (·.v) = (os.take i).map (·.v) ++ [(owA os i).v]) := Lib.hid (by rw [List.take_add_one, hg, List.map_append]; rfl)
        obtain ⟨r, hr⟩ : ∃ r, r = owA os i := ⟨_, rfl⟩
        rw [← hr] at hg HOk HTk
        have m0 := hc i r hg 0 _ rfl
        have m1 := hc i r hg 1 _ rfl
        have m2 := hc i r hg 2 _ rfl
        obtain ⟨⟨ra, rm, rc⟩, ⟨A1, n1, c1⟩⟩ := r
        simp only [owR, Nat.add_zero, Sl.val, ← Nat.add_assoc] at m0 m1 m2
        obtain ⟨bx, hbx⟩ : ∃ x, x = V0.heap.size := ⟨_, rfl⟩
        obtain ⟨V1, hV1⟩ : ∃ V, V = V0.alloc (.cells #[.int .i64 ra, .int .i64 rm, .slice A1 n1 c1] 55) := ⟨_, rfl⟩
        have hb01 : Below V0.heap.size V0 V1 := hV1 ▸ (Below.refl _ _).alloc (Nat.le_refl _) _
        have HB01 := Lib.hid hb01
        have HKx : Hid (Blk V1 bx 55 #[.int .i64 ra, .int .i64 rm, .slice A1 n1 c1]) := Lib.hid (by rw [hV1, hbx]; exact Blk.new V0 _ _)
        have HX1 : Hid (Blk V1 x 30 #[.int .i64 me, .slice Ao no co, .slice none 0 0, .int .i64 q, .slice A15 n15 c15, .slice A19 n19 c19]) := Lib.hid (HJ.out.box.below hb01 HJ.out.box.lt)
        have hS0 : (fun W : World => W.cell? ⟨x, 1, none⟩ = some (.slice Ao no co) ∧ W.cell? ⟨bx, 0, none⟩ = some (.int .i64 ra) ∧ W.cell? ⟨bx, 1, none⟩ = some (.int .i64 rm) ∧ W.cell? ⟨bx, 2, none⟩ = some (.slice A1 n1 c1)) V1.drew := ⟨HX1.out.drew_.cell 1, HKx.out.drew_.cell 0, HKx.out.drew_.cell 1, HKx.out.drew_.cell 2⟩
        have HBx := Lib.hid hbx
        clear hc hr hg hb01
        go_wp2_with fail
        rw [← hV1, ← hbx]
        clear hV1 hbx m0 m1 m2
        refine wp_region_noPanic ?_
        refine region_last 14 (fun W : World => W.cell? ⟨x, 1, none⟩ = some (.slice Ao no co) ∧ W.cell? ⟨bx, 0, none⟩ = some (.int .i64 ra) ∧ W.cell? ⟨bx, 1, none⟩ = some (.int .i64 rm) ∧ W.cell? ⟨bx, 2, none⟩ = some (.slice A1 n1 c1)) (by kernel_rfl) ?_
        refine AnyL.take 0 (.pointer (some ⟨x, 1, none⟩)) rfl (by kernel_rfl) (by kernel_rfl) (by kernel_rfl) (by kernel_rfl) (fun _ _ _ h => h) (Or.inl ⟨by rfl, fun W hW => ?_⟩) hS0 ?_
        · obtain ⟨hW0, hW1, hW2, hW3⟩ := hW
          go_simp
        simp only [Act.put, List.setIfInBounds_toArray]
        refine AnyL.take 1 (.slice Ao no co) rfl (by kernel_rfl) (by kernel_rfl) (by kernel_rfl) (by kernel_rfl) (fun _ _ _ h => h) (Or.inl ⟨by rfl, fun W hW => ?_⟩) hS0 ?_
        · obtain ⟨hW0, hW1, hW2, hW3⟩ := hW
          go_simp
        simp only [Act.put]
        refine AnyL.take 2 (.pointer (some ⟨bx, 0, none⟩)) rfl (by kernel_rfl) (by kernel_rfl) (by kernel_rfl) (by kernel_rfl) (fun _ _ _ h => h) (Or.inl ⟨by rfl, fun W hW => ?_⟩) hS0 ?_
        · obtain ⟨hW0, hW1, hW2, hW3⟩ := hW
          go_simp
        simp only [Act.put]
        refine AnyL.take 3 (.int .i64 ra) rfl (by kernel_rfl) (by kernel_rfl) (by kernel_rfl) (by kernel_rfl) (fun _ _ _ h => h) (Or.inl ⟨by rfl, fun W hW => ?_⟩) hS0 ?_
        · obtain ⟨hW0, hW1, hW2, hW3⟩ := hW
          go_simp
        simp only [Act.put]
        refine AnyL.take 4 (.pointer (some ⟨bx, 1, none⟩)) rfl (by kernel_rfl) (by kernel_rfl) (by kernel_rfl) (by kernel_rfl) (fun _ _ _ h => h) (Or.inl ⟨by rfl, fun W hW => ?_⟩) hS0 ?_
        · obtain ⟨hW0, hW1, hW2, hW3⟩ := hW
          go_simp
        simp only [Act.put]
        refine AnyL.take 5 (.int .i64 rm) rfl (by kernel_rfl) (by kernel_rfl) (by kernel_rfl) (by kernel_rfl) (fun _ _ _ h => h) (Or.inl ⟨by rfl, fun W hW => ?_⟩) hS0 ?_
        · obtain ⟨hW0, hW1, hW2, hW3⟩ := hW
          go_simp
        simp only [Act.put]
        refine AnyL.take 7 (.pointer (some ⟨bx, 2, none⟩)) rfl (by kernel_rfl) (by kernel_rfl) (by kernel_rfl) (by kernel_rfl) (fun _ _ _ h => h) (Or.inl ⟨by rfl, fun W hW => ?_⟩) hS0 ?_
        · obtain ⟨hW0, hW1, hW2, hW3⟩ := hW
          go_simp
        simp only [Act.put]
        refine AnyL.take 8 (.slice A1 n1 c1) rfl (by kernel_rfl) (by kernel_rfl) (by kernel_rfl) (by kernel_rfl) (fun _ _ _ h => h) (Or.inl ⟨by rfl, fun W hW => ?_⟩) hS0 ?_
        · obtain ⟨hW0, hW1, hW2, hW3⟩ := hW
          go_simp
        simp only [Act.put]
        refine AnyL.one 6 (by kernel_rfl) rfl ?_
        intro K' hK
        rw [if_pos (by rfl)]
        go_wp2_with fail
        refine hK.out _ _ (fun _ => ⟨(HX1.out.drew_.alloc _).cell 1, (HKx.out.drew_.alloc _).cell 0, (HKx.out.drew_.alloc _).cell 1, (HKx.out.drew_.alloc _).cell 2⟩) ?_
        clear hK
        have hbl : Below V1.heap.size V1 (V1.alloc (.cells #[] 57)).drew := below_drewC ((Below.refl _ _).alloc (Nat.le_refl _) _) 1
        have HR1 := Lib.hid (HOk.out.next HBV.out).c
        have hn1 : n1 * 32 ≤ 140737488351232 := HR1.out.few
        refine AnyL.one 9 (by kernel_rfl) rfl ?_
        intro K' hK
        refine Row.stepApp ceR _ rfl (.tmp 34) (.tmp 36) rfl _ (.slice (some ⟨_, 0, none⟩) 0 0) [] rfl (Row.Own.zero _ _ _) V0.heap.size A1 c1 rc n1 rfl (by exact HR1.out.rd.below (HB01.out.trans (hbl.mono HB01.out.size))) (by show (0 + n1) * 32 ≤ _; omega) (Nat.le_refl _) ?_
        intro A3 n3 c3 V3 ho3 hg3 _
        rw [List.nil_append] at ho3
        have HB13 : Hid (Below V1.heap.size V1 V3) := Lib.hid (below_row hbl hg3 hbl.size (Row.ownB_zero _))
        have HO3 : Hid (ceR.Own V3 V0.heap.size (.slice A3 n3 c3) rc) := Lib.hid (ho3.low (Nat.le_trans HB01.out.size hbl.size))
        have HX3 := Lib.hid (HX1.out.below HB13.out HX1.out.lt)
        have HK3 := Lib.hid (HKx.out.below HB13.out HKx.out.lt)
        have hS3 : (fun W : World => W.cell? ⟨x, 1, none⟩ = some (.slice Ao no co) ∧ W.cell? ⟨bx, 0, none⟩ = some (.int .i64 ra) ∧ W.cell? ⟨bx, 1, none⟩ = some (.int .i64 rm) ∧ W.cell? ⟨bx, 2, none⟩ = some (.slice A1 n1 c1)) V3 := ⟨HX3.out.cell 1, HK3.out.cell 0, HK3.out.cell 1, HK3.out.cell 2⟩
        refine hK.out _ _ (fun _ => hS3) ?_
        simp only [Act.put]
        clear hK ho3 hg3 hbl
        refine AnyL.take 10 (.agg #[.int .i64 ra, .int .i64 rm, .slice A3 n3 c3]) rfl (by kernel_rfl) (by kernel_rfl) (by kernel_rfl) (by kernel_rfl) (fun _ _ _ h => h) (Or.inl ⟨by rfl, fun W hW => ?_⟩) hS3 ?_
        · obtain ⟨hW0, hW1, hW2, hW3⟩ := hW
          go_simp
        simp only [Act.put]
        refine AnyL.one 11 (by kernel_rfl) rfl ?_
        intro K' hK
        rw [if_pos (by rfl)]
        go_wp2_with fail
        obtain ⟨V5, hV5⟩ : ∃ V, V = V3.alloc (.cells #[.int .i64 ra, .int .i64 rm, .slice A3 n3 c3] 55) := ⟨_, rfl⟩
        have hb35 : Below V3.heap.size V3 V5 := hV5 ▸ (Below.refl _ _).alloc (Nat.le_refl _) _
        have HB05 : Hid (Below V0.heap.size V0 V5) := Lib.hid (HB01.out.trans ((HB13.out.trans (hb35.mono HB13.out.size)).mono HB01.out.size))
        have HX5 := Lib.hid (HX3.out.below hb35 HX3.out.lt)
        have HK5 := Lib.hid (HK3.out.below hb35 HK3.out.lt)
        have HO5 := Lib.hid (HO3.out.below hb35)
        obtain ⟨g5, hg5⟩ : ∃ g, g = V3.heap.size := ⟨_, rfl⟩
        have HR5 : Hid (Reads V5 (g5 + 1) owR.k (some ⟨g5, 0, none⟩) 1 (owR.cells [⟨⟨ra, rm, rc⟩, ⟨A3, n3, c3⟩⟩])) := Lib.hid (by rw [hV5, hg5]; exact Row.reads_new owR V3 _ _ [⟨⟨ra, rm, rc⟩, ⟨A3, n3, c3⟩⟩] rfl)
        rw [← hV5, ← hg5]
        refine hK.out _ _ (fun _ => ⟨HX5.out.cell 1, HK5.out.cell 0, HK5.out.cell 1, HK5.out.cell 2⟩) ?_
        clear hK hV5 hg5 hb35
        have HLn : Hid (no = i) := Lib.hid (by
          have h1 := congrArg List.length HLo2.out
          rw [List.length_map, List.length_map, List.length_take] at h1
          have h2 := HNo.out
          omega)
        refine AnyL.one 12 (by kernel_rfl) rfl ?_
        intro K' hK
        refine Row.stepApp owR V5 rfl (.tmp 29) (.tmp 39) rfl B2 (.slice Ao no co) lo rfl (by exact HJ.out.o.row.below HB05.out) (g5 + 1) (some ⟨g5, 0, none⟩) 1 [⟨⟨ra, rm, rc⟩, ⟨A3, n3, c3⟩⟩] 1 rfl (by exact HR5.out) (by have h1 := HLn.out; have h2 := HNo.out; show (lo.length + 1) * 40 ≤ _; omega) (by have := HB05.out.size; have := HJ.out.sz; omega) ?_
        intro A4 n4 c4 V4 ho4 hg4 hl4
        have nx : some x ≠ ownB (.slice Ao no co) := fun e => by have h1 := HJ.out.o.row.base x e.symm; have h2 := HJ.out.lt; omega
        have nb : some bx ≠ ownB (.slice Ao no co) := fun e => by have h1 := HJ.out.o.row.lt bx e.symm; have h2 := HBx.out; omega
        have HX4 : Hid (Blk V4 x 30 #[.int .i64 me, .slice Ao no co, .slice none 0 0, .int .i64 q, .slice A15 n15 c15, .slice A19 n19 c19]) := Lib.hid ((hg4.block x HX5.out.lt nx).trans HX5.out)
        have HK4 : Hid (Blk V4 bx 55 #[.int .i64 ra, .int .i64 rm, .slice A1 n1 c1]) := Lib.hid ((hg4.block bx HK5.out.lt nb).trans HK5.out)
        have HPu := Lib.hid (HJ.out.push (y := ⟨⟨ra, rm, rc⟩, ⟨A3, n3, c3⟩⟩) HB05.out HO5.out ho4 hg4 hl4)
        have hS4 : (fun W : World => W.cell? ⟨x, 1, none⟩ = some (.slice Ao no co) ∧ W.cell? ⟨bx, 0, none⟩ = some (.int .i64 ra) ∧ W.cell? ⟨bx, 1, none⟩ = some (.int .i64 rm) ∧ W.cell? ⟨bx, 2, none⟩ = some (.slice A1 n1 c1)) V4 := ⟨HX4.out.cell 1, HK4.out.cell 0, HK4.out.cell 1, HK4.out.cell 2⟩
        have cx4 : V4.cell? ⟨x, 1, none⟩ = some (.slice Ao no co) := HX4.out.cell 1
        have fx4 : V4.frozen? ⟨x, 1, none⟩ = false := HX4.out.frozen 1
        refine hK.out _ _ (fun _ => hS4) ?_
        simp only [Act.put]
        clear hK ho4 hg4 hl4 nx nb
        refine AnyL.take 13 (.pointer (some ⟨x, 1, none⟩)) rfl (by kernel_rfl) (by kernel_rfl) (by kernel_rfl) (by kernel_rfl) (fun _ _ _ h => h) (Or.inl ⟨by rfl, fun W hW => ?_⟩) hS4 ?_
        · obtain ⟨hW0, hW1, hW2, hW3⟩ := hW
          go_simp
        simp only [Act.put]
        refine AnyL.one 14 (by kernel_rfl) rfl ?_
        intro K' hK
        rw [if_pos (by rfl)]
        go_wp2_with fail
        refine hK.out _ _ (fun h => absurd rfl h) ?_
        clear hK
        refine AnyL.done (by kernel_rfl) ?_ _
        refine NoPanic.normal ?_
        go_wp2_with fail
        go_roundw
        case rel => exact ⟨i + 1, by go_num, by omega, _, lo ++ [⟨⟨ra, rm, rc⟩, ⟨A3, n3, c3⟩⟩], by rw [HTk.out, List.map_append, HLo2.out]; rfl, HPu.out⟩
        case measure => simp [intOf]; omega
      · have HF : Hid (lo.map (·.v) = os.map (·.v)) := Lib.hid (by rw [HLo2.out, List.take_of_length_le (by rw [HLo.out]; omega)])
        have kp2 : V0.cell? ⟨p, 2, none⟩ = some (.slice A' n' c') := (HKp.out.below HJ.out.bel HKp.out.lt).cell 2
        obtain ⟨B3, hB3⟩ : ∃ B3, B3 = V0.heap.size := ⟨_, rfl⟩
        have HK0 := Lib.hid HJ.out.k
        rw [← hB3] at HK0
        clear hB3
        go_wp2_with fail
        go_loopw [46] (fun j wr => ∃ i : Nat, j = .int .i64 i ∧ i ≤ n' ∧ ∃ ve le, le.map (·.v) = (es.take i).map (·.v) ∧ CopyK W1 me q as_ gs x B2 B3 (.slice A15 n15 c15) (.slice A19 n19 c19) (.slice Ao no co) lo ve le wr) (fun j _ => n' - (intOf j).toNat)
        case atStart => exact ⟨0, rfl, by omega, _, [], rfl, HK0.out⟩
        case round =>
          obtain ⟨i, rfl, hi, ve, le, hle, hJ⟩ := hrel
          obtain ⟨V0, rfl⟩ : ∃ V : World, V = wr := ⟨_, rfl⟩
          have HJ := Lib.hid hJ
          have HLe2 := Lib.hid hle
          obtain ⟨Ae, ce, rfl⟩ := hJ.e.row.sl
          obtain ⟨ne, hne⟩ : ∃ k, k = le.length := ⟨_, rfl⟩
          rw [← hne] at HJ
          have HNe := Lib.hid hne
          clear hJ hle hne
          have HBV : Hid (Below w.heap.size w V0) := Lib.hid (HB1.out.trans (HJ.out.j.bel.mono HB1.out.size))
          by_cases hlt : i < n'
          · have hil : i < es.length := by rw [HLe.out]; exact hlt
            obtain ⟨b, off, rfl, _, hc⟩ := sdR.spots (HI.out.es.next HBV.out).rd (show 0 < n' by omega)
            have hg := sdA_get hil
            have HOk := Lib.hid (HI.out.e _ (List.mem_of_getElem? hg))
            have HTk : Hid ((es.take (i + 1)).map (·.v) = (es.take i).map (·.v) ++ [(sdA es i).v]) := Lib.hid (by rw [List.take_add_one, hg, List.map_append]; rfl)
            obtain ⟨r, hr⟩ : ∃ r, r = sdA es i := ⟨_, rfl⟩
            rw [← hr] at hg HOk HTk
            have m0 := hc i r hg 0 _ rfl
            have m1 := hc i r hg 1 _ rfl
            have m2 := hc i r hg 2 _ rfl
            have m3 := hc i r hg 3 _ rfl
            obtain ⟨⟨ra, rm, rc, rs⟩, ⟨A1, n1, c1⟩⟩ := r
            simp only [sdR, Nat.add_zero, Sl.val, ← Nat.add_assoc] at m0 m1 m2 m3
            obtain ⟨bx, hbx⟩ : ∃ x, x = V0.heap.size := ⟨_, rfl⟩
            obtain ⟨V1, hV1⟩ : ∃ V, V = V0.alloc (.cells #[.int .i64 ra, .int .i64 rm, .slice A1 n1 c1, .int .i64 rs] 60) := ⟨_, rfl⟩
            have hb01 : Below V0.heap.size V0 V1 := hV1 ▸ (Below.refl _ _).alloc (Nat.le_refl _) _
            have HB01 := Lib.hid hb01
            have HKx : Hid (Blk V1 bx 60 #[.int .i64 ra, .int .i64 rm, .slice A1 n1 c1, .int .i64 rs]) := Lib.hid (by rw [hV1, hbx]; exact Blk.new V0 _ _)
            have HX1 : Hid (Blk V1 x 30 #[.int .i64 me, .slice Ao no co, .slice Ae ne ce, .int .i64 q, .slice A15 n15 c15, .slice A19 n19 c19]) := Lib.hid (HJ.out.j.box.below hb01 HJ.out.j.box.lt)
            have hS0 : (fun W : World => W.cell? ⟨x, 2, none⟩ = some (.slice Ae ne ce) ∧ W.cell? ⟨bx, 0, none⟩ = some (.int .i64 ra) ∧ W.cell? ⟨bx, 1, none⟩ = some (.int .i64 rm) ∧ W.cell? ⟨bx, 2, none⟩ = some (.slice A1 n1 c1) ∧ W.cell? ⟨bx, 3, none⟩ = some (.int .i64 rs)) V1.drew := ⟨HX1.out.drew_.cell 2, HKx.out.drew_.cell 0, HKx.out.drew_.cell 1, HKx.out.drew_.cell 2, HKx.out.drew_.cell 3⟩
            have HBx := Lib.hid hbx
            clear hc hr hg hb01
            go_wp2_with fail
            rw [← hV1, ← hbx]
            clear hV1 hbx m0 m1 m2 m3
            refine wp_region_noPanic ?_
            refine region_last 16 (fun W : World => W.cell? ⟨x, 2, none⟩ = some (.slice Ae ne ce) ∧ W.cell? ⟨bx, 0, none⟩ = some (.int .i64 ra) ∧ W.cell? ⟨bx, 1, none⟩ = some (.int .i64 rm) ∧ W.cell? ⟨bx, 2, none⟩ = some (.slice A1 n1 c1) ∧ W.cell? ⟨bx, 3, none⟩ = some (.int .i64 rs)) (by kernel_rfl) ?_
            refine AnyL.take 0 (.pointer (some ⟨x, 2, none⟩)) rfl (by kernel_rfl) (by kernel_rfl) (by kernel_rfl) (by kernel_rfl) (fun _ _ _ h => h) (Or.inl ⟨by rfl, fun W hW => ?_⟩) hS0 ?_
            · obtain ⟨hW0, hW1, hW2, hW3, hW4⟩ := hW
              go_simp
            simp only [Act.put, List.setIfInBounds_toArray]
            refine AnyL.take 1 (.slice Ae ne ce) rfl (by kernel_rfl) (by kernel_rfl) (by kernel_rfl) (by kernel_rfl) (fun _ _ _ h => h) (Or.inl ⟨by rfl, fun W hW => ?_⟩) hS0 ?_
            · obtain ⟨hW0, hW1, hW2, hW3, hW4⟩ := hW
              go_simp
            simp only [Act.put]
            refine AnyL.take 2 (.pointer (some ⟨bx, 0, none⟩)) rfl (by kernel_rfl) (by kernel_rfl) (by kernel_rfl) (by kernel_rfl) (fun _ _ _ h => h) (Or.inl ⟨by rfl, fun W hW => ?_⟩) hS0 ?_
            · obtain ⟨hW0, hW1, hW2, hW3, hW4⟩ := hW
              go_simp
            simp only [Act.put]
            refine AnyL.take 3 (.int .i64 ra) rfl (by kernel_rfl) (by kernel_rfl) (by kernel_rfl) (by kernel_rfl) (fun _ _ _ h => h) (Or.inl ⟨by rfl, fun W hW => ?_⟩) hS0 ?_
            · obtain ⟨hW0, hW1, hW2, hW3, hW4⟩ := hW
              go_simp
            simp only [Act.put]
            refine AnyL.take 4 (.pointer (some ⟨bx, 1, none⟩)) rfl (by kernel_rfl) (by kernel_rfl) (by kernel_rfl) (by kernel_rfl) (fun _ _ _ h => h) (Or.inl ⟨by rfl, fun W hW => ?_⟩) hS0 ?_
            · obtain ⟨hW0, hW1, hW2, hW3, hW4⟩ := hW
              go_simp
            simp only [Act.put]
            refine AnyL.take 5 (.int .i64 rm) rfl (by kernel_rfl) (by kernel_rfl) (by kernel_rfl) (by kernel_rfl) (fun _ _ _ h => h) (Or.inl ⟨by rfl, fun W hW => ?_⟩) hS0 ?_
            · obtain ⟨hW0, hW1, hW2, hW3, hW4⟩ := hW
              go_simp
            simp only [Act.put]
            refine AnyL.take 7 (.pointer (some ⟨bx, 2, none⟩)) rfl (by kernel_rfl) (by kernel_rfl) (by kernel_rfl) (by kernel_rfl) (fun _ _ _ h => h) (Or.inl ⟨by rfl, fun W hW => ?_⟩) hS0 ?_
            · obtain ⟨hW0, hW1, hW2, hW3, hW4⟩ := hW
              go_simp
            simp only [Act.put]
            refine AnyL.take 8 (.slice A1 n1 c1) rfl (by kernel_rfl) (by kernel_rfl) (by kernel_rfl) (by kernel_rfl) (fun _ _ _ h => h) (Or.inl ⟨by rfl, fun W hW => ?_⟩) hS0 ?_
            · obtain ⟨hW0, hW1, hW2, hW3, hW4⟩ := hW
              go_simp
            simp only [Act.put]
            refine AnyL.take 10 (.pointer (some ⟨bx, 3, none⟩)) rfl (by kernel_rfl) (by kernel_rfl) (by kernel_rfl) (by kernel_rfl) (fun _ _ _ h => h) (Or.inl ⟨by rfl, fun W hW => ?_⟩) hS0 ?_
            · obtain ⟨hW0, hW1, hW2, hW3, hW4⟩ := hW
              go_simp
            simp only [Act.put]
            refine AnyL.take 11 (.int .i64 rs) rfl (by kernel_rfl) (by kernel_rfl) (by kernel_rfl) (by kernel_rfl) (fun _ _ _ h => h) (Or.inl ⟨by rfl, fun W hW => ?_⟩) hS0 ?_
            · obtain ⟨hW0, hW1, hW2, hW3, hW4⟩ := hW
              go_simp
            simp only [Act.put]
            refine AnyL.one 6 (by kernel_rfl) rfl ?_
            intro K' hK
            rw [if_pos (by rfl)]
            go_wp2_with fail
            refine hK.out _ _ (fun _ => ⟨(HX1.out.drew_.alloc _).cell 2, (HKx.out.drew_.alloc _).cell 0, (HKx.out.drew_.alloc _).cell 1, (HKx.out.drew_.alloc _).cell 2, (HKx.out.drew_.alloc _).cell 3⟩) ?_
            clear hK
            have hbl : Below V1.heap.size V1 (V1.alloc (.cells #[] 45)).drew := below_drewC ((Below.refl _ _).alloc (Nat.le_refl _) _) 1
            have HR1 := Lib.hid (HOk.out.next HBV.out).o
            have hn1 : n1 * 40 ≤ 140737488351232 := HR1.out.few
            refine AnyL.one 9 (by kernel_rfl) rfl ?_
            intro K' hK
            refine Row.stepApp mgR _ rfl (.tmp 56) (.tmp 58) rfl _ (.slice (some ⟨_, 0, none⟩) 0 0) [] rfl (Row.Own.zero _ _ _) V0.heap.size A1 c1 rc n1 rfl (by exact HR1.out.rd.below (HB01.out.trans (hbl.mono HB01.out.size))) (by show (0 + n1) * 40 ≤ _; omega) (Nat.le_refl _) ?_
            intro A3 n3 c3 V3 ho3 hg3 _
            rw [List.nil_append] at ho3
            have HB13 : Hid (Below V1.heap.size V1 V3) := Lib.hid (below_row hbl hg3 hbl.size (Row.ownB_zero _))
            have HO3 : Hid (mgR.Own V3 V0.heap.size (.slice A3 n3 c3) rc) := Lib.hid (ho3.low (Nat.le_trans HB01.out.size hbl.size))
            have HX3 := Lib.hid (HX1.out.below HB13.out HX1.out.lt)
            have HK3 := Lib.hid (HKx.out.below HB13.out HKx.out.lt)
            have hS3 : (fun W : World => W.cell? ⟨x, 2, none⟩ = some (.slice Ae ne ce) ∧ W.cell? ⟨bx, 0, none⟩ = some (.int .i64 ra) ∧ W.cell? ⟨bx, 1, none⟩ = some (.int .i64 rm) ∧ W.cell? ⟨bx, 2, none⟩ = some (.slice A1 n1 c1) ∧ W.cell? ⟨bx, 3, none⟩ = some (.int .i64 rs)) V3 := ⟨HX3.out.cell 2, HK3.out.cell 0, HK3.out.cell 1, HK3.out.cell 2, HK3.out.cell 3⟩
            refine hK.out _ _ (fun _ => hS3) ?_
            simp only [Act.put]
            clear hK ho3 hg3 hbl
            refine AnyL.take 12 (.agg #[.int .i64 ra, .int .i64 rm, .slice A3 n3 c3, .int .i64 rs]) rfl (by kernel_rfl) (by kernel_rfl) (by kernel_rfl) (by kernel_rfl) (fun _ _ _ h => h) (Or.inl ⟨by rfl, fun W hW => ?_⟩) hS3 ?_
            · obtain ⟨hW0, hW1, hW2, hW3, hW4⟩ := hW
              go_simp
            simp only [Act.put]
            refine AnyL.one 13 (by kernel_rfl) rfl ?_
            intro K' hK
            rw [if_pos (by rfl)]
            go_wp2_with fail
            obtain ⟨V5, hV5⟩ : ∃ V, V = V3.alloc (.cells #[.int .i64 ra, .int .i64 rm, .slice A3 n3 c3, .int .i64 rs] 60) := ⟨_, rfl⟩
            have hb35 : Below V3.heap.size V3 V5 := hV5 ▸ (Below.refl _ _).alloc (Nat.le_refl _) _
            have HB05 : Hid (Below V0.heap.size V0 V5) := Lib.hid (HB01.out.trans ((HB13.out.trans (hb35.mono HB13.out.size)).mono HB01.out.size))
            have HX5 := Lib.hid (HX3.out.below hb35 HX3.out.lt)
            have HK5 := Lib.hid (HK3.out.below hb35 HK3.out.lt)
            have HO5 := Lib.hid (HO3.out.below hb35)
            obtain ⟨g5, hg5⟩ : ∃ g, g = V3.heap.size := ⟨_, rfl⟩
            have HR5 : Hid (Reads V5 (g5 + 1) sdR.k (some ⟨g5, 0, none⟩) 1 (sdR.cells [⟨⟨ra, rm, rc, rs⟩, ⟨A3, n3, c3⟩⟩])) := Lib.hid (by rw [hV5, hg5]; exact Row.reads_new sdR V3 _ _ [⟨⟨ra, rm, rc, rs⟩, ⟨A3, n3, c3⟩⟩] rfl)
            rw [← hV5, ← hg5]
            refine hK.out _ _ (fun _ => ⟨HX5.out.cell 2, HK5.out.cell 0, HK5.out.cell 1, HK5.out.cell 2, HK5.out.cell 3⟩) ?_
            clear hK hV5 hg5 hb35
            have HLn : Hid (ne = i) := Lib.hid (by
              have h1 := congrArg List.length HLe2.out
              rw [List.length_map, List.length_map, List.length_take] at h1
              have h2 := HNe.out
              omega)
            refine AnyL.one 14 (by kernel_rfl) rfl ?_
            intro K' hK
            refine Row.stepApp sdR V5 rfl (.tmp 51) (.tmp 63) rfl B3 (.slice Ae ne ce) le rfl (by exact HJ.out.e.row.below HB05.out) (g5 + 1) (some ⟨g5, 0, none⟩) 1 [⟨⟨ra, rm, rc, rs⟩, ⟨A3, n3, c3⟩⟩] 1 rfl (by exact HR5.out) (by have h1 := HLn.out; have h2 := HNe.out; show (le.length + 1) * 48 ≤ _; omega) (by have := HB05.out.size; have := HJ.out.sz; omega) ?_
            intro A4 n4 c4 V4 ho4 hg4 hl4
            have nx : some x ≠ ownB (.slice Ae ne ce) := fun e => by have h1 := HJ.out.e.row.base x e.symm; have h2 := HJ.out.j.lt; have h3 := HJ.out.l23; omega
            have nb : some bx ≠ ownB (.slice Ae ne ce) := fun e => by have h1 := HJ.out.e.row.lt bx e.symm; have h2 := HBx.out; omega
            have HX4 : Hid (Blk V4 x 30 #[.int .i64 me, .slice Ao no co, .slice Ae ne ce, .int .i64 q, .slice A15 n15 c15, .slice A19 n19 c19]) := Lib.hid ((hg4.block x HX5.out.lt nx).trans HX5.out)
            have HK4 : Hid (Blk V4 bx 60 #[.int .i64 ra, .int .i64 rm, .slice A1 n1 c1, .int .i64 rs]) := Lib.hid ((hg4.block bx HK5.out.lt nb).trans HK5.out)
            have HPu := Lib.hid (HJ.out.push (y := ⟨⟨ra, rm, rc, rs⟩, ⟨A3, n3, c3⟩⟩) HB05.out HO5.out ho4 hg4 hl4)
            have hS4 : (fun W : World => W.cell? ⟨x, 2, none⟩ = some (.slice Ae ne ce) ∧ W.cell? ⟨bx, 0, none⟩ = some (.int .i64 ra) ∧ W.cell? ⟨bx, 1, none⟩ = some (.int .i64 rm) ∧ W.cell? ⟨bx, 2, none⟩ = some (.slice A1 n1 c1) ∧ W.cell? ⟨bx, 3, none⟩ = some (.int .i64 rs)) V4 := ⟨HX4.out.cell 2, HK4.out.cell 0, HK4.out.cell 1, HK4.out.cell 2, HK4.out.cell 3⟩
            have cx4 : V4.cell? ⟨x, 2, none⟩ = some (.slice Ae ne ce) := HX4.out.cell 2
            have fx4 : V4.frozen? ⟨x, 2, none⟩ = false := HX4.out.frozen 2
            refine hK.out _ _ (fun _ => hS4) ?_
            simp only [Act.put]
            clear hK ho4 hg4 hl4 nx nb
            refine AnyL.take 15 (.pointer (some ⟨x, 2, none⟩)) rfl (by kernel_rfl) (by kernel_rfl) (by kernel_rfl) (by kernel_rfl) (fun _ _ _ h => h) (Or.inl ⟨by rfl, fun W hW => ?_⟩) hS4 ?_
            · obtain ⟨hW0, hW1, hW2, hW3, hW4⟩ := hW
              go_simp
            simp only [Act.put]
            refine AnyL.one 16 (by kernel_rfl) rfl ?_
            intro K' hK
            rw [if_pos (by rfl)]
            go_wp2_with fail
            refine hK.out _ _ (fun h => absurd rfl h) ?_
            clear hK
            refine AnyL.done (by kernel_rfl) ?_ _
            refine NoPanic.normal ?_
            go_wp2_with fail
            go_roundw
            case rel => exact ⟨i + 1, by go_num, by omega, _, le ++ [⟨⟨ra, rm, rc, rs⟩, ⟨A3, n3, c3⟩⟩], by rw [HTk.out, List.map_append, HLe2.out]; rfl, HPu.out⟩
            case measure => simp [intOf]; omega
          · have HG : Hid (le.map (·.v) = es.map (·.v)) := Lib.hid (by rw [HLe2.out, List.take_of_length_le (by rw [HLe.out]; omega)])
            have q0 := HJ.out.j.box.cell 0
            have q1 := HJ.out.j.box.cell 1
            have q2 := HJ.out.j.box.cell 2
            have q3 := HJ.out.j.box.cell 3
            have q4 := HJ.out.j.box.cell 4
            have q5 := HJ.out.j.box.cell 5
            have HOw := Lib.hid (HJ.out.own (Nat.le_refl W1.heap.size))
            have HKr9 := Lib.hid (HKr.out.below HJ.out.j.bel HKr.out.lt)
            have hprlt := HKr.out.lt
            obtain ⟨V9, hV9, k9, b9, o9⟩ := set6 HKr9.out (.int .i64 me) (.slice Ao no co) (.slice Ae ne ce) (.int .i64 q) (.slice A15 n15 c15) (.slice A19 n19 c19)
            have HV9 := Lib.hid hV9
            have HB9 : Hid (Below w.heap.size w V9) := Lib.hid (b9 _ _ (by have := HPr.out; omega) HBV.out)
            have HO9 : Hid (OwnS V9 w.heap.size ⟨me, lo, ⟨Ao, no, co⟩, le, ⟨Ae, ne, ce⟩, q, as_, ⟨A15, n15, c15⟩, gs, ⟨A19, n19, c19⟩⟩) := Lib.hid ((HOw.out.stay (fun g hg1 _ => o9 g (by omega))).low HB1.out.size)
            have y0 := HKr9.out.cell 0
            have y1 := HKr9.out.cell 1
            have y2 := HKr9.out.cell 2
            have y3 := HKr9.out.cell 3
            have y4 := HKr9.out.cell 4
            have y5 := HKr9.out.cell 5
            have f0 := HKr9.out.frozen 0
            have f1 := HKr9.out.frozen 1
            have f2 := HKr9.out.frozen 2
            have f3 := HKr9.out.frozen 3
            have f4 := HKr9.out.frozen 4
            have f5 := HKr9.out.frozen 5
            have z0 : V9.cell? ⟨pr, 0, none⟩ = some (.int .i64 me) := k9.cell 0
            have z1 : V9.cell? ⟨pr, 1, none⟩ = some (.slice Ao no co) := k9.cell 1
            have z2 : V9.cell? ⟨pr, 2, none⟩ = some (.slice Ae ne ce) := k9.cell 2
            have z3 : V9.cell? ⟨pr, 3, none⟩ = some (.int .i64 q) := k9.cell 3
            have z4 : V9.cell? ⟨pr, 4, none⟩ = some (.slice A15 n15 c15) := k9.cell 4
            have z5 : V9.cell? ⟨pr, 5, none⟩ = some (.slice A19 n19 c19) := k9.cell 5
            clear hV9 b9 o9 k9
            go_wp2_with fail
            rw [← HV9.out]
            refine bodyPost_ret (v := .agg #[.int .i64 me, .slice Ao no co, .slice Ae ne ce, .int .i64 q, .slice A15 n15 c15, .slice A19 n19 c19]) (by simp [results, Try.f24, go_sem, z0, z1, z2, z3, z4, z5]) rfl ⟨⟨me, lo, ⟨Ao, no, co⟩, le, ⟨Ae, ne, ce⟩, q, as_, ⟨A15, n15, c15⟩, gs, ⟨A19, n19, c19⟩⟩, rfl, ?_, HO9.out, HB9.out⟩
            unfold StL.v
            simp only [HF.out, HG.out]
  go_region_held3 (fun w' => w'.cell? ⟨p, 0, none⟩ = some (.int .i64 me) ∧ w'.cell? ⟨p, 3, none⟩ = some (.int .i64 q) ∧ w'.cell? ⟨p, 4, none⟩ = some (.slice Aa na ca) ∧ w'.cell? ⟨p, 5, none⟩ = some (.slice Ag ng cg)) (first | with_reducible exact X0 | with_reducible exact cells6_drew X0 | with_reducible exact (cells6_alloc _ X0) | with_reducible exact cells6_drew (cells6_alloc _ X0) | with_reducible exact (cells6_alloc _ (cells6_alloc _ X0)) | with_reducible exact cells6_drew (cells6_alloc _ (cells6_alloc _ X0)) | with_reducible exact (cells6_alloc _ (cells6_alloc _ (cells6_alloc _ X0))) | with_reducible exact cells6_drew (cells6_alloc _ (cells6_alloc _ (cells6_alloc _ X0))) | with_reducible exact Z15 | with_reducible exact (cells6_alloc _ Z15) | with_reducible exact (cells6_alloc _ (cells6_alloc _ Z15)) | with_reducible exact Z19 | with_reducible exact (cells6_alloc _ Z19) | with_reducible exact keep6 (by omega) _ _ _ _ _ _ Z19 | with_reducible exact keep6 (by omega) _ _ _ _ _ _ (cells6_alloc _ Z19) | (trace_state; fail)) (first
    | ((show (if Region.wanted ({ dst := _, op := Op.call { callee := Callee.builtin Builtin.append, args := #[Operand.tmp 12, Operand.tmp 14], argTypes := _ }, type := _, pos := _, after := _, guard := _ } : Oper) _ = true then _ else _)); go_must (refine Row.stepApp akR _ rfl (.tmp 12) (.tmp 14) rfl _ (.slice (some ⟨_, 0, none⟩) 0 0) [] rfl (Row.Own.zero _ _ _) W1.heap.size Aa ca as_ na rfl (by exact HRa.out.below (by (first | exact Below.refl _ _ | exact ((Below.refl _ _).alloc (Nat.le_refl _) _) | exact (((Below.refl _ _).alloc (Nat.le_refl _) _).alloc (by first | (simp; done) | (simp; omega)) _) | exact ((((Below.refl _ _).alloc (Nat.le_refl _) _).alloc (by first | (simp; done) | (simp; omega)) _).alloc (by first | (simp; done) | (simp; omega)) _) | exact (below_drewC (Below.refl _ _) 1) | exact (below_drewC ((Below.refl _ _).alloc (Nat.le_refl _) _) 1) | exact (below_drewC (((Below.refl _ _).alloc (Nat.le_refl _) _).alloc (by first | (simp; done) | (simp; omega)) _) 1) | exact (below_drewC ((((Below.refl _ _).alloc (Nat.le_refl _) _).alloc (by first | (simp; done) | (simp; omega)) _).alloc (by first | (simp; done) | (simp; omega)) _) 1)))) (by show (0 + na) * 16 ≤ _; omega) (Nat.le_refl _) ?_; intro A15 n15 c15 w15 h15 g15 _; have HO15 := Lib.hid h15; rw [List.nil_append] at HO15; have HB15 : Hid (Below W1.heap.size W1 w15) := Lib.hid (below_row (by (first | exact Below.refl _ _ | exact ((Below.refl _ _).alloc (Nat.le_refl _) _) | exact (((Below.refl _ _).alloc (Nat.le_refl _) _).alloc (by first | (simp; done) | (simp; omega)) _) | exact ((((Below.refl _ _).alloc (Nat.le_refl _) _).alloc (by first | (simp; done) | (simp; omega)) _).alloc (by first | (simp; done) | (simp; omega)) _) | exact (below_drewC (Below.refl _ _) 1) | exact (below_drewC ((Below.refl _ _).alloc (Nat.le_refl _) _) 1) | exact (below_drewC (((Below.refl _ _).alloc (Nat.le_refl _) _).alloc (by first | (simp; done) | (simp; omega)) _) 1) | exact (below_drewC ((((Below.refl _ _).alloc (Nat.le_refl _) _).alloc (by first | (simp; done) | (simp; omega)) _).alloc (by first | (simp; done) | (simp; omega)) _) 1))) g15 (Below.size (B := W1.heap.size) (by (first | exact Below.refl _ _ | exact ((Below.refl _ _).alloc (Nat.le_refl _) _) | exact (((Below.refl _ _).alloc (Nat.le_refl _) _).alloc (by first | (simp; done) | (simp; omega)) _) | exact ((((Below.refl _ _).alloc (Nat.le_refl _) _).alloc (by first | (simp; done) | (simp; omega)) _).alloc (by first | (simp; done) | (simp; omega)) _) | exact (below_drewC (Below.refl _ _) 1) | exact (below_drewC ((Below.refl _ _).alloc (Nat.le_refl _) _) 1) | exact (below_drewC (((Below.refl _ _).alloc (Nat.le_refl _) _).alloc (by first | (simp; done) | (simp; omega)) _) 1) | exact (below_drewC ((((Below.refl _ _).alloc (Nat.le_refl _) _).alloc (by first | (simp; done) | (simp; omega)) _).alloc (by first | (simp; done) | (simp; omega)) _) 1)))) (Row.ownB_zero _)); have s15 : W1.heap.size ≤ w15.heap.size := HB15.out.size; have t15 := g15.size; simp only [size_drew, World.size_alloc] at t15; have Z15 := cells6 (HKp.out.below HB15.out HKp.out.lt); have KB := fun (g : Nat) (hk : Blk _ g 30 #[.int .i64 0, .slice none 0 0, .slice none 0 0, .int .i64 0, .slice none 0 0, .slice none 0 0]) => (Blk.below (w' := w15) hk (below_row (Below.refl _ _) g15 (Nat.le_refl _) (Row.ownB_zero _)) hk.lt); (first | (have KX0 : Blk w15 _ 30 #[.int .i64 0, .slice none 0 0, .slice none 0 0, .int .i64 0, .slice none 0 0, .slice none 0 0] := KB _ (by first | with_reducible exact Blk.drew_ (Blk.new _ _ _) | with_reducible exact Blk.drew_ ((Blk.new _ _ _).alloc _) | with_reducible exact Blk.drew_ (((Blk.new _ _ _).alloc _).alloc _) | with_reducible exact Blk.new _ _ _ | with_reducible exact (Blk.new _ _ _).alloc _ | with_reducible exact KX.out | with_reducible exact KX.out.alloc _); (try simp only [World.size_alloc] at KX0); have KX := Lib.hid KX0; have x0 := KX0.cell 0; have x1 := KX0.cell 1; have x2 := KX0.cell 2; have x3 := KX0.cell 3; have x4 := KX0.cell 4; have x5 := KX0.cell 5; have f0 := KX0.frozen 0; have f1 := KX0.frozen 1; have f2 := KX0.frozen 2; have f3 := KX0.frozen 3; have f4 := KX0.frozen 4; have f5 := KX0.frozen 5; clear KX0) | skip); clear KB; clear h15 g15))
    | ((show (if Region.wanted ({ dst := _, op := Op.call { callee := Callee.builtin Builtin.append, args := #[Operand.tmp 16, Operand.tmp 18], argTypes := _ }, type := _, pos := _, after := _, guard := _ } : Oper) _ = true then _ else _)); go_must (refine Row.stepApp fdR _ rfl (.tmp 16) (.tmp 18) rfl _ (.slice (some ⟨_, 0, none⟩) 0 0) [] rfl (Row.Own.zero _ _ _) W1.heap.size Ag cg gs ng rfl (by exact HRg.out.below (HB15.out.trans (Below.mono (by (first | exact Below.refl _ _ | exact ((Below.refl _ _).alloc (Nat.le_refl _) _) | exact (((Below.refl _ _).alloc (Nat.le_refl _) _).alloc (by first | (simp; done) | (simp; omega)) _) | exact ((((Below.refl _ _).alloc (Nat.le_refl _) _).alloc (by first | (simp; done) | (simp; omega)) _).alloc (by first | (simp; done) | (simp; omega)) _) | exact (below_drewC (Below.refl _ _) 1) | exact (below_drewC ((Below.refl _ _).alloc (Nat.le_refl _) _) 1) | exact (below_drewC (((Below.refl _ _).alloc (Nat.le_refl _) _).alloc (by first | (simp; done) | (simp; omega)) _) 1) | exact (below_drewC ((((Below.refl _ _).alloc (Nat.le_refl _) _).alloc (by first | (simp; done) | (simp; omega)) _).alloc (by first | (simp; done) | (simp; omega)) _) 1))) HB15.out.size))) (by show (0 + ng) * 24 ≤ _; omega) (Below.size (B := w15.heap.size) (by (first | exact Below.refl _ _ | exact ((Below.refl _ _).alloc (Nat.le_refl _) _) | exact (((Below.refl _ _).alloc (Nat.le_refl _) _).alloc (by first | (simp; done) | (simp; omega)) _) | exact ((((Below.refl _ _).alloc (Nat.le_refl _) _).alloc (by first | (simp; done) | (simp; omega)) _).alloc (by first | (simp; done) | (simp; omega)) _) | exact (below_drewC (Below.refl _ _) 1) | exact (below_drewC ((Below.refl _ _).alloc (Nat.le_refl _) _) 1) | exact (below_drewC (((Below.refl _ _).alloc (Nat.le_refl _) _).alloc (by first | (simp; done) | (simp; omega)) _) 1) | exact (below_drewC ((((Below.refl _ _).alloc (Nat.le_refl _) _).alloc (by first | (simp; done) | (simp; omega)) _).alloc (by first | (simp; done) | (simp; omega)) _) 1)))) ?_; intro A19 n19 c19 w19 h19 g19 _; have HO19 := Lib.hid h19; rw [List.nil_append] at HO19; have HB19 : Hid (Below w15.heap.size w15 w19) := Lib.hid (below_row (by (first | exact Below.refl _ _ | exact ((Below.refl _ _).alloc (Nat.le_refl _) _) | exact (((Below.refl _ _).alloc (Nat.le_refl _) _).alloc (by first | (simp; done) | (simp; omega)) _) | exact ((((Below.refl _ _).alloc (Nat.le_refl _) _).alloc (by first | (simp; done) | (simp; omega)) _).alloc (by first | (simp; done) | (simp; omega)) _) | exact (below_drewC (Below.refl _ _) 1) | exact (below_drewC ((Below.refl _ _).alloc (Nat.le_refl _) _) 1) | exact (below_drewC (((Below.refl _ _).alloc (Nat.le_refl _) _).alloc (by first | (simp; done) | (simp; omega)) _) 1) | exact (below_drewC ((((Below.refl _ _).alloc (Nat.le_refl _) _).alloc (by first | (simp; done) | (simp; omega)) _).alloc (by first | (simp; done) | (simp; omega)) _) 1))) g19 (Below.size (B := w15.heap.size) (by (first | exact Below.refl _ _ | exact ((Below.refl _ _).alloc (Nat.le_refl _) _) | exact (((Below.refl _ _).alloc (Nat.le_refl _) _).alloc (by first | (simp; done) | (simp; omega)) _) | exact ((((Below.refl _ _).alloc (Nat.le_refl _) _).alloc (by first | (simp; done) | (simp; omega)) _).alloc (by first | (simp; done) | (simp; omega)) _) | exact (below_drewC (Below.refl _ _) 1) | exact (below_drewC ((Below.refl _ _).alloc (Nat.le_refl _) _) 1) | exact (below_drewC (((Below.refl _ _).alloc (Nat.le_refl _) _).alloc (by first | (simp; done) | (simp; omega)) _) 1) | exact (below_drewC ((((Below.refl _ _).alloc (Nat.le_refl _) _).alloc (by first | (simp; done) | (simp; omega)) _).alloc (by first | (simp; done) | (simp; omega)) _) 1)))) (Row.ownB_zero _)); have s19 : w15.heap.size ≤ w19.heap.size := HB19.out.size; have Z19 := cells6 (HKp.out.below (HB15.out.trans (HB19.out.mono HB15.out.size)) HKp.out.lt); have KB := fun (g : Nat) (hk : Blk _ g 30 #[.int .i64 0, .slice none 0 0, .slice none 0 0, .int .i64 0, .slice none 0 0, .slice none 0 0]) => (Blk.below (w' := w19) hk (below_row (Below.refl _ _) g19 (Nat.le_refl _) (Row.ownB_zero _)) hk.lt); (first | (have KX0 : Blk w19 _ 30 #[.int .i64 0, .slice none 0 0, .slice none 0 0, .int .i64 0, .slice none 0 0, .slice none 0 0] := KB _ (by first | with_reducible exact Blk.drew_ (Blk.new _ _ _) | with_reducible exact Blk.drew_ ((Blk.new _ _ _).alloc _) | with_reducible exact Blk.drew_ (((Blk.new _ _ _).alloc _).alloc _) | with_reducible exact Blk.new _ _ _ | with_reducible exact (Blk.new _ _ _).alloc _ | with_reducible exact KX.out | with_reducible exact KX.out.alloc _); (try simp only [World.size_alloc] at KX0); have KX := Lib.hid KX0; have x0 := KX0.cell 0; have x1 := KX0.cell 1; have x2 := KX0.cell 2; have x3 := KX0.cell 3; have x4 := KX0.cell 4; have x5 := KX0.cell 5; have f0 := KX0.frozen 0; have f1 := KX0.frozen 1; have f2 := KX0.frozen 2; have f3 := KX0.frozen 3; have f4 := KX0.frozen 4; have f5 := KX0.frozen 5; clear KX0) | skip); clear KB; clear h19 g19)))
  all_goals
    refine ⟨rfl, _, _, _, A15, n15, c15, A19, n19, c19, rfl, ?_⟩
    first
      | with_reducible refine copyI_alloc HO15.out HO19.out HB15.out HB19.out ?_ ?_
      | with_reducible refine copyI_set HO15.out HO19.out HB15.out HB19.out ?_ ?_ KX.out ?_ ?_ ?_
    all_goals (first | omega | (simp only [World.size_alloc]; omega) | (simp only [size_drew]; omega) | (simp only [size_drew, World.size_alloc]; omega))
end Go.Proofs.Ytcicpgiljceioaa.Pk
