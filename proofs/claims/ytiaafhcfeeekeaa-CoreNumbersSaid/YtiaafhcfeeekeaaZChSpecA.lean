/- The landed First of package state. -/
import Derived.Test.YtiaafhcfeeekeaaZTrMath
import Derived.Test.YtiaafhcfeeekeaaZTrPath
import Derived.Laws.OwnMore
import Derived.Test.YtiaafhcfeeekeaaZTrCheck
namespace Go.Proofs.Ytiaafhcfeeekeaa.Pk
open Go.RowKit Go.Proofs.Ytiaafhcfeeekeaa.Gr
set_option linter.unusedVariables false
attribute [local go_sem] Oper.semAt_some
def zeroF : StL := ⟨0, [], ⟨none, 0, 0⟩, [], ⟨none, 0, 0⟩, 0, [], ⟨none, 0, 0⟩, [], ⟨none, 0, 0⟩⟩
theorem zeroF_own (w : World) (B : Nat) : OwnS w B zeroF := ⟨OwnO.none_ _ _, OwnE.none_ _ _, Row.Own.none_ _ _, Row.Own.none_ _ _, List.nodup_nil⟩
/-- A row that was written out. -/
theorem Row.own_lit {α : Type} (R : Row α) (w : World) (B : Nat) (cs : Array Value) (l : List α) (hB : B ≤ w.heap.size) (hm : l.length ≤ maxLen) (hl : 0 < l.length) (h : cs.toList = R.cells l) : R.Own (w.alloc (.cells cs R.T)) B (.slice (some ⟨w.heap.size, 0, none⟩) l.length l.length) l := by
  have hs : cs.size = l.length * R.k := by rw [← Array.length_toList, h, R.cells_length]
  have := World.ownsRow_lit (e := R.T) (size := R.k) (base := B) w cs l.length hB hm hs
  rw [h] at this
  exact Row.own_of rfl this
set_option maxRecDepth 100000 in
set_option maxHeartbeats 4000000 in
theorem firstS_any : StFirstP := by
  intro T g ps A n c hs me w htr G hin hme
  have HT := Lib.hid htr
  have HG := Lib.hid G
  have HIn := Lib.hid hin
  have HL : Hid (hs.length = n) := Lib.hid hin.len
  clear htr hin hme G
  obtain ⟨pr, hpr⟩ : ∃ p, p = w.heap.size := ⟨_, rfl⟩
  obtain ⟨w0, hw0⟩ : ∃ w0, w0 = w.alloc (.cells #[.int .i64 0, .slice none 0 0, .slice none 0 0, .int .i64 0, .slice none 0 0, .slice none 0 0] 28) := ⟨_, rfl⟩
  have hb0 : Below w.heap.size w w0 := hw0 ▸ (Below.refl _ _).alloc (Nat.le_refl _) _
  have hk0 : Blk w0 pr 28 #[.int .i64 0, .slice none 0 0, .slice none 0 0, .int .i64 0, .slice none 0 0, .slice none 0 0] := by rw [hw0, hpr]; exact Blk.new w _ _
  have hc : ∀ r, homesE ps.length hs = r → Calls Try.prog 32 #[.pointer (some ⟨T, 0, none⟩), .slice A n c] w0 fun e w' => e = .returned (.int .i64 r) ∧ Below w.heap.size w w' ∧ Blk w' pr 28 #[.int .i64 0, .slice none 0 0, .slice none 0 0, .int .i64 0, .slice none 0 0, .slice none 0 0] := fun r hr => by
    refine (homesS T g ps A n c hs w0 (HT.out.below_ hb0) HG.out (HIn.out.next hb0)).mono ?_
    rintro e w' ⟨rfl, hb⟩
    exact ⟨by rw [hr], hb0.trans (hb.mono hb0.size), hk0.below hb hk0.lt⟩
  have HC := fun r h => Lib.hid (hc r h)
  have HPr : Hid (pr = w.heap.size) := Lib.hid hpr
  unfold firstE
  clear hc hb0 hk0
  by_cases hh : HomesS ps.length hs
  case neg =>
    have HCa := HC 1 (by unfold homesE; rw [if_neg hh])
    have hif : ¬ (HomesS ps.length hs ∧ 0 ≤ me ∧ me < (ps.length : Int)) := fun h => hh h.1
    rw [if_neg hif]
    clear hif hh HC
    go_enter Try.func19, Try.ntmps19
    go_wp2_with fail
    rw [← hw0]
    refine HCa.out.mono ?_
    rintro e w1 ⟨rfl, hb, hk⟩
    rw [← hpr]
    clear hw0 hpr
    have HB := Lib.hid hb
    have HKr := Lib.hid hk
    have k0 := HKr.out.cell 0
    obtain ⟨V9, hV9, k9, b9, o9⟩ := set6 HKr.out (.int .i64 0) (.slice none 0 0) (.slice none 0 0) (.int .i64 0) (.slice none 0 0) (.slice none 0 0)
    have HV9 := Lib.hid hV9
    have HB9 : Hid (Below w.heap.size w V9) := Lib.hid (b9 _ _ (by have := HPr.out; omega) HB.out)
    have hprl := HKr.out.lt
    have f0 := HKr.out.frozen 0
    have f1 := HKr.out.frozen 1
    have f2 := HKr.out.frozen 2
    have f3 := HKr.out.frozen 3
    have f4 := HKr.out.frozen 4
    have f5 := HKr.out.frozen 5
    have y0 := HKr.out.cell 0
    have y1 := HKr.out.cell 1
    have y2 := HKr.out.cell 2
    have y3 := HKr.out.cell 3
    have y4 := HKr.out.cell 4
    have y5 := HKr.out.cell 5
    have z0 : V9.cell? ⟨pr, 0, none⟩ = some (.int .i64 0) := k9.cell 0
    have z1 : V9.cell? ⟨pr, 1, none⟩ = some (.slice none 0 0) := k9.cell 1
    have z2 : V9.cell? ⟨pr, 2, none⟩ = some (.slice none 0 0) := k9.cell 2
    have z3 : V9.cell? ⟨pr, 3, none⟩ = some (.int .i64 0) := k9.cell 3
    have z4 : V9.cell? ⟨pr, 4, none⟩ = some (.slice none 0 0) := k9.cell 4
    have z5 : V9.cell? ⟨pr, 5, none⟩ = some (.slice none 0 0) := k9.cell 5
    clear hb hk hV9 b9 o9 k9
    go_wp2_with fail
    rw [← HV9.out]
    exact bodyPost_ret (v := .tuple #[.agg #[.int .i64 0, .slice none 0 0, .slice none 0 0, .int .i64 0, .slice none 0 0, .slice none 0 0], .int .i64 1]) (by simp [results, Try.f19, go_sem, z0, z1, z2, z3, z4, z5]) rfl ⟨zeroF, rfl, rfl, zeroF_own _ _, HB9.out⟩
  have HCa := HC 0 (by unfold homesE; rw [if_pos hh])
  by_cases hmn : 0 ≤ me ∧ me < (ps.length : Int)
  case neg =>
    have hif : ¬ (HomesS ps.length hs ∧ 0 ≤ me ∧ me < (ps.length : Int)) := fun h => hmn h.2
    rw [if_neg hif]
    have HD : Hid (decide (0 ≤ me ∧ me < (ps.length : Int)) = false) := Lib.hid (decide_eq_false hmn)
    clear hif hh HC hmn
    go_enter Try.func19, Try.ntmps19
    go_wp2_with fail
    rw [← hw0]
    refine HCa.out.mono ?_
    rintro e w1 ⟨rfl, hb, hk⟩
    rw [← hpr]
    clear hw0 hpr
    have HB := Lib.hid hb
    have HKr := Lib.hid hk
    go_wp2_with fail
    refine (hasB_ (v := me) false _ (HT.out.below_ HB.out) HD.out).mono ?_
    rintro e w2 ⟨rfl, hw⟩
    rw [hw]
    clear hw w2
    have k0 := HKr.out.cell 0
    obtain ⟨V9, hV9, k9, b9, o9⟩ := set6 HKr.out (.int .i64 0) (.slice none 0 0) (.slice none 0 0) (.int .i64 0) (.slice none 0 0) (.slice none 0 0)
    have HV9 := Lib.hid hV9
    have HB9 : Hid (Below w.heap.size w V9) := Lib.hid (b9 _ _ (by have := HPr.out; omega) HB.out)
    have hprl := HKr.out.lt
    have f0 := HKr.out.frozen 0
    have f1 := HKr.out.frozen 1
    have f2 := HKr.out.frozen 2
    have f3 := HKr.out.frozen 3
    have f4 := HKr.out.frozen 4
    have f5 := HKr.out.frozen 5
    have y0 := HKr.out.cell 0
    have y1 := HKr.out.cell 1
    have y2 := HKr.out.cell 2
    have y3 := HKr.out.cell 3
    have y4 := HKr.out.cell 4
    have y5 := HKr.out.cell 5
    have z0 : V9.cell? ⟨pr, 0, none⟩ = some (.int .i64 0) := k9.cell 0
    have z1 : V9.cell? ⟨pr, 1, none⟩ = some (.slice none 0 0) := k9.cell 1
    have z2 : V9.cell? ⟨pr, 2, none⟩ = some (.slice none 0 0) := k9.cell 2
    have z3 : V9.cell? ⟨pr, 3, none⟩ = some (.int .i64 0) := k9.cell 3
    have z4 : V9.cell? ⟨pr, 4, none⟩ = some (.slice none 0 0) := k9.cell 4
    have z5 : V9.cell? ⟨pr, 5, none⟩ = some (.slice none 0 0) := k9.cell 5
    clear hb hk hV9 b9 o9 k9
    go_wp2_with fail
    rw [← HV9.out]
    exact bodyPost_ret (v := .tuple #[.agg #[.int .i64 0, .slice none 0 0, .slice none 0 0, .int .i64 0, .slice none 0 0, .slice none 0 0], .int .i64 1]) (by simp [results, Try.f19, go_sem, z0, z1, z2, z3, z4, z5]) rfl ⟨zeroF, rfl, rfl, zeroF_own _ _, HB9.out⟩
  rw [if_pos ⟨hh, hmn⟩]
  obtain ⟨h0, h1⟩ := hmn
  have HD : Hid (decide (0 ≤ me ∧ me < (ps.length : Int)) = true) := Lib.hid (decide_eq_true ⟨h0, h1⟩)
  have hn8 : n ≤ 8 := by have := hh.1.2; rw [HL.out] at this; exact this
  have HR := Lib.hid HIn.out.rd
  have HH := Lib.hid hh
  clear hh HC
  go_enter Try.func19, Try.ntmps19
  go_wp2_with fail
  rw [← hw0]
  refine HCa.out.mono ?_
  rintro e wa ⟨rfl, hba, hka⟩
  rw [← hpr]
  clear hw0 hpr
  have HBa := Lib.hid hba
  have HKr := Lib.hid hka
  clear hba hka
  go_wp2_with fail
  refine (hasB_ (v := me) true _ (HT.out.below_ HBa.out) HD.out).mono ?_
  rintro e w2 ⟨rfl, hw⟩
  rw [hw]
  clear hw w2
  obtain ⟨x, hx⟩ : ∃ x, x = wa.heap.size := ⟨_, rfl⟩
  obtain ⟨W1, hW1⟩ : ∃ W1, W1 = wa.alloc (.cells #[.int .i64 me, .slice none 0 0, .slice none 0 0, .int .i64 0, .slice none 0 0, .slice none 0 0] 28) := ⟨_, rfl⟩
  have hb1 : Below wa.heap.size wa W1 := hW1 ▸ (Below.refl _ _).alloc (Nat.le_refl _) _
  have hbx : Blk W1 x 28 #[.int .i64 me, .slice none 0 0, .slice none 0 0, .int .i64 0, .slice none 0 0, .slice none 0 0] := by rw [hW1, hx]; exact Blk.new wa _ _
  obtain ⟨B2, hB2⟩ : ∃ B2, B2 = W1.heap.size := ⟨_, rfl⟩
  have hup : ∀ m, Under m [(.slice none 0 0 : Value), .slice none 0 0] := fun m v hv g hg => by
    rcases List.mem_cons.1 hv with rfl | hv
    · cases hg
    · rw [List.mem_singleton.1 hv] at hg; cases hg
  have HJ0 : Hid (CopyJ wa me 0 [] [] x B2 (.slice none 0 0) (.slice none 0 0) (.slice none 0 0) (.slice none 0 0) [] W1) := Lib.hid ⟨hbx, Row.Own.none_ _ _, Row.Own.none_ _ _, hb1, by omega, by rw [hB2]; exact hbx.lt, hup B2, by simp [ownB], by simp [ownB], List.nodup_nil, Nat.le_of_eq hB2, OwnO.none_ _ _⟩
  go_wp2_with fail
  rw [← hW1, ← hx]
  clear hW1 hx hb1 hbx hB2
  go_loopw [31] (fun j wr => ∃ i : Nat, j = .int .i64 i ∧ i ≤ n ∧ ∃ vo lo, lo.map (·.v) = (hs.take i).map (ownF ps me) ∧ CopyJ wa me 0 [] [] x B2 (.slice none 0 0) (.slice none 0 0) (.slice none 0 0) vo lo wr) (fun j _ => n - (intOf j).toNat)
  case atStart => exact ⟨0, rfl, by omega, _, [], rfl, HJ0.out⟩
  case round =>
    obtain ⟨i, rfl, hi, vo, lo, hlo, hJ⟩ := hrel
    obtain ⟨V0, rfl⟩ : ∃ V : World, V = wr := ⟨_, rfl⟩
    have HJ := Lib.hid hJ
    have HLo2 := Lib.hid hlo
    obtain ⟨Ao, co, rfl⟩ := hJ.o.row.sl
    obtain ⟨no, hno⟩ : ∃ k, k = lo.length := ⟨_, rfl⟩
    rw [← hno] at HJ
    have HNo := Lib.hid hno
    clear hJ hlo hno
    have HBV : Hid (Below w.heap.size w V0) := Lib.hid (HBa.out.trans (HJ.out.bel.mono HBa.out.size))
    by_cases hlt : i < n
    · obtain ⟨b, off, rfl, hbw, hc⟩ := (HR.out.below HBV.out).i64 (by omega)
      have m0 := hc i hlt
      have HTk : Hid ((hs.take (i + 1)).map (ownF ps me) = (hs.take i).map (ownF ps me) ++ [ownF ps me (hs.getD i 0)]) := Lib.hid (by
        have hil : i < hs.length := by rw [HL.out]; exact hlt
        rw [List.take_add_one, List.getD_eq_getElem?_getD, List.getElem?_eq_getElem hil, List.map_append]; rfl)
      have HZ : Hid (0 ≤ hs.getD i 0 ∧ hs.getD i 0 < (ps.length : Int)) := Lib.hid (by
        have hil : i < hs.length := by rw [HL.out]; exact hlt
        refine HH.out.2 _ ?_
        rw [List.getD_eq_getElem?_getD, List.getElem?_eq_getElem hil]; exact List.getElem_mem hil)
      obtain ⟨z, hz⟩ : ∃ z, z = hs.getD i 0 := ⟨_, rfl⟩
      rw [← hz] at m0 HTk HZ
      have HNx : Hid (Calls Try.prog 33 #[.pointer (some ⟨T, 0, none⟩), .int .i64 me, .int .i64 z] V0 fun e w' => e = .returned (.int .i64 (nextI ps me z)) ∧ Below V0.heap.size V0 w') := Lib.hid ((nxt_any T g ps me z V0 (HT.out.below_ HBV.out) HG.out).mono (fun e w' h => ⟨h.1, h.2 ▸ Below.refl _ _⟩))
      obtain ⟨y, hy⟩ : ∃ y, y = nextI ps me z := ⟨_, rfl⟩
      rw [← hy] at HNx
      have HY := Lib.hid hy
      clear hc hz hbw hy
      go_wp2_with fail
      refine HNx.out.mono ?_
      rintro e V2 ⟨rfl, hb2⟩
      have HB02 := Lib.hid hb2
      obtain ⟨bx, hbx⟩ : ∃ q, q = V2.heap.size := ⟨_, rfl⟩
      obtain ⟨V3, hV3⟩ : ∃ V, V = V2.alloc (.cells #[.int .i64 y, .int .i64 0, .slice none 0 0] 55) := ⟨_, rfl⟩
      have hb23 : Below V2.heap.size V2 V3 := hV3 ▸ (Below.refl _ _).alloc (Nat.le_refl _) _
      have HKx : Hid (Blk V3 bx 55 #[.int .i64 y, .int .i64 0, .slice none 0 0]) := Lib.hid (by rw [hV3, hbx]; exact Blk.new V2 _ _)
      have HS3 : Hid (V3.heap.size = bx + 1) := Lib.hid (by rw [hV3, World.size_alloc, hbx])
      have HS32 : Hid (V3.heap.size = V2.heap.size + 1) := Lib.hid (by rw [hV3, World.size_alloc])
      have HB03 : Hid (Below V0.heap.size V0 V3) := Lib.hid (hb2.trans (hb23.mono hb2.size))
      have HX3 : Hid (Blk V3 x 28 #[.int .i64 me, .slice Ao no co, .slice none 0 0, .int .i64 0, .slice none 0 0, .slice none 0 0]) := Lib.hid (HJ.out.box.below HB03.out HJ.out.box.lt)
      have HBx : Hid (V0.heap.size ≤ bx) := Lib.hid (by rw [hbx]; exact hb2.size)
      have HXl : Hid (x < V0.heap.size) := Lib.hid HJ.out.box.lt
      have HLn : Hid (no = i) := Lib.hid (by
        have h1 := congrArg List.length HLo2.out
        rw [List.length_map, List.length_map, List.length_take] at h1
        have h2 := HNo.out
        have h3 := HL.out
        omega)
      clear hb2 hb23
      by_cases hzm : z = me
      · have t1 : (z == me) = true := by simp [hzm]
        have HF : Hid (ownF ps me z = ⟨y, 0, [⟨0, 3, -1, 0⟩]⟩) := Lib.hid (by unfold ownF; rw [if_pos hzm, HY.out])
        have hne : bx ≠ x := by have := HBx.out; have := HXl.out; omega
        have hne2 : x ≠ bx := by have := HBx.out; have := HXl.out; omega
        clear hzm
        have hx2 : x ≠ V2.heap.size := by rw [← hbx]; exact hne2
        have x02 : V2.cell? ⟨x, 1, none⟩ = some (.slice Ao no co) := (HJ.out.box.below HB02.out HJ.out.box.lt).cell 1
        have HO5v : Hid (∃ v5 : Nat, v5 = V2.heap.size + 1) := Lib.hid ⟨_, rfl⟩
        obtain ⟨V5, hV5⟩ : ∃ V5, V5 = V2.alloc (.cells #[.int .i64 y, .int .i64 0, .slice (some ⟨V2.heap.size + 1, 0, none⟩) 1 1] 55) := ⟨_, rfl⟩
        obtain ⟨V6, hV6⟩ : ∃ V6, V6 = V5.alloc (.cells #[.int .i64 0, .int .i64 3, .int .i64 (-1), .int .i64 0] 57) := ⟨_, rfl⟩
        have hs5 : V5.heap.size = V2.heap.size + 1 := by rw [hV5, World.size_alloc]
        have HS6 : Hid (V6.heap.size = V2.heap.size + 1 + 1) := Lib.hid (by rw [hV6, World.size_alloc, hs5])
        have hb06 : Below V0.heap.size V0 V6 := by rw [hV6, hV5]; exact (HB02.out.alloc HB02.out.size _).alloc (by have := HB02.out.size; rw [World.size_alloc]; omega) _
        have HB07 : Hid (Below V0.heap.size V0 (V6.alloc (.cells #[.int .i64 y, .int .i64 0, .slice (some ⟨V2.heap.size + 1, 0, none⟩) 1 1] 55))) := Lib.hid (hb06.alloc hb06.size _)
        have HO7 : Hid (ceR.Own (V6.alloc (.cells #[.int .i64 y, .int .i64 0, .slice (some ⟨V2.heap.size + 1, 0, none⟩) 1 1] 55)) V0.heap.size (.slice (some ⟨V2.heap.size + 1, 0, none⟩) 1 1) [⟨0, 3, -1, 0⟩]) := Lib.hid (by
          refine Row.Own.alloc ?_ _
          have h := Row.own_lit ceR V5 V0.heap.size #[.int .i64 0, .int .i64 3, .int .i64 (-1), .int .i64 0] [⟨0, 3, -1, 0⟩] (by have := HB02.out.size; omega) (by show 1 ≤ maxLen; unfold maxLen; omega) (by simp) rfl
          rw [hs5] at h
          rw [hV6]
          exact h)
        have HX7 : Hid (Blk (V6.alloc (.cells #[.int .i64 y, .int .i64 0, .slice (some ⟨V2.heap.size + 1, 0, none⟩) 1 1] 55)) x 28 #[.int .i64 me, .slice Ao no co, .slice none 0 0, .int .i64 0, .slice none 0 0, .slice none 0 0]) := Lib.hid (HJ.out.box.below HB07.out HJ.out.box.lt)
        have k6 : Blk V6 V2.heap.size 55 #[.int .i64 y, .int .i64 0, .slice (some ⟨V2.heap.size + 1, 0, none⟩) 1 1] := by rw [hV6, hV5]; exact (Blk.new V2 _ _).alloc _
        have k0 := k6.cell 0
        have k1 := k6.cell 1
        have k2 := k6.cell 2
        have x0 : V6.cell? ⟨x, 1, none⟩ = some (.slice Ao no co) := (HJ.out.box.below hb06 HJ.out.box.lt).cell 1
        rw [hV6, hV5] at k0 k1 k2 x0
        have HV5 := Lib.hid hV5
        have HV6 := Lib.hid hV6
        clear hV5 hV6 hs5 hb06 k6 hV3 hbx
        go_wp2_with (at_builtin; rw [← HV5.out, ← HV6.out]; refine Row.app owR (V6.alloc (.cells #[.int .i64 y, .int .i64 0, .slice (some ⟨V2.heap.size + 1, 0, none⟩) 1 1] 55)) rfl (.tmp 47) (.tmp 49) rfl B2 (.slice Ao no co) lo rfl (HJ.out.o.row.below HB07.out) (V2.heap.size + 1 + 1 + 1) (some ⟨V2.heap.size + 1 + 1, 0, none⟩) 1 [⟨⟨y, 0, [⟨0, 3, -1, 0⟩]⟩, ⟨some ⟨V2.heap.size + 1, 0, none⟩, 1, 1⟩⟩] 1 rfl (by { have h := Row.reads_new owR V6 #[.int .i64 y, .int .i64 0, .slice (some ⟨V2.heap.size + 1, 0, none⟩) 1 1] 55 [⟨⟨y, 0, [⟨0, 3, -1, 0⟩]⟩, ⟨some ⟨V2.heap.size + 1, 0, none⟩, 1, 1⟩⟩] rfl; rw [HS6.out] at h; exact h }) (by { have h1 := HLn.out; have h2 := HNo.out; show (lo.length + 1) * 40 ≤ _; omega }) (by { have h1 := HB07.out.size; have h2 := HJ.out.sz; omega }) ?_; intro v8 V8 ho8 hg8 hl8; obtain ⟨A8, c8, e8⟩ := ho8.slk (k := no + 1) (by { have h2 := HNo.out; simp; omega }); subst e8; have HPu := Lib.hid (HJ.out.push (y := ⟨⟨y, 0, [⟨0, 3, -1, 0⟩]⟩, ⟨some ⟨V2.heap.size + 1, 0, none⟩, 1, 1⟩⟩) HB07.out HO7.out ho8 hg8 hl8); have nx : some x ≠ ownB (.slice Ao no co) := (fun e => by { have h1 := HJ.out.o.row.base x e.symm; have h2 := HJ.out.lt; omega }); have HX8 := Lib.hid ((hg8.block x HX7.out.lt nx).trans HX7.out); have x1 := Blk.cell HX8.out 1; have l1 := Blk.frozen HX8.out 1; clear ho8 hg8 hl8 nx)
        go_roundw
        case rel => exact ⟨i + 1, by go_num, by omega, _, lo ++ [⟨⟨y, 0, [⟨0, 3, -1, 0⟩]⟩, ⟨some ⟨V2.heap.size + 1, 0, none⟩, 1, 1⟩⟩], by rw [HTk.out, List.map_append, HLo2.out, HF.out]; rfl, HPu.out⟩
        case measure => simp [intOf]; omega
      · have t1 : (z == me) = false := by simp [hzm]
        have HF : Hid (ownF ps me z = ⟨y, 0, []⟩) := Lib.hid (by unfold ownF; rw [if_neg hzm, HY.out])
        have HB07 : Hid (Below V0.heap.size V0 (V3.alloc (.cells #[.int .i64 y, .int .i64 0, .slice none 0 0] 55))) := Lib.hid (HB03.out.alloc HB03.out.size _)
        have HO7 : Hid (ceR.Own (V3.alloc (.cells #[.int .i64 y, .int .i64 0, .slice none 0 0] 55)) V0.heap.size (.slice none 0 0) []) := Lib.hid (Row.Own.none_ _ _)
        have HX7 : Hid (Blk (V3.alloc (.cells #[.int .i64 y, .int .i64 0, .slice none 0 0] 55)) x 28 #[.int .i64 me, .slice Ao no co, .slice none 0 0, .int .i64 0, .slice none 0 0, .slice none 0 0]) := Lib.hid (HJ.out.box.below HB07.out HJ.out.box.lt)
        have x0 : V3.cell? ⟨x, 1, none⟩ = some (.slice Ao no co) := HX3.out.cell 1
        have x02 : V2.cell? ⟨x, 1, none⟩ = some (.slice Ao no co) := (HJ.out.box.below HB02.out HJ.out.box.lt).cell 1
        have hxl2 : x < V2.heap.size := by have := HXl.out; have := HB02.out.size; omega
        have hne : V2.heap.size ≠ x := by omega
        have hne2 : x ≠ V2.heap.size := by omega
        clear hzm
        go_wp2_with (at_builtin; rw [← hV3]; refine Row.app owR (V3.alloc (.cells #[.int .i64 y, .int .i64 0, .slice none 0 0] 55)) rfl (.tmp 47) (.tmp 49) rfl B2 (.slice Ao no co) lo rfl (HJ.out.o.row.below HB07.out) ((V2.heap.size + 1) + 1) (some ⟨(V2.heap.size + 1), 0, none⟩) 1 [⟨⟨y, 0, []⟩, ⟨none, 0, 0⟩⟩] 1 rfl (by { have h := Row.reads_new owR V3 #[.int .i64 y, .int .i64 0, .slice none 0 0] 55 [⟨⟨y, 0, []⟩, ⟨none, 0, 0⟩⟩] rfl; rw [HS32.out] at h; exact h }) (by { have h1 := HLn.out; have h2 := HNo.out; show (lo.length + 1) * 40 ≤ _; omega }) (by { have h1 := HB07.out.size; have h2 := HJ.out.sz; omega }) ?_; intro v8 V8 ho8 hg8 hl8; obtain ⟨A8, c8, e8⟩ := ho8.slk (k := no + 1) (by { have h2 := HNo.out; simp; omega }); subst e8; have HPu := Lib.hid (HJ.out.push (y := ⟨⟨y, 0, []⟩, ⟨none, 0, 0⟩⟩) HB07.out HO7.out ho8 hg8 hl8); have nx : some x ≠ ownB (.slice Ao no co) := (fun e => by { have h1 := HJ.out.o.row.base x e.symm; have h2 := HJ.out.lt; omega }); have HX8 := Lib.hid ((hg8.block x HX7.out.lt nx).trans HX7.out); have x1 := Blk.cell HX8.out 1; have l1 := Blk.frozen HX8.out 1; clear ho8 hg8 hl8 nx)
        go_roundw
        case rel => exact ⟨i + 1, by go_num, by omega, _, lo ++ [⟨⟨y, 0, []⟩, ⟨none, 0, 0⟩⟩], by rw [HTk.out, List.map_append, HLo2.out, HF.out]; rfl, HPu.out⟩
        case measure => simp [intOf]; omega
    · have HF : Hid (lo.map (·.v) = hs.map (ownF ps me)) := Lib.hid (by rw [HLo2.out, List.take_of_length_le (by rw [HL.out]; omega)])
      have HNb := Lib.hid (nbrs_any T g ps me V0 (HT.out.below_ HBV.out) HG.out.few)
      go_wp2_with fail
      refine HNb.out.mono ?_
      rintro e V1 ⟨vn, rfl, hon, hb⟩
      have HJ1 := Lib.hid (HJ.out.below hb)
      obtain ⟨An, cn, rfl, hcn, hrn⟩ := hon.reads
      obtain ⟨m, hm⟩ : ∃ m, m = (nbsI ps me).length := ⟨_, rfl⟩
      rw [← hm] at hcn hrn ⊢
      have HM := Lib.hid hm
      have hm32 : m ≤ 32 := by
        rw [hm]
        unfold nbsI
        split
        · exact Nat.le_trans (nbs_len _ _ _) HG.out.few
        · simp
      have HRn := Lib.hid hrn
      have HK0 := Lib.hid HJ1.out.k
      obtain ⟨B3, hB3⟩ : ∃ B3, B3 = V1.heap.size := ⟨_, rfl⟩
      rw [← hB3] at HK0 HRn
      have HB3 : Hid (B3 = V1.heap.size) := Lib.hid hB3
      have HNx2 : Hid (∀ ad, An = some ad → ad.block ≠ x) := Lib.hid (fun ad e => by
        have h1 := ownN_base hon ad.block (by rw [e]; rfl)
        have h2 := HJ.out.box.lt
        omega)
      clear hb hon hrn hB3 hm hcn
      go_wp2_with fail
      go_loopw [57] (fun j wr => ∃ i : Nat, j = .int .i64 i ∧ i ≤ m ∧ ∃ ve le, le.map (·.v) = ((nbsI ps me).take i).map (fun v => (⟨v, 0, [], 0⟩ : Hf)) ∧ CopyK wa me 0 [] [] x B2 B3 (.slice none 0 0) (.slice none 0 0) (.slice Ao no co) lo ve le wr ∧ ∀ k, k < B3 → k ≠ x → wr.heap[k]? = V1.heap[k]?) (fun j _ => m - (intOf j).toNat)
      case atStart => exact ⟨0, rfl, by omega, _, [], rfl, HK0.out, fun _ _ _ => rfl⟩
      case round =>
        obtain ⟨i, rfl, hi, ve, le, hle, hJ, hst⟩ := hrel
        obtain ⟨V0, rfl⟩ : ∃ V : World, V = wr := ⟨_, rfl⟩
        have HSt := Lib.hid hst
        have HK := Lib.hid hJ
        have HLe2 := Lib.hid hle
        obtain ⟨Ae, ce, rfl⟩ := hJ.e.row.sl
        obtain ⟨ne, hne⟩ : ∃ k, k = le.length := ⟨_, rfl⟩
        rw [← hne] at HK
        have HNe := Lib.hid hne
        clear hJ hle hne hst
        have HBV : Hid (Below w.heap.size w V0) := Lib.hid (HBa.out.trans (HK.out.j.bel.mono HBa.out.size))
        have HBx := Lib.hid HK.out.j.box
        by_cases hlt : i < m
        · have HRv : Hid (Reads V0 B3 1 An m (nms (nbsI ps me))) := Lib.hid ⟨HRn.out.1, fun hm0 => by
            obtain ⟨ad, e, hb9, hc9⟩ := HRn.out.2 hm0
            exact ⟨ad, e, hb9, fun j u hu => (World.cell?_of_block (a := ad.add j) (by rw [block_of_add]; exact HSt.out _ hb9 (HNx2.out ad e))).trans (hc9 j u hu)⟩⟩
          obtain ⟨b, off, rfl, hbw, hc⟩ := HRv.out.i64 (by omega)
          have m0 := hc i hlt
          have HTk : Hid (((nbsI ps me).take (i + 1)).map (fun v => (⟨v, 0, [], 0⟩ : Hf)) = ((nbsI ps me).take i).map (fun v => (⟨v, 0, [], 0⟩ : Hf)) ++ [⟨(nbsI ps me).getD i 0, 0, [], 0⟩]) := Lib.hid (by
            have hil : i < (nbsI ps me).length := by rw [← HM.out]; exact hlt
            rw [List.take_add_one, List.getD_eq_getElem?_getD, List.getElem?_eq_getElem hil, List.map_append]; rfl)
          obtain ⟨z, hz⟩ : ∃ z, z = (nbsI ps me).getD i 0 := ⟨_, rfl⟩
          rw [← hz] at m0 HTk
          clear hc hz hbw
          have HLn : Hid (ne = i) := Lib.hid (by
            have h1 := congrArg List.length HLe2.out
            rw [List.length_map, List.length_map, List.length_take] at h1
            have h2 := HNe.out
            have h3 := HM.out
            omega)
          have HB07 : Hid (Below V0.heap.size V0 (V0.alloc (.cells #[.int .i64 z, .int .i64 0, .slice none 0 0, .int .i64 0] 50))) := Lib.hid ((Below.refl _ _).alloc (Nat.le_refl _) _)
          have HX7 := Lib.hid (HBx.out.below HB07.out HBx.out.lt)
          have x0 : V0.cell? ⟨x, 2, none⟩ = some (.slice Ae ne ce) := HBx.out.cell 2
          go_wp2_with (at_builtin; refine Row.app sdR (V0.alloc (.cells #[.int .i64 z, .int .i64 0, .slice none 0 0, .int .i64 0] 50)) rfl (.tmp 62) (.tmp 65) rfl B3 (.slice Ae ne ce) le rfl (HK.out.e.row.below HB07.out) (V0.heap.size + 1) (some ⟨V0.heap.size, 0, none⟩) 1 [⟨⟨z, 0, [], 0⟩, ⟨none, 0, 0⟩⟩] 1 rfl (Row.reads_new sdR V0 #[.int .i64 z, .int .i64 0, .slice none 0 0, .int .i64 0] 50 [⟨⟨z, 0, [], 0⟩, ⟨none, 0, 0⟩⟩] rfl) (by { have h1 := HLn.out; have h2 := HNe.out; show (le.length + 1) * 48 ≤ _; omega }) (by { have h1 := HB07.out.size; have h2 := HK.out.sz; omega }) ?_; intro v8 V8 ho8 hg8 hl8; obtain ⟨A8, c8, e8⟩ := ho8.slk (k := ne + 1) (by { have h2 := HNe.out; simp; omega }); subst e8; have HPu := Lib.hid (HK.out.push (y := ⟨⟨z, 0, [], 0⟩, ⟨none, 0, 0⟩⟩) HB07.out (Row.Own.none_ _ _) ho8 hg8 hl8); have nx : some x ≠ ownB (.slice Ae ne ce) := (fun e => by { have h1 := HK.out.e.row.base x e.symm; have h2 := HK.out.j.lt; have h3 := HK.out.l23; omega }); have HX8 := Lib.hid ((hg8.block x HX7.out.lt nx).trans HX7.out); have HSt8 : Hid (∀ k, k < B3 → k ≠ x → (V8.setCell ⟨x, 2, none⟩ (.slice A8 (ne + 1) c8)).heap[k]? = V1.heap[k]?) := Lib.hid (fun k hk hkx => by { have h2 := HK.out.sz; exact (setc_other _ _ _ _ _ hkx).trans ((hg8.block k (by { have h1 := HB07.out.size; omega }) (fun e => by { have h1 := HK.out.e.row.base k e.symm; omega })).trans ((HB07.out.block k (by omega)).trans (HSt.out k hk hkx))) }); have x1 := Blk.cell HX8.out 2; have l1 := Blk.frozen HX8.out 2; clear ho8 hg8 hl8 nx)
          go_roundw
          case rel => exact ⟨i + 1, by go_num, by omega, _, le ++ [⟨⟨z, 0, [], 0⟩, ⟨none, 0, 0⟩⟩], by rw [HTk.out, List.map_append, HLe2.out]; rfl, HPu.out, HSt8.out⟩
          case measure => simp [intOf]; omega
        · have HGe : Hid (le.map (·.v) = (nbsI ps me).map (fun v => (⟨v, 0, [], 0⟩ : Hf))) := Lib.hid (by rw [HLe2.out, List.take_of_length_le (by rw [← HM.out]; omega)])
          have HOw := Lib.hid (HK.out.own (Nat.le_refl wa.heap.size))
          have HKr9 := Lib.hid (HKr.out.below HK.out.j.bel HKr.out.lt)
          have hprlt := HKr.out.lt
          obtain ⟨V9, hV9, k9, b9, o9⟩ := set6 HKr9.out (.int .i64 me) (.slice Ao no co) (.slice Ae ne ce) (.int .i64 0) (.slice none 0 0) (.slice none 0 0)
          have HV9 := Lib.hid hV9
          have HB9 : Hid (Below w.heap.size w V9) := Lib.hid (b9 _ _ (by have := HPr.out; omega) HBV.out)
          have HO9 : Hid (OwnS V9 w.heap.size ⟨me, lo, ⟨Ao, no, co⟩, le, ⟨Ae, ne, ce⟩, 0, [], ⟨none, 0, 0⟩, [], ⟨none, 0, 0⟩⟩) := Lib.hid ((HOw.out.stay (fun g hg1 _ => o9 g (by omega))).low HBa.out.size)
          have q0 := HBx.out.cell 0
          have q1 := HBx.out.cell 1
          have q2 := HBx.out.cell 2
          have q3 := HBx.out.cell 3
          have q4 := HBx.out.cell 4
          have q5 := HBx.out.cell 5
          have y0 := HKr9.out.cell 0
          have y1 := HKr9.out.cell 1
          have y2 := HKr9.out.cell 2
          have y3 := HKr9.out.cell 3
          have y4 := HKr9.out.cell 4
          have y5 := HKr9.out.cell 5
          have f0 := HKr9.out.frozen 0
          have f1 := HKr9.out.frozen 1
          have f2 := HKr9.out.frozen 2
          have f3 := HKr9.out.frozen 3
          have f4 := HKr9.out.frozen 4
          have f5 := HKr9.out.frozen 5
          have z0 : V9.cell? ⟨pr, 0, none⟩ = some (.int .i64 me) := k9.cell 0
          have z1 : V9.cell? ⟨pr, 1, none⟩ = some (.slice Ao no co) := k9.cell 1
          have z2 : V9.cell? ⟨pr, 2, none⟩ = some (.slice Ae ne ce) := k9.cell 2
          have z3 : V9.cell? ⟨pr, 3, none⟩ = some (.int .i64 0) := k9.cell 3
          have z4 : V9.cell? ⟨pr, 4, none⟩ = some (.slice none 0 0) := k9.cell 4
          have z5 : V9.cell? ⟨pr, 5, none⟩ = some (.slice none 0 0) := k9.cell 5
          clear hV9 b9 o9 k9
          go_wp2_with fail
          rw [← HV9.out]
          refine bodyPost_ret (v := .tuple #[.agg #[.int .i64 me, .slice Ao no co, .slice Ae ne ce, .int .i64 0, .slice none 0 0, .slice none 0 0], .int .i64 0]) (by simp [results, Try.f19, go_sem, z0, z1, z2, z3, z4, z5]) rfl ⟨⟨me, lo, ⟨Ao, no, co⟩, le, ⟨Ae, ne, ce⟩, 0, [], ⟨none, 0, 0⟩, [], ⟨none, 0, 0⟩⟩, rfl, ?_, HO9.out, HB9.out⟩
          unfold StL.v firstS
          simp only [HF.out, HGe.out]
          rfl
theorem firstC : StFirstP := firstS_any
end Go.Proofs.Ytiaafhcfeeekeaa.Pk

/- Package tree: Dist. -/
namespace Go.Proofs.Ytiaafhcfeeekeaa.Pk
open Go.RowKit Go.Shelf Go.Proofs.Ytiaafhcfeeekeaa.Gr
set_option linter.unusedVariables false
attribute [local go_sem] Oper.semAt_some

theorem stay_set {D : Nat → Prop} {V : World} {x : Nat} {u : Value} (hx : ¬ D x) : Stay D V (V.setCell ⟨x, 0, none⟩ u) :=
  ⟨by simp [World.setCell], fun b hb => Below.heap_setCell _ ⟨x, 0, none⟩ _ b (fun e => hx (by simp at e; subst e; exact hb))⟩
theorem own_blk {β : Type} (B x : Nat) (t : TypeId) (f : β → Value) : OwnFrom (β := β) B (fun s W => Blk W x t #[f s]) := Own.from (I := fun (s : β) W => Blk W x t #[f s]) (fun s A W row hs hg hr => blk_kept hs hg hr) B
/-- How many edges lie between; -1: no such nodes. -/
def distI (ps : List Int) (a b : Int) : Int := ((pathI ps a b).length : Int) - 1
set_option maxRecDepth 100000 in
set_option maxHeartbeats 4000000 in
/-- Of whatever has a Path. -/
theorem dist_val (tv : Value) (D : Nat → Prop) (l : List Int) (a b : Int) (w : World) (hD : ∀ x, D x → x < w.heap.size) (hlen : l.length ≤ 32)
    (hP : ∀ W, Below w.heap.size w W → Calls Try.prog 90 #[tv, .int .i64 a, .int .i64 b] W (PathR D l W)) :
    Calls Try.prog 69 #[tv, .int .i64 a, .int .i64 b] w fun e w' => e = .returned (.int .i64 ((l.length : Int) - 1)) ∧ Below w.heap.size w w' := by
  have HD := Lib.hid hD
  have HLe := Lib.hid hlen
  clear hD hlen
  obtain ⟨W0, hW0⟩ : ∃ W0, W0 = w.alloc (.cells #[.int .i64 (-1)] 3) := ⟨_, rfl⟩
  have hk0 : Blk W0 w.heap.size 3 #[.int .i64 (-1)] := hW0 ▸ Blk.new w _ _
  have hb0 : Below w.heap.size w W0 := hW0 ▸ (Below.refl _ w).alloc (Nat.le_refl _) _
  have HK0 := Lib.hid hk0
  have HB0 := Lib.hid hb0
  clear hk0 hb0
  have HP := Lib.hid (hP W0 HB0.out)
  clear hP
  refine (callsIn_wide (n := 9)).1 ?_
  refine callsIn_of_wp_marks Try.func69 rfl trivial ?_ rfl
  simp only [Try.ntmps69, List.size_toArray, List.length_cons, List.length_nil, Nat.reduceAdd, Nat.reduceSub, Array.replicate_succ, Array.replicate_zero, List.push_toArray, List.append_toArray, List.nil_append, List.cons_append]
  refine wpIn_wide.2 ?_
  go_wp2_with fail
  rw [← hW0]
  refine HP.out.mono ?_
  rintro e w1 ⟨v, R, rfl, hs, hb1, hR⟩
  have hsq := hs
  obtain ⟨gf, lb, rfl, en, hRl, _⟩ := hs
  have SQ := Lib.hid hsq
  have EN := Lib.hid en
  have HK1 := Lib.hid (HK0.out.below hb1 HK0.out.lt)
  have HB1 := Lib.hid (HB0.out.trans (hb1.mono HB0.out.size))
  have HRx : Hid (∀ b, R b → b ≠ w.heap.size) := Lib.hid (fun b hb e => by
    subst e
    rcases hR _ hb with h | h
    · have := HD.out _ h; omega
    · have := HK0.out.lt; omega)
  have hxs : w.heap.size < w1.heap.size := HK1.out.lt
  obtain ⟨x0, hx0⟩ : ∃ x0, x0 = w.heap.size := ⟨_, rfl⟩
  have HX0 := Lib.hid hx0
  rw [← hx0] at HK1 HRx hxs ⊢
  clear hsq en hRl hb1 hR hx0 hW0 HP HK0
  go_wp2
  refine (wpIn_wide (n := 9)).1 ?_
  refine' wpIn_rangeFunc_ownG (α := Int) rfl (by omega) (gf := gf) (lb := lb) rfl trivial EN.out
    SQ.out.seq (fun h k => h.trans k) (stay_b SQ.out.lt) (Below.refl _ _) (fun _ => rfl)
    (fun pre W => Blk W x0 3 #[.int .i64 ((pre.length : Int) - 1)] ∧ Only w1 W x0)
    (fun c pre W => False)
    (OwnFrom.and (own_blk _ x0 _ (fun pre : List Int => .int .i64 ((pre.length : Int) - 1))) (own_only w1 x0))
    (fun c => fun s A B row hs hg hr => hs)
    ⟨by simpa using HK1.out, Only.refl _ _⟩
    _ ?assign ?body ?done ?stop
  case assign =>
    intro l x W K hK
    gi_wp2
    exact hK
  case body =>
    rintro lp pre y V ⟨hbx, hOnly⟩ hlt
    obtain ⟨z, hz⟩ : ∃ z, z = (pre.length : Int) - 1 := ⟨_, rfl⟩
    have hz1 : -1 ≤ z ∧ z ≤ 32 := by have := HLe.out; omega
    have HZ := Lib.hid hz
    rw [← hz] at hbx
    have cx : V.cell? ⟨x0, 0, none⟩ = some (.int .i64 z) := by rw [hbx.cell]; rfl
    have fx : V.frozen? ⟨x0, 0, none⟩ = false := hbx.frozen 0
    have HBx := Lib.hid hbx
    clear hbx hz
    gi_wp2
    exact ⟨(KeepsOthers.setCell _ _ _).from _, stay_set (fun h => HRx.out _ h rfl), by
      have := blk_put HBx.out (.int .i64 (z + 1))
      rw [List.length_append, show ((pre.length + [y].length : Nat) : Int) - 1 = z + 1 by rw [HZ.out]; simp]; exact this, hOnly.set _ _⟩
  case stop =>
    rintro D cc pre V hD hpre hf hK
    exact hf.elim
  case done =>
    rintro D ys V hD rfl ⟨hbx, hOnly⟩ hK
    obtain ⟨z, hz⟩ : ∃ z, z = (ys.length : Int) - 1 := ⟨_, rfl⟩
    have HDi : Hid ((ys.length : Int) - 1 = z) := Lib.hid hz.symm
    rw [← hz] at hbx
    have cx : V.cell? ⟨x0, 0, none⟩ = some (.int .i64 z) := by rw [hbx.cell]; rfl
    clear hbx hz
    go_wp2
    have hlD : D < V.heap.size := by
      rcases Nat.lt_or_ge D V.heap.size with h1 | h1
      · exact h1
      · rw [Array.getElem?_eq_none h1] at hK; cases hK
    refine Marks.leave (B := w1.heap.size) [_] _ ⟨D, rfl, hD, hlD, hK, by simp, trivial⟩ (fun W' hb => ?_)
    refine ⟨.int .i64 z, by simp [results, Try.f69, go_sem], by rw [HDi.out], ?_⟩
    have h1 := Only.below HB1.out hOnly (by rw [HX0.out]; exact Nat.le_refl _) HB1.out.size
    exact h1.trans (hb.mono HB1.out.size)
theorem dist_any (T g : Nat) (ps : List Int) (a b : Int) (w : World) (h : IsTr w T g ps) (G : Gr.Good ps) (hlen : (pathI ps a b).length ≤ 32) :
    Calls Try.prog 69 #[.pointer (some ⟨T, 0, none⟩), .int .i64 a, .int .i64 b] w fun e w' => e = .returned (.int .i64 (distI ps a b)) ∧ Below w.heap.size w w' :=
  dist_val _ (TrB T g) _ a b w h.lt hlen fun W hW => path_code T g ps a b W (h.below_ hW) G
end Go.Proofs.Ytiaafhcfeeekeaa.Pk

/- So near are just a node itself and its neighbours; the landed clauses of a state that can be. -/
namespace Go.Proofs.Ytiaafhcfeeekeaa.Gr
set_option linter.unusedVariables false
theorem Good.dist_le_one {ps : List Int} (G : Good ps) {a b : Nat} (ha : a < ps.length) (hb : b < ps.length) : distL ps a b ≤ 1 ↔ (a = b ∨ nearL ps b a = true) := by
  constructor
  · intro h
    by_cases hab : a = b
    · exact .inl hab
    · obtain ⟨v, hv, hn, hd⟩ := G.rt.nearer _ a b ha hb hab (Nat.le_refl _)
      have h2 : distL ps v b + 1 = distL ps a b := hd
      have h3 : distL ps v b = 0 := by omega
      have h4 : v = b := G.rt.dist_zero hv hb h3
      subst h4
      exact .inr ((G.near_iff hv ha).2 hn)
  · rintro (h | h)
    · subst h
      have : distL ps a a = 0 := dist_self a
      omega
    · have hn := (G.near_iff hb ha).1 h
      have h0 : distL ps b b = 0 := dist_self b
      rcases G.rt.step hb ha hb hn with h1 | h1
      · have h1 : distL ps b b = distL ps a b + 1 := h1
        omega
      · have h1 : distL ps a b = distL ps b b + 1 := h1
        omega
theorem Good.dist_near {ps : List Int} (G : Good ps) {me : Int} (h0 : 0 ≤ me) (h1 : me < (ps.length : Int)) (a : Int) : (0 ≤ Pk.distI ps me a ∧ Pk.distI ps me a ≤ 1) ↔ (a = me ∨ a ∈ Pk.nbsI ps me) := by
  unfold Pk.distI pathI
  by_cases ha : 0 ≤ a ∧ a < (ps.length : Int)
  · rw [if_pos ⟨⟨h0, h1⟩, ha⟩]
    have k0 : me.toNat < ps.length := by omega
    have k1 : a.toNat < ps.length := by omega
    simp only [ints, List.length_map]
    rw [G.pathN_len k0 k1]
    have h := G.dist_le_one k0 k1
    constructor
    · intro hd
      rcases h.1 (by omega) with e | e
      · exact .inl (by omega)
      · right
        unfold Pk.nbsI
        rw [if_pos ⟨h0, h1⟩]
        unfold Pk.nbs
        exact List.mem_map.2 ⟨a.toNat, List.mem_filter.2 ⟨List.mem_range.2 k1, e⟩, by omega⟩
    · intro hd
      have : distL ps me.toNat a.toNat ≤ 1 := by
        refine h.2 ?_
        rcases hd with e | e
        · exact .inl (by omega)
        · right
          unfold Pk.nbsI at e
          rw [if_pos ⟨h0, h1⟩] at e
          unfold Pk.nbs at e
          obtain ⟨u, hu, e2⟩ := List.mem_map.1 e
          have h3 := (List.mem_filter.1 hu).2
          have : a.toNat = u := by omega
          rw [this]; exact h3
      omega
  · rw [if_neg (fun h => ha h.2)]
    simp only [List.length_nil]
    constructor
    · intro h; omega
    · rintro (e | e)
      · omega
      · exfalso
        unfold Pk.nbsI at e
        rw [if_pos ⟨h0, h1⟩] at e
        unfold Pk.nbs at e
        obtain ⟨u, hu, e2⟩ := List.mem_map.1 e
        have := List.mem_range.1 (List.mem_filter.1 hu).1
        omega
end Go.Proofs.Ytiaafhcfeeekeaa.Gr

/- The document's answers (fletchref13): Open. -/
namespace Go.Proofs.Ytiaafhcfeeekeaa.Pk
open Go.RowKit
set_option linter.unusedVariables false
attribute [local go_sem] Oper.semAt_some




























































end Go.Proofs.Ytiaafhcfeeekeaa.Pk

/- What package chain's Good and Open promise (to be proved of the code that lands). -/
namespace Go.Proofs.Ytiaafhcfeeekeaa.Pk
open Go.RowKit
set_option linter.unusedVariables false
def J64 (x : Int) : Prop := -9223372036854775808 ≤ x ∧ x ≤ 9223372036854775807
def GoodP : Prop := ∀ (A : Option Addr) (n c : Nat) (l : List Ce) (me : Int) (sink : Bool) (w : World), InK w l A n c → J64 me →
  Calls Try.prog 70 #[.slice A n c, .int .i64 me, .bool sink] w fun e w' => e = .returned (.bool (decide (GoodK l me sink))) ∧ Below w.heap.size w w'
def OpenP : Prop := ∀ (A : Option Addr) (n c : Nat) (l : List Ce) (w : World), InK w l A n c →
  Calls Try.prog 53 #[.slice A n c] w fun e w' => e = .returned (.int .i64 (openK l : Nat)) ∧ Below w.heap.size w w'
end Go.Proofs.Ytiaafhcfeeekeaa.Pk
