/- The change's push: one more message on the edge to a neighbour. -/
import Derived.Test.YtiaafhcfeeekeaaZMgApp
import Derived.Test.YtiaafhcfeeekeaaZHfPush
import Derived.Deep.RegionHeld3
import Derived.Deep.DeepMust
import Derived.BigRegion
import Derived.Test.YtiaafhcfeeekeaaZChSpec
import Derived.Lib.AppendZeros
import Derived.Lib.SliceRun
import Derived.Test.YtiaafhcfeeekeaaZGmMath
import Derived.Test.YtiaafhcfeeekeaaZChRef4
namespace Go.Proofs.Ytiaafhcfeeekeaa.Pk
open Go.RowKit Go.Proofs.Ytiaafhcfeeekeaa.Gr
set_option linter.unusedVariables false
theorem partE_few {ps : List Int} {s : St} (G : Gr.Good ps) (hE : PartE ps s) : s.es.length ≤ 32 := by
  have e := congrArg List.length hE.1
  rw [List.length_map] at e
  rw [e]
  unfold nbsI
  split
  · exact Nat.le_trans (nbs_len _ _ _) G.few
  · simp
theorem side_at {s : StL} {i : Nat} {o : SdL} (h : s.es[i]? = some o) : sideA s.v i = o.v := by
  unfold sideA StL.v
  rw [List.getD_eq_getElem?_getD, List.getElem?_map, h]; rfl
theorem obj_at {s : StL} {i : Nat} {o : OwL} (h : s.os[i]? = some o) : objA s.v i = o.v := by
  unfold objA StL.v
  rw [List.getD_eq_getElem?_getD, List.getElem?_map, h]; rfl
theorem OwnG.row {w : World} {B : Nat} {v : Value} {l : List Mg} (h : OwnG w B v l) : mgR.Own w B v l := Row.own_of rfl h
theorem OwnK.row {w : World} {B : Nat} {v : Value} {l : List Ce} (h : OwnK w B v l) : ceR.Own w B v l := Row.own_of rfl h
/-- A side of a state under way, handed over. -/
theorem Chg.inH {w : World} {B p T g : Nat} {ps : List Int} {s : StL} (h : Chg w B p T g ps s) {i : Nat} {o : SdL} (hi : s.es[i]? = some o) (hE : PartE ps s.v) : InH w o.v o.s.A o.s.n o.s.c := by
  have hm : o ∈ s.es := List.mem_of_getElem? hi
  have hb := (hE.2 o.v (List.mem_map.2 ⟨o, hm, rfl⟩)).1
  obtain ⟨h1, h2, h3⟩ := Row.Own.rd (h.own.es.each o hm)
  refine ⟨h3, h2, ?_, hb.i⟩
  have := hb.2.2.2.2.2.1
  omega
set_option maxRecDepth 100000 in
set_option maxHeartbeats 4000000 in
theorem push_frm {w : World} {B p T g : Nat} {ps : List Int} {s : StL} (h : Chg w B p T g ps s) (G : Gr.Good ps) (hE : PartE ps s.v) {to : Int} {m : Mg} {i : Nat} (hi : edgeAt s.v to = some i) (hm : m.I) :
    Calls Try.prog 77 #[.pointer (some ⟨p, 0, none⟩), .int .i64 to, m.val] w fun e w' => e = .returned (.int .i64 (pushS s.v to m).2) ∧ ∃ s2, Chg w' B p T g ps s2 ∧ s2.v = (pushS s.v to m).1 ∧ Below B w w' ∧ Frm w w' p s ∧ s2.so = s.so ∧ Sub w s s2 := by
  have hil : i < s.es.length := by have := (edgeAt_some hi).1; simpa [StL.v] using this
  have hgi : s.es[i]? = some s.es[i] := List.getElem?_eq_getElem hil
  obtain ⟨o, ho⟩ : ∃ o, o = s.es[i] := ⟨_, rfl⟩
  rw [← ho] at hgi
  have hlen : s.es.length ≤ 32 := by have := partE_few G hE; simpa [StL.v] using this
  have hsn : s.es.length = s.se.n := (Row.Own.rd h.own.es.row).1
  obtain ⟨q, hq⟩ : ∃ q, q = w.heap.size := ⟨_, rfl⟩
  obtain ⟨W1, hW1⟩ : ∃ W, W = w.alloc (.cells m.val.cells 30) := ⟨_, rfl⟩
  have hb1 : Below w.heap.size w W1 := hW1 ▸ (Below.refl _ _).alloc (Nat.le_refl _) _
  have h1 := h.below hb1
  have HQ : Hid (Blk W1 q 30 m.val.cells) := Lib.hid (by rw [hW1, hq]; exact Blk.new w _ _)
  have HB : Hid (B ≤ w.heap.size) := Lib.hid h.sz
  have HB1 := Lib.hid hb1
  have HC1 := Lib.hid h1
  have HEd := Lib.hid (edge_any h1 hi (by omega))
  have HEp := Lib.hid hE
  have HG := Lib.hid hgi
  have HP : Hid (pushS s.v to m = if (hpush o.v m).2 = 0 then (setE s.v i (hpush o.v m).1, 0) else (s.v, (hpush o.v m).2)) := Lib.hid (by unfold pushS; rw [hi]; simp only [side_at hgi])
  have HM := Lib.hid hm
  clear h hE hi hm ho hgi hb1 h1 hil
  obtain ⟨mk, mo, mn, mu, mv⟩ := m
  simp only [Mg.val, Value.cells] at HQ hW1 ⊢
  go_enter Try.func77, Try.ntmps77
  go_wp2_with fail
  rw [← hW1, ← hq]
  clear hW1 hq
  refine HEd.out.mono ?_
  rintro e w2 ⟨go, hgo, rfl, hb2⟩
  have h2 := HC1.out.below hb2
  have hQ2 := HQ.out.below hb2 HQ.out.lt
  obtain ⟨go', e1, g1, g2, g3, g4, g5, g6, g7, g8, c0, c1, c2, c3⟩ := h2.side HG.out
  obtain rfl : go = go' := by rw [hgo] at e1; injection e1 with e1; injection e1
  have hin := h2.inH HG.out HEp.out
  have HCg := Lib.hid h2
  obtain ⟨⟨⟨rp, rb, ro, rs⟩, er⟩, hR⟩ : ∃ R, R = hpush o.v ⟨mk, mo, mn, mu, mv⟩ := ⟨_, rfl⟩
  have HR := Lib.hid hR
  rw [← hR] at HP
  have HPu : Hid (∀ W, Below w2.heap.size w2 W → Calls Try.prog 95 #[o.v.val (.slice o.s.A o.s.n o.s.c), .agg #[.int .i64 mk, .int .i64 mo, .int .i64 mn, .int .i64 mu, .int .i64 mv]] W fun e w' => ∃ A5 n5 k5, e = .returned (.tuple #[.agg #[.int .i64 rp, .int .i64 rb, .slice A5 n5 k5, .int .i64 rs], .int .i64 er]) ∧ mgR.Own w' W.heap.size (.slice A5 n5 k5) ro ∧ Below w2.heap.size w2 w' ∧ Below W.heap.size W w') := Lib.hid (fun W hW => (pushH o.v _ o.s.A o.s.n o.s.c W (hin.next hW) HM.out).mono fun e w' ⟨v, e1, e2, e3⟩ => by
    rw [← HR.out] at e1 e2
    have e4 := OwnG.row e2
    obtain ⟨A5, k5, e5⟩ := Row.Own.sl e4
    rw [e5] at e1 e4
    exact ⟨A5, _, k5, e1, e4, hW.trans (e3.mono hW.size), e3⟩)
  have HO : Hid (∃ z, z = o) := Lib.hid ⟨o, rfl⟩
  obtain ⟨z, hz⟩ := HO.out
  rw [← hz] at HG
  have HZ := Lib.hid hz
  have hx : (w2.cell? ⟨go, i * 4, none⟩ = some (.int .i64 o.v.p) ∧ w2.cell? ⟨go, i * 4 + 1, none⟩ = some (.int .i64 o.v.b) ∧ w2.cell? ⟨go, i * 4 + 2, none⟩ = some o.s.val ∧ w2.cell? ⟨go, i * 4 + 3, none⟩ = some (.int .i64 o.v.s)) := ⟨c0, c1, c2, c3⟩
  obtain ⟨⟨op, ob, oo, os_⟩, ⟨oA, on, oc⟩⟩ := o
  simp only [Hf.val, Sl.val] at HPu hx c0 c1 c2 c3
  have HX : Hid (∀ W, Below w2.heap.size w2 W → (W.cell? ⟨go, i * 4, none⟩ = some (.int .i64 op) ∧ W.cell? ⟨go, i * 4 + 1, none⟩ = some (.int .i64 ob) ∧ W.cell? ⟨go, i * 4 + 2, none⟩ = some (.slice oA on oc) ∧ W.cell? ⟨go, i * 4 + 3, none⟩ = some (.int .i64 os_)) ∧ W.cell? ⟨q, 0, none⟩ = some (.int .i64 mk) ∧ W.cell? ⟨q, 1, none⟩ = some (.int .i64 mo) ∧ W.cell? ⟨q, 2, none⟩ = some (.int .i64 mn) ∧ W.cell? ⟨q, 3, none⟩ = some (.int .i64 mu) ∧ W.cell? ⟨q, 4, none⟩ = some (.int .i64 mv)) := Lib.hid (fun W hW => by
    have hq := hQ2.below hW hQ2.lt
    exact ⟨⟨(hW.cell (p := ⟨go, i * 4, none⟩) g2).trans hx.1, (hW.cell (p := ⟨go, i * 4 + 1, none⟩) g2).trans hx.2.1, (hW.cell (p := ⟨go, i * 4 + 2, none⟩) g2).trans hx.2.2.1, (hW.cell (p := ⟨go, i * 4 + 3, none⟩) g2).trans hx.2.2.2⟩, hq.cell 0, hq.cell 1, hq.cell 2, hq.cell 3, hq.cell 4⟩)
  have HB2 := Lib.hid (HB1.out.trans (hb2.mono HB1.out.size))
  have HSe : Hid (s.se = ⟨some ⟨go, 0, none⟩, s.se.n, s.se.c⟩) := Lib.hid (by cases hse : s.se; rw [hse] at hgo; simp only at hgo; rw [hgo])
  have HGl : Hid (go < w2.heap.size ∧ go ≠ p) := Lib.hid ⟨g2, g3⟩
  clear hR hz hin h2 g3 g4 g5 g6 g7 c0 c1 c2 c3 hx HO hb2 hQ2 hsn hlen e1 hgo
  go_wp2_with fail
  have X0 := HX.out w2.drew (below_drewC (Below.refl w2.heap.size w2) 1)
  have X1 := HX.out ((w2.alloc (.cells #[.int .i64 0, .int .i64 0, .slice none 0 0, .int .i64 0] 50)).drew) (below_drewC ((Below.refl w2.heap.size w2).alloc (Nat.le_refl _) _) 1)
  have HD0 : Hid (Below w2.heap.size w2 w2.drew) := Lib.hid (below_drewC (Below.refl w2.heap.size w2) 1)
  have HD1 : Hid (Below w2.heap.size w2 ((w2.alloc (.cells #[.int .i64 0, .int .i64 0, .slice none 0 0, .int .i64 0] 50)).drew)) := Lib.hid (below_drewC ((Below.refl w2.heap.size w2).alloc (Nat.le_refl _) _) 1)
  have HN1 : Hid (Blk ((w2.alloc (.cells #[.int .i64 0, .int .i64 0, .slice none 0 0, .int .i64 0] 50)).drew) w2.heap.size 50 #[.int .i64 0, .int .i64 0, .slice none 0 0, .int .i64 0]) := Lib.hid (Blk.new w2 _ _)
  go_region_held3 (fun W : World => (W.cell? ⟨go, i * 4, none⟩ = some (.int .i64 op) ∧ W.cell? ⟨go, i * 4 + 1, none⟩ = some (.int .i64 ob) ∧ W.cell? ⟨go, i * 4 + 2, none⟩ = some (.slice oA on oc) ∧ W.cell? ⟨go, i * 4 + 3, none⟩ = some (.int .i64 os_)) ∧ W.cell? ⟨q, 0, none⟩ = some (.int .i64 mk) ∧ W.cell? ⟨q, 1, none⟩ = some (.int .i64 mo) ∧ W.cell? ⟨q, 2, none⟩ = some (.int .i64 mn) ∧ W.cell? ⟨q, 3, none⟩ = some (.int .i64 mu) ∧ W.cell? ⟨q, 4, none⟩ = some (.int .i64 mv)) (first | with_reducible exact X0 | with_reducible exact X1 | with_reducible exact Y0 | with_reducible exact Y1 | with_reducible exact Y2 | go_keep) (first
    | (go_at_call 95; (refine (HPu.out w2.drew HD0.out).mono ?_); rintro e w3 ⟨A5, n5, k5, rfl, ho5, hb5, hb6⟩; have Y0 := HX.out w3 hb5; have Y1 := HX.out (w3.alloc (.cells #[.int .i64 0, .int .i64 0, .slice none 0 0, .int .i64 0] 50)) (hb5.alloc hb5.size (.cells #[.int .i64 0, .int .i64 0, .slice none 0 0, .int .i64 0] 50)); have HO5 := Lib.hid ho5; have HB5 := Lib.hid hb5; have HB6 := Lib.hid hb6; have Y2 := HX.out (w3.alloc (.cells #[.int .i64 rp, .int .i64 rb, .slice A5 n5 k5, .int .i64 rs] 50)) (hb5.alloc hb5.size _); clear ho5 hb5 hb6)
    | (go_at_call 95; (refine (HPu.out ((w2.alloc (.cells #[.int .i64 0, .int .i64 0, .slice none 0 0, .int .i64 0] 50)).drew) HD1.out).mono ?_); rintro e w3 ⟨A5, n5, k5, rfl, ho5, hb5, hb6⟩; have Y0 := HX.out w3 hb5; have Y1 := HX.out (w3.alloc (.cells #[.int .i64 0, .int .i64 0, .slice none 0 0, .int .i64 0] 50)) (hb5.alloc hb5.size (.cells #[.int .i64 0, .int .i64 0, .slice none 0 0, .int .i64 0] 50)); have HO5 := Lib.hid ho5; have HB5 := Lib.hid hb5; have HB6 := Lib.hid hb6; have hk := HN1.out.below hb6 HN1.out.lt; have v0 : w3.cell? ⟨w2.heap.size, 0, none⟩ = some (.int .i64 0) := hk.cell 0; have v1 : w3.cell? ⟨w2.heap.size, 1, none⟩ = some (.int .i64 0) := hk.cell 1; have v2 : w3.cell? ⟨w2.heap.size, 2, none⟩ = some (.slice none 0 0) := hk.cell 2; have v3 : w3.cell? ⟨w2.heap.size, 3, none⟩ = some (.int .i64 0) := hk.cell 3; have vf : ∀ j, w3.frozen? ⟨w2.heap.size, j, none⟩ = false := hk.frozen; have HK := Lib.hid hk; have Y2 := HX.out ((((w3.setCell ⟨w2.heap.size, 0, none⟩ (.int .i64 rp)).setCell ⟨w2.heap.size, 1, none⟩ (.int .i64 rb)).setCell ⟨w2.heap.size, 2, none⟩ (.slice A5 n5 k5)).setCell ⟨w2.heap.size, 3, none⟩ (.int .i64 rs)) (below_setc (below_setc (below_setc (below_setc hb5 (Nat.le_refl _) _ _) (Nat.le_refl _) _ _) (Nat.le_refl _) _ _) (Nat.le_refl _) _ _); clear ho5 hb5 hb6 hk))
  · obtain ⟨b8, hb8⟩ : ∃ b, b = w3.heap.size := ⟨_, rfl⟩
    obtain ⟨W9, hW9⟩ : ∃ W, W = (w3.alloc (.cells #[.int .i64 rp, .int .i64 rb, .slice A5 n5 k5, .int .i64 rs] 50)) := ⟨_, rfl⟩
    have hb9 : Below w2.heap.size w2 W9 := hW9 ▸ HB5.out.alloc HB5.out.size _
    have HK9 : Hid (Blk W9 b8 50 #[.int .i64 rp, .int .i64 rb, .slice A5 n5 k5, .int .i64 rs]) := Lib.hid (by rw [hW9, hb8]; exact Blk.new w3 _ _)
    have HO9 : Hid (mgR.Own W9 w2.heap.size (.slice A5 n5 k5) ro) := Lib.hid (by rw [hW9]; exact (HO5.out.alloc _).low HD0.out.size)
    rw [← hW9, ← hb8]
    clear hW9 hb8 Y0 Y1 Y2
    have HB9 := Lib.hid hb9
    have h9 := HCg.out.below hb9
    obtain ⟨go', e1, -, hg9, -, hc9, -, -, -, hf9, y0, y1, y2, y3⟩ := h9.side HG.out
    have HFr9 : Hid (Frm w W9 p s ∧ ownB s.se.val = some go) := Lib.hid ⟨Frm.below (HB2.out.trans (hb9.mono HB2.out.size)), by rw [HSe.out]; exact ownB_some hc9⟩
    clear hc9
    obtain rfl : go = go' := by rw [HSe.out] at e1; injection e1 with e1; injection e1
    rw [HZ.out] at y0 y1 y2 y3
    simp only [Sl.val] at y0 y1 y2 y3
    have HPut := Lib.hid (HCg.out.putE (o' := ⟨⟨rp, rb, ro, rs⟩, ⟨A5, n5, k5⟩⟩) HG.out HSe.out hb9 HO9.out)
    simp only [Sl.val] at HPut
    have z0 : W9.cell? ⟨b8, 0, none⟩ = some (.int .i64 rp) := HK9.out.cell 0
    have z1 : W9.cell? ⟨b8, 1, none⟩ = some (.int .i64 rb) := HK9.out.cell 1
    have z2 : W9.cell? ⟨b8, 2, none⟩ = some (.slice A5 n5 k5) := HK9.out.cell 2
    have z3 : W9.cell? ⟨b8, 3, none⟩ = some (.int .i64 rs) := HK9.out.cell 3
    have HC9 := Lib.hid h9
    clear hb9 h9 e1 g8 g2 hg9 X0 X1
    by_cases her : er = 0
    · have t1 : (er == 0) = true := by simpa using her
      have HP0 : Hid (pushS s.v to ⟨mk, mo, mn, mu, mv⟩ = (setE s.v i ⟨rp, rb, ro, rs⟩, 0)) := Lib.hid (by rw [HP.out, if_pos her])
      subst her
      clear HP
      go_wp2
      go_ret
      rw [HP0.out]
      refine ⟨rfl, _, HPut.out.1, ?_, ?_, ((((HFr9.out.1.set (mem_stV.2 (.inr (.inr (.inl rfl)))) HFr9.out.2).set (mem_stV.2 (.inr (.inr (.inl rfl)))) HFr9.out.2).set (mem_stV.2 (.inr (.inr (.inl rfl)))) HFr9.out.2).set (mem_stV.2 (.inr (.inr (.inl rfl)))) HFr9.out.2), rfl, Sub.setE (HO9.out.fresh_ HB2.out.size)⟩
      · unfold StL.v setE; simp [List.map_set]
      · exact (HB2.out.mono HB.out).trans (HPut.out.2)
    · have t1 : (er == 0) = false := by simpa using her
      have HP0 : Hid (pushS s.v to ⟨mk, mo, mn, mu, mv⟩ = (s.v, er)) := Lib.hid (by rw [HP.out, if_neg her])
      clear her HP
      go_wp2
      go_ret
      rw [HP0.out]
      exact ⟨rfl, s, HC9.out, rfl, (HB2.out.mono HB.out).trans (HB9.out.mono (Nat.le_trans HB.out HB2.out.size)), HFr9.out.1, rfl, Sub.refl _ _⟩
  · obtain ⟨b8, hb8⟩ : ∃ b, b = w2.heap.size := ⟨_, rfl⟩
    obtain ⟨W9, hW9⟩ : ∃ W, W = ((((w3.setCell ⟨w2.heap.size, 0, none⟩ (.int .i64 rp)).setCell ⟨w2.heap.size, 1, none⟩ (.int .i64 rb)).setCell ⟨w2.heap.size, 2, none⟩ (.slice A5 n5 k5)).setCell ⟨w2.heap.size, 3, none⟩ (.int .i64 rs)) := ⟨_, rfl⟩
    have hb9 : Below w2.heap.size w2 W9 := hW9 ▸ below_setc (below_setc (below_setc (below_setc HB5.out (Nat.le_refl _) _ _) (Nat.le_refl _) _ _) (Nat.le_refl _) _ _) (Nat.le_refl _) _ _
    have HK9 : Hid (Blk W9 b8 50 #[.int .i64 rp, .int .i64 rb, .slice A5 n5 k5, .int .i64 rs]) := Lib.hid (by rw [hW9, hb8]; exact (((HK.out.set 0 _).set 1 _).set 2 _).set 3 _)
    have HO9 : Hid (mgR.Own W9 w2.heap.size (.slice A5 n5 k5) ro) := Lib.hid (by
      have hs : w2.heap.size < (w2.alloc (.cells #[.int .i64 0, .int .i64 0, .slice none 0 0, .int .i64 0] 50)).drew.heap.size := by rw [size_drew, World.size_alloc]; omega
      rw [hW9]
      refine (HO5.out.stay fun x hx => ?_).low HD1.out.size
      have hne : x ≠ w2.heap.size := by have := HO5.out.base x hx; omega
      rw [setc_other _ _ _ _ _ hne, setc_other _ _ _ _ _ hne, setc_other _ _ _ _ _ hne, setc_other _ _ _ _ _ hne])
    rw [← hW9, ← hb8]
    clear hW9 hb8 Y0 Y1 Y2 v0 v1 v2 v3 vf
    have HB9 := Lib.hid hb9
    have h9 := HCg.out.below hb9
    obtain ⟨go', e1, -, hg9, -, hc9, -, -, -, hf9, y0, y1, y2, y3⟩ := h9.side HG.out
    have HFr9 : Hid (Frm w W9 p s ∧ ownB s.se.val = some go) := Lib.hid ⟨Frm.below (HB2.out.trans (hb9.mono HB2.out.size)), by rw [HSe.out]; exact ownB_some hc9⟩
    clear hc9
    obtain rfl : go = go' := by rw [HSe.out] at e1; injection e1 with e1; injection e1
    rw [HZ.out] at y0 y1 y2 y3
    simp only [Sl.val] at y0 y1 y2 y3
    have HPut := Lib.hid (HCg.out.putE (o' := ⟨⟨rp, rb, ro, rs⟩, ⟨A5, n5, k5⟩⟩) HG.out HSe.out hb9 HO9.out)
    simp only [Sl.val] at HPut
    have z0 : W9.cell? ⟨b8, 0, none⟩ = some (.int .i64 rp) := HK9.out.cell 0
    have z1 : W9.cell? ⟨b8, 1, none⟩ = some (.int .i64 rb) := HK9.out.cell 1
    have z2 : W9.cell? ⟨b8, 2, none⟩ = some (.slice A5 n5 k5) := HK9.out.cell 2
    have z3 : W9.cell? ⟨b8, 3, none⟩ = some (.int .i64 rs) := HK9.out.cell 3
    have HC9 := Lib.hid h9
    clear hb9 h9 e1 g8 g2 hg9 X0 X1
    by_cases her : er = 0
    · have t1 : (er == 0) = true := by simpa using her
      have HP0 : Hid (pushS s.v to ⟨mk, mo, mn, mu, mv⟩ = (setE s.v i ⟨rp, rb, ro, rs⟩, 0)) := Lib.hid (by rw [HP.out, if_pos her])
      subst her
      clear HP
      go_wp2
      go_ret
      rw [HP0.out]
      refine ⟨rfl, _, HPut.out.1, ?_, ?_, ((((HFr9.out.1.set (mem_stV.2 (.inr (.inr (.inl rfl)))) HFr9.out.2).set (mem_stV.2 (.inr (.inr (.inl rfl)))) HFr9.out.2).set (mem_stV.2 (.inr (.inr (.inl rfl)))) HFr9.out.2).set (mem_stV.2 (.inr (.inr (.inl rfl)))) HFr9.out.2), rfl, Sub.setE (HO9.out.fresh_ HB2.out.size)⟩
      · unfold StL.v setE; simp [List.map_set]
      · exact (HB2.out.mono HB.out).trans (HPut.out.2)
    · have t1 : (er == 0) = false := by simpa using her
      have HP0 : Hid (pushS s.v to ⟨mk, mo, mn, mu, mv⟩ = (s.v, er)) := Lib.hid (by rw [HP.out, if_neg her])
      clear her HP
      go_wp2
      go_ret
      rw [HP0.out]
      exact ⟨rfl, s, HC9.out, rfl, (HB2.out.mono HB.out).trans (HB9.out.mono (Nat.le_trans HB.out HB2.out.size)), HFr9.out.1, rfl, Sub.refl _ _⟩
theorem push_any {w : World} {B p T g : Nat} {ps : List Int} {s : StL} (h : Chg w B p T g ps s) (G : Gr.Good ps) (hE : PartE ps s.v) {to : Int} {m : Mg} {i : Nat} (hi : edgeAt s.v to = some i) (hm : m.I) :
    Calls Try.prog 77 #[.pointer (some ⟨p, 0, none⟩), .int .i64 to, m.val] w fun e w' => e = .returned (.int .i64 (pushS s.v to m).2) ∧ ∃ s2, Chg w' B p T g ps s2 ∧ s2.v = (pushS s.v to m).1 ∧ Below B w w' :=
  (push_frm h G hE hi hm).mono fun e w' ⟨h1, s2, h2, h3, h4, _⟩ => ⟨h1, s2, h2, h3, h4⟩
end Go.Proofs.Ytiaafhcfeeekeaa.Pk

/- The library's slices.Grow of nothing and slices.Concat, of cells. -/
namespace Go.Proofs.Ytiaafhcfeeekeaa.Pk
open Go.RowKit
set_option linter.unusedVariables false
theorem run_appZK (w : World) (ty : TypeId) (n : Nat) (h0 : 0 < n) (hn : n * 32 ≤ 281474976710656) : ∃ c cur, n ≤ c ∧ c ≤ maxLen ∧ cur.size = c * 4 ∧
    (Builtin.append_ #[53, 3] ty #[.slice none 0 0, .int .i64 (n : Int)]).run Try.prog w = .ok (.slice (some ⟨w.heap.size, 0, none⟩) n c) (w.drew.alloc (.cells cur 57)) := by
  obtain ⟨i0, hi0, hz0, hz1, hz2⟩ := info_parts cell_info
  have h := Lib.run_append_nil_zeros (P := Try.prog) w 53 3 ty 57 i0 _ .i64 .i64 Try.underlying53 Try.underlying3 hi0 hz0 n h0 (by omega) (by omega) (by rw [hz2]; omega)
  have hle := grownCap_ge w n 0 57
  have hmx := grownCap_le_maxLen w n 0 57 (by unfold maxLen; omega)
  refine ⟨_, _, hle, hmx, ?_, h⟩
  have hzc : (Value.agg #[.int .i64 0, .int .i64 0, .int .i64 0, .int .i64 0]).cells.size = 4 := rfl
  rw [Array.size_append, size_zeroCells, size_zeroCells, hzc]
  omega
theorem run_headK {P : Program} {t e : TypeId} (ht : P.underlying t = some (.slice e)) (hi : (P.info? e).map (·.size) = some 4) (a : Option Addr) (n c : Nat) (w : World) :
    (Instr.slice t (.slice a n c) none (some (.int .i64 0)) none).run P w = .ok (.slice a 0 c) w := by
  obtain ⟨f, hi1, hi2⟩ := Option.map_eq_some_iff.1 hi
  cases a <;> simp [Instr.slice, run_underlying ht, go_sem, Instr.sliceBounds, sizeOf, typeInfo, hi1, Addr.add]

set_option maxRecDepth 100000 in
set_option maxHeartbeats 1600000 in
theorem growK (n : Nat) (hn : n * 32 ≤ 281474976710656) (w : World) :
    Calls Try.prog 96 #[.slice none 0 0, .int .i64 (n : Int)] w fun e w' => ∃ v, e = .returned v ∧ OwnK w' w.heap.size v [] ∧ Below w.heap.size w w' := by
  have kz : ∀ u : World, (Instr.slice 53 (.slice none 0 0) none (some (.int .i64 0)) none).run Try.prog u = .ok (.slice none 0 0) u := fun u => run_headK Try.underlying53 (by kernel_rfl) none 0 0 u
  by_cases h0 : 0 < n
  · obtain ⟨c, cur, h1, h2, h3, h4⟩ := run_appZK w 53 n h0 hn
    have kc : ∀ u : World, (Instr.slice 53 (.slice (some ⟨w.heap.size, 0, none⟩) n c) none (some (.int .i64 0)) none).run Try.prog u = .ok (.slice (some ⟨w.heap.size, 0, none⟩) 0 c) u := fun u => run_headK Try.underlying53 (by kernel_rfl) _ n c u
    have H1 := Lib.hid h1
    have H2 := Lib.hid h2
    have H3 := Lib.hid h3
    clear h1 h2 h3
    go_enter Try.func96, Try.ntmps96
    go_wp2_with (at_builtin; refine Lib.wpList_append_run _ rfl _ _ _ _ rfl _ _ rfl rfl _ _ h4 ?_)
    go_ret
    refine ⟨_, rfl, ⟨rfl, .inr ⟨w.heap.size, c, cur, rfl, Nat.le_refl _, heap_alloc_new w.drew _, Nat.zero_le _, H2.out, H3.out, rfl⟩⟩, ?_⟩
    exact (⟨rfl, rfl, rfl, Nat.le_refl _, fun _ _ => rfl⟩ : Below w.heap.size w w.drew).alloc (Nat.le_refl _) _
  · obtain rfl : n = 0 := by omega
    go_enter Try.func96, Try.ntmps96
    go_wp2
    go_ret
    exact ⟨_, rfl, OwnK.none_ _ _, Below.refl _ _⟩
/-- A slice of cells, with the messages that it reads as. -/
structure KPc where
  a : Option Addr
  n : Nat
  c : Nat
  l : List Ce
def KPc.val (p : KPc) : Value := .slice p.a p.n p.c
def KPc.Ok (w : World) (B : Nat) (p : KPc) : Prop := Reads w B 4 p.a p.n (ces p.l) ∧ p.n ≤ p.c
/-- A slice of slices of cells. -/
def KLists (w : World) (B : Nat) (A : Option Addr) (n : Nat) (ps : List KPc) : Prop := Reads w B 1 A n (ps.map KPc.val) ∧ ∀ p ∈ ps, p.Ok w B
theorem KLists.length {w : World} {B : Nat} {A : Option Addr} {n : Nat} {ps : List KPc} (h : KLists w B A n ps) : ps.length = n := by
  have := h.1.1; simpa using this
theorem KLists.keep {w w' : World} {B : Nat} {A : Option Addr} {n : Nat} {ps : List KPc} (h : KLists w B A n ps) (hk : ∀ p : Addr, p.block < B → w'.cell? p = w.cell? p) : KLists w' B A n ps :=
  ⟨h.1.keep hk, fun p hp => ⟨(h.2 p hp).1.keep hk, (h.2 p hp).2⟩⟩
theorem KLists.below {w w' : World} {B : Nat} {A : Option Addr} {n : Nat} {ps : List KPc} (h : KLists w B A n ps) (hb : Below B w w') : KLists w' B A n ps := h.keep fun _ hp => hb.cell hp
theorem KLists.at_ {w : World} {B : Nat} {A : Option Addr} {n k : Nat} {ps : List KPc} (h : KLists w B A n ps) (hk : k < n) :
    ∃ b off p, A = some ⟨b, off, none⟩ ∧ ps[k]? = some p ∧ p.Ok w B ∧ w.cell? ⟨b, off + k, none⟩ = some (.slice p.a p.n p.c) := by
  obtain ⟨b, off, e, _, hc⟩ := h.1.flat (by omega)
  have hl := h.length
  have hg : ps[k]? = some ps[k] := List.getElem?_eq_getElem (by omega)
  exact ⟨b, off, ps[k], e, hg, h.2 _ (List.getElem_mem _), hc k _ (by rw [List.getElem?_map, hg]; rfl)⟩
def allK (ps : List KPc) : List Ce := (ps.map (·.l)).flatten
theorem allK_app (ps qs : List KPc) : allK (ps ++ qs) = allK ps ++ allK qs := by simp [allK]
theorem allK_take (ps : List KPc) (k : Nat) : (allK (ps.take k)).length ≤ (allK ps).length := by
  have h : allK ps = allK (ps.take k) ++ allK (ps.drop k) := by rw [← allK_app, List.take_append_drop]
  rw [h, List.length_append]; omega
theorem allK_next {ps : List KPc} {k : Nat} {p : KPc} (h : ps[k]? = some p) : allK (ps.take (k + 1)) = allK (ps.take k) ++ p.l := by
  obtain ⟨h1, h2⟩ := List.getElem?_eq_some_iff.1 h
  rw [List.take_succ_eq_append_getElem h1, allK_app, h2]
  simp [allK]

set_option maxRecDepth 100000 in
set_option maxHeartbeats 1600000 in
theorem concatK (A : Option Addr) (n c : Nat) (ps : List KPc) (w : World) (hl : KLists w w.heap.size A n ps) (hn : n ≤ 1048576) (ht : (allK ps).length * 32 ≤ 140737488355328) :
    Calls Try.prog 79 #[.slice A n c] w fun e w' => ∃ v, e = .returned v ∧ OwnK w' w.heap.size v (allK ps) ∧ Below w.heap.size w w' := by
  have RL := Lib.hid hl
  have HT := Lib.hid ht
  have HPl : Hid (∀ p ∈ ps, p.l.length = p.n) := Lib.hid (fun p hp => (hl.2 p hp).1.klen)
  clear hl ht
  go_enter Try.func79, Try.ntmps79
  go_wp2
  go_loop [3, 5, 11] (fun s x i => ∃ k : Nat, i = .int .i64 k ∧ k ≤ n ∧ s = .int .i64 (((allK (ps.take k)).length : Nat) : Int)) (fun _ _ i => n - (intOf i).toNat)
  case atStart => exact ⟨0, rfl, by omega, rfl⟩
  case round =>
    obtain ⟨k, rfl, hk, rfl⟩ := hrel
    have hle := allK_take ps k
    obtain ⟨s, hs⟩ : ∃ s, s = (allK (ps.take k)).length := ⟨_, rfl⟩
    rw [← hs] at hle ⊢
    have hs2 : s ≤ 4398046511104 := by have := HT.out; omega
    have HS := Lib.hid hs
    clear hs hle
    by_cases hlt : k < n
    · obtain ⟨b, off, p, rfl, hp, hok, hx⟩ := RL.out.at_ hlt
      have hpl := HPl.out p (List.mem_of_getElem? hp)
      have hnx := allK_next hp
      have hle2 := allK_take ps (k + 1)
      rw [hnx, List.length_append, ← HS.out, hpl] at hle2
      have hs3 : s + p.n ≤ 4398046511104 := by have := HT.out; omega
      have HN : Hid ((allK (ps.take (k + 1))).length = s + p.n) := Lib.hid (by rw [hnx, List.length_append, ← HS.out, hpl])
      obtain ⟨pa, pn, pc, pl⟩ := p
      simp only at hs3 HN hx
      clear hpl hnx hle2 hok hp
      go_wp2
      go_round
      case rel => exact ⟨k + 1, by go_num, by omega, by rw [HN.out]; rfl⟩
      case measure => simp [intOf]; omega
    · have HE : Hid (s = (allK ps).length) := Lib.hid (by rw [HS.out, List.take_of_length_le (by rw [RL.out.length]; omega)])
      clear HS
      go_wp2_with fail
      refine (growK s (by omega) w).mono ?_
      rintro e w1 ⟨v1, rfl, ho1, hb1⟩
      obtain ⟨A1, n1, c1, rfl⟩ := ownK_slice ho1
      have HO1 := Lib.hid ho1
      have HB1 := Lib.hid hb1
      clear ho1 hb1 hlt hk
      go_wp2
      go_loopw [6, 8, 27] (fun v x i wr => ∃ k : Nat, i = .int .i64 k ∧ k ≤ n ∧ OwnK wr w.heap.size v (allK (ps.take k)) ∧ Below w.heap.size w wr) (fun _ _ i _ => n - (intOf i).toNat)
      case atStart => exact ⟨0, rfl, by omega, HO1.out, HB1.out⟩
      case round =>
        obtain ⟨k, rfl, hk, hown, hbel⟩ := hrel
        obtain ⟨w2, rfl⟩ : ∃ w2 : World, w2 = wr := ⟨_, rfl⟩
        obtain ⟨A2, n2, c2, rfl⟩ := ownK_slice hown
        have HO2 := Lib.hid hown
        have HB2 := Lib.hid hbel
        clear hown hbel
        by_cases hlt : k < n
        · obtain ⟨b, off, p, rfl, hp, hok, hx⟩ := (RL.out.below HB2.out).at_ hlt
          have hpl := HPl.out p (List.mem_of_getElem? hp)
          have hnx := allK_next hp
          have hle2 := allK_take ps (k + 1)
          rw [hnx, List.length_append, hpl] at hle2
          have hs3 : Hid (((allK (ps.take k)).length + p.n) * 32 ≤ 140737488355328) := Lib.hid (Nat.le_trans (Nat.mul_le_mul_right 32 hle2) HT.out)
          have HN := Lib.hid hnx
          have HOk := Lib.hid hok.1
          obtain ⟨pa, pn, pc, pl⟩ := p
          simp only at hs3 HN hx HOk
          clear hpl hnx hle2 hok hp
          go_wp2_with (at_builtin; refine appKs w2 rfl (.tmp 31) (.tmp 32) rfl w.heap.size _ _ rfl HO2.out w.heap.size pa pc pl pn rfl HOk.out hs3.out HB2.out.size ?_; intro v3 w3 hown3 hb3 _ _; have HO3 := Lib.hid hown3; have HB3 := Lib.hid (HB2.out.trans hb3); clear hown3 hb3)
          go_roundw
          case rel => exact ⟨k + 1, by go_num, by omega, by rw [HN.out]; exact HO3.out, HB3.out⟩
          case measure => simp [intOf]; omega
        · have HE2 : Hid (ps.take k = ps) := Lib.hid (List.take_of_length_le (by rw [RL.out.length]; omega))
          go_wp2
          go_ret
          exact ⟨_, rfl, by rw [← HE2.out]; exact HO2.out, HB2.out⟩
end Go.Proofs.Ytiaafhcfeeekeaa.Pk

/- The library's slices.Clone and slices.IndexFunc, of cells. -/
namespace Go.Proofs.Ytiaafhcfeeekeaa.Pk
open Go.RowKit
set_option linter.unusedVariables false
set_option maxHeartbeats 1600000 in
/-- A copy of cells, whatever the slice. -/
theorem cloneK (A : Option Addr) (n c : Nat) (l : List Ce) (w : World) (hr : Reads w w.heap.size 4 A n (ces l)) (hlen : n * 32 ≤ 140737488355328) :
    Calls Try.prog 38 #[.slice A n c] w fun e w' => ∃ v, e = .returned v ∧ OwnK w' w.heap.size v l ∧ Below w.heap.size w w' := by
  have HR := Lib.hid hr
  have HL := Lib.hid hlen
  clear hr hlen
  cases A with
  | none =>
    have hn0 : n = 0 := by
      rcases Nat.eq_zero_or_pos n with h | h
      · exact h
      · obtain ⟨b, off, e, _⟩ := HR.out.ces_ h
        cases e
    subst hn0
    have hl : l = [] := by have := HR.out.klen; exact List.length_eq_zero_iff.1 this
    subst hl
    go_enter Try.func38, Try.ntmps38
    have E0 : (binOp .eql 53 (.slice none 0 c) (.slice none 0 0)).run Try.prog w = .ok (.bool true) w := Lib.run_eql_slice_nil w _ _ none 0 c 0 0 Try.underlying53
    go_wp2_with fail
    go_ret
    exact ⟨_, rfl, OwnK.none_ _ _, Below.refl _ _⟩
  | some ad =>
    go_enter Try.func38, Try.ntmps38
    have E0 : (binOp .eql 53 (.slice (some ad) n c) (.slice none 0 0)).run Try.prog w = .ok (.bool false) w := Lib.run_eql_slice_nil w _ _ (some ad) n c 0 0 Try.underlying53
    go_wp2_with (at_builtin; refine appKE w rfl (.tmp 5) (.tmp 6) rfl w.heap.size rfl w.heap.size (some ad) c l n rfl HR.out (Nat.le_refl _) HL.out (Nat.le_refl _) ?_; intro v2 w2 hown2 hb2; have HO := Lib.hid hown2; have HB := Lib.hid hb2; clear hown2 hb2)
    go_ret
    exact ⟨_, rfl, HO.out, HB.out⟩
end Go.Proofs.Ytiaafhcfeeekeaa.Pk

/- Lists of cells that a call answered, handed over again. -/
namespace Go.Proofs.Ytiaafhcfeeekeaa.Pk
open Go.RowKit
set_option linter.unusedVariables false
/-- Numbers that rise are few. -/
theorem GoodK.few {l : List Ce} {me : Int} {sink : Bool} (h : GoodK l me sink) : l.length ≤ 1099511627777 := by
  have up : ∀ i, i < l.length → (i : Int) ≤ (ceA l i).n := by
    intro i
    induction i with
    | zero => intro hi; exact (h.2 0 hi).1.1
    | succ i ih =>
      intro hi
      have h1 := ih (by omega)
      have h2 := ((h.2 (i + 1) hi).2.1 (by omega)).1
      rw [Nat.add_sub_cancel] at h2
      omega
  rcases Nat.eq_zero_or_pos l.length with h0 | h0
  · omega
  · have h1 := up (l.length - 1) (by omega)
    have h2 := (h.2 (l.length - 1) (by omega)).1.2.1
    omega
end Go.Proofs.Ytiaafhcfeeekeaa.Pk

/- The landed Add (Open lies in ChOpenP) of package chain. -/
namespace Go.Proofs.Ytiaafhcfeeekeaa.Pk
open Go.RowKit
set_option linter.unusedVariables false
attribute [local go_sem] Oper.semAt_some
theorem OwnK.lower {w : World} {B B' : Nat} {v : Value} {l : List Ce} (h : OwnK w B v l) (hB : B' ≤ B) : OwnK w B' v l := by
  obtain ⟨h1, h2⟩ := h
  refine ⟨h1, ?_⟩
  rcases h2 with h2 | ⟨g, cap, cur, rfl, hb, hr⟩
  · exact .inl h2
  · exact .inr ⟨g, cap, cur, rfl, by omega, hr⟩
theorem pair_readsK (w : World) (T : TypeId) (a b : Value) : Reads (w.alloc (.cells #[a, b] T)) (w.heap.size + 1) 1 (some ⟨w.heap.size, 0, none⟩) 2 [a, b] := by
  refine ⟨rfl, fun _ => ⟨_, rfl, by simp, fun j u hj => ?_⟩⟩
  match j, hj with
  | 0, hj => simp at hj; subst hj; simp [Addr.add]
  | 1, hj => simp at hj; subst hj; simp [Addr.add]
  | j + 2, hj => simp at hj
set_option maxHeartbeats 1600000 in
theorem addC : AddP := by
  intro A n c l x w hin hx
  have hl : l.length = n := hin.len
  have hf := hin.few
  obtain ⟨w1, hw1⟩ : ∃ w1, w1 = w.alloc (.cells #[.int .i64 x, .int .i64 1, .int .i64 (-1), .int .i64 0] 57) := ⟨_, rfl⟩
  have hb1 : Below w.heap.size w w1 := hw1 ▸ (Below.refl _ _).alloc (Nat.le_refl _) _
  have hs1 : w1.heap.size = w.heap.size + 1 := by rw [hw1, World.size_alloc]
  have HL : Hid (KLists (w1.alloc (.cells #[.slice A n c, .slice (some ⟨w.heap.size, 0, none⟩) 1 1] 53)) (w1.alloc (.cells #[.slice A n c, .slice (some ⟨w.heap.size, 0, none⟩) 1 1] 53)).heap.size (some ⟨w.heap.size + 1, 0, none⟩) 2 [⟨A, n, c, l⟩, ⟨some ⟨w.heap.size, 0, none⟩, 1, 1, [⟨x, 1, -1, 0⟩]⟩]) := Lib.hid (by
    refine ⟨by rw [World.size_alloc, ← hs1]; exact pair_readsK w1 _ _ _, fun p hp => ?_⟩
    rcases List.mem_cons.1 hp with rfl | hp
    · exact ⟨((hin.rd.below hb1).alloc (by omega) _).more (by simp; omega), hin.cap⟩
    · obtain rfl := List.mem_singleton.1 hp
      have hr := reads_cell w 57 ⟨x, 1, -1, 0⟩
      rw [← hw1] at hr
      exact ⟨(hr.alloc (by omega) _).more (by simp; omega), Nat.le_refl _⟩)
  have HA : Hid (allK [⟨A, n, c, l⟩, ⟨some ⟨w.heap.size, 0, none⟩, 1, 1, [⟨x, 1, -1, 0⟩]⟩] = addK l x) := Lib.hid (by simp [allK, addK])
  have HT : Hid ((allK [⟨A, n, c, l⟩, ⟨some ⟨w.heap.size, 0, none⟩, 1, 1, [⟨x, 1, -1, 0⟩]⟩]).length * 32 ≤ 140737488355328) := Lib.hid (by simp [allK]; omega)
  have HB1 := Lib.hid hb1
  have HS1 := Lib.hid hs1
  clear hb1 hs1 hin hl hf
  go_enter Try.func59, Try.ntmps59
  go_wp2_with fail
  rw [← hw1]
  clear hw1
  refine (concatK _ 2 2 _ _ HL.out (by omega) HT.out).mono ?_
  rintro e w2 ⟨v, rfl, ho, hb⟩
  obtain ⟨A3, n3, c3, rfl⟩ := ownK_slice ho
  have HO : Hid (OwnK w2 w.heap.size (.slice A3 n3 c3) (addK l x)) := Lib.hid (by rw [HA.out] at ho; exact ho.lower (by simp [HS1.out]; omega))
  have HB : Hid (Below w.heap.size w w2) := Lib.hid ((HB1.out.alloc (by rw [HS1.out]; omega) _).trans (hb.mono (by simp [HS1.out]; omega)))
  clear ho hb
  go_wp2
  go_ret
  exact ⟨_, rfl, HO.out, HB.out⟩
end Go.Proofs.Ytiaafhcfeeekeaa.Pk
