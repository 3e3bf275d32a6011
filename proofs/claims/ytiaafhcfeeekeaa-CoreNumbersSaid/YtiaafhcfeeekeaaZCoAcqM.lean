/- The change's find: an arrow is turned; the Find goes on, or its request is the successor. -/
import Derived.Test.YtiaafhcfeeekeaaZCoSeek
namespace Go.Proofs.Ytiaafhcfeeekeaa.Pk
open Go.RowKit Go.Proofs.Ytiaafhcfeeekeaa.Gr
set_option linter.unusedVariables false
theorem step_pure (me a f : Int) (w : World) : Calls Try.prog 76 #[.int .i64 me, .int .i64 a, .int .i64 f] w fun e w' => e = .returned (.tuple #[.int .i64 f, .int .i64 (if a = me then -1 else a)]) ∧ w' = w := by
  by_cases h : a = me
  · have t1 : (a == me) = true := by simp [h]
    have t2 : Hid ((if a = me then (-1 : Int) else a) = -1) := Lib.hid (if_pos h)
    rw [t2.out]
    clear h t2
    go_enter Try.func76, Try.ntmps76
    go_wp2
    go_ret2
    exact ⟨rfl, rfl⟩
  · have t1 : (a == me) = false := by simp [h]
    have t2 : Hid ((if a = me then (-1 : Int) else a) = a) := Lib.hid (if_neg h)
    rw [t2.out]
    clear h t2
    go_enter Try.func76, Try.ntmps76
    go_wp2
    go_ret2
    exact ⟨rfl, rfl⟩
/-- What find makes of a state; whether the object goes at once; the error. -/
def findT (s : St) (k : Nat) (f : Int) (m : Mg) : St × Bool × Int :=
  if (objA s k).a ≠ s.me then ((pushS (setO s k ⟨f, (objA s k).m, (objA s k).c⟩) (objA s k).a m).1, false, (pushS (setO s k ⟨f, (objA s k).m, (objA s k).c⟩) (objA s k).a m).2)
  else (setO s k ⟨f, (objA s k).m, (succK (objA s k).c m.n m.u).1⟩, (succK (objA s k).c m.n m.u).2, 0)
theorem partE_setO {ps : List Int} {s : St} {k : Nat} {o : Ow} (h : PartE ps s) : PartE ps (setO s k o) := by
  refine ⟨h.1, fun e he => ?_⟩
  have := h.2 e he
  show SideOk _ ((s.os.set k o).length : Int) e
  rw [List.length_set]; exact this
theorem stV_setO {s : StL} {k : Nat} {o o' : OwL} (hk : s.os[k]? = some o) (e : o'.s = o.s) : stV ({s with os := s.os.set k o'} : StL) = stV s := by
  obtain ⟨hl, h2⟩ := List.getElem?_eq_some_iff.1 hk
  have h1 : owS (s.os.set k o') = owS s.os := by
    unfold owS
    rw [List.map_set, e, ← h2]
    apply List.ext_getElem?
    intro j
    rw [List.getElem?_set]
    split
    · rename_i e; subst e; simp [hl]
    · rfl
  unfold stV
  simp only [h1]
theorem setO_setO (s : St) (k : Nat) (o o' : Ow) : setO (setO s k o) k o' = setO s k o' := by unfold setO; simp
theorem setO_len (s : St) (k : Nat) (o : Ow) : (setO s k o).os.length = s.os.length := by unfold setO; simp
set_option maxRecDepth 100000 in
set_option maxHeartbeats 8000000 in
theorem find_any {w : World} {B p T g : Nat} {ps : List Int} {s : StL} (h : Chg w B p T g ps s) (G : Gr.Good ps) (hE : PartE ps s.v) {m : Mg} {k : Nat} {o : OwL} {f : Int} (hk : s.os[k]? = some o) (hmo : m.o = (k : Int)) (hm : m.I) (hl : o.v.c.length ≤ 1024) (hI : ∀ c ∈ o.v.c, c.I)
    (ha : o.v.a = s.v.me ∨ o.v.a ∈ nbsI ps s.v.me) (hn40 : s.so.n ≤ 1024) :
    Calls Try.prog 58 #[.pointer (some ⟨p, 0, none⟩), m.val, .int .i64 f] w fun e w' => ∃ s2, e = .returned (.tuple #[.bool (findT s.v k f m).2.1, .int .i64 (findT s.v k f m).2.2]) ∧ Chg w' B p T g ps s2 ∧ s2.v = (findT s.v k f m).1 ∧ Below B w w' ∧ Frm w w' p s ∧ s2.so = s.so ∧ Sub w s s2 := by
  obtain ⟨q, hq⟩ : ∃ q, q = w.heap.size := ⟨_, rfl⟩
  obtain ⟨W1, hW1⟩ : ∃ W, W = w.alloc (.cells m.val.cells 30) := ⟨_, rfl⟩
  have hb1 : Below w.heap.size w W1 := hW1 ▸ (Below.refl _ _).alloc (Nat.le_refl _) _
  have h1 := h.below hb1
  have HQ : Hid (Blk W1 q 30 m.val.cells) := Lib.hid (by rw [hW1, hq]; exact Blk.new w _ _)
  have HB : Hid (B ≤ w.heap.size) := Lib.hid h.sz
  have HPq : Hid (p < q) := Lib.hid (by rw [hq]; exact h.lt)
  have HB1 := Lib.hid hb1
  have HC1 := Lib.hid h1
  have HEp := Lib.hid hE
  have HI := Lib.hid hm
  have HIc := Lib.hid hI
  have HG := Lib.hid G
  have HLc := Lib.hid hl
  obtain ⟨me, hme⟩ : ∃ me, me = s.me := ⟨_, rfl⟩
  have HMe := Lib.hid hme
  obtain ⟨R, hR⟩ : ∃ R, R = findT s.v k f m := ⟨_, rfl⟩
  have HR := Lib.hid hR
  obtain ⟨Rs, Rb, Re⟩ := R
  rw [← hR]
  have hqw : w.heap.size ≤ q := Nat.le_of_eq hq.symm
  obtain ⟨go, hgo, g1, g2, g3, g4, g5, g6, g7, g8, c0, c1, c2⟩ := h1.obj hk
  have hgw : go < w.heap.size := by
    obtain ⟨go', e1, -, h3, -⟩ := h.obj hk
    rw [hgo] at e1
    injection e1 with e1
    injection e1 with e1
    omega
  have HGq : Hid (q ≠ go) := Lib.hid (by omega)
  have HA : Hid (objA s.v k = o.v) := Lib.hid (obj_at hk)
  have HO := Lib.hid hk
  clear h h1 hb1 hE hm hI hR G hme hl hqw hgw
  obtain ⟨mk, mo, mn, mu, mv⟩ := m
  simp only at hmo
  subst hmo
  obtain ⟨a, hva⟩ : ∃ a, a = o.v.a := ⟨_, rfl⟩
  have HVa := Lib.hid hva
  have HAr := Lib.hid ha
  obtain ⟨n, hn⟩ : ∃ n, n = s.so.n := ⟨_, rfl⟩
  obtain ⟨c, hc⟩ : ∃ c, c = s.so.c := ⟨_, rfl⟩
  have HSo : Hid (s.so = ⟨some ⟨go, 0, none⟩, n, c⟩) := Lib.hid (by rw [hn, hc]; cases hse : s.so; rw [hse] at hgo; simp only at hgo; rw [hgo])
  rw [← hn] at g5 g6 g7 hn40
  rw [← hc] at g4 g7
  have HVal : Hid (s.so.val = .slice (some ⟨go, 0, none⟩) n c) := Lib.hid (by rw [HSo.out]; rfl)
  simp only [Mg.val, Value.cells] at HQ hW1 ⊢
  have HX : Hid (∀ W, Below W1.heap.size W1 W → (W.cell? ⟨p, 1, none⟩ = some (.int .i64 me) ∧ W.cell? ⟨q, 0, none⟩ = some (.int .i64 mk) ∧ W.cell? ⟨q, 1, none⟩ = some (.int .i64 (k : Int)) ∧ W.cell? ⟨q, 2, none⟩ = some (.int .i64 mn) ∧ W.cell? ⟨q, 3, none⟩ = some (.int .i64 mu) ∧ W.cell? ⟨q, 4, none⟩ = some (.int .i64 mv)) ∧ W.cell? ⟨p, 2, none⟩ = some (.slice (some ⟨go, 0, none⟩) n c) ∧ W.cell? ⟨go, k * 3, none⟩ = some (.int .i64 a) ∧ ∀ j, W.frozen? ⟨go, j, none⟩ = false) := Lib.hid (fun W hW => by
    have hq := HQ.out.below hW HQ.out.lt
    have hp := (HC1.out.below hW).box
    obtain ⟨go', e1, -, -, -, -, -, -, -, f1, f2, -, -⟩ := (HC1.out.below hW).obj HO.out
    obtain rfl : go = go' := by rw [HSo.out] at e1; injection e1 with e1; injection e1
    rw [HVal.out] at hp
    refine ⟨⟨by rw [HMe.out]; exact hp.cell 1, hq.cell 0, hq.cell 1, hq.cell 2, hq.cell 3, hq.cell 4⟩, hp.cell 2, ?_, f1⟩
    rw [HVa.out]
    exact f2)
  obtain ⟨⟨x1, y0, y1, y2, y3, y4⟩, x2, z0, zf⟩ := HX.out W1 (Below.refl _ _)
  have HG2 : Hid (go < W1.heap.size) := Lib.hid g2
  have HSt : Hid (∀ W, Calls Try.prog 76 #[.int .i64 me, .int .i64 a, .int .i64 f] W fun e w' => e = .returned (.tuple #[.int .i64 f, .int .i64 (if a = me then -1 else a)]) ∧ w' = W) := Lib.hid (fun W => step_pure me a f W)
  clear hn hc hva ha hk c0 c1 c2 hgo g1 g2 g3 g5 g8
  by_cases hn : a = me
  · have t1 : (if a = me then (-1 : Int) else a) = -1 := if_pos hn
    have HE : Hid ((Rs, Rb, Re) = (setO s.v k ⟨f, o.v.m, (succK o.v.c mn mu).1⟩, (succK o.v.c mn mu).2, 0)) := Lib.hid (by rw [HR.out]; unfold findT; rw [HA.out, ← HVa.out, if_neg (fun h9 => h9 (by rw [hn, HMe.out]; rfl))])
    rw [t1] at HSt
    clear hn t1
    go_enter Try.func58, Try.ntmps58
    go_wp2_with fail
    rw [← hW1, ← hq]
    clear hW1 hq
    go_quiet (fail)
    revert nq; intro nq1
    obtain ⟨V, hV⟩ : ∃ V, V = W1.drewN nq1 := ⟨_, rfl⟩
    have hb2 : Below W1.heap.size W1 V := hV ▸ below_drewC (Below.refl _ _) _
    have HB2 := Lib.hid hb2
    rw [← hV]
    clear hV
    clear x1 y0 y1 y2 y3 y4 x2 z0 zf
    have HD2 : Hid (Below W1.heap.size W1 V.drew) := Lib.hid (below_drewC hb2 1)
    obtain ⟨⟨x1, y0, y1, y2, y3, y4⟩, x2, z0, zf⟩ := HX.out V hb2
    have X1 : V.drew.cell? ⟨p, 1, none⟩ = some (.int .i64 me) ∧ V.drew.cell? ⟨go, k * 3, none⟩ = some (.int .i64 a) := ⟨x1, z0⟩
    clear hb2 x2
    go_wp2_with fail
    go_region_held3 (fun W : World => W.cell? ⟨p, 1, none⟩ = some (.int .i64 me) ∧ W.cell? ⟨go, k * 3, none⟩ = some (.int .i64 a)) (first | with_reducible exact X1 | go_keep) (first
      | (go_at_call 76; go_must (refine (HSt.out V.drew).mono ?_; rintro e w9 ⟨rfl, hw⟩; rw [hw]; clear hw w9)))
    obtain ⟨V2, hV2⟩ : ∃ V2, V2 = V.drew := ⟨_, rfl⟩
    have HC2 : Hid (Chg V2 B p T g ps s) := Lib.hid (by rw [hV2]; exact HC1.out.below HD2.out)
    have HQ2 : Hid (Blk V2 q 30 #[.int .i64 mk, .int .i64 (k : Int), .int .i64 mn, .int .i64 mu, .int .i64 mv]) := Lib.hid (by rw [hV2]; exact HQ.out.below HD2.out HQ.out.lt)
    have HB12 : Hid (Below B w V2) := Lib.hid (by rw [hV2]; exact (HB1.out.mono HB.out).trans (HD2.out.mono (Nat.le_trans HB.out HB1.out.size)))
    have z2 : V2.cell? ⟨go, k * 3, none⟩ = some (.int .i64 a) := by rw [hV2]; exact z0
    have zf2 : ∀ j, V2.frozen? ⟨go, j, none⟩ = false := by rw [hV2]; exact zf
    have HBf : Hid (Below w.heap.size w V2) := Lib.hid (by rw [hV2]; exact HB1.out.trans (HD2.out.mono HB1.out.size))
    rw [← hV2]
    clear hV2 x1 y0 y1 y2 y3 y4 z0 zf X1
    have hput := HC2.out.putO (j := 0) (o' := ⟨⟨f, o.v.m, o.v.c⟩, o.s⟩) (u := .int .i64 f) HO.out (by omega) rfl HSo.out (Below.refl _ _) (HC2.out.own.os.each o (List.mem_of_getElem? HO.out)) (.inl rfl)
    simp only [Nat.add_zero] at hput
    obtain ⟨W3, hW3⟩ : ∃ W, W = V2.setCell ⟨go, k * 3, none⟩ (.int .i64 f) := ⟨_, rfl⟩
    rw [← hW3] at hput
    obtain ⟨hC3, hB3⟩ := hput
    have HC3 := Lib.hid hC3
    have HFw : Hid (Frm w V2 p s) := Lib.hid (Frm.below HBf.out)
    have HF3 : Hid (Frm w W3 p s) := Lib.hid (by rw [hW3]; exact HFw.out.set (v := s.so.val) (mem_stV.2 (.inl rfl)) (by rw [HVal.out]; exact ownB_some g4))
    have HS3 : Hid (stV ({s with os := s.os.set k ⟨⟨f, o.v.m, o.v.c⟩, o.s⟩} : StL) = stV s) := Lib.hid (stV_setO HO.out rfl)
    have HB3 := Lib.hid hB3
    have HQ3 : Hid (Blk W3 q 30 #[.int .i64 mk, .int .i64 (k : Int), .int .i64 mn, .int .i64 mu, .int .i64 mv]) := Lib.hid (by rw [hW3]; exact blk_other HQ2.out HGq.out _ _)
    have w0 : W3.cell? ⟨q, 0, none⟩ = some (.int .i64 mk) := HQ3.out.cell 0
    have w1 : W3.cell? ⟨q, 1, none⟩ = some (.int .i64 (k : Int)) := HQ3.out.cell 1
    have w2 : W3.cell? ⟨q, 2, none⟩ = some (.int .i64 mn) := HQ3.out.cell 2
    have w3 : W3.cell? ⟨q, 3, none⟩ = some (.int .i64 mu) := HQ3.out.cell 3
    have w4 : W3.cell? ⟨q, 4, none⟩ = some (.int .i64 mv) := HQ3.out.cell 4
    have HSz3 : Hid (V2.heap.size ≤ W3.heap.size) := Lib.hid (by rw [hW3, setc_size]; exact Nat.le_refl _)
    have HW3 := Lib.hid hW3
    rw [hW3] at w0 w1 w2 w3 w4
    clear hC3 hB3 hW3
    obtain ⟨cA, cn, cc, hsl⟩ : ∃ cA cn cc, o.s = ⟨cA, cn, cc⟩ := ⟨_, _, _, rfl⟩
    have hlen3 : k < s.os.length := (List.getElem?_eq_some_iff.1 HO.out).1
    have HO3 : Hid (({s with os := s.os.set k ⟨⟨f, o.v.m, o.v.c⟩, o.s⟩} : StL).os[k]? = some ⟨⟨f, o.v.m, o.v.c⟩, o.s⟩) := Lib.hid (by show (s.os.set k _)[k]? = _; rw [List.getElem?_set_self hlen3])
    obtain ⟨go', e1, -, g32, -, -, -, -, -, f3, -, -, z3⟩ := HC3.out.obj HO3.out
    obtain rfl : go = go' := by
      have e2 : s.so.A = some ⟨go', 0, none⟩ := e1
      rw [HSo.out] at e2; injection e2 with e2; injection e2
    have hin := HC3.out.inK HO3.out HLc.out HIc.out
    simp only [hsl, Sl.val] at z3 hin
    have HSl := Lib.hid hsl
    have HSu : Hid (∀ W, Below W3.heap.size W3 W → Calls Try.prog 78 #[.slice cA cn cc, .int .i64 mn, .int .i64 mu] W fun e w' => ∃ A5 n5 k5, e = .returned (.tuple #[.slice A5 n5 k5, .bool (succK o.v.c mn mu).2]) ∧ ceR.Own w' W3.heap.size (.slice A5 n5 k5) (succK o.v.c mn mu).1 ∧ Below W3.heap.size W3 w' ∧ w'.cell? ⟨go, k * 3 + 2, none⟩ = some (.slice cA cn cc) ∧ ∀ j, w'.frozen? ⟨go, j, none⟩ = false) := Lib.hid (fun W hW => (succC cA cn cc o.v.c mn mu W (hin.next hW) HI.out.n HI.out.u).mono fun e w' ⟨v, e1, e2, e3⟩ => by
      have e4 := OwnK.row e2
      obtain ⟨A5, k5, e5⟩ := Row.Own.sl e4
      rw [e5] at e1 e4
      have hb := hW.trans (e3.mono hW.size)
      obtain ⟨go', q1, -, -, -, -, -, -, -, q3, -, -, q4⟩ := (HC3.out.below hb).obj HO3.out
      obtain rfl : go = go' := by
        have e2 : s.so.A = some ⟨go', 0, none⟩ := q1
        rw [HSo.out] at e2; injection e2 with e2; injection e2
      simp only [HSl.out, Sl.val] at q4
      exact ⟨A5, _, k5, e1, e4.low hW.size, hb, q4, q3⟩)
    have HD3 : Hid (Below W3.heap.size W3 W3.drew) := Lib.hid (below_drewC (Below.refl _ _) 1)
    have z30 := z3
    rw [HW3.out] at z30
    clear hin hsl hlen3 e1 g32
    go_wp2_with fail
    rw [← HW3.out]
    rw [← HW3.out] at w0 w1 w2 w3 w4
    clear z30 z2 zf2
    go_region_with (go_at_call 78; go_must (refine (HSu.out W3.drew HD3.out).mono ?_; rintro e w5 ⟨A5, n5, k5, rfl, ho5, hb5, zz, zzf⟩; have HO5 := Lib.hid ho5; have HB5 := Lib.hid hb5; clear ho5 hb5))
    all_goals
      go_wp2
      go_ret2
      have hput := HC3.out.putO (j := 2) (o' := ⟨⟨f, o.v.m, (succK o.v.c mn mu).1⟩, ⟨A5, n5, k5⟩⟩) (u := .slice A5 n5 k5) HO3.out (by omega) rfl HSo.out HB5.out (HO5.out.low HC3.out.sz) (.inr (HO5.out.fresh))
      have e1 := HE.out
      injection e1 with e1 e2
      injection e2 with e2 e3
      refine ⟨_, by rw [e2, e3]; rfl, hput.1, ?_, (HB12.out.trans HB3.out).trans hput.2, (HF3.out.trans (Nat.le_trans HBf.out.size HSz3.out) (fun x _ hn => by rw [HS3.out]; exact hn) (Frm.below HB5.out)).set (v := s.so.val) (mem_stV.2 (.inl rfl)) (by rw [HVal.out]; exact ownB_some g4), rfl, fun u hu x hx hl => by rw [← HS3.out]; exact Sub.setO (w := W3) (k := k) (o' := ⟨⟨f, o.v.m, (succK o.v.c mn mu).1⟩, ⟨A5, n5, k5⟩⟩) HO5.out.fresh u hu x hx (Nat.lt_of_lt_of_le hl (Nat.le_trans HBf.out.size HSz3.out))⟩
      rw [e1]
      refine (v_setO _ k _).trans ?_
      rw [v_setO, setO_setO]
  · have t1 : (if a = me then (-1 : Int) else a) = a := if_neg hn
    have hin : a ∈ nbsI ps s.v.me := by
      rcases HAr.out with e | e
      · exact absurd (by rw [HVa.out, e, HMe.out]; rfl) hn
      · rw [HVa.out]; exact e
    have hge := nbs_ge hin
    have t3 : (a != -1) = true := by simp; omega
    obtain ⟨i, hi⟩ := edge_there HEp.out hin
    have HHi : Hid (edgeAt s.v a = some i) := Lib.hid hi
    have HE : Hid ((Rs, Rb, Re) = ((pushS (setO s.v k ⟨f, o.v.m, o.v.c⟩) a ⟨mk, (k : Int), mn, mu, mv⟩).1, false, (pushS (setO s.v k ⟨f, o.v.m, o.v.c⟩) a ⟨mk, (k : Int), mn, mu, mv⟩).2)) := Lib.hid (by rw [HR.out]; unfold findT; rw [HA.out, ← HVa.out, if_pos (fun h9 => hn (by rw [h9, HMe.out]; rfl))])
    rw [t1] at HSt
    clear hn hi hin hge t1
    go_enter Try.func58, Try.ntmps58
    go_wp2_with fail
    rw [← hW1, ← hq]
    clear hW1 hq
    go_quiet (fail)
    revert nq; intro nq1
    obtain ⟨V, hV⟩ : ∃ V, V = W1.drewN nq1 := ⟨_, rfl⟩
    have hb2 : Below W1.heap.size W1 V := hV ▸ below_drewC (Below.refl _ _) _
    have HB2 := Lib.hid hb2
    rw [← hV]
    clear hV
    clear x1 y0 y1 y2 y3 y4 x2 z0 zf
    have HD2 : Hid (Below W1.heap.size W1 V.drew) := Lib.hid (below_drewC hb2 1)
    obtain ⟨⟨x1, y0, y1, y2, y3, y4⟩, x2, z0, zf⟩ := HX.out V hb2
    have X1 : V.drew.cell? ⟨p, 1, none⟩ = some (.int .i64 me) ∧ V.drew.cell? ⟨go, k * 3, none⟩ = some (.int .i64 a) := ⟨x1, z0⟩
    clear hb2 x2
    go_wp2_with fail
    go_region_held3 (fun W : World => W.cell? ⟨p, 1, none⟩ = some (.int .i64 me) ∧ W.cell? ⟨go, k * 3, none⟩ = some (.int .i64 a)) (first | with_reducible exact X1 | go_keep) (first
      | (go_at_call 76; go_must (refine (HSt.out V.drew).mono ?_; rintro e w9 ⟨rfl, hw⟩; rw [hw]; clear hw w9)))
    obtain ⟨V2, hV2⟩ : ∃ V2, V2 = V.drew := ⟨_, rfl⟩
    have HC2 : Hid (Chg V2 B p T g ps s) := Lib.hid (by rw [hV2]; exact HC1.out.below HD2.out)
    have HQ2 : Hid (Blk V2 q 30 #[.int .i64 mk, .int .i64 (k : Int), .int .i64 mn, .int .i64 mu, .int .i64 mv]) := Lib.hid (by rw [hV2]; exact HQ.out.below HD2.out HQ.out.lt)
    have HB12 : Hid (Below B w V2) := Lib.hid (by rw [hV2]; exact (HB1.out.mono HB.out).trans (HD2.out.mono (Nat.le_trans HB.out HB1.out.size)))
    have z2 : V2.cell? ⟨go, k * 3, none⟩ = some (.int .i64 a) := by rw [hV2]; exact z0
    have zf2 : ∀ j, V2.frozen? ⟨go, j, none⟩ = false := by rw [hV2]; exact zf
    have HBf : Hid (Below w.heap.size w V2) := Lib.hid (by rw [hV2]; exact HB1.out.trans (HD2.out.mono HB1.out.size))
    rw [← hV2]
    clear hV2 x1 y0 y1 y2 y3 y4 z0 zf X1
    have hput := HC2.out.putO (j := 0) (o' := ⟨⟨f, o.v.m, o.v.c⟩, o.s⟩) (u := .int .i64 f) HO.out (by omega) rfl HSo.out (Below.refl _ _) (HC2.out.own.os.each o (List.mem_of_getElem? HO.out)) (.inl rfl)
    simp only [Nat.add_zero] at hput
    obtain ⟨W3, hW3⟩ : ∃ W, W = V2.setCell ⟨go, k * 3, none⟩ (.int .i64 f) := ⟨_, rfl⟩
    rw [← hW3] at hput
    obtain ⟨hC3, hB3⟩ := hput
    have HC3 := Lib.hid hC3
    have HFw : Hid (Frm w V2 p s) := Lib.hid (Frm.below HBf.out)
    have HF3 : Hid (Frm w W3 p s) := Lib.hid (by rw [hW3]; exact HFw.out.set (v := s.so.val) (mem_stV.2 (.inl rfl)) (by rw [HVal.out]; exact ownB_some g4))
    have HS3 : Hid (stV ({s with os := s.os.set k ⟨⟨f, o.v.m, o.v.c⟩, o.s⟩} : StL) = stV s) := Lib.hid (stV_setO HO.out rfl)
    have HB3 := Lib.hid hB3
    have HQ3 : Hid (Blk W3 q 30 #[.int .i64 mk, .int .i64 (k : Int), .int .i64 mn, .int .i64 mu, .int .i64 mv]) := Lib.hid (by rw [hW3]; exact blk_other HQ2.out HGq.out _ _)
    have w0 : W3.cell? ⟨q, 0, none⟩ = some (.int .i64 mk) := HQ3.out.cell 0
    have w1 : W3.cell? ⟨q, 1, none⟩ = some (.int .i64 (k : Int)) := HQ3.out.cell 1
    have w2 : W3.cell? ⟨q, 2, none⟩ = some (.int .i64 mn) := HQ3.out.cell 2
    have w3 : W3.cell? ⟨q, 3, none⟩ = some (.int .i64 mu) := HQ3.out.cell 3
    have w4 : W3.cell? ⟨q, 4, none⟩ = some (.int .i64 mv) := HQ3.out.cell 4
    have HSz3 : Hid (V2.heap.size ≤ W3.heap.size) := Lib.hid (by rw [hW3, setc_size]; exact Nat.le_refl _)
    have HW3 := Lib.hid hW3
    rw [hW3] at w0 w1 w2 w3 w4
    clear hC3 hB3 hW3
    have HPu : Hid (Calls Try.prog 77 #[.pointer (some ⟨p, 0, none⟩), .int .i64 a, .agg #[.int .i64 mk, .int .i64 (k : Int), .int .i64 mn, .int .i64 mu, .int .i64 mv]] W3 fun e w' => e = .returned (.int .i64 (pushS (setO s.v k ⟨f, o.v.m, o.v.c⟩) a ⟨mk, (k : Int), mn, mu, mv⟩).2) ∧ ∃ s2, Chg w' B p T g ps s2 ∧ s2.v = (pushS (setO s.v k ⟨f, o.v.m, o.v.c⟩) a ⟨mk, (k : Int), mn, mu, mv⟩).1 ∧ Below B W3 w' ∧ Frm W3 w' p ({s with os := s.os.set k ⟨⟨f, o.v.m, o.v.c⟩, o.s⟩} : StL) ∧ s2.so = s.so ∧ Sub W3 ({s with os := s.os.set k ⟨⟨f, o.v.m, o.v.c⟩, o.s⟩} : StL) s2) := Lib.hid (by
      have := push_frm (i := i) (to := a) HC3.out HG.out (by rw [v_setO]; exact partE_setO HEp.out) (by rw [v_setO]; exact HHi.out) (m := ⟨mk, (k : Int), mn, mu, mv⟩) HI.out
      rw [v_setO] at this
      exact this)
    go_wp2_with fail
    rw [← HW3.out]
    clear w0 w1 w2 w3 w4 z2 zf2
    refine HPu.out.mono ?_
    rintro e w5 ⟨rfl, s2, hc, hv, hb, hfr, hso5, hsub⟩
    have HSo5 := Lib.hid hso5
    have HSub := Lib.hid hsub
    clear hso5 hsub
    have HFr5 := Lib.hid hfr
    clear hfr
    have HC5 := Lib.hid hc
    have HV5 := Lib.hid hv
    have HB5 := Lib.hid hb
    clear hc hv hb
    go_wp2
    go_ret2
    have e1 := HE.out
    injection e1 with e1 e2
    injection e2 with e2 e3
    exact ⟨s2, by rw [e2, e3]; rfl, HC5.out, by rw [e1]; exact HV5.out, (HB12.out.trans HB3.out).trans HB5.out, HF3.out.trans (Nat.le_trans HBf.out.size HSz3.out) (fun x _ hn => by rw [HS3.out]; exact hn) HFr5.out, HSo5.out, fun u hu x hx hl => by rw [← HS3.out]; exact HSub.out u hu x hx (Nat.lt_of_lt_of_le hl (Nat.le_trans HBf.out.size HSz3.out))⟩
end Go.Proofs.Ytiaafhcfeeekeaa.Pk

/- What an acquire makes of a state, in the order of the code. -/
namespace Go.Proofs.Ytiaafhcfeeekeaa.Pk
open Go.RowKit Go.Proofs.Ytiaafhcfeeekeaa.Gr
set_option linter.unusedVariables false
theorem edgeAt_setO (s : St) (k : Nat) (o : Ow) (p : Int) : edgeAt (setO s k o) p = edgeAt s p := rfl
theorem push_setO (s : St) (k : Nat) (o : Ow) (p : Int) (m : Mg) : pushS (setO s k o) p m = (setO (pushS s p m).1 k o, (pushS s p m).2) := by
  unfold pushS
  rw [edgeAt_setO]
  cases edgeAt s p with
  | none => rfl
  | some i =>
    show (if (hpush (sideA s i) m).2 = 0 then _ else _) = _
    by_cases h : (hpush (sideA s i) m).2 = 0
    · simp only [h, if_true]; rfl
    · simp only [h, if_false]; rfl
/-- Behind find and Add: the object's cells, and the state. -/
def acqT (s : St) (k : Nat) : St × Bool × Int :=
  findT (setO s k ⟨(objA s k).a, (objA s k).m + 1, (objA s k).c⟩) k s.me ⟨1, (k : Int), s.me, (objA s k).m + 1, 0⟩
theorem objA_setT {s : St} {k : Nat} (o : Ow) (h : k < s.os.length) : objA (setO s k o) k = o := by
  unfold objA setO
  simp [List.getD_eq_getElem?_getD, List.getElem?_set_self h]
theorem acqT_eq {s : St} {k : Nat} (hk : k < s.os.length) : acqT s k = if (objA s k).a ≠ s.me then (setO (pushS s (objA s k).a ⟨1, (k : Int), s.me, (objA s k).m + 1, 0⟩).1 k ⟨s.me, (objA s k).m + 1, (objA s k).c⟩, false, (pushS s (objA s k).a ⟨1, (k : Int), s.me, (objA s k).m + 1, 0⟩).2)
    else (setO s k ⟨s.me, (objA s k).m + 1, (succK (objA s k).c s.me ((objA s k).m + 1)).1⟩, (succK (objA s k).c s.me ((objA s k).m + 1)).2, 0) := by
  unfold acqT findT
  rw [objA_setT _ hk]
  show (if (objA s k).a ≠ s.me then _ else _) = _
  by_cases h : (objA s k).a ≠ s.me
  · rw [if_pos h, if_pos h]
    simp only [push_setO, setO_setO]
  · rw [if_neg h, if_neg h]
    simp only [setO_setO]
/-- The cells behind find. -/
def acqC (s : St) (k : Nat) : List Ce := if (objA s k).a ≠ s.me then (objA s k).c else (succK (objA s k).c s.me ((objA s k).m + 1)).1
theorem acq_obj {s : St} {k : Nat} (hk : k < s.os.length) : objA (acqT s k).1 k = ⟨s.me, (objA s k).m + 1, acqC s k⟩ := by
  rw [acqT_eq hk]
  unfold acqC
  by_cases h : (objA s k).a ≠ s.me
  · rw [if_pos h, if_pos h]
    exact objA_setT _ (by rw [(pushS_same _ _ _).2.1]; exact hk)
  · rw [if_neg h, if_neg h]
    exact objA_setT _ hk
theorem acq_len {s : St} {k : Nat} (hk : k < s.os.length) : (acqT s k).1.os.length = s.os.length ∧ (acqT s k).1.me = s.me := by
  rw [acqT_eq hk]
  by_cases h : (objA s k).a ≠ s.me
  · rw [if_pos h]
    exact ⟨by rw [setO_len, (pushS_same _ _ _).2.1], (pushS_same _ _ _).1⟩
  · rw [if_neg h]
    exact ⟨setO_len _ _ _, rfl⟩
theorem acq_cells {s : St} {k : Nat} (hg : (objA s k).c.length ≤ 1024) (hI : ∀ c ∈ (objA s k).c, c.I) (hme : I64 s.me) (hm : I64 ((objA s k).m + 1)) : (acqC s k).length ≤ 1024 ∧ ∀ c ∈ acqC s k, c.I := by
  unfold acqC
  by_cases h : (objA s k).a ≠ s.me
  · rw [if_pos h]; exact ⟨hg, hI⟩
  · rw [if_neg h]
    rcases Nat.eq_zero_or_pos (objA s k).c.length with h0 | h0
    · rw [succK_nil h0]; exact ⟨by simp, fun c hc => by cases hc⟩
    · obtain ⟨j, hj⟩ : ∃ j, (objA s k).c.length = j + 1 := ⟨(objA s k).c.length - 1, by omega⟩
      by_cases hs : (ceA (objA s k).c j).s = 3
      · rw [succK_rest hj hs]
        refine ⟨by rw [List.length_take]; omega, fun c hc => hI c (List.mem_of_mem_take hc)⟩
      · rw [succK_set hj hs]
        refine ⟨by rw [List.length_set]; exact hg, fun c hc => ?_⟩
        have h9 := hI _ (List.mem_of_getElem? (ceA_get (show j < (objA s k).c.length by omega)))
        rcases List.mem_or_eq_of_mem_set hc with hc | rfl
        · exact hI c hc
        · exact ⟨h9.n, h9.s, hme, hm⟩
/-- Where the object goes at once, no cell is left. -/
theorem acq_goes {ps : List Int} {s : St} {k : Nat} (h : GoodS ps s) (hk : k < s.os.length) (hb : (acqT s k).2.1 = true) : acqC s k = [] ∧ (objA s k).a = s.me := by
  have ho := (h.os _ (obj_mem hk)).2.2.1
  rw [acqT_eq hk] at hb
  unfold acqC
  by_cases ha : (objA s k).a ≠ s.me
  · rw [if_pos ha] at hb; cases hb
  · rw [if_neg ha] at hb ⊢
    have ha : (objA s k).a = s.me := Classical.byContradiction ha
    refine ⟨?_, ha⟩
    simp only at hb
    rcases Nat.eq_zero_or_pos (objA s k).c.length with h0 | h0
    · rw [succK_nil h0] at hb; cases hb
    · obtain ⟨j, hj⟩ : ∃ j, (objA s k).c.length = j + 1 := ⟨(objA s k).c.length - 1, by omega⟩
      by_cases hs : (ceA (objA s k).c j).s = 3
      · rw [succK_rest hj hs]
        have : j = 0 := ho.first (by omega) (by omega)
        subst this
        rfl
      · rw [succK_set hj hs] at hb; cases hb
theorem acqS_many {s : St} {k : Nat} (h : 8 ≤ sumK s.os) : acqS s k = (s, 0, 21) := by unfold acqS; rw [if_pos h]
theorem acqS_room {s : St} {k : Nat} (h : ¬ 8 ≤ sumK s.os) (hm : (objA s k).m = 1099511627776) : acqS s k = (s, 0, 23) := by unfold acqS; rw [if_neg h, if_pos hm]
theorem acqS_err {s : St} {k : Nat} (hk : k < s.os.length) (h : ¬ 8 ≤ sumK s.os) (hm : ¬ (objA s k).m = 1099511627776) (he : (acqT s k).2.2 ≠ 0) : acqS s k = (s, 0, (acqT s k).2.2) := by
  unfold acqS
  rw [if_neg h, if_neg hm]
  rw [acqT_eq hk] at he ⊢
  by_cases ha : (objA s k).a = s.me
  · have ha2 : ¬ (objA s k).a ≠ s.me := fun e => e ha
    rw [if_neg ha2] at he
    exact absurd rfl he
  · have ha2 : (objA s k).a ≠ s.me := ha
    rw [if_pos ha2] at he ⊢
    rw [if_neg ha, if_neg he]
theorem acqS_ok {s : St} {k : Nat} (hk : k < s.os.length) (h : ¬ 8 ≤ sumK s.os) (hm : ¬ (objA s k).m = 1099511627776) (he : (acqT s k).2.2 = 0) :
    acqS s k = (setO (acqT s k).1 k ⟨s.me, (objA s k).m + 1, if (acqT s k).2.1 = true then holdK (addK (acqC s k) ((objA s k).m + 1)) else addK (acqC s k) ((objA s k).m + 1)⟩, (objA s k).m + 1, 0) := by
  unfold acqS
  rw [if_neg h, if_neg hm]
  unfold acqC
  rw [acqT_eq hk] at he ⊢
  by_cases ha : (objA s k).a = s.me
  · have ha2 : ¬ (objA s k).a ≠ s.me := fun e => e ha
    rw [if_pos ha, if_neg ha2, if_neg ha2]
    unfold ownK
    simp only [setO_setO]
  · have ha2 : (objA s k).a ≠ s.me := ha
    rw [if_pos ha2] at he
    rw [if_neg ha, if_pos ha2, if_pos ha2, if_pos he]
    simp only [setO_setO]
    rfl
/-- The request gets the object at once. -/
theorem acq_pass {s : St} {k : Nat} {x : Int} {a m : Int} (hk : k < s.os.length) (h : objA s k = ⟨a, m, addK [] x⟩) {mk mn mv : Int} : passS s ⟨mk, (k : Int), mn, x, mv⟩ = setO s k ⟨a, m, holdK (addK [] x)⟩ := by
  unfold passS
  simp only [Int.toNat_natCast, h]
  rw [if_pos ⟨by simp [addK], rfl, rfl⟩]
end Go.Proofs.Ytiaafhcfeeekeaa.Pk
