/- The change's gram: what a datagram says. -/
import Derived.Test.YtiaafhcfeeekeaaZHfRef4
import Derived.Test.YtiaafhcfeeekeaaZHfTake
import Derived.Test.YtiaafhcfeeekeaaZCeEq
import Derived.Test.YtiaafhcfeeekeaaZCoRel
namespace Go.Proofs.Ytiaafhcfeeekeaa.Pk
open Go.RowKit Go.Proofs.Ytiaafhcfeeekeaa.Gr
set_option linter.unusedVariables false
theorem gram_set {ps : List Int} {s : St} {i : Nat} (h : GoodS ps s) (hi : i < s.es.length) {e : Hf} (b1 : e.Be) (b2 : e.p = (sideA s i).p) (b3 : ∀ m ∈ e.o, m ∈ (sideA s i).o) : GoodS ps (setE s i e) := by
  obtain ⟨g1, g2, g3, g4⟩ := good_parts.1 h
  exact good_parts.2 ⟨g1, g2, setE_part g3 hi b2 ⟨b1, fun m hm => (h.es _ (side_mem hi)).2 m (b3 m hm)⟩, g4⟩
theorem setE_setE (s : St) (k : Nat) (e e' : Hf) : setE (setE s k e) k e' = setE s k e' := by unfold setE; simp
set_option maxRecDepth 100000 in
set_option maxHeartbeats 8000000 in
theorem gram_any {w : World} {B p T g : Nat} {ps : List Int} {s : StL} (h : Chg w B p T g ps s) (G : Gr.Good ps) (hg : GoodS ps s.v) {d : Gm} (hI : d.I) (hc : ComesS ps s.v d) :
    Calls Try.prog 46 #[.pointer (some ⟨p, 0, none⟩), d.val] w fun e w' => ∃ s2, e = .returned (.int .i64 (gramS ps s.v d).2) ∧ ChgX w' B p T s2 ∧ s2.v = (gramS ps s.v d).1 ∧ Below B w w' := by
  obtain ⟨q, hq⟩ : ∃ q, q = w.heap.size := ⟨_, rfl⟩
  obtain ⟨W1, hW1⟩ : ∃ W, W = w.alloc (.cells d.val.cells 32) := ⟨_, rfl⟩
  have hb1 : Below w.heap.size w W1 := hW1 ▸ (Below.refl _ _).alloc (Nat.le_refl _) _
  have h1 := h.below hb1
  have HQ : Hid (Blk W1 q 32 d.val.cells) := Lib.hid (by rw [hW1, hq]; exact Blk.new w _ _)
  have HB : Hid (B ≤ w.heap.size) := Lib.hid h.sz
  have HB1 := Lib.hid hb1
  have HC1 := Lib.hid h1
  have HGo := Lib.hid hg
  have HG := Lib.hid G
  have HI := Lib.hid hI
  have HCo := Lib.hid hc
  have hgp := good_parts.1 hg
  obtain ⟨i, hi⟩ := edge_there hgp.2.2.1 hc.2.2.1
  have hil : i < s.v.es.length := (edgeAt_some hi).1
  have hil2 : i < s.es.length := by simpa [StL.v] using hil
  obtain ⟨o, ho⟩ : ∃ o, o = s.es[i] := ⟨_, rfl⟩
  have hgi : s.es[i]? = some o := by rw [ho]; exact List.getElem?_eq_getElem hil2
  have HO := Lib.hid hgi
  have HA : Hid (sideA s.v i = o.v) := Lib.hid (side_at hgi)
  have HLt := Lib.hid hil
  have hlen : s.es.length ≤ 32 := by have := partE_few G hgp.2.2.1; simpa [StL.v] using this
  have hsn : s.es.length = s.se.n := (Row.Own.rd h.own.es.row).1
  have HEd := Lib.hid (edge_any h1 hi (by omega))
  have hqw : w.heap.size ≤ q := Nat.le_of_eq hq.symm
  have hBe : o.v.Be := by have := (hg.es _ (side_mem hil)).1; rw [side_at hgi] at this; exact this
  obtain ⟨H, hH⟩ : ∃ H, H = (hheard o.v d.a).1 := ⟨_, rfl⟩
  obtain ⟨q1, q2, q3, q4, q5⟩ := hheard_good hBe d.a
  rw [← hH] at q1 q2 q3 q4
  have HH : Hid (hheard o.v d.a = (H, 0)) := Lib.hid (by rw [hH, ← q5])
  have HGs : Hid (∀ e : Hf, e.Be → e.p = H.p → (∀ m ∈ e.o, m ∈ H.o) → GoodS ps (setE s.v i e)) := Lib.hid (fun e b1 b2 b3 => gram_set hg hil b1 (by rw [b2, q2, side_at hgi]) (fun m hm => by rw [side_at hgi]; exact q4 m (b3 m hm)))
  have HHb := Lib.hid q1
  obtain ⟨go, e1, g1, g2, g3, g4, g5, g6, g7, g8, c0, c1, c2, c3⟩ := h1.side hgi
  have hgw : go < w.heap.size := by
    obtain ⟨go', e2, -, h3, -⟩ := h.side hgi
    rw [e1] at e2
    injection e2 with e2
    injection e2 with e2
    omega
  have HGq : Hid (q ≠ go ∧ q ≠ p) := Lib.hid ⟨by omega, by have := h.lt; omega⟩
  have HSe : Hid (s.se = ⟨some ⟨go, 0, none⟩, s.se.n, s.se.c⟩) := Lib.hid (by cases hse : s.se; rw [hse] at e1; simp only at e1; rw [e1])
  obtain ⟨oA, on, oc, hos⟩ : ∃ A n c, o.s = ⟨A, n, c⟩ := ⟨_, _, _, rfl⟩
  have HOs := Lib.hid hos
  obtain ⟨R, hR⟩ : ∃ R, R = gramS ps s.v d := ⟨_, rfl⟩
  have HR := Lib.hid hR
  obtain ⟨Rs, Re⟩ := R
  rw [← hR]
  have HEt := Lib.hid hi
  clear h h1 hb1 hg G hI hc hgp hi hil hil2 ho hgi hlen hsn hqw hBe hH q1 q2 q3 q4 q5 e1 g1 g2 g3 g4 g5 g6 g7 g8 c0 c1 c2 c3 hgw hos hR
  obtain ⟨gf, gt, ga, gs_, ⟨mk, mo, mn, mu, mv⟩⟩ := d
  obtain ⟨⟨op, ob, oo, os_⟩, os2⟩ := o
  obtain ⟨hp, hb, ho, hs⟩ := H
  simp only at HOs
  have hos2 := HOs.out
  subst hos2
  simp only [Gm.val, Value.cells] at HQ hW1 HEd ⊢
  have HX : Hid (∀ W, Below W1.heap.size W1 W → (W.cell? ⟨go, i * 4, none⟩ = some (.int .i64 op) ∧ W.cell? ⟨go, i * 4 + 1, none⟩ = some (.int .i64 ob) ∧ W.cell? ⟨go, i * 4 + 2, none⟩ = some (.slice oA on oc) ∧ W.cell? ⟨go, i * 4 + 3, none⟩ = some (.int .i64 os_)) ∧ (∀ j, W.frozen? ⟨go, j, none⟩ = false) ∧ W.cell? ⟨q, 0, none⟩ = some (.int .i64 gf) ∧ W.cell? ⟨q, 1, none⟩ = some (.int .i64 gt) ∧ W.cell? ⟨q, 2, none⟩ = some (.int .i64 ga) ∧ W.cell? ⟨q, 3, none⟩ = some (.int .i64 gs_) ∧ W.cell? ⟨q, 4, none⟩ = some (.int .i64 mk) ∧ W.cell? ⟨q, 5, none⟩ = some (.int .i64 mo) ∧ W.cell? ⟨q, 6, none⟩ = some (.int .i64 mn) ∧ W.cell? ⟨q, 7, none⟩ = some (.int .i64 mu) ∧ W.cell? ⟨q, 8, none⟩ = some (.int .i64 mv)) := Lib.hid (fun W hW => by
    have hq := HQ.out.below hW HQ.out.lt
    obtain ⟨go', e1, -, -, -, -, -, -, -, f1, k0, k1, k2, k3⟩ := (HC1.out.below hW).side HO.out
    obtain rfl : go = go' := by rw [HSe.out] at e1; injection e1 with e1; injection e1
    exact ⟨⟨k0, k1, k2, k3⟩, f1, hq.cell 0, hq.cell 1, hq.cell 2, hq.cell 3, hq.cell 4, hq.cell 5, hq.cell 6, hq.cell 7, hq.cell 8⟩)
  have HHe : Hid (∀ W, Below W1.heap.size W1 W → Calls Try.prog 65 #[.agg #[.int .i64 op, .int .i64 ob, .slice oA on oc, .int .i64 os_], .int .i64 ga] W fun e w' => ∃ A5 n5 k5, e = .returned (.tuple #[.agg #[.int .i64 hp, .int .i64 hb, .slice A5 n5 k5, .int .i64 hs], .int .i64 0]) ∧ mgR.Own w' W1.heap.size (.slice A5 n5 k5) ho ∧ Below W1.heap.size W1 w') := Lib.hid (fun W hW => by
    have hin := (HC1.out.below hW).inH HO.out (good_parts.1 HGo.out).2.2.1
    refine (heardH _ ga oA on oc W hin HI.out.a.1 HI.out.a.2).mono ?_
    rintro e w' ⟨v, e1, e2, e3⟩
    have hh := HH.out
    simp only at hh
    rw [hh] at e1 e2
    have e4 := OwnG.row e2
    obtain ⟨A5, k5, e5⟩ := Row.Own.sl e4
    rw [e5] at e1 e4
    exact ⟨A5, _, k5, e1, e4.low hW.size, hW.trans (e3.mono hW.size)⟩)
  obtain ⟨-, -, y0, -⟩ := HX.out W1 (Below.refl _ _)
  have HW1 := Lib.hid hW1
  rw [hW1] at y0
  go_enter Try.func46, Try.ntmps46
  go_wp2_with fail
  rw [← HW1.out, ← hq]
  clear hq y0
  refine HEd.out.mono ?_
  rintro e w2 ⟨go', hgo', rfl, hb2⟩
  obtain rfl : go = go' := by rw [HSe.out] at hgo'; injection hgo' with e1; injection e1
  have HB2 := Lib.hid hb2
  have HD2 : Hid (Below W1.heap.size W1 w2.drew) := Lib.hid (below_drewC hb2 1)
  obtain ⟨⟨x0, x1, x2, x3⟩, xf, y0, y1, y2, y3, y4, y5, y6, y7, y8⟩ := HX.out w2 hb2
  clear hb2 hgo' hW1
  go_wp2_with fail
  go_region_with (go_at_call 65; go_must (refine (HHe.out w2.drew HD2.out).mono ?_; rintro e w3 ⟨A5, n5, k5, rfl, ho5, hb5⟩; obtain ⟨⟨u0, u1, u2, u3⟩, uf, -⟩ := HX.out w3 hb5; have HO5 := Lib.hid ho5; have HB5 := Lib.hid hb5; clear ho5 hb5))
  all_goals
    clear x0 x1 x2 x3 xf y0 y1 y2 y3 y4 y5 y6 y7 y8 u0 u1 u2 u3 uf
    have hput := HC1.out.putE (o' := ⟨⟨hp, hb, ho, hs⟩, ⟨A5, n5, k5⟩⟩) HO.out HSe.out HB5.out HO5.out
    simp only [Sl.val] at hput
    obtain ⟨w4, hw4⟩ : ∃ W, W = (((w3.setCell ⟨go, i * 4, none⟩ (.int .i64 hp)).setCell ⟨go, i * 4 + 1, none⟩ (.int .i64 hb)).setCell ⟨go, i * 4 + 2, none⟩ (.slice A5 n5 k5)).setCell ⟨go, i * 4 + 3, none⟩ (.int .i64 hs) := ⟨_, rfl⟩
    rw [← hw4] at hput ⊢
    obtain ⟨hC4, hB4⟩ := hput
    have HC4 := Lib.hid hC4
    have HB4 := Lib.hid hB4
    have HQ4 : Hid (Blk w4 q 32 #[.int .i64 gf, .int .i64 gt, .int .i64 ga, .int .i64 gs_, .int .i64 mk, .int .i64 mo, .int .i64 mn, .int .i64 mu, .int .i64 mv]) := Lib.hid (by rw [hw4]; exact blk_other (blk_other (blk_other (blk_other (HQ.out.below HB5.out HQ.out.lt) HGq.out.1 _ _) HGq.out.1 _ _) HGq.out.1 _ _) HGq.out.1 _ _)
    have HV4 : Hid (({s with es := s.es.set i ⟨⟨hp, hb, ho, hs⟩, ⟨A5, n5, k5⟩⟩} : StL).v = setE s.v i ⟨hp, hb, ho, hs⟩) := Lib.hid (v_setE _ _ _)
    have HO4 : Hid (({s with es := s.es.set i ⟨⟨hp, hb, ho, hs⟩, ⟨A5, n5, k5⟩⟩} : StL).es[i]? = some ⟨⟨hp, hb, ho, hs⟩, ⟨A5, n5, k5⟩⟩) := Lib.hid (by
      show (s.es.set i _)[i]? = _
      rw [List.getElem?_set_self (by have := HLt.out; simpa [StL.v] using this)])
    have HG4 : Hid (GoodS ps (setE s.v i ⟨hp, hb, ho, hs⟩)) := Lib.hid (HGs.out _ HHb.out rfl (fun m hm => hm))
    have HX4 : Hid (∀ W, Below w4.heap.size w4 W → (W.cell? ⟨go, i * 4, none⟩ = some (.int .i64 hp) ∧ W.cell? ⟨go, i * 4 + 1, none⟩ = some (.int .i64 hb) ∧ W.cell? ⟨go, i * 4 + 2, none⟩ = some (.slice A5 n5 k5) ∧ W.cell? ⟨go, i * 4 + 3, none⟩ = some (.int .i64 hs)) ∧ (∀ j, W.frozen? ⟨go, j, none⟩ = false) ∧ W.cell? ⟨q, 0, none⟩ = some (.int .i64 gf) ∧ W.cell? ⟨q, 1, none⟩ = some (.int .i64 gt) ∧ W.cell? ⟨q, 2, none⟩ = some (.int .i64 ga) ∧ W.cell? ⟨q, 3, none⟩ = some (.int .i64 gs_) ∧ W.cell? ⟨q, 4, none⟩ = some (.int .i64 mk) ∧ W.cell? ⟨q, 5, none⟩ = some (.int .i64 mo) ∧ W.cell? ⟨q, 6, none⟩ = some (.int .i64 mn) ∧ W.cell? ⟨q, 7, none⟩ = some (.int .i64 mu) ∧ W.cell? ⟨q, 8, none⟩ = some (.int .i64 mv)) := Lib.hid (fun W hW => by
      have hq := HQ4.out.below hW HQ4.out.lt
      obtain ⟨go', e1, -, -, -, -, -, -, -, f1, k0, k1, k2, k3⟩ := (HC4.out.below hW).side HO4.out
      obtain rfl : go = go' := by
        have e2 : s.se.A = some ⟨go', 0, none⟩ := e1
        rw [HSe.out] at e2; injection e2 with e2; injection e2
      exact ⟨⟨k0, k1, k2, k3⟩, f1, hq.cell 0, hq.cell 1, hq.cell 2, hq.cell 3, hq.cell 4, hq.cell 5, hq.cell 6, hq.cell 7, hq.cell 8⟩)
    have HIn4 : Hid (∀ W, Below w4.heap.size w4 W → InH W ⟨hp, hb, ho, hs⟩ A5 n5 k5) := Lib.hid (fun W hW => (HC4.out.below hW).inH HO4.out (by rw [HV4.out]; exact (good_parts.1 HG4.out).2.2.1))
    have HFt : Hid (∀ W, Below w4.heap.size w4 W → Calls Try.prog 66 #[.agg #[.int .i64 hp, .int .i64 hb, .slice A5 n5 k5, .int .i64 hs], .int .i64 gs_] W fun e w' => e = .returned (.bool (hfits ⟨hp, hb, ho, hs⟩ gs_)) ∧ Below w4.heap.size w4 w') := Lib.hid (fun W hW => (fitsH _ gs_ A5 n5 k5 W (HIn4.out W hW) HI.out.s.1 HI.out.s.2).mono fun e w' ⟨e1, e2⟩ => ⟨e1, hW.trans (e2.mono hW.size)⟩)
    obtain ⟨bf, hbf⟩ : ∃ b, b = hfits ⟨hp, hb, ho, hs⟩ gs_ := ⟨_, rfl⟩
    rw [← hbf] at HFt
    have HBf := Lib.hid hbf
    have hS0 : (fun W : World => W.cell? ⟨go, i * 4, none⟩ = some (.int .i64 hp) ∧ W.cell? ⟨go, i * 4 + 1, none⟩ = some (.int .i64 hb) ∧ W.cell? ⟨go, i * 4 + 2, none⟩ = some (.slice A5 n5 k5) ∧ W.cell? ⟨go, i * 4 + 3, none⟩ = some (.int .i64 hs) ∧ W.cell? ⟨q, 3, none⟩ = some (.int .i64 gs_)) w4.drew := by
      obtain ⟨⟨a0, a1, a2, a3⟩, -, -, -, -, a4, -⟩ := HX4.out w4.drew (below_drewC (Below.refl _ _) 1)
      exact ⟨a0, a1, a2, a3, a4⟩
    have HD4 : Hid (Below w4.heap.size w4 w4.drew) := Lib.hid (below_drewC (Below.refl _ _) 1)
    clear hw4 hC4 hB4 hbf
    go_wp2_with fail
    go_region_held3 (fun W : World => W.cell? ⟨go, i * 4, none⟩ = some (.int .i64 hp) ∧ W.cell? ⟨go, i * 4 + 1, none⟩ = some (.int .i64 hb) ∧ W.cell? ⟨go, i * 4 + 2, none⟩ = some (.slice A5 n5 k5) ∧ W.cell? ⟨go, i * 4 + 3, none⟩ = some (.int .i64 hs) ∧ W.cell? ⟨q, 3, none⟩ = some (.int .i64 gs_)) (first | with_reducible exact hS0 | with_reducible exact Y1 | go_keep) (first
      | (go_at_call 66; go_must (refine (HFt.out w4.drew HD4.out).mono ?_; rintro e w5 ⟨rfl, hb5⟩; have Y1 : (fun W : World => W.cell? ⟨go, i * 4, none⟩ = some (.int .i64 hp) ∧ W.cell? ⟨go, i * 4 + 1, none⟩ = some (.int .i64 hb) ∧ W.cell? ⟨go, i * 4 + 2, none⟩ = some (.slice A5 n5 k5) ∧ W.cell? ⟨go, i * 4 + 3, none⟩ = some (.int .i64 hs) ∧ W.cell? ⟨q, 3, none⟩ = some (.int .i64 gs_)) w5 := (by obtain ⟨⟨a0, a1, a2, a3⟩, -, -, -, -, a4, -⟩ := HX4.out w5 hb5; exact ⟨a0, a1, a2, a3, a4⟩); have HB6 := Lib.hid hb5; clear hb5)))
    clear hS0 Y1
    cases bf with
    | false =>
      have HE : Hid ((Rs, Re) = (setE s.v i ⟨hp, hb, ho, hs⟩, 0)) := Lib.hid (by
        have hh := HH.out
        (try simp only at hh)
        rw [HR.out]; unfold gramS
        rw [if_neg (fun h9 => h9 HCo.out)]
        simp only [HEt.out, HA.out, hh, ← HBf.out]
        simp)
      go_wp2
      go_ret
      have e1 := HE.out
      injection e1 with e1 e2
      exact ⟨_, by rw [e2]; rfl, (HC4.out.below HB6.out).x, by rw [e1]; exact HV4.out, ((HB1.out.mono HB.out).trans HB4.out).trans (HB6.out.mono HC4.out.sz)⟩
    | true =>
      have hfit := of_decide_eq_true (show decide _ = true from HBf.out.symm)
      have hs0 : 0 < gs_ := by have h1 := hfit.1.2.2.2.1; have h2 := hfit.2.2; simp only at h1 h2; omega
      have hsm : hs < 1099511627776 := hfit.2.1
      have HTk : Hid (htake ⟨hp, hb, ho, hs⟩ = (⟨hp, hb, ho, hs + 1⟩, 0)) := Lib.hid (by unfold htake; rw [if_pos hfit.1, if_neg (by show ¬ hs = _; omega)]; rfl)
      have hone : (⟨hp, hb, ho, hs + 1⟩ : Hf).Be := by
        have q1 := hfit.1
        exact ⟨q1.1, q1.2.1, q1.2.2.1, by show 0 ≤ hs + 1; have h1 := q1.2.2.2.1; simp only at h1; omega, by show hs + 1 ≤ _; omega, q1.2.2.2.2.2⟩
      have HG8 : Hid (GoodS ps (setE s.v i ⟨hp, hb, ho, hs + 1⟩)) := Lib.hid (HGs.out _ hone rfl (fun m hm => hm))
      have HE : Hid ((Rs, Re) = comeS ps (setE s.v i ⟨hp, hb, ho, hs + 1⟩) gf ⟨mk, mo, mn, mu, mv⟩) := Lib.hid (by
        have hh := HH.out
        (try simp only at hh)
        rw [HR.out]; unfold gramS
        rw [if_neg (fun h9 => h9 HCo.out)]
        simp only [HEt.out, HA.out, hh, ← HBf.out]
        rw [if_pos ⟨hs0, trivial⟩]
        rfl)
      have HMs : Hid ((⟨mk, mo, mn, mu, mv⟩ : Mg).Be ∧ MeantS (ps.length : Int) (s.v.os.length : Int) ⟨mk, mo, mn, mu, mv⟩) := Lib.hid (by
        have hc := HCo.out
        have hne : gs_ ≠ 0 := by omega
        refine ⟨hc.1.2.2.2.2.2.2.2.2.2.2 hne, ?_⟩
        rcases hc.2.2.2 with h0 | h0
        · exact absurd h0 hne
        · exact h0)
      have HTa : Hid (∀ W, Below w4.heap.size w4 W → Calls Try.prog 67 #[.agg #[.int .i64 hp, .int .i64 hb, .slice A5 n5 k5, .int .i64 hs]] W fun e w' => ∃ A7 n7 k7, e = .returned (.tuple #[.agg #[.int .i64 hp, .int .i64 hb, .slice A7 n7 k7, .int .i64 (hs + 1)], .int .i64 0]) ∧ mgR.Own w' w4.heap.size (.slice A7 n7 k7) ho ∧ Below w4.heap.size w4 w') := Lib.hid (fun W hW => by
        refine (tookH _ A5 n5 k5 W (HIn4.out W hW)).mono ?_
        rintro e w' ⟨v, e1, e2, e3⟩
        rw [HTk.out] at e1 e2
        have e4 := OwnG.row e2
        obtain ⟨A7, k7, e5⟩ := Row.Own.sl e4
        rw [e5] at e1 e4
        exact ⟨A7, _, k7, e1, e4.low hW.size, hW.trans (e3.mono hW.size)⟩)
      clear hfit hs0 hsm hone
      obtain ⟨⟨x0, x1, x2, x3⟩, xf, -⟩ := HX4.out w5 HB6.out
      go_wp2_with fail
      clear x0 x1 x2 x3 xf
      refine (HTa.out w5 HB6.out).mono ?_
      rintro e w7 ⟨A7, n7, k7, rfl, ho7, hb7⟩
      have HO7 := Lib.hid ho7
      have HB7 := Lib.hid hb7
      obtain ⟨⟨x0, x1, x2, x3⟩, xf, y0, y1, y2, y3, y4, y5, y6, y7, y8⟩ := HX4.out w7 hb7
      have hput := HC4.out.putE (o' := ⟨⟨hp, hb, ho, hs + 1⟩, ⟨A7, n7, k7⟩⟩) HO4.out HSe.out hb7 ho7
      simp only [Sl.val] at hput
      obtain ⟨w8, hw8⟩ : ∃ W, W = (((w7.setCell ⟨go, i * 4, none⟩ (.int .i64 hp)).setCell ⟨go, i * 4 + 1, none⟩ (.int .i64 hb)).setCell ⟨go, i * 4 + 2, none⟩ (.slice A7 n7 k7)).setCell ⟨go, i * 4 + 3, none⟩ (.int .i64 (hs + 1)) := ⟨_, rfl⟩
      rw [← hw8] at hput
      obtain ⟨hC8, hB8⟩ := hput
      have HC8 := Lib.hid hC8
      have HB8 := Lib.hid hB8
      have HQ8 : Hid (Blk w8 q 32 #[.int .i64 gf, .int .i64 gt, .int .i64 ga, .int .i64 gs_, .int .i64 mk, .int .i64 mo, .int .i64 mn, .int .i64 mu, .int .i64 mv]) := Lib.hid (by rw [hw8]; exact blk_other (blk_other (blk_other (blk_other (HQ4.out.below HB7.out HQ4.out.lt) HGq.out.1 _ _) HGq.out.1 _ _) HGq.out.1 _ _) HGq.out.1 _ _)
      have HV8 : Hid (({s with es := (s.es.set i ⟨⟨hp, hb, ho, hs⟩, ⟨A5, n5, k5⟩⟩).set i ⟨⟨hp, hb, ho, hs + 1⟩, ⟨A7, n7, k7⟩⟩} : StL).v = setE s.v i ⟨hp, hb, ho, hs + 1⟩) := Lib.hid (by
        refine (v_setE ({s with es := s.es.set i ⟨⟨hp, hb, ho, hs⟩, ⟨A5, n5, k5⟩⟩} : StL) i _).trans ?_
        rw [HV4.out, setE_setE])
      have HMg : Hid (Calls Try.prog 68 #[.pointer (some ⟨p, 0, none⟩), .agg #[.int .i64 mk, .int .i64 mo, .int .i64 mn, .int .i64 mu, .int .i64 mv], .int .i64 gf] w8 fun e w' => ∃ s2, e = .returned (.int .i64 (comeS ps (setE s.v i ⟨hp, hb, ho, hs + 1⟩) gf ⟨mk, mo, mn, mu, mv⟩).2) ∧ ChgX w' B p T s2 ∧ s2.v = (comeS ps (setE s.v i ⟨hp, hb, ho, hs + 1⟩) gf ⟨mk, mo, mn, mu, mv⟩).1 ∧ Below B w8 w') := Lib.hid (by
        have := message_any HC8.out HG.out (by have h9 := HG8.out; rw [← HV8.out] at h9; exact h9) (m := ⟨mk, mo, mn, mu, mv⟩) (f := gf) HI.out.m HMs.out.1 (by
          have h9 := HMs.out.2
          have e9 : (s.v.os.length : Int) = ((setE s.v i ⟨hp, hb, ho, hs + 1⟩).os.length : Int) := rfl
          rw [e9, ← HV8.out] at h9
          exact h9) HCo.out.2.2.1
        have e9 : ({s with es := (s.es.set i ⟨⟨hp, hb, ho, hs⟩, ⟨A5, n5, k5⟩⟩).set i ⟨⟨hp, hb, ho, hs + 1⟩, ⟨A7, n7, k7⟩⟩} : StL).v = setE s.v i ⟨hp, hb, ho, hs + 1⟩ := HV8.out
        refine this.mono ?_
        rintro e w' ⟨s9, k1, k2, k3, k4⟩
        refine ⟨s9, ?_, k2, ?_, k4⟩
        · rw [k1]; exact congrArg (fun z => Ending.returned (Value.int .i64 (comeS ps z gf ⟨mk, mo, mn, mu, mv⟩).2)) e9
        · rw [k3]; exact congrArg (fun z => (comeS ps z gf ⟨mk, mo, mn, mu, mv⟩).1) e9)
      have HW8 := Lib.hid hw8
      have z0 : w8.cell? ⟨q, 0, none⟩ = some (.int .i64 gf) := HQ8.out.cell 0
      have z4 : w8.cell? ⟨q, 4, none⟩ = some (.int .i64 mk) := HQ8.out.cell 4
      have z5 : w8.cell? ⟨q, 5, none⟩ = some (.int .i64 mo) := HQ8.out.cell 5
      have z6 : w8.cell? ⟨q, 6, none⟩ = some (.int .i64 mn) := HQ8.out.cell 6
      have z7 : w8.cell? ⟨q, 7, none⟩ = some (.int .i64 mu) := HQ8.out.cell 7
      have z8 : w8.cell? ⟨q, 8, none⟩ = some (.int .i64 mv) := HQ8.out.cell 8
      rw [hw8] at z0 z4 z5 z6 z7 z8
      clear ho7 hb7 hw8 hC8 hB8 y0 y1 y2 y3 y4 y5 y6 y7 y8
      go_wp2_with fail
      rw [← HW8.out]
      clear z0 z4 z5 z6 z7 z8 x0 x1 x2 x3 xf
      refine HMg.out.mono ?_
      rintro e w9 ⟨s9, rfl, hc, hv, hb⟩
      have HC9 := Lib.hid hc
      have HV9 := Lib.hid hv
      have HB9 := Lib.hid hb
      clear hc hv hb
      go_wp2
      go_ret
      have e1 := HE.out
      exact ⟨s9, by rw [← e1]; rfl, HC9.out, by rw [HV9.out, ← e1], (((HB1.out.mono HB.out).trans HB4.out).trans HB8.out).trans HB9.out⟩
end Go.Proofs.Ytiaafhcfeeekeaa.Pk

/- The change's event. -/
namespace Go.Proofs.Ytiaafhcfeeekeaa.Pk
open Go.RowKit Go.Proofs.Ytiaafhcfeeekeaa.Gr
set_option linter.unusedVariables false
/-- An event that can be one of the state's. -/
def EvOk (ps : List Int) (s : St) (ev : Ev) : Prop := (1 ≤ ev.k ∧ ev.k ≤ 4) ∧ (ev.k = 4 → ComesS ps s ev.g) ∧ (ev.k ≠ 4 → 0 ≤ ev.o ∧ ev.o < (s.os.length : Int))
set_option maxRecDepth 100000 in
set_option maxHeartbeats 8000000 in
theorem event_any {w : World} {B p T g : Nat} {ps : List Int} {s : StL} (h : Chg w B p T g ps s) (G : Gr.Good ps) (hg : GoodS ps s.v) {ev : Ev} (hI : ev.I) (hk : EvOk ps s.v ev) :
    Calls Try.prog 24 #[.pointer (some ⟨p, 0, none⟩), ev.val] w fun e w' => ∃ s2, e = .returned (.tuple #[.int .i64 (stepS ps s.v ev).2.1, .int .i64 (stepS ps s.v ev).2.2]) ∧ ((stepS ps s.v ev).2.2 = 0 → ChgX w' B p T s2 ∧ s2.v = (stepS ps s.v ev).1) ∧ Below B w w' := by
  obtain ⟨q, hq⟩ : ∃ q, q = w.heap.size := ⟨_, rfl⟩
  obtain ⟨W1, hW1⟩ : ∃ W, W = w.alloc (.cells ev.val.cells 34) := ⟨_, rfl⟩
  have hb1 : Below w.heap.size w W1 := hW1 ▸ (Below.refl _ _).alloc (Nat.le_refl _) _
  have hQ : Blk W1 q 34 ev.val.cells := by rw [hW1, hq]; exact Blk.new w _ _
  have HB1 : Hid (Below B w W1) := Lib.hid (hb1.mono h.sz)
  have HC1 := Lib.hid (h.below hb1)
  have HK := Lib.hid hk
  have HAc := Lib.hid (fun k hk => acquire_any HC1.out G hg (k := k) hk)
  have HRl := Lib.hid (fun k hk => release_any HC1.out G hg (k := k) hk)
  have HLo := Lib.hid (fun k hk => locate_any HC1.out G hg (k := k) hk)
  have HGr := Lib.hid (fun hc => gram_any HC1.out G hg hI.g hc)
  obtain ⟨R, hR⟩ : ∃ R, R = stepS ps s.v ev := ⟨_, rfl⟩
  have HR := Lib.hid hR
  obtain ⟨Rs, Rn, Re⟩ := R
  rw [← hR]
  have hb4 := hk.1
  clear h hb1 hg hI hR G hk
  obtain ⟨ek, eo, ⟨gf, gt, ga, gs_, ⟨mk, mo, mn, mu, mv⟩⟩⟩ := ev
  simp only [Ev.val, Gm.val, Value.cells] at hQ hW1 HGr hb4 ⊢
  have y0 : W1.cell? ⟨q, 0, none⟩ = some (.int .i64 ek) := hQ.cell 0
  have y1 : W1.cell? ⟨q, 1, none⟩ = some (.int .i64 eo) := hQ.cell 1
  have y2 : W1.cell? ⟨q, 2, none⟩ = some (.int .i64 gf) := hQ.cell 2
  have y3 : W1.cell? ⟨q, 3, none⟩ = some (.int .i64 gt) := hQ.cell 3
  have y4 : W1.cell? ⟨q, 4, none⟩ = some (.int .i64 ga) := hQ.cell 4
  have y5 : W1.cell? ⟨q, 5, none⟩ = some (.int .i64 gs_) := hQ.cell 5
  have y6 : W1.cell? ⟨q, 6, none⟩ = some (.int .i64 mk) := hQ.cell 6
  have y7 : W1.cell? ⟨q, 7, none⟩ = some (.int .i64 mo) := hQ.cell 7
  have y8 : W1.cell? ⟨q, 8, none⟩ = some (.int .i64 mn) := hQ.cell 8
  have y9 : W1.cell? ⟨q, 9, none⟩ = some (.int .i64 mu) := hQ.cell 9
  have y10 : W1.cell? ⟨q, 10, none⟩ = some (.int .i64 mv) := hQ.cell 10
  have HW1 := Lib.hid hW1
  rw [hW1] at y0 y1 y2 y3 y4 y5 y6 y7 y8 y9 y10
  clear hQ
  by_cases h4 : ek = 4
  · have t1 : (ek == 1) = false := by simp; omega
    have t2 : (ek == 2) = false := by simp; omega
    have t3 : (ek == 3) = false := by simp; omega
    have HE : Hid ((Rs, Rn, Re) = ((gramS ps s.v ⟨gf, gt, ga, gs_, ⟨mk, mo, mn, mu, mv⟩⟩).1, 0, (gramS ps s.v ⟨gf, gt, ga, gs_, ⟨mk, mo, mn, mu, mv⟩⟩).2)) := Lib.hid (by
      rw [HR.out]; unfold stepS; rw [if_neg (by show ¬ (ek < 1 ∨ 4 < ek); omega), if_pos h4])
    have HGr := Lib.hid (HGr.out (HK.out.2.1 h4))
    clear h4 HAc HRl HLo hb4
    go_enter Try.func24, Try.ntmps24
    go_wp2_with fail
    rw [← HW1.out]
    refine HGr.out.mono ?_
    rintro e w3 ⟨s2, rfl, hc, hv, hb⟩
    have HC3 := Lib.hid hc
    have HV3 := Lib.hid hv
    have HB3 := Lib.hid hb
    clear hc hv hb y0 y1 y2 y3 y4 y5 y6 y7 y8 y9 y10
    go_wp2
    go_ret2
    have e1 := HE.out
    injection e1 with e1 e2
    injection e2 with e2 e3
    exact ⟨s2, by rw [e2, e3]; rfl, fun _ => ⟨HC3.out, by rw [e1]; exact HV3.out⟩, HB1.out.trans HB3.out⟩
  have hob : 0 ≤ eo ∧ eo < (s.v.os.length : Int) := HK.out.2.2 h4
  obtain ⟨k, rfl⟩ : ∃ k : Nat, eo = (k : Int) := ⟨eo.toNat, by omega⟩
  have hkl : k < s.v.os.length := by omega
  have hS : stepS ps s.v ⟨ek, (k : Int), ⟨gf, gt, ga, gs_, ⟨mk, mo, mn, mu, mv⟩⟩⟩ = if ek = 1 then acqS s.v k else if ek = 2 then ((relS ps s.v k).1, 0, (relS ps s.v k).2) else locS ps s.v k := by
    unfold stepS
    rw [if_neg (by show ¬ (ek < 1 ∨ 4 < ek); omega), if_neg h4, if_neg (by show ¬ ((k : Int) < 0 ∨ (s.v.os.length : Int) ≤ (k : Int)); omega)]
    simp only [Int.toNat_natCast]
  have HS := Lib.hid hS
  have HAc := Lib.hid (HAc.out k hkl)
  have HRl := Lib.hid (HRl.out k hkl)
  have HLo := Lib.hid (HLo.out k hkl)
  clear hS hob hkl HGr
  by_cases e1 : ek = 1
  · have t1 : (ek == 1) = true := by simpa using e1
    have HE : Hid ((Rs, Rn, Re) = acqS s.v k) := Lib.hid (by rw [HR.out, HS.out, if_pos e1])
    clear e1 h4 hb4 HRl HLo
    go_enter Try.func24, Try.ntmps24
    go_wp2_with fail
    rw [← HW1.out]
    refine HAc.out.mono ?_
    rintro e w3 ⟨s2, rfl, hc, hb⟩
    have HC3 := Lib.hid hc
    have HB3 := Lib.hid hb
    clear hc hb y0 y1 y2 y3 y4 y5 y6 y7 y8 y9 y10
    go_wp2
    go_ret2
    have e1 := HE.out
    have h9 := HC3.out
    rw [← e1] at h9
    exact ⟨s2, by rw [← e1]; rfl, h9, HB1.out.trans HB3.out⟩
  have t1 : (ek == 1) = false := by simpa using e1
  by_cases e2 : ek = 2
  · have t2 : (ek == 2) = true := by simpa using e2
    have HE : Hid ((Rs, Rn, Re) = ((relS ps s.v k).1, 0, (relS ps s.v k).2)) := Lib.hid (by rw [HR.out, HS.out, if_neg e1, if_pos e2])
    clear e1 e2 h4 hb4 HAc HLo
    go_enter Try.func24, Try.ntmps24
    go_wp2_with fail
    rw [← HW1.out]
    refine HRl.out.mono ?_
    rintro e w3 ⟨s2, rfl, hc, hv, hb⟩
    have HC3 := Lib.hid hc
    have HV3 := Lib.hid hv
    have HB3 := Lib.hid hb
    clear hc hv hb y0 y1 y2 y3 y4 y5 y6 y7 y8 y9 y10
    go_wp2
    go_ret2
    have e1 := HE.out
    injection e1 with e1 e2
    injection e2 with e2 e3
    exact ⟨s2, by rw [e2, e3]; rfl, fun _ => ⟨HC3.out, by rw [e1]; exact HV3.out⟩, HB1.out.trans HB3.out⟩
  have t2 : (ek == 2) = false := by simpa using e2
  have t3 : (ek == 3) = true := by simp; omega
  have HE : Hid ((Rs, Rn, Re) = locS ps s.v k) := Lib.hid (by rw [HR.out, HS.out, if_neg e1, if_neg e2])
  clear e1 e2 h4 hb4 HAc HRl
  go_enter Try.func24, Try.ntmps24
  go_wp2_with fail
  rw [← HW1.out]
  refine HLo.out.mono ?_
  rintro e w3 ⟨s2, rfl, hc, hv, hb⟩
  have HC3 := Lib.hid hc
  have HV3 := Lib.hid hv
  have HB3 := Lib.hid hb
  clear hc hv hb y0 y1 y2 y3 y4 y5 y6 y7 y8 y9 y10
  go_wp2
  go_ret2
  have e1 := HE.out
  exact ⟨s2, by rw [← e1]; rfl, fun _ => ⟨HC3.out, by rw [HV3.out, ← e1]⟩, HB1.out.trans HB3.out⟩
end Go.Proofs.Ytiaafhcfeeekeaa.Pk
