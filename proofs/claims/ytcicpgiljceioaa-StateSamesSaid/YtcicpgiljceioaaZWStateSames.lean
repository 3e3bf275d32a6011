/- The walk of the law StateSames. -/
import Derived.Test.YtcicpgiljceioaaZWiEq
import Derived.Test.YtcicpgiljceioaaZStSame
import Derived.Deep.RegionHeld3
import Derived.Deep.DeepMust
namespace Go.Proofs.Ytcicpgiljceioaa.Pk
open Go.RowKit Go.Proofs.Ytcicpgiljceioaa.Gr
set_option linter.unusedVariables false
theorem decide_symm {α : Type} [DecidableEq α] (a b : α) : decide (b = a) = decide (a = b) := decide_eq_decide.2 ⟨Eq.symm, Eq.symm⟩
set_option maxRecDepth 100000 in
set_option maxHeartbeats 8000000 in
theorem law_StateSames (HFi : StFirstP) (HGo : StGoodP) (HSa : StSameP) (HCo : StCopyP) (s t : StL) (w : World) (hs : InS w s) (ht : InS w t) :
    Calls Try.prog 6 #[s.val, t.val] w fun e w' => e = .returned (.bool true) ∧ Below w.heap.size w w' := by
  have HW := Lib.hid (fun w => wakesS HFi HGo w)
  have HI := Lib.hid hs
  have HT := Lib.hid ht
  have HSa := Lib.hid HSa
  have HCo := Lib.hid HCo
  clear hs ht
  obtain ⟨sv, hsv⟩ : ∃ v, v = s.v := ⟨_, rfl⟩
  obtain ⟨tv, htv⟩ : ∃ v, v = t.v := ⟨_, rfl⟩
  obtain ⟨r, hr⟩ : ∃ r, r = decide (sv = tv) := ⟨_, rfl⟩
  obtain ⟨p, hp⟩ : ∃ p, p = w.heap.size := ⟨_, rfl⟩
  obtain ⟨pt, hpt⟩ : ∃ x, x = p + 1 := ⟨_, rfl⟩
  obtain ⟨wa, hwa⟩ : ∃ wa, wa = w.alloc (.cells s.val.cells 30) := ⟨_, rfl⟩
  obtain ⟨W1, hW1⟩ : ∃ W1, W1 = wa.alloc (.cells t.val.cells 30) := ⟨_, rfl⟩
  have hsa : wa.heap.size = p + 1 := by rw [hwa, World.size_alloc, hp]
  have hba : Below w.heap.size w wa := hwa ▸ (Below.refl _ _).alloc (Nat.le_refl _) _
  have HB1 : Hid (Below w.heap.size w W1) := Lib.hid (hW1 ▸ hba.alloc (by omega) _)
  have HKp : Hid (Blk W1 p 30 s.val.cells) := Lib.hid (by rw [hW1, hwa, hp]; exact (Blk.new w _ _).alloc _)
  have HKt : Hid (Blk W1 pt 30 t.val.cells) := Lib.hid (by rw [hW1, hpt, ← hsa]; exact Blk.new wa _ _)
  have tr : ∀ {W w' : World}, Below W1.heap.size W1 W → Below W.heap.size W w' → Below W1.heap.size W1 w' := fun h k => h.trans (k.mono h.size)
  have HIW := Lib.hid (fun W (hW : Below W1.heap.size W1 W) => HI.out.next (HB1.out.trans (hW.mono HB1.out.size)))
  have HTW := Lib.hid (fun W (hW : Below W1.heap.size W1 W) => HT.out.next (HB1.out.trans (hW.mono HB1.out.size)))
  have HWa : Hid (∀ W, Below W1.heap.size W1 W → Calls Try.prog 9 #[] W fun e w' => e = .returned (.bool true) ∧ Below W1.heap.size W1 w') := Lib.hid (fun W hW => (HW.out W).mono fun e w' h => ⟨h.1, tr hW h.2⟩)
  have HSab : Hid (∀ W, Below W1.heap.size W1 W → Calls Try.prog 22 #[s.val, t.val] W fun e w' => e = .returned (.bool r) ∧ Below W1.heap.size W1 w') := Lib.hid (fun W hW => (HSa.out s t W (HIW.out W hW) (HTW.out W hW)).mono fun e w' h => ⟨by rw [hr, hsv, htv]; exact h.1, tr hW h.2⟩)
  have HSba : Hid (∀ W, Below W1.heap.size W1 W → Calls Try.prog 22 #[t.val, s.val] W fun e w' => e = .returned (.bool r) ∧ Below W1.heap.size W1 w') := Lib.hid (fun W hW => (HSa.out t s W (HTW.out W hW) (HIW.out W hW)).mono fun e w' h => ⟨by rw [hr, hsv, htv, ← decide_symm]; exact h.1, tr hW h.2⟩)
  have HRab : Hid (∀ W, Below W1.heap.size W1 W → Calls Try.prog 14 #[s.val, t.val] W fun e w' => e = .returned (.bool r) ∧ Below W1.heap.size W1 w') := Lib.hid (fun W hW => (refsames_any s t W (HIW.out W hW) (HTW.out W hW)).mono fun e w' h => ⟨by rw [hr, hsv, htv]; exact h.1, tr hW h.2⟩)
  have HCa : Hid (∀ W, Below W1.heap.size W1 W → Calls Try.prog 23 #[s.val] W fun e w' => ∃ z, e = .returned z ∧ Below W1.heap.size W1 w' ∧ Calls Try.prog 22 #[s.val, z] w' fun e w2 => e = .returned (.bool true) ∧ Below W1.heap.size W1 w2) := Lib.hid (fun W hW => (HCo.out s W (HIW.out W hW)).mono fun e w' ⟨z, h1, h2, h3, h4⟩ => ⟨z.val, h1, tr hW h4, (HSa.out s z w' (HIW.out w' (tr hW h4)) (h3.inS h2 (HIW.out W hW))).mono fun e w2 h => ⟨by rw [h.1, decide_eq_true h2.symm], tr (tr hW h4) h.2⟩⟩)
  have HCb : Hid (∀ W, Below W1.heap.size W1 W → Calls Try.prog 23 #[t.val] W fun e w' => ∃ z, e = .returned z ∧ Below W1.heap.size W1 w' ∧ Calls Try.prog 22 #[z, t.val] w' fun e w2 => e = .returned (.bool true) ∧ Below W1.heap.size W1 w2) := Lib.hid (fun W hW => (HCo.out t W (HTW.out W hW)).mono fun e w' ⟨z, h1, h2, h3, h4⟩ => ⟨z.val, h1, tr hW h4, (HSa.out z t w' (h3.inS h2 (HTW.out W hW)) (HTW.out w' (tr hW h4))).mono fun e w2 h => ⟨by rw [h.1, decide_eq_true h2], tr (tr hW h4) h.2⟩⟩)
  clear hr hsv htv tr HW HI HT HSa HCo HIW HTW
  obtain ⟨me, os, ⟨A, n, c⟩, es, ⟨A', n', c'⟩, q, as_, ⟨Aa, na, ca⟩, gs, ⟨Ag, ng, cg⟩⟩ := s
  obtain ⟨me2, os2, ⟨D, m, d⟩, es2, ⟨D', m', d'⟩, q2, as2, ⟨Da, ma, da⟩, gs2, ⟨Dg, mg, dg⟩⟩ := t
  simp only [StL.val, Sl.val, Value.cells] at HKp HKt HSab HSba HRab HCa HCb hwa hW1 ⊢
  have HX : Hid (∀ W, Below W1.heap.size W1 W → W.cell? ⟨p, 0, none⟩ = some (.int .i64 me) ∧ W.cell? ⟨p, 1, none⟩ = some (.slice A n c) ∧ W.cell? ⟨p, 2, none⟩ = some (.slice A' n' c') ∧ W.cell? ⟨p, 3, none⟩ = some (.int .i64 q) ∧ W.cell? ⟨p, 4, none⟩ = some (.slice Aa na ca) ∧ W.cell? ⟨p, 5, none⟩ = some (.slice Ag ng cg) ∧ W.cell? ⟨pt, 0, none⟩ = some (.int .i64 me2) ∧ W.cell? ⟨pt, 1, none⟩ = some (.slice D m d) ∧ W.cell? ⟨pt, 2, none⟩ = some (.slice D' m' d') ∧ W.cell? ⟨pt, 3, none⟩ = some (.int .i64 q2) ∧ W.cell? ⟨pt, 4, none⟩ = some (.slice Da ma da) ∧ W.cell? ⟨pt, 5, none⟩ = some (.slice Dg mg dg)) := Lib.hid (fun W hW => by
    have h1 := HKp.out.below hW HKp.out.lt
    have h2 := HKt.out.below hW HKt.out.lt
    exact ⟨h1.cell 0, h1.cell 1, h1.cell 2, h1.cell 3, h1.cell 4, h1.cell 5, h2.cell 0, h2.cell 1, h2.cell 2, h2.cell 3, h2.cell 4, h2.cell 5⟩)
  have HB2 : Hid (Below W1.heap.size W1 W1.drew) := Lib.hid (below_drewC (Below.refl _ _) 1)
  have X2 := HX.out W1.drew HB2.out
  have X1 := HX.out W1 (Below.refl _ _)
  cases r
  all_goals
    go_enter Try.func6, Try.ntmps6
    go_wp2_with fail
    rw [← hwa, ← hW1, ← hp, ← hpt]
    clear hwa hW1 hp hpt hsa hba
    go_region_held3 (fun W => W.cell? ⟨p, 0, none⟩ = some (.int .i64 me) ∧ W.cell? ⟨p, 1, none⟩ = some (.slice A n c) ∧ W.cell? ⟨p, 2, none⟩ = some (.slice A' n' c') ∧ W.cell? ⟨p, 3, none⟩ = some (.int .i64 q) ∧ W.cell? ⟨p, 4, none⟩ = some (.slice Aa na ca) ∧ W.cell? ⟨p, 5, none⟩ = some (.slice Ag ng cg) ∧ W.cell? ⟨pt, 0, none⟩ = some (.int .i64 me2) ∧ W.cell? ⟨pt, 1, none⟩ = some (.slice D m d) ∧ W.cell? ⟨pt, 2, none⟩ = some (.slice D' m' d') ∧ W.cell? ⟨pt, 3, none⟩ = some (.int .i64 q2) ∧ W.cell? ⟨pt, 4, none⟩ = some (.slice Da ma da) ∧ W.cell? ⟨pt, 5, none⟩ = some (.slice Dg mg dg)) (first | with_reducible exact X1 | with_reducible exact X2 | with_reducible exact X3 | with_reducible exact X4 | with_reducible exact X5 | with_reducible exact X6 | with_reducible exact X7 | with_reducible exact X8 | with_reducible exact X9 | with_reducible exact X10 | with_reducible exact X11 | with_reducible exact X12 | (trace_state; fail)) (first
      | (go_at_call 9; go_must (refine (HWa.out _ HB2.out).mono ?_; rintro e w3 ⟨rfl, hb⟩; have HB3 := Lib.hid hb; have X3 := HX.out w3 HB3.out; clear hb))
      | (go_at_call 14; go_must (refine (HRab.out _ HB4.out).mono ?_; rintro e w5 ⟨rfl, hb⟩; have HB5 := Lib.hid hb; have X5 := HX.out w5 HB5.out; clear hb))
      | (go_at_call 23; with_reducible show Calls Try.prog _ #[.agg #[.int .i64 me, _, _, _, _, _]] _ _; go_must (refine (HCa.out _ HB7.out).mono ?_; rintro e w8 ⟨z, rfl, hb, hz⟩; have HB8 := Lib.hid hb; have X8 := HX.out w8 HB8.out; have HZ := Lib.hid hz; clear hz; clear hb))
      | (go_at_call 23; with_reducible show Calls Try.prog _ #[.agg #[.int .i64 me2, _, _, _, _, _]] _ _; go_must (refine (HCb.out _ HB9.out).mono ?_; rintro e w10 ⟨y, rfl, hb, hy⟩; have HB10 := Lib.hid hb; have X10 := HX.out w10 HB10.out; have HY := Lib.hid hy; clear hy; clear hb))
      | (go_at_call 22; with_reducible show Calls Try.prog _ #[.agg #[.int .i64 me2, _, _, _, _, _], .agg #[.int .i64 me, _, _, _, _, _]] _ _; go_must (refine (HSba.out _ HB5.out).mono ?_; rintro e w6 ⟨rfl, hb⟩; have HB6 := Lib.hid hb; have X6 := HX.out w6 HB6.out; clear hb))
      | (go_at_call 22; with_reducible show Calls Try.prog _ #[.agg #[.int .i64 me, _, _, _, _, _], .agg #[.int .i64 me2, _, _, _, _, _]] w3 _; go_must (refine (HSab.out _ HB3.out).mono ?_; rintro e w4 ⟨rfl, hb⟩; have HB4 := Lib.hid hb; have X4 := HX.out w4 HB4.out; clear hb))
      | (go_at_call 22; with_reducible show Calls Try.prog _ #[.agg #[.int .i64 me, _, _, _, _, _], .agg #[.int .i64 me2, _, _, _, _, _]] w6 _; go_must (refine (HSab.out _ HB6.out).mono ?_; rintro e w7 ⟨rfl, hb⟩; have HB7 := Lib.hid hb; have X7 := HX.out w7 HB7.out; clear hb))
      | (go_at_call 22; with_reducible show Calls Try.prog _ #[.agg #[.int .i64 me, _, _, _, _, _], z] _ _; go_must (refine (HZ.out).mono ?_; rintro e w9 ⟨rfl, hb⟩; have HB9 := Lib.hid hb; have X9 := HX.out w9 HB9.out; clear hb))
      | (go_at_call 22; with_reducible show Calls Try.prog _ #[y, .agg #[.int .i64 me2, _, _, _, _, _]] _ _; go_must (refine (HY.out).mono ?_; rintro e w12 ⟨rfl, hb⟩; have HB12 := Lib.hid hb; have X12 := HX.out w12 HB12.out; clear hb)))
    all_goals
      go_wp2
      go_ret
      exact ⟨rfl, HB1.out.trans (HB12.out.mono HB1.out.size)⟩
end Go.Proofs.Ytcicpgiljceioaa.Pk
