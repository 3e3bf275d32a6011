/- A change under way: the box that holds the tree and the state, and what each store makes of it. -/
import Derived.Test.YtiaafhcfeeekeaaZCoSpec
import Derived.Test.YtiaafhcfeeekeaaZTrPath
import Derived.Test.YtiaafhcfeeekeaaZChSpec
import Derived.Test.YtiaafhcfeeekeaaZHfSpec
import Derived.Test.YtiaafhcfeeekeaaZCoWakeA
import Derived.Shelf.Abstract
import Derived.BigQuiet
import Derived.Deep.QuietTactic
import Derived.Test.YtiaafhcfeeekeaaZHfCodeA
import Derived.Deep.AppendLies
import Derived.Deep.RegionLaw
import Derived.Deep.RegionLawGrows
namespace Go.Proofs.Ytiaafhcfeeekeaa.Pk
open Go.RowKit Go.Proofs.Ytiaafhcfeeekeaa.Gr
set_option linter.unusedVariables false
structure Chg (w : World) (B p T g : Nat) (ps : List Int) (s : StL) : Prop where
  box : Blk w p 71 #[.pointer (some ⟨T, 0, none⟩), .int .i64 s.me, s.so.val, s.se.val, .int .i64 s.q, s.sa.val, s.sg.val]
  own : OwnS w B s
  np : ∀ u ∈ stV s, ownB u ≠ some p
  hp : B ≤ p
  tr : IsTr w T g ps
  hT : T < B
  hg : g < B
/-- Behind the last store: the answered locates may be the last ones of a row. -/
structure ChgX (w : World) (B p : Nat) (T : Nat) (s : StL) : Prop where
  box : Blk w p 71 #[.pointer (some ⟨T, 0, none⟩), .int .i64 s.me, s.so.val, s.se.val, .int .i64 s.q, s.sa.val, s.sg.val]
  own : OwnX w B s
  hp : B ≤ p
theorem IsTr.belB {w w' : World} {T g B : Nat} {ps : List Int} (h : IsTr w T g ps) (hb : Below B w w') (hT : T < B) (hg : g < B) : IsTr w' T g ps :=
  h.stay (Stay.below hb (fun b hb => by rcases hb with rfl | rfl <;> omega))
section
variable {w w1 w' : World} {B p T g : Nat} {ps : List Int} {s : StL}
theorem Chg.x (h : Chg w B p T g ps s) : ChgX w B p T s := ⟨h.box, h.own.x, h.hp⟩
theorem Chg.lt (h : Chg w B p T g ps s) : p < w.heap.size := h.box.lt
theorem Chg.sz (h : Chg w B p T g ps s) : B ≤ w.heap.size := Nat.le_of_lt (Nat.lt_of_le_of_lt h.hp h.lt)
theorem Chg.below (h : Chg w B p T g ps s) (hb : Below w.heap.size w w') : Chg w' B p T g ps s :=
  ⟨h.box.below hb h.lt, h.own.below hb, h.np, h.hp, h.tr.belB hb (Nat.lt_of_lt_of_le h.hT h.sz) (Nat.lt_of_lt_of_le h.hg h.sz), h.hT, h.hg⟩
theorem ChgX.below (h : ChgX w B p T s) (hb : Below w.heap.size w w') : ChgX w' B p T s := ⟨h.box.below hb h.box.lt, h.own.below hb, h.hp⟩
/-- Where an object lies. -/
theorem Chg.obj (h : Chg w B p T g ps s) {k : Nat} {o : OwL} (hk : s.os[k]? = some o) :
    ∃ go, s.so.A = some ⟨go, 0, none⟩ ∧ B ≤ go ∧ go < w.heap.size ∧ go ≠ p ∧ s.so.c ≠ 0 ∧ s.os.length = s.so.n ∧ k < s.so.n ∧ s.so.n ≤ s.so.c ∧ (∀ j, w.frozen? ⟨go, j, none⟩ = false) ∧ w.cell? ⟨go, k * 3, none⟩ = some (.int .i64 o.v.a) ∧ w.cell? ⟨go, k * 3 + 1, none⟩ = some (.int .i64 o.v.m) ∧ w.cell? ⟨go, k * 3 + 2, none⟩ = some o.s.val := by
  have hr := h.own.os.row
  obtain ⟨h1, h2, h3⟩ := Row.Own.rd hr
  have hl := (List.getElem?_eq_some_iff.1 hk).1
  obtain ⟨go, e, a1, a2, a3, a4, a5⟩ := Row.Own.cell hr (by omega)
  refine ⟨go, e, a1, a2, fun e2 => ?_, a3, h1, by omega, h2, a4, ?_, ?_, ?_⟩
  · refine h.np s.so.val (mem_stV.2 (by simp)) ?_
    unfold Sl.val; rw [e, ownB_some a3, e2]
  · exact a5 k o hk 0 _ rfl
  · exact a5 k o hk 1 _ rfl
  · exact a5 k o hk 2 _ rfl
/-- Where a side lies. -/
theorem Chg.side (h : Chg w B p T g ps s) {k : Nat} {o : SdL} (hk : s.es[k]? = some o) :
    ∃ go, s.se.A = some ⟨go, 0, none⟩ ∧ B ≤ go ∧ go < w.heap.size ∧ go ≠ p ∧ s.se.c ≠ 0 ∧ s.es.length = s.se.n ∧ k < s.se.n ∧ s.se.n ≤ s.se.c ∧ (∀ j, w.frozen? ⟨go, j, none⟩ = false) ∧ w.cell? ⟨go, k * 4, none⟩ = some (.int .i64 o.v.p) ∧ w.cell? ⟨go, k * 4 + 1, none⟩ = some (.int .i64 o.v.b) ∧ w.cell? ⟨go, k * 4 + 2, none⟩ = some o.s.val ∧ w.cell? ⟨go, k * 4 + 3, none⟩ = some (.int .i64 o.v.s) := by
  have hr := h.own.es.row
  obtain ⟨h1, h2, h3⟩ := Row.Own.rd hr
  have hl := (List.getElem?_eq_some_iff.1 hk).1
  obtain ⟨go, e, a1, a2, a3, a4, a5⟩ := Row.Own.cell hr (by omega)
  refine ⟨go, e, a1, a2, fun e2 => ?_, a3, h1, by omega, h2, a4, ?_, ?_, ?_, ?_⟩
  · refine h.np s.se.val (mem_stV.2 (by simp)) ?_
    unfold Sl.val; rw [e, ownB_some a3, e2]
  · exact a5 k o hk 0 _ rfl
  · exact a5 k o hk 1 _ rfl
  · exact a5 k o hk 2 _ rfl
  · exact a5 k o hk 3 _ rfl
/-- An object's field is written: which list it has, and where, is said besides. -/
theorem Chg.putO (h : Chg w B p T g ps s) {k j : Nat} {o o' : OwL} {u : Value} (hk : s.os[k]? = some o) (hj : j < 3) (he : owR.enc o' = (owR.enc o).set j u) {go n c : Nat} (hso : s.so = ⟨some ⟨go, 0, none⟩, n, c⟩) (hb : Below w.heap.size w w1)
    (hc : ceR.Own w1 B o'.s.val o'.v.c) (hap : ownB o'.s.val = ownB o.s.val ∨ ownB o'.s.val = none ∨ ∃ x, ownB o'.s.val = some x ∧ w.heap.size ≤ x) :
    Chg (w1.setCell ⟨go, k * 3 + j, none⟩ u) B p T g ps {s with os := s.os.set k o'} ∧ Below B w (w1.setCell ⟨go, k * 3 + j, none⟩ u) := by
  obtain ⟨go', e, a1, a2, a3, a4, a5, a6, a7, a8, -⟩ := h.obj hk
  rw [hso] at e a4 a5 a6 a7
  simp only at e a4 a5 a6 a7
  injection e with e
  injection e with e _ _
  subst e
  have hsz := hb.size
  have h1 := h.below hb
  have hob : ownB s.so.val = some go := by rw [hso]; exact ownB_some a4
  have hcb : ownB o'.s.val ≠ some go := by
    intro e2
    rcases hap with ha | ha | ⟨x, ha, hx⟩
    · rw [ha] at e2
      exact Apart.at2 (L := stV s) h.own.apart (i := 0) (j := 1 + k) (by omega) at_so (at_oc hk) hob e2
    · rw [ha] at e2; cases e2
    · rw [ha] at e2; injection e2 with e2; omega
  have hB : B ≤ w.heap.size := h.sz
  have hBw : Below B w (w1.setCell ⟨go, k * 3 + j, none⟩ u) := below_setc (hb.mono hB) a1 _ _
  refine ⟨⟨?_, ?_, ?_, h.hp, h.tr.belB hBw h.hT h.hg, h.hT, h.hg⟩, hBw⟩
  · exact blk_other h1.box (fun e => a3 e.symm) _ _
  · refine h1.own.setO (w' := w1.setCell ⟨go, k * 3 + j, none⟩ u) hk ?_ (fun x hx _ => setc_other _ _ _ _ _ (fun e => hx (by rw [hob, e]))) (hc.stay fun x hx => setc_other _ _ _ _ _ (fun e => hcb (by rw [hx, e]))) (hap.imp id (Or.imp id fun ⟨x, e, hx⟩ => ⟨x, e, fun v hv y hy => Nat.lt_of_lt_of_le (h.own.undr v hv y hy) hx⟩))
    have := Row.Own.put1 (R := owR) (j := j) (by have := h1.own.os.row; rw [hso] at this; exact this) hk hj he
    rw [hso]; exact this
  · have hnp : ownB o'.s.val ≠ some p := by
      intro e2
      rcases hap with ha | ha | ⟨x, ha, hx⟩
      · rw [ha] at e2
        exact h.np o.s.val (List.mem_of_getElem? (at_oc hk)) e2
      · rw [ha] at e2; cases e2
      · rw [ha] at e2; injection e2 with e2; have := h.lt; omega
    intro v hv
    rcases mem_stV.1 hv with e | e | e | e | e | e
    · exact h.np v (mem_stV.2 (.inl e))
    · obtain ⟨x, hx, rfl⟩ := List.mem_map.1 e
      rcases List.mem_or_eq_of_mem_set hx with hx | rfl
      · exact h.np _ (mem_stV.2 (.inr (.inl (List.mem_map.2 ⟨x, hx, rfl⟩))))
      · exact hnp
    · exact h.np v (mem_stV.2 (.inr (.inr (.inl e))))
    · exact h.np v (mem_stV.2 (.inr (.inr (.inr (.inl e)))))
    · exact h.np v (mem_stV.2 (.inr (.inr (.inr (.inr (.inl e))))))
    · exact h.np v (mem_stV.2 (.inr (.inr (.inr (.inr (.inr e))))))
/-- A side is written over. -/
theorem Chg.putE (h : Chg w B p T g ps s) {k : Nat} {o o' : SdL} (hk : s.es[k]? = some o) {go n c : Nat} (hso : s.se = ⟨some ⟨go, 0, none⟩, n, c⟩) (hb : Below w.heap.size w w1) (hc : mgR.Own w1 w.heap.size o'.s.val o'.v.o) :
    Chg ((((w1.setCell ⟨go, k * 4, none⟩ (.int .i64 o'.v.p)).setCell ⟨go, k * 4 + 1, none⟩ (.int .i64 o'.v.b)).setCell ⟨go, k * 4 + 2, none⟩ o'.s.val).setCell ⟨go, k * 4 + 3, none⟩ (.int .i64 o'.v.s)) B p T g ps {s with es := s.es.set k o'} ∧
    Below B w ((((w1.setCell ⟨go, k * 4, none⟩ (.int .i64 o'.v.p)).setCell ⟨go, k * 4 + 1, none⟩ (.int .i64 o'.v.b)).setCell ⟨go, k * 4 + 2, none⟩ o'.s.val).setCell ⟨go, k * 4 + 3, none⟩ (.int .i64 o'.v.s)) := by
  obtain ⟨go', e, a1, a2, a3, a4, a5, a6, a7, a8, -⟩ := h.side hk
  rw [hso] at e a4 a5 a6 a7
  simp only at e a4 a5 a6 a7
  injection e with e
  injection e with e _ _
  subst e
  have hsz := hb.size
  have h1 := h.below hb
  have hob : ownB s.se.val = some go := by rw [hso]; exact ownB_some a4
  have hB : B ≤ w.heap.size := h.sz
  have hcb : ownB o'.s.val ≠ some go := fun e2 => by have := hc.base go e2; omega
  obtain ⟨W, hW⟩ : ∃ W, W = (((w1.setCell ⟨go, k * 4, none⟩ (.int .i64 o'.v.p)).setCell ⟨go, k * 4 + 1, none⟩ (.int .i64 o'.v.b)).setCell ⟨go, k * 4 + 2, none⟩ o'.s.val).setCell ⟨go, k * 4 + 3, none⟩ (.int .i64 o'.v.s) := ⟨_, rfl⟩
  rw [← hW]
  have hBw : Below B w W := hW ▸ below_setc (below_setc (below_setc (below_setc (hb.mono hB) a1 _ _) a1 _ _) a1 _ _) a1 _ _
  have hoth : ∀ i, i ≠ go → W.heap[i]? = w1.heap[i]? := fun i hi => by rw [hW, setc_other _ _ _ _ _ hi, setc_other _ _ _ _ _ hi, setc_other _ _ _ _ _ hi, setc_other _ _ _ _ _ hi]
  refine ⟨⟨(hoth p (fun e => a3 e.symm)).trans h1.box, ?_, ?_, h.hp, h.tr.belB hBw h.hT h.hg, h.hT, h.hg⟩, hBw⟩
  · refine h1.own.setE (w' := W) hk ?_ (fun x hx _ => hoth x (fun e => hx (by rw [hob, e]))) ((hc.low hB).stay fun x hx => hoth x (fun e => hcb (by rw [hx, e]))) ?_
    · have := (Row.Own.putAll (R := sdR) (by have := h1.own.es.row; rw [hso] at this; exact this) hk o').1
      rw [hso, hW]; exact this
    · cases e2 : ownB o'.s.val with
      | none => exact .inr (.inl rfl)
      | some x => exact .inr (.inr ⟨x, rfl, fun v hv y hy => Nat.lt_of_lt_of_le (h.own.undr v hv y hy) (hc.base x e2)⟩)
  · have hnp : ownB o'.s.val ≠ some p := fun e2 => by have h2 := hc.base p e2; have := h.lt; omega
    intro v hv
    rcases mem_stV.1 hv with e | e | e | e | e | e
    · exact h.np v (mem_stV.2 (.inl e))
    · exact h.np v (mem_stV.2 (.inr (.inl e)))
    · exact h.np v (mem_stV.2 (.inr (.inr (.inl e))))
    · obtain ⟨x, hx, rfl⟩ := List.mem_map.1 e
      rcases List.mem_or_eq_of_mem_set hx with hx | rfl
      · exact h.np _ (mem_stV.2 (.inr (.inr (.inr (.inl (List.mem_map.2 ⟨x, hx, rfl⟩))))))
      · exact hnp
    · exact h.np v (mem_stV.2 (.inr (.inr (.inr (.inr (.inl e))))))
    · exact h.np v (mem_stV.2 (.inr (.inr (.inr (.inr (.inr e))))))
/-- The number of locates is written. -/
theorem Chg.putQ (h : Chg w B p T g ps s) (q' : Int) : Chg (w.setCell ⟨p, 4, none⟩ (.int .i64 q')) B p T g ps {s with q := q'} ∧ Below B w (w.setCell ⟨p, 4, none⟩ (.int .i64 q')) := by
  have hBw : Below B w (w.setCell ⟨p, 4, none⟩ (.int .i64 q')) := below_setc (Below.refl _ _) h.hp _ _
  refine ⟨⟨h.box.set 4 _, ?_, h.np, h.hp, h.tr.belB hBw h.hT h.hg, h.hT, h.hg⟩, hBw⟩
  have h1 := h.own.stay_ (w' := w.setCell ⟨p, 4, none⟩ (.int .i64 q')) fun u hu x hx => setc_other _ _ _ _ _ (fun e => h.np u hu (by rw [hx, e]))
  exact ⟨h1.os, h1.es, h1.as_, h1.gs, h1.apart⟩
/-- The open locates have grown, or been cut: the row, then the box. -/
theorem Chg.putA (h : Chg w B p T g ps s) {v' : Sl} {l' : List Ak} (hrow : akR.Own w1 B v'.val l') (hoth : ∀ x, ownB s.sa.val ≠ some x → x < w.heap.size → w1.heap[x]? = w.heap[x]?) (hbw : Below B w w1)
    (hap : ownB v'.val = ownB s.sa.val ∨ ownB v'.val = none ∨ ∃ x, ownB v'.val = some x ∧ w.heap.size ≤ x) :
    Chg (w1.setCell ⟨p, 5, none⟩ v'.val) B p T g ps {s with as_ := l', sa := v'} ∧ Below B w (w1.setCell ⟨p, 5, none⟩ v'.val) := by
  have hBw : Below B w (w1.setCell ⟨p, 5, none⟩ v'.val) := below_setc hbw h.hp _ _
  have hnp : ownB v'.val ≠ some p := by
    intro e2
    rcases hap with ha | ha | ⟨x, ha, hx⟩
    · rw [ha] at e2; exact h.np s.sa.val (mem_stV.2 (by simp)) e2
    · rw [ha] at e2; cases e2
    · rw [ha] at e2; injection e2 with e2; have := h.lt; omega
  have hpa : ownB s.sa.val ≠ some p := h.np s.sa.val (mem_stV.2 (by simp))
  have hbx : Blk w1 p 71 #[.pointer (some ⟨T, 0, none⟩), .int .i64 s.me, s.so.val, s.se.val, .int .i64 s.q, s.sa.val, s.sg.val] := (hoth p hpa h.lt).trans h.box
  have hb2 := hbx.set 5 v'.val
  refine ⟨⟨hb2, ?_, ?_, h.hp, h.tr.belB hBw h.hT h.hg, h.hT, h.hg⟩, hBw⟩
  · have h1 := h.own.setA (w' := w1) hrow hoth (hap.imp id (Or.imp id fun ⟨x, e, hx⟩ => ⟨x, e, fun v hv y hy => Nat.lt_of_lt_of_le (h.own.undr v hv y hy) hx⟩))
    refine h1.stay_ fun u hu x hx => setc_other _ _ _ _ _ (fun e => ?_)
    rcases mem_stV.1 hu with e2 | e2 | e2 | e2 | e2 | e2
    · exact h.np u (mem_stV.2 (.inl e2)) (by rw [hx, e])
    · exact h.np u (mem_stV.2 (.inr (.inl e2))) (by rw [hx, e])
    · exact h.np u (mem_stV.2 (.inr (.inr (.inl e2)))) (by rw [hx, e])
    · exact h.np u (mem_stV.2 (.inr (.inr (.inr (.inl e2))))) (by rw [hx, e])
    · rw [e2] at hx; exact hnp (by rw [← e]; exact hx)
    · exact h.np u (mem_stV.2 (.inr (.inr (.inr (.inr (.inr e2)))))) (by rw [hx, e])
  · intro u hu
    rcases mem_stV.1 hu with e2 | e2 | e2 | e2 | e2 | e2
    · exact h.np u (mem_stV.2 (.inl e2))
    · exact h.np u (mem_stV.2 (.inr (.inl e2)))
    · exact h.np u (mem_stV.2 (.inr (.inr (.inl e2))))
    · exact h.np u (mem_stV.2 (.inr (.inr (.inr (.inl e2)))))
    · rw [e2]; exact hnp
    · exact h.np u (mem_stV.2 (.inr (.inr (.inr (.inr (.inr e2))))))
theorem Chg.putG (h : Chg w B p T g ps s) {v' : Sl} {l' : List Fnd} (hrow : fdR.Own w1 B v'.val l') (hoth : ∀ x, ownB s.sg.val ≠ some x → x < w.heap.size → w1.heap[x]? = w.heap[x]?) (hbw : Below B w w1)
    (hap : ownB v'.val = ownB s.sg.val ∨ ownB v'.val = none ∨ ∃ x, ownB v'.val = some x ∧ w.heap.size ≤ x) :
    Chg (w1.setCell ⟨p, 6, none⟩ v'.val) B p T g ps {s with gs := l', sg := v'} ∧ Below B w (w1.setCell ⟨p, 6, none⟩ v'.val) := by
  have hBw : Below B w (w1.setCell ⟨p, 6, none⟩ v'.val) := below_setc hbw h.hp _ _
  have hnp : ownB v'.val ≠ some p := by
    intro e2
    rcases hap with ha | ha | ⟨x, ha, hx⟩
    · rw [ha] at e2; exact h.np s.sg.val (mem_stV.2 (by simp)) e2
    · rw [ha] at e2; cases e2
    · rw [ha] at e2; injection e2 with e2; have := h.lt; omega
  have hpa : ownB s.sg.val ≠ some p := h.np s.sg.val (mem_stV.2 (by simp))
  have hbx : Blk w1 p 71 #[.pointer (some ⟨T, 0, none⟩), .int .i64 s.me, s.so.val, s.se.val, .int .i64 s.q, s.sa.val, s.sg.val] := (hoth p hpa h.lt).trans h.box
  have hb2 := hbx.set 6 v'.val
  refine ⟨⟨hb2, ?_, ?_, h.hp, h.tr.belB hBw h.hT h.hg, h.hT, h.hg⟩, hBw⟩
  · have h1 := h.own.setG (w' := w1) hrow hoth (hap.imp id (Or.imp id fun ⟨x, e, hx⟩ => ⟨x, e, fun v hv y hy => Nat.lt_of_lt_of_le (h.own.undr v hv y hy) hx⟩))
    refine h1.stay_ fun u hu x hx => setc_other _ _ _ _ _ (fun e => ?_)
    rcases mem_stV.1 hu with e2 | e2 | e2 | e2 | e2 | e2
    · exact h.np u (mem_stV.2 (.inl e2)) (by rw [hx, e])
    · exact h.np u (mem_stV.2 (.inr (.inl e2))) (by rw [hx, e])
    · exact h.np u (mem_stV.2 (.inr (.inr (.inl e2)))) (by rw [hx, e])
    · exact h.np u (mem_stV.2 (.inr (.inr (.inr (.inl e2))))) (by rw [hx, e])
    · exact h.np u (mem_stV.2 (.inr (.inr (.inr (.inr (.inl e2)))))) (by rw [hx, e])
    · rw [e2] at hx; exact hnp (by rw [← e]; exact hx)
  · intro u hu
    rcases mem_stV.1 hu with e2 | e2 | e2 | e2 | e2 | e2
    · exact h.np u (mem_stV.2 (.inl e2))
    · exact h.np u (mem_stV.2 (.inr (.inl e2)))
    · exact h.np u (mem_stV.2 (.inr (.inr (.inl e2))))
    · exact h.np u (mem_stV.2 (.inr (.inr (.inr (.inl e2)))))
    · exact h.np u (mem_stV.2 (.inr (.inr (.inr (.inr (.inl e2))))))
    · rw [e2]; exact hnp
/-- The first answered locate is let go. -/
theorem Chg.cutG (h : Chg w B p T g ps s) {gg n c : Nat} (hsg : s.sg = ⟨some ⟨gg, 0, none⟩, n + 1, c⟩) :
    ChgX (w.setCell ⟨p, 6, none⟩ (.slice (some ⟨gg, 3, none⟩) n (c - 1))) B p T {s with gs := s.gs.drop 1, sg := ⟨some ⟨gg, 3, none⟩, n, c - 1⟩} ∧ Below B w (w.setCell ⟨p, 6, none⟩ (.slice (some ⟨gg, 3, none⟩) n (c - 1))) := by
  have hBw : Below B w (w.setCell ⟨p, 6, none⟩ (.slice (some ⟨gg, 3, none⟩) n (c - 1))) := below_setc (Below.refl _ _) h.hp _ _
  refine ⟨⟨h.box.set 6 _, .inr ⟨s.sg, s.gs, ?_, ⟨gg, n, c, hsg, rfl⟩, rfl⟩, h.hp⟩, hBw⟩
  exact h.own.stay_ fun u hu x hx => setc_other _ _ _ _ _ (fun e => h.np u hu (by rw [hx, e]))
end
/-- What is neither the change's box nor in a list of the state lies as it lay. -/
def Frm (w w' : World) (p : Nat) (s : StL) : Prop := ∀ x, x < w.heap.size → x ≠ p → (∀ u ∈ stV s, ownB u ≠ some x) → w'.heap[x]? = w.heap[x]?
theorem Frm.below {w w' : World} {p : Nat} {s : StL} (h : Below w.heap.size w w') : Frm w w' p s := fun x hx _ _ => h.block x hx
theorem Frm.set {w w' : World} {p g j : Nat} {s : StL} {u v : Value} (h : Frm w w' p s) (hv : v ∈ stV s) (hg : ownB v = some g) : Frm w (w'.setCell ⟨g, j, none⟩ u) p s := fun x hx hp hn =>
  (setc_other _ _ _ _ _ (fun e => hn v hv (by rw [hg, e]))).trans (h x hx hp hn)
theorem Frm.trans {w w1 w2 : World} {p : Nat} {s s1 : StL} (h : Frm w w1 p s) (hs : w.heap.size ≤ w1.heap.size) (hv : ∀ x, x < w.heap.size → (∀ u ∈ stV s, ownB u ≠ some x) → ∀ u ∈ stV s1, ownB u ≠ some x) (k : Frm w1 w2 p s1) : Frm w w2 p s := fun x hx hp hn =>
  (k x (Nat.lt_of_lt_of_le hx hs) hp (hv x hx hn)).trans (h x hx hp hn)
theorem Frm.blk {w w' : World} {p x : Nat} {s : StL} {T : TypeId} {cs : Array Value} (h : Frm w w' p s) (hb : Blk w x T cs) (hp : x ≠ p) (hn : ∀ u ∈ stV s, ownB u ≠ some x) : Blk w' x T cs := (h x hb.lt hp hn).trans hb
/-- The lists of the second state are the first's, or new. -/
def Sub (w : World) (s s2 : StL) : Prop := ∀ u ∈ stV s2, ∀ x, ownB u = some x → x < w.heap.size → ∃ v ∈ stV s, ownB v = some x
theorem Sub.refl (w : World) (s : StL) : Sub w s s := fun u hu x hx _ => ⟨u, hu, hx⟩
theorem Sub.setO {w : World} {s : StL} {k : Nat} {o' : OwL} (h : ownB o'.s.val = none ∨ ∃ x, ownB o'.s.val = some x ∧ w.heap.size ≤ x) : Sub w s {s with os := s.os.set k o'} := fun u hu x hx hl => by
  rcases mem_stV.1 hu with e | e | e | e | e | e
  · exact ⟨u, mem_stV.2 (.inl e), hx⟩
  · obtain ⟨y, hy, rfl⟩ := List.mem_map.1 e
    rcases List.mem_or_eq_of_mem_set hy with hy | rfl
    · exact ⟨_, mem_stV.2 (.inr (.inl (List.mem_map.2 ⟨y, hy, rfl⟩))), hx⟩
    · rcases h with h | ⟨z, h, hz⟩
      · rw [h] at hx; cases hx
      · rw [h] at hx; injection hx with hx; omega
  · exact ⟨u, mem_stV.2 (.inr (.inr (.inl e))), hx⟩
  · exact ⟨u, mem_stV.2 (.inr (.inr (.inr (.inl e)))), hx⟩
  · exact ⟨u, mem_stV.2 (.inr (.inr (.inr (.inr (.inl e))))), hx⟩
  · exact ⟨u, mem_stV.2 (.inr (.inr (.inr (.inr (.inr e))))), hx⟩
theorem Sub.setE {w : World} {s : StL} {k : Nat} {o' : SdL} (h : ownB o'.s.val = none ∨ ∃ x, ownB o'.s.val = some x ∧ w.heap.size ≤ x) : Sub w s {s with es := s.es.set k o'} := fun u hu x hx hl => by
  rcases mem_stV.1 hu with e | e | e | e | e | e
  · exact ⟨u, mem_stV.2 (.inl e), hx⟩
  · exact ⟨u, mem_stV.2 (.inr (.inl e)), hx⟩
  · exact ⟨u, mem_stV.2 (.inr (.inr (.inl e))), hx⟩
  · obtain ⟨y, hy, rfl⟩ := List.mem_map.1 e
    rcases List.mem_or_eq_of_mem_set hy with hy | rfl
    · exact ⟨_, mem_stV.2 (.inr (.inr (.inr (.inl (List.mem_map.2 ⟨y, hy, rfl⟩))))), hx⟩
    · rcases h with h | ⟨z, h, hz⟩
      · rw [h] at hx; cases hx
      · rw [h] at hx; injection hx with hx; omega
  · exact ⟨u, mem_stV.2 (.inr (.inr (.inr (.inr (.inl e))))), hx⟩
  · exact ⟨u, mem_stV.2 (.inr (.inr (.inr (.inr (.inr e))))), hx⟩
theorem Row.Own.fresh {α : Type} {R : Row α} {w : World} {B : Nat} {v : Value} {l : List α} (h : R.Own w B v l) : ownB v = none ∨ ∃ x, ownB v = some x ∧ B ≤ x := by
  cases e : ownB v with
  | none => exact .inl rfl
  | some x => exact .inr ⟨x, rfl, h.base x e⟩
theorem Row.Own.fresh_ {α : Type} {R : Row α} {w : World} {B B' : Nat} {v : Value} {l : List α} (h : R.Own w B v l) (hB : B' ≤ B) : ownB v = none ∨ ∃ x, ownB v = some x ∧ B' ≤ x := h.fresh.imp id fun ⟨x, e, hx⟩ => ⟨x, e, Nat.le_trans hB hx⟩
end Go.Proofs.Ytiaafhcfeeekeaa.Pk

/- The library's slices.IndexFunc, of sides; where the side to a neighbour lies. -/
namespace Go.Proofs.Ytiaafhcfeeekeaa.Pk
open Go.RowKit
set_option linter.unusedVariables false
def PredE (g : Nat) (lb : Array Value) (p : SdL → Bool) (w : World) : Prop :=
  ∀ (W : World) (x : SdL), Below w.heap.size w W → Calls Try.prog g (#[.agg #[.int .i64 x.v.p, .int .i64 x.v.b, x.s.val, .int .i64 x.v.s]] ++ lb) W fun e w' => e = .returned (.bool (p x)) ∧ Below w.heap.size w w'
theorem sd_get {l : List SdL} {k : Nat} (h : k < l.length) : l[k]? = some (l.getD k default) := by
  rw [List.getD_eq_getElem?_getD, List.getElem?_eq_getElem h]; rfl
theorem idx_noneE {l : List SdL} {p : SdL → Bool} (h : ∀ i, i < l.length → p (l.getD i default) = false) : l.findIdx? p = none := by
  rw [List.findIdx?_eq_none_iff]
  intro x hx
  obtain ⟨i, hi⟩ := List.getElem?_of_mem hx
  have hl := (List.getElem?_eq_some_iff.1 hi).1
  have := h i hl
  rw [sd_get hl] at hi
  injection hi with hi
  rw [hi] at this
  simpa using this
theorem idx_someE {l : List SdL} {p : SdL → Bool} {k : Nat} (hk : k < l.length) (hp : p (l.getD k default) = true) (h : ∀ i, i < k → p (l.getD i default) = false) : l.findIdx? p = some k := by
  have ge : ∀ j (hj : j < l.length), l[j] = l.getD j default := fun j hj => by
    have := sd_get hj
    rw [List.getElem?_eq_getElem hj] at this
    injection this
  rw [List.findIdx?_eq_some_iff_getElem]
  refine ⟨hk, by rw [ge]; exact hp, fun j hj => ?_⟩
  rw [ge]; simpa using h j hj
def atE (o : Option Nat) : Int := match o with
  | some k => (k : Int)
  | none => -1
set_option maxRecDepth 100000 in
set_option maxHeartbeats 2000000 in
theorem idxFuncE (A : Option Addr) (n c : Nat) (l : List SdL) (p : SdL → Bool) (g : Nat) (lb : Array Value) (eg : ∀ args w, (callFunc g args).run Try.prog w = .ok (.enter g args) w) (w : World) (hr : Reads w w.heap.size 4 A n (sdR.cells l)) (hbig : n ≤ 4398046511104)
    (hp : PredE g lb p w) : Calls Try.prog 85 #[.slice A n c, .func (.func g) #[] lb] w fun e w' => e = .returned (.int .i64 (atE (l.findIdx? p))) ∧ Below w.heap.size w w' := by
  have HR := Lib.hid hr
  have HP := Lib.hid hp
  have HLn : Hid (l.length = n) := Lib.hid (sdR.klen hr)
  clear hr hp
  go_enter Try.func85, Try.ntmps85
  go_wp2
  go_loopw [5, 8] (fun _ i wr => ∃ k : Nat, i = .int .i64 k ∧ k ≤ n ∧ (Below w.heap.size w wr ∧ ∀ j, j < k → p (l.getD j default) = false)) (fun _ i _ => n - (intOf i).toNat)
  case atStart => exact ⟨0, rfl, by omega, Below.refl _ w, fun j hj => absurd hj (Nat.not_lt_zero _)⟩
  case round =>
    obtain ⟨k, rfl, hk, hbel, hno⟩ := hrel
    have HB := Lib.hid hbel
    have HN := Lib.hid hno
    clear hbel hno
    by_cases hlt : k < n
    · obtain ⟨b, off, rfl, hb, hcs⟩ := sdR.spots HR.out (by omega)
      have hgk : l[k]? = some (l.getD k default) := sd_get (by rw [HLn.out]; exact hlt)
      obtain ⟨z, hz⟩ : ∃ z, z = l.getD k default := ⟨_, rfl⟩
      rw [← hz] at hgk
      have c0 := hcs k z hgk 0 _ rfl
      have c1 := hcs k z hgk 1 _ rfl
      have c2 := hcs k z hgk 2 _ rfl
      have c3 := hcs k z hgk 3 _ rfl
      have HZ := Lib.hid hz
      clear hz hcs hgk
      simp only [sdR, Nat.add_zero, ← Nat.add_assoc] at c0 c1 c2 c3
      rw [← HB.out.cell (p := ⟨b, off + k * 4, none⟩) hb] at c0
      rw [← HB.out.cell (p := ⟨b, off + k * 4 + 1, none⟩) hb] at c1
      rw [← HB.out.cell (p := ⟨b, off + k * 4 + 2, none⟩) hb] at c2
      rw [← HB.out.cell (p := ⟨b, off + k * 4 + 3, none⟩) hb] at c3
      have HC := Lib.hid (HP.out wr z HB.out)
      have HV : Hid (∃ q, q = p z) := Lib.hid ⟨_, rfl⟩
      obtain ⟨q, hq⟩ := HV.out
      rw [← hq] at HC
      have HQ := Lib.hid hq
      obtain ⟨⟨zp, zb, zo, zs⟩, ⟨zA, zn, zc⟩⟩ := z
      simp only [Sl.val] at c0 c1 c2 c3 HC
      clear hq HV
      cases q with
      | true =>
        go_wp2_with (go_at_fn g; refine HC.out.mono ?_; rintro e w' ⟨rfl, hb'⟩)
        go_ret
        refine ⟨?_, hb'⟩
        have : l.findIdx? p = some k := idx_someE (by rw [HLn.out]; exact hlt) (by rw [← HZ.out]; exact HQ.out.symm) HN.out
        rw [this]
        rfl
      | false =>
        go_wp2_with (go_at_fn g; refine HC.out.mono ?_; rintro e w' ⟨rfl, hb'⟩)
        go_roundw
        case rel =>
          refine ⟨k + 1, by go_num, by omega, hb', fun j hj => ?_⟩
          by_cases e : j = k
          · subst e
            rw [← HZ.out]; exact HQ.out.symm
          · exact HN.out j (by omega)
        case measure => simp [intOf]; omega
    · have hkn : k = n := by omega
      subst hkn
      go_wp2
      go_ret
      refine ⟨?_, HB.out⟩
      have : l.findIdx? p = none := idx_noneE (fun i hi => HN.out i (by rw [← HLn.out]; exact hi))
      rw [this]
      rfl
/-- The predicate: the neighbour lies in a box of the caller's. -/
theorem predE (peer : Int) (B : Nat) (w : World) (hB : B < w.heap.size) (hcell : w.cell? ⟨B, 0, none⟩ = some (.int .i64 peer)) :
    PredE 86 #[.pointer (some ⟨B, 0, none⟩)] (fun c => decide (c.v.p = peer)) w := fun W x hb => by
  have hc : W.cell? ⟨B, 0, none⟩ = some (.int .i64 peer) := (hb.cell (p := ⟨B, 0, none⟩) hB).trans hcell
  have HB := Lib.hid hb
  clear hb hcell
  obtain ⟨⟨x0, x1, xo, x3⟩, ⟨xA, xn, xc⟩⟩ := x
  show Calls Try.prog 86 #[.agg #[.int .i64 x0, .int .i64 x1, .slice xA xn xc, .int .i64 x3], .pointer (some ⟨B, 0, none⟩)] W _
  have hBW : B < W.heap.size := by have := HB.out.size; omega
  have hne : B ≠ W.heap.size := by omega
  clear hB
  go_enter Try.func86, Try.ntmps86
  go_wp2
  go_ret
  exact ⟨by simp [Bool.beq_eq_decide_eq], HB.out.alloc HB.out.size _⟩
set_option maxRecDepth 100000 in
set_option maxHeartbeats 2000000 in
/-- Where the side to a neighbour lies. -/
theorem edge_any {w : World} {B p T g : Nat} {ps : List Int} {s : StL} (h : Chg w B p T g ps s) {to : Int} {i : Nat} (hi : edgeAt s.v to = some i) (hn : s.se.n ≤ 4398046511104) :
    Calls Try.prog 64 #[.pointer (some ⟨p, 0, none⟩), .int .i64 to] w fun e w' => ∃ go, s.se.A = some ⟨go, 0, none⟩ ∧ e = .returned (.pointer (some ⟨go, i * 4, none⟩)) ∧ Below w.heap.size w w' := by
  have hil : i < s.es.length := by have := (edgeAt_some hi).1; simpa [StL.v] using this
  have hgi : s.es[i]? = some s.es[i] := List.getElem?_eq_getElem hil
  obtain ⟨go, hgo, g1, g2, g3, g4, g5, g6, g7, -⟩ := h.side hgi
  have hfi : s.es.findIdx? (fun c => decide (c.v.p = to)) = some i := by
    have h2 := hi
    unfold edgeAt StL.v at h2
    simp only [List.findIdx?_map] at h2
    exact h2
  obtain ⟨q, hq⟩ : ∃ q, q = w.heap.size := ⟨_, rfl⟩
  obtain ⟨W1, hW1⟩ : ∃ W, W = w.alloc (.cells #[.int .i64 to] 3) := ⟨_, rfl⟩
  have hb1 : Below w.heap.size w W1 := hW1 ▸ (Below.refl _ _).alloc (Nat.le_refl _) _
  have h1 := h.below hb1
  have hcq : W1.cell? ⟨q, 0, none⟩ = some (.int .i64 to) := by rw [hW1, hq]; exact (Blk.new w _ _).cell 0
  have hqs : q < W1.heap.size := by rw [hW1, World.size_alloc, hq]; omega
  have HI := Lib.hid (idxFuncE s.se.A s.se.n s.se.c s.es _ 86 #[.pointer (some ⟨q, 0, none⟩)] (fun _ _ => rfl) W1 (Row.Own.rd h1.own.es.row).2.2 hn (predE to q W1 hqs hcq))
  rw [hfi] at HI
  have HB1 := Lib.hid hb1
  have x3 : W1.cell? ⟨p, 3, none⟩ = some s.se.val := h1.box.cell 3
  have HX3 : Hid (∀ W, Below W1.heap.size W1 W → W.cell? ⟨p, 3, none⟩ = some s.se.val) := Lib.hid (fun W hW => (hW.cell (p := ⟨p, 3, none⟩) h1.lt).trans x3)
  obtain ⟨me, os, so, es, ⟨D2, d2, k2⟩, q', as_, sa, gs, sg⟩ := s
  simp only [Sl.val] at *
  clear h1 h hi hfi hcq hqs hb1 hgi g1 g2 g3
  subst hgo
  have hnk : i < d2 := g6
  rw [hW1] at x3
  go_enter Try.func64, Try.ntmps64
  go_wp2_with fail
  rw [← hW1, ← hq]
  clear hW1 hq
  refine HI.out.mono ?_
  rintro e w2 ⟨rfl, hb2⟩
  have x4 := HX3.out w2 hb2
  have HB2 := Lib.hid (HB1.out.trans (hb2.mono HB1.out.size))
  simp only [atE]
  clear hb2
  go_wp2
  go_ret
  exact ⟨go, rfl, rfl, HB2.out⟩
end Go.Proofs.Ytiaafhcfeeekeaa.Pk

/- Messages of any list behind messages of one's own; behind an empty literal. -/
namespace Go.Proofs.Ytiaafhcfeeekeaa.Pk
open Go.RowKit
set_option linter.unusedVariables false
theorem OwnG.app_ {w : World} {B n k : Nat} {v : Value} {l r : List Mg} (hn : n = l.length) (hk : k = r.length) (h : w.ownsRow B 30 5 v (n + k) (mgs l ++ mgs r)) : OwnG w B v (l ++ r) := by
  unfold OwnG
  rw [mgs_append, List.length_append, ← hn, ← hk]
  exact h
theorem appM {ops : Array Oper} {rest : List Oper} {o : Oper} {a : Act} {Q : Exit → Act → World → Prop} (w : World) (hgd : o.guard = none) (s x : Operand)
    (ho : o.op = .call { callee := .builtin .append, args := #[s, x], argTypes := #[48, 48] }) (B : Nat) (v : Value) (l : List Mg) (hs : a.eval s = v) (hown : OwnG w B v l)
    (B' : Nat) (A : Option Addr) (c : Nat) (r : List Mg) (n : Nat) (hx : a.eval x = .slice A n c) (hr : Reads w B' 5 A n (mgs r)) (hlen : (l.length + n) * 40 ≤ 140737488355328) (hB : B ≤ w.heap.size)
    (h : ∀ v' w', OwnG w' B v' (l ++ r) → Below B w w' → (v'.ownBlock = v.ownBlock ∨ v'.ownBlock = some w.heap.size) → w.grownBy w' v.ownBlock → wpList Try.prog ops Q rest (a.put o.dst v') w') : wpList Try.prog ops Q (o :: rest) a w := by
  obtain ⟨i0, hi0, hz0, hz1, hz2⟩ := info_parts msg_info
  have hnr : n = r.length := hr.mlen.symm
  refine wpList_append_any _ hgd s x _ ho B 30 i0 _ 5 40 Try.underlying48 hi0 hz0 hz1 hz2 rfl (by omega) v l.length (mgs l) hs hown B' A n c (mgs r) hx hr (mgs_one r)
    (by unfold maxLen; omega) (by omega) hB ?_
  intro v' w' ho hg hat
  exact h v' w' (OwnG.app_ rfl hnr ho) ((Below.refl _ _).grown hg hB (ownG_base hown)) hat hg
theorem OwnG.fresh (w : World) (B : Nat) (hB : B ≤ w.heap.size) : OwnG (w.alloc (.cells #[] 30)) B (.slice (some ⟨w.heap.size, 0, none⟩) 0 0) [] :=
  ⟨rfl, .inr ⟨w.heap.size, 0, #[], rfl, hB, heap_alloc_new w _, Nat.le_refl _, by unfold maxLen; omega, rfl, rfl⟩⟩
theorem below_setG {B : Nat} {w V : World} (h : Below B w V) {x : Nat} (hx : B ≤ x) (o : Nat) (u : Value) : Below B w (V.setCell ⟨x, o, none⟩ u) := h.setCell (p := ⟨x, o, none⟩) hx u
theorem reads_msg (w : World) (T : TypeId) (m : Mg) : Reads (w.alloc (.cells #[.int .i64 m.k, .int .i64 m.o, .int .i64 m.n, .int .i64 m.u, .int .i64 m.v] T)) (w.heap.size + 1) 5 (some ⟨w.heap.size, 0, none⟩) 1 (mgs [m]) := by
  refine ⟨rfl, fun _ => ⟨_, rfl, by simp, fun j u hj => ?_⟩⟩
  match j, hj with
  | 0, hj => simp [mgs, Mg.cells] at hj; subst hj; simp [Addr.add]
  | 1, hj => simp [mgs, Mg.cells] at hj; subst hj; simp [Addr.add]
  | 2, hj => simp [mgs, Mg.cells] at hj; subst hj; simp [Addr.add]
  | 3, hj => simp [mgs, Mg.cells] at hj; subst hj; simp [Addr.add]
  | 4, hj => simp [mgs, Mg.cells] at hj; subst hj; simp [Addr.add]
  | j + 5, hj => simp [mgs, Mg.cells] at hj
end Go.Proofs.Ytiaafhcfeeekeaa.Pk
