/- HalfDelivers: what lies in memory between the moves, and what the moves do to it. -/
import Derived.Test.YtneijohbmphheaaHfWakes
import Derived.Test.YtneijohbmphheaaHfKeep
import Derived.Test.YtneijohbmphheaaCrOwn
import Derived.Test.YtneijohbmphheaaRangeA
import Derived.Test.YtneijohbmphheaaRangeO2
import Derived.OwnWalkIn
namespace Go.Proofs.Ytneijohbmphheaa.Pk
open Go.RowKit Go.Shelf
set_option linter.unusedVariables false
/-- Boxes xr (answer), xf and xt (the sides), xp (pushed), xu (under way); rows of the law's own; marks. -/
structure DvX (w : World) (xr xf xt xp xu : Nat) (fb ts : Int) (F T P C : List Mg) (U : List Cr) (vf vt vp vc vu : Value) (ds : List Deferred) (V : World) : Prop where
  bel : Below w.heap.size w V
  br : Blk V xr 4 #[.bool false]
  bf : Blk V xf 24 #[.int .i64 1, .int .i64 fb, vf, .int .i64 0]
  bt : Blk V xt 24 #[.int .i64 0, .int .i64 0, vt, .int .i64 ts]
  bp : Blk V xp 22 #[vp]
  bu : Blk V xu 43 #[vu]
  of_ : OwnG V (xu + 1) vf F
  ot : OwnG V (xu + 1) vt T
  op : OwnG V (xu + 1) vp P
  oc : OwnG V (xu + 1) vc C
  ou : OwnC V (xu + 1) vu U
  pf : ∀ g, vp.ownBlock = some g → vf.ownBlock ≠ some g ∧ vt.ownBlock ≠ some g ∧ vc.ownBlock ≠ some g
  cf_ : ∀ g, vc.ownBlock = some g → vf.ownBlock ≠ some g ∧ vt.ownBlock ≠ some g
  mks : Marks (xu + 1) ds V
/-- How the boxes stand. -/
def Ord (w : World) (xr xf xt xp xu : Nat) : Prop := w.heap.size ≤ xr ∧ xr < xf ∧ xt = xf + 1 ∧ xp = xf + 2 ∧ xu = xf + 3
theorem msg_carried : ¬ (26 = 47) := by decide
theorem OwnG.lower0 {w : World} {B B' : Nat} {v : Value} {l : List Mg} (h : OwnG w B v l) (hB : B' ≤ B) : OwnG w B' v l := by
  obtain ⟨h1, h2⟩ := h
  refine ⟨h1, ?_⟩
  rcases h2 with h2 | ⟨g, cap, cur, rfl, hb, hr⟩
  · exact .inl h2
  · exact .inr ⟨g, cap, cur, rfl, by omega, hr⟩
theorem reads_cr (w : World) (T : TypeId) (c : Cr) : Reads (w.alloc (.cells #[.int .i64 c.q, .int .i64 c.m.k, .int .i64 c.m.o, .int .i64 c.m.n, .int .i64 c.m.u, .int .i64 c.m.v, .int .i64 c.a] T)) (w.heap.size + 1) 7 (some ⟨w.heap.size, 0, none⟩) 1 (crs [c]) := by
  refine ⟨rfl, fun _ => ⟨_, rfl, by simp, fun j u hj => ?_⟩⟩
  match j, hj with
  | 0, hj => simp [crs, Cr.cells] at hj; subst hj; simp [Addr.add]
  | 1, hj => simp [crs, Cr.cells] at hj; subst hj; simp [Addr.add]
  | 2, hj => simp [crs, Cr.cells] at hj; subst hj; simp [Addr.add]
  | 3, hj => simp [crs, Cr.cells] at hj; subst hj; simp [Addr.add]
  | 4, hj => simp [crs, Cr.cells] at hj; subst hj; simp [Addr.add]
  | 5, hj => simp [crs, Cr.cells] at hj; subst hj; simp [Addr.add]
  | 6, hj => simp [crs, Cr.cells] at hj; subst hj; simp [Addr.add]
  | j + 7, hj => simp [crs, Cr.cells] at hj
theorem OwnG.reads_ {w : World} {B n c : Nat} {A : Option Addr} {l : List Mg} (h : OwnG w B (.slice A n c) l) : Reads w w.heap.size 5 A n (mgs l) := by
  obtain ⟨A', c', e, hc, hr⟩ := OwnG.reads h
  injection e with e1 e2 e3
  subst e1; subst e2; subst e3
  exact hr
theorem OwnC.lower {w : World} {B B' : Nat} {v : Value} {l : List Cr} (h : OwnC w B v l) (hB : B' ≤ B) : OwnC w B' v l := by
  obtain ⟨h1, h2⟩ := h
  refine ⟨h1, ?_⟩
  rcases h2 with h2 | ⟨g, cap, cur, rfl, hb, hr⟩
  · exact .inl h2
  · exact .inr ⟨g, cap, cur, rfl, by omega, hr⟩
theorem own_cg {w : World} {B B' : Nat} {v v' : Value} {U : List Cr} {l : List Mg} (h : OwnC w B v U) (k : OwnG w B' v' l) : ∀ g, v.ownBlock = some g → v'.ownBlock ≠ some g := by
  intro g hg hg'
  rcases h.2 with ⟨rfl, _⟩ | ⟨g1, cap, cur, rfl, _, hh, _⟩
  · simp [Value.ownBlock] at hg
  rcases k.2 with ⟨rfl, _⟩ | ⟨g2, cap2, cur2, rfl, _, hh2, _⟩
  · simp [Value.ownBlock] at hg'
  simp [Value.ownBlock] at hg hg'
  subst hg; subst hg'
  rw [hh] at hh2
  injection hh2 with hh2
  injection hh2 with e1 e2
  exact msg_carried e2.symm
theorem row_blk {w : World} {B : Nat} {v : Value} {l : List Mg} (h : OwnG w B v l) : ∀ g, v.ownBlock = some g → ∃ t cs, Blk w g t cs := by
  intro g hg
  rcases h.2 with ⟨rfl, _⟩ | ⟨g1, cap, cur, rfl, _, hh, _⟩
  · simp [Value.ownBlock] at hg
  · simp [Value.ownBlock] at hg; subst hg; exact ⟨_, _, hh⟩
theorem row_blkC {w : World} {B : Nat} {v : Value} {l : List Cr} (h : OwnC w B v l) : ∀ g, v.ownBlock = some g → ∃ t cs, Blk w g t cs := by
  intro g hg
  rcases h.2 with ⟨rfl, _⟩ | ⟨g1, cap, cur, rfl, _, hh, _⟩
  · simp [Value.ownBlock] at hg
  · simp [Value.ownBlock] at hg; subst hg; exact ⟨_, _, hh⟩
theorem blk_rowC {w : World} {B x : Nat} {t : TypeId} {cs : Array Value} {v : Value} {l : List Cr} (h : Blk w x t cs) (ht : ¬ (t = 47)) (k : OwnC w B v l) : v.ownBlock ≠ some x := by
  intro e
  rcases k.2 with ⟨e6, _⟩ | ⟨g6, cap6, cur6, e6, _, hh6, _⟩
  · rw [e6] at e; simp [Value.ownBlock] at e
  · rw [e6] at e
    simp [Value.ownBlock] at e
    subst e
    unfold Blk at h
    rw [h] at hh6
    injection hh6 with hh6
    injection hh6 with _ e7
    exact ht e7
/-- Things of any list behind those that are owned, as one step of a region. -/
theorem stepC {ops : Array Oper} {o : Oper} {a : Act} {K : Act → World → Prop} {Q : Exit → Act → World → Prop} {E : Prop} (w : World) (hgd : o.guard = none) (s x : Operand)
    (ho : o.op = .call { callee := .builtin .append, args := #[s, x], argTypes := #[43, 43] }) (B : Nat) (v : Value) (l : List Cr) (hs : a.eval s = v) (hown : OwnC w B v l)
    (B' : Nat) (A : Option Addr) (c : Nat) (r : List Cr) (n : Nat) (hx : a.eval x = .slice A n c) (hr : Reads w B' 7 A n (crs r)) (hlen : (l.length + n) * 56 ≤ 140737488355328) (hB : B ≤ w.heap.size)
    (h : ∀ A' n' c' w', OwnC w' B (.slice A' n' c') (l ++ r) → w.grownBy w' v.ownBlock → K (a.put o.dst (.slice A' n' c')) w') :
    if Region.wanted o (yielded ops a.tmps) = true then Oper.wp Try.prog o a w K Q else E := by
  obtain ⟨i0, hi0, hz0, hz1, hz2⟩ := info_parts cr_info
  have hnr : n = r.length := hr.clen.symm
  refine step_append_any (P := Try.prog) w hgd s x _ ho B 47 i0 _ 7 56 Try.underlying43 hi0 hz0 hz1 hz2 rfl (by omega) v l.length (crs l) hs hown B' A n c (crs r) hx hr (crs_one r)
    (by unfold maxLen; omega) (by omega) hB ?_
  intro v' w' ho hg _
  have hv := OwnC.app_ rfl hnr ho
  obtain ⟨A', n', c', rfl⟩ := ownC_slice hv
  exact h A' n' c' w' hv hg
theorem crs_drop (l : List Cr) (k : Nat) : crs (l.drop k) = (crs l).drop (k * 7) := by
  induction k generalizing l with
  | zero => simp
  | succ k ih =>
    cases l with
    | nil => simp [crs]
    | cons x l =>
      rw [List.drop_succ_cons, ih, crs_cons, show (k + 1) * 7 = k * 7 + 7 by omega]
      rfl
theorem run_cutC (a : Option Addr) (n c i : Nat) (h1 : i ≤ n) (w : World) :
    (Instr.slice 43 (.slice a n c) (some (.int .i64 (i : Int))) none none).run Try.prog w = .ok (.slice (if c = i then a else a.map (·.add (i * 7))) (n - i) (c - i)) w := by
  obtain ⟨f, hi1, hi2⟩ := Option.map_eq_some_iff.1 cr_info
  simp only [Prod.mk.injEq] at hi2
  have hi3 := hi2.2.1
  simp [Instr.slice, run_underlying Try.underlying43, go_sem, Instr.sliceBounds, sizeOf, typeInfo, hi1, hi3, h1]
theorem run_headC (a : Option Addr) (n c j : Nat) (h1 : j ≤ c) (h0 : 0 < c) (w : World) :
    (Instr.slice 43 (.slice a n c) none (some (.int .i64 (j : Int))) none).run Try.prog w = .ok (.slice a j c) w := by
  obtain ⟨f, hi1, hi2⟩ := Option.map_eq_some_iff.1 cr_info
  cases a <;> simp [Instr.slice, run_underlying Try.underlying43, go_sem, Instr.sliceBounds, sizeOf, typeInfo, hi1, h1, Addr.add]
/-- One thing more, out of a new box, inside a fence. -/
theorem appCIn {F : Fence} {n : Nat} {ops : Array Oper} {rest : List Oper} {o : Oper} {a : Act} {Q : Exit → Act → World → Prop} (w : World) (c : Cr) (T : TypeId) (hgd : o.guard = none) (so x : Operand)
    (ho : o.op = .call { callee := .builtin .append, args := #[so, x], argTypes := #[43, 43] }) (B : Nat) (v : Value) (l : List Cr) (hs : a.eval so = v) (hown : OwnC w B v l)
    (hx : a.eval x = .slice (some ⟨w.heap.size, 0, none⟩) 1 1) (hlen : (l.length + 1) * 56 ≤ 140737488355328) (hB : B ≤ w.heap.size)
    (h : ∀ v' w', OwnC w' B v' (l ++ [c]) → (w.alloc (.cells #[.int .i64 c.q, .int .i64 c.m.k, .int .i64 c.m.o, .int .i64 c.m.n, .int .i64 c.m.u, .int .i64 c.m.v, .int .i64 c.a] T)).grownBy w' v.ownBlock → wpListIn F n Try.prog ops Q rest (a.put o.dst v') w') :
    wpListIn F n Try.prog ops Q (o :: rest) a (w.alloc (.cells #[.int .i64 c.q, .int .i64 c.m.k, .int .i64 c.m.o, .int .i64 c.m.n, .int .i64 c.m.u, .int .i64 c.m.v, .int .i64 c.a] T)) := by
  obtain ⟨i0, hi0, hz0, hz1, hz2⟩ := info_parts cr_info
  refine wpListIn_append_own _ hgd so x _ ho B 47 i0 _ 7 56 Try.underlying43 hi0 hz0 hz1 hz2 rfl (by omega) v l.length (crs l) hs (World.ownsRow.alloc hown _) ⟨w.heap.size, 0, none⟩ 1 1 (crs [c]) hx rfl ?_ (crs_one _)
    (by unfold maxLen; omega) (by omega) (by simp; omega) ?_
  · intro j u hj
    match j, hj with
    | 0, hj => simp [crs, Cr.cells] at hj; subst hj; simp [Addr.add]
    | 1, hj => simp [crs, Cr.cells] at hj; subst hj; simp [Addr.add]
    | 2, hj => simp [crs, Cr.cells] at hj; subst hj; simp [Addr.add]
    | 3, hj => simp [crs, Cr.cells] at hj; subst hj; simp [Addr.add]
    | 4, hj => simp [crs, Cr.cells] at hj; subst hj; simp [Addr.add]
    | 5, hj => simp [crs, Cr.cells] at hj; subst hj; simp [Addr.add]
    | 6, hj => simp [crs, Cr.cells] at hj; subst hj; simp [Addr.add]
    | j + 7, hj => simp [crs, Cr.cells] at hj
  · intro v' w' ho hg _
    refine h v' w' ?_ hg
    unfold OwnC
    rw [crs_append, List.length_append]; exact ho
section
variable {w : World} {xr xf xt xp xu : Nat} {fb ts : Int} {F T P C : List Mg} {U : List Cr} {vf vt vp vc vu : Value} {ds : List Deferred} {V V' : World}
theorem DvX.below (h : DvX w xr xf xt xp xu fb ts F T P C U vf vt vp vc vu ds V) (hb : Below V.heap.size V V') : DvX w xr xf xt xp xu fb ts F T P C U vf vt vp vc vu ds V' :=
  ⟨h.bel.trans (hb.mono h.bel.size), h.br.below hb h.br.lt, h.bf.below hb h.bf.lt, h.bt.below hb h.bt.lt, h.bp.below hb h.bp.lt, h.bu.below hb h.bu.lt,
    h.of_.below hb, h.ot.below hb, h.op.below hb, h.oc.below hb, h.ou.below hb, h.pf, h.cf_, h.mks.below hb⟩
/-- A set of blocks that is none of the law's own: all stays. -/
theorem DvX.only {S : Nat → Prop} (h : DvX w xr xf xt xp xu fb ts F T P C U vf vt vp vc vu ds V) (k : OnlyS S V V') (hw : ∀ b, S b → w.heap.size ≤ b) (hc : ∀ b, S b → ∃ t cs, Blk V b t cs) (s0 : ¬ S xr) (s1 : ¬ S xf) (s2 : ¬ S xt) (s3 : ¬ S xp) (s4 : ¬ S xu)
    (s5 : ∀ g, vf.ownBlock = some g → ¬ S g) (s6 : ∀ g, vt.ownBlock = some g → ¬ S g) (s7 : ∀ g, vp.ownBlock = some g → ¬ S g) (s8 : ∀ g, vc.ownBlock = some g → ¬ S g) (s9 : ∀ g, vu.ownBlock = some g → ¬ S g) : DvX w xr xf xt xp xu fb ts F T P C U vf vt vp vc vu ds V' :=
  ⟨OnlyS.bel h.bel k hw h.bel.size, k.blk h.br s0, k.blk h.bf s1, k.blk h.bt s2, k.blk h.bp s3, k.blk h.bu s4,
    h.of_.stay (fun g e => k.block g (ownG_lt h.of_ g e) (s5 g e)), h.ot.stay (fun g e => k.block g (ownG_lt h.ot g e) (s6 g e)), h.op.stay (fun g e => k.block g (ownG_lt h.op g e) (s7 g e)), h.oc.stay (fun g e => k.block g (ownG_lt h.oc g e) (s8 g e)), h.ou.stay (fun g e => k.block g (ownC_lt h.ou g e) (s9 g e)),
    h.pf, h.cf_, OnlyS.marks h.mks k hc⟩
/-- What an iterator does to blocks of its own that are no cells changes nothing. -/
theorem DvX.ownF {B : Nat} {row : Option Nat} (h : DvX w xr xf xt xp xu fb ts F T P C U vf vt vp vc vu ds V) (hg : V.grownBy V' row) (hr : ∀ r, row = some r → B ≤ r ∧ ∃ o, V.heap[r]? = some o ∧ o.isCells = false) (hB : w.heap.size ≤ B)
    (hm : ∀ d ∈ ds, ∀ k, d = { target := .collected k, args := #[] } → k < B) : DvX w xr xf xt xp xu fb ts F T P C U vf vt vp vc vu ds V' := by
  have k : OnlyS (fun b => row = some b) V V' := ⟨hg.os, hg.tape, hg.output, hg.size, fun i hi hn => hg.block i hi (fun e => hn e.symm)⟩
  have nb : ∀ b t cs, Blk V b t cs → ¬ (row = some b) := by
    intro b t cs hb e
    obtain ⟨o, h1, h2⟩ := (hr b e).2
    unfold Blk at hb
    rw [hb] at h1
    injection h1 with h1
    subst h1
    cases h2
  have ng : ∀ {v : Value} {l : List Mg}, OwnG V (xu + 1) v l → ∀ g, v.ownBlock = some g → ¬ (row = some g) := fun hv g e => by
    obtain ⟨t, cs, hb⟩ := row_blk hv g e
    exact nb g t cs hb
  exact ⟨OnlyS.bel h.bel k (fun b hb => Nat.le_trans hB (hr b hb).1) h.bel.size, k.blk h.br (nb _ _ _ h.br), k.blk h.bf (nb _ _ _ h.bf), k.blk h.bt (nb _ _ _ h.bt), k.blk h.bp (nb _ _ _ h.bp), k.blk h.bu (nb _ _ _ h.bu),
    h.of_.stay (fun g e => k.block g (ownG_lt h.of_ g e) (ng h.of_ g e)), h.ot.stay (fun g e => k.block g (ownG_lt h.ot g e) (ng h.ot g e)), h.op.stay (fun g e => k.block g (ownG_lt h.op g e) (ng h.op g e)), h.oc.stay (fun g e => k.block g (ownG_lt h.oc g e) (ng h.oc g e)), h.ou.stay (fun g e => k.block g (ownC_lt h.ou g e) (by
      obtain ⟨t, cs, hb⟩ := row_blkC h.ou g e
      exact nb g t cs hb)),
    h.pf, h.cf_, h.mks.keep hg.size (fun q ⟨d, hd, he⟩ => k.block q (h.mks.lt d hd q he) (fun e => by have h1 := hm d hd q he; have h2 := (hr q e).1; omega))⟩
theorem DvX.setf (h : DvX w xr xf xt xp xu fb ts F T P C U vf vt vp vc vu ds V) (o : Ord w xr xf xt xp xu) (fb' : Int) {vf' : Value} {F' : List Mg} (ho : OwnG V (xu + 1) vf' F') (hp : ∀ g, vf'.ownBlock = some g → vp.ownBlock ≠ some g ∧ vc.ownBlock ≠ some g) :
    DvX w xr xf xt xp xu fb' ts F' T P C U vf' vt vp vc vu ds ((((V.setCell ⟨xf, 0, none⟩ (.int .i64 1)).setCell ⟨xf, 1, none⟩ (.int .i64 fb')).setCell ⟨xf, 2, none⟩ vf').setCell ⟨xf, 3, none⟩ (.int .i64 0)) := by
  obtain ⟨o1, o2, o3, o4, o5⟩ := o
  have k : OnlyS (fun b => b = xf) V ((((V.setCell ⟨xf, 0, none⟩ (.int .i64 1)).setCell ⟨xf, 1, none⟩ (.int .i64 fb')).setCell ⟨xf, 2, none⟩ vf').setCell ⟨xf, 3, none⟩ (.int .i64 0)) :=
    ((((OnlyS.refl (fun b => b = xf) V).setAt rfl 0 _).setAt rfl 1 _).setAt rfl 2 _).setAt rfl 3 _
  have far : ∀ {v : Value} {l : List Mg}, OwnG V (xu + 1) v l → ∀ g, v.ownBlock = some g → ¬ (g = xf) := fun ho g e => by have := ownG_base ho g e; omega
  obtain ⟨_, rfl, kb, _, _⟩ := edge_setW h.bf (.int .i64 1) (.int .i64 fb') vf' (.int .i64 0)
  refine ⟨OnlyS.bel h.bel k (fun b hb => by omega) h.bel.size, k.blk h.br (by omega), kb, k.blk h.bt (by omega), k.blk h.bp (by omega), k.blk h.bu (by omega),
    ho.stay (fun g e => k.block g (ownG_lt ho g e) (far ho g e)), h.ot.stay (fun g e => k.block g (ownG_lt h.ot g e) (far h.ot g e)), h.op.stay (fun g e => k.block g (ownG_lt h.op g e) (far h.op g e)), h.oc.stay (fun g e => k.block g (ownG_lt h.oc g e) (far h.oc g e)), h.ou.stay (fun g e => k.block g (ownC_lt h.ou g e) (by have := ownC_base h.ou g e; omega)),
    fun g e => ⟨fun e' => (hp g e').1 e, (h.pf g e).2.1, (h.pf g e).2.2⟩, fun g e => ⟨fun e' => (hp g e').2 e, (h.cf_ g e).2⟩, OnlyS.marks h.mks k (fun b hb => by cases hb; exact ⟨_, _, h.bf⟩)⟩
theorem DvX.sett (h : DvX w xr xf xt xp xu fb ts F T P C U vf vt vp vc vu ds V) (o : Ord w xr xf xt xp xu) (ts' : Int) {vt' : Value} {T' : List Mg} (ho : OwnG V (xu + 1) vt' T') (hp : ∀ g, vt'.ownBlock = some g → vp.ownBlock ≠ some g ∧ vc.ownBlock ≠ some g) :
    DvX w xr xf xt xp xu fb ts' F T' P C U vf vt' vp vc vu ds ((((V.setCell ⟨xt, 0, none⟩ (.int .i64 0)).setCell ⟨xt, 1, none⟩ (.int .i64 0)).setCell ⟨xt, 2, none⟩ vt').setCell ⟨xt, 3, none⟩ (.int .i64 ts')) := by
  obtain ⟨o1, o2, o3, o4, o5⟩ := o
  have k : OnlyS (fun b => b = xt) V ((((V.setCell ⟨xt, 0, none⟩ (.int .i64 0)).setCell ⟨xt, 1, none⟩ (.int .i64 0)).setCell ⟨xt, 2, none⟩ vt').setCell ⟨xt, 3, none⟩ (.int .i64 ts')) :=
    ((((OnlyS.refl (fun b => b = xt) V).setAt rfl 0 _).setAt rfl 1 _).setAt rfl 2 _).setAt rfl 3 _
  have far : ∀ {v : Value} {l : List Mg}, OwnG V (xu + 1) v l → ∀ g, v.ownBlock = some g → ¬ (g = xt) := fun ho g e => by have := ownG_base ho g e; omega
  obtain ⟨_, rfl, kb, _, _⟩ := edge_setW h.bt (.int .i64 0) (.int .i64 0) vt' (.int .i64 ts')
  refine ⟨OnlyS.bel h.bel k (fun b hb => by omega) h.bel.size, k.blk h.br (by omega), k.blk h.bf (by omega), kb, k.blk h.bp (by omega), k.blk h.bu (by omega),
    h.of_.stay (fun g e => k.block g (ownG_lt h.of_ g e) (far h.of_ g e)), ho.stay (fun g e => k.block g (ownG_lt ho g e) (far ho g e)), h.op.stay (fun g e => k.block g (ownG_lt h.op g e) (far h.op g e)), h.oc.stay (fun g e => k.block g (ownG_lt h.oc g e) (far h.oc g e)), h.ou.stay (fun g e => k.block g (ownC_lt h.ou g e) (by have := ownC_base h.ou g e; omega)),
    fun g e => ⟨(h.pf g e).1, fun e' => (hp g e').1 e, (h.pf g e).2.2⟩, fun g e => ⟨(h.cf_ g e).1, fun e' => (hp g e').2 e⟩, OnlyS.marks h.mks k (fun b hb => by cases hb; exact ⟨_, _, h.bt⟩)⟩
/-- The row of what was pushed, grown. -/
theorem DvX.growP (h : DvX w xr xf xt xp xu fb ts F T P C U vf vt vp vc vu ds V) (o : Ord w xr xf xt xp xu) (hg : V.grownBy V' vp.ownBlock) {vp' : Value} {P' : List Mg} (ho : OwnG V' (xu + 1) vp' P') (hat : vp'.ownBlock = vp.ownBlock ∨ vp'.ownBlock = some V.heap.size) :
    DvX w xr xf xt xp xu fb ts F T P' C U vf vt vp' vc vu ds (V'.setCell ⟨xp, 0, none⟩ vp') := by
  obtain ⟨o1, o2, o3, o4, o5⟩ := o
  have k : OnlyS (fun b => b = xp ∨ vp.ownBlock = some b) V (V'.setCell ⟨xp, 0, none⟩ vp') :=
    OnlyS.set (S := fun b => b = xp ∨ vp.ownBlock = some b) ⟨hg.os, hg.tape, hg.output, hg.size, fun i hi hn => hg.block i hi (fun e => hn (.inr e.symm))⟩ (.inl rfl) vp'
  have nb : ∀ b, b ≤ xu → b ≠ xp → ¬ (b = xp ∨ vp.ownBlock = some b) := by
    rintro b hb hn (e | e)
    · exact hn e
    · have := ownG_base h.op b e; omega
  have ng : ∀ {v : Value} {l : List Mg}, OwnG V (xu + 1) v l → (∀ g, vp.ownBlock = some g → v.ownBlock ≠ some g) → OwnG (V'.setCell ⟨xp, 0, none⟩ vp') (xu + 1) v l := fun hv hn => hv.stay (fun g e => k.block g (ownG_lt hv g e) (by
    rintro (e' | e')
    · have := ownG_base hv g e; omega
    · exact hn g e' e))
  have kp : Blk V' xp 22 #[vp] := h.bp.grown hg (fun e => by have := ownG_base h.op xp e.symm; omega)
  refine ⟨OnlyS.bel h.bel k (fun b hb => by
      rcases hb with e | e
      · omega
      · have := ownG_base h.op b e; omega) h.bel.size, k.blk h.br (nb _ (by omega) (by omega)), k.blk h.bf (nb _ (by omega) (by omega)), k.blk h.bt (nb _ (by omega) (by omega)), blk_put kp vp', k.blk h.bu (nb _ (by omega) (by omega)),
    ng h.of_ (fun g e => (h.pf g e).1), ng h.ot (fun g e => (h.pf g e).2.1), ho.stay (fun g e => Below.heap_setCell V' ⟨xp, 0, none⟩ vp' g (fun e' => by have := ownG_base ho g e; simp only at e'; omega)), ng h.oc (fun g e => (h.pf g e).2.2), h.ou.stay (fun g e => k.block g (ownC_lt h.ou g e) (by
      rintro (e' | e')
      · have := ownC_base h.ou g e; omega
      · exact own_cg h.ou h.op g e e')), fun g e => ?_, h.cf_, OnlyS.marks h.mks k (fun b hb => by
      rcases hb with e | e
      · cases e; exact ⟨_, _, h.bp⟩
      · exact row_blk h.op b e)⟩
  rcases hat with e' | e'
  · exact h.pf g (e'.symm.trans e)
  · rw [e'] at e
    injection e with e
    subst e
    exact ⟨fun e => absurd (ownG_lt h.of_ _ e) (Nat.lt_irrefl _), fun e => absurd (ownG_lt h.ot _ e) (Nat.lt_irrefl _), fun e => absurd (ownG_lt h.oc _ e) (Nat.lt_irrefl _)⟩
/-- The row of what was counted, grown. -/
theorem DvX.growC (h : DvX w xr xf xt xp xu fb ts F T P C U vf vt vp vc vu ds V) (o : Ord w xr xf xt xp xu) (hg : V.grownBy V' vc.ownBlock) {vc' : Value} {C' : List Mg} (ho : OwnG V' (xu + 1) vc' C') (hat : vc'.ownBlock = vc.ownBlock ∨ vc'.ownBlock = some V.heap.size) :
    DvX w xr xf xt xp xu fb ts F T P C' U vf vt vp vc' vu ds V' := by
  obtain ⟨o1, o2, o3, o4, o5⟩ := o
  have k : OnlyS (fun b => vc.ownBlock = some b) V V' := ⟨hg.os, hg.tape, hg.output, hg.size, fun i hi hn => hg.block i hi (fun e => hn e.symm)⟩
  have nb : ∀ b, b ≤ xu → ¬ (vc.ownBlock = some b) := fun b hb e => by have := ownG_base h.oc b e; omega
  have ng : ∀ {v : Value} {l : List Mg}, OwnG V (xu + 1) v l → (∀ g, vc.ownBlock = some g → v.ownBlock ≠ some g) → OwnG V' (xu + 1) v l := fun hv hn => hv.stay (fun g e => k.block g (ownG_lt hv g e) (fun e' => hn g e' e))
  refine ⟨OnlyS.bel h.bel k (fun b hb => by have := ownG_base h.oc b hb; omega) h.bel.size, k.blk h.br (nb _ (by omega)), k.blk h.bf (nb _ (by omega)), k.blk h.bt (nb _ (by omega)), k.blk h.bp (nb _ (by omega)), k.blk h.bu (nb _ (by omega)),
    ng h.of_ (fun g e => (h.cf_ g e).1), ng h.ot (fun g e => (h.cf_ g e).2), ng h.op (fun g e e' => (h.pf g e').2.2 e), ho, h.ou.stay (fun g e => k.block g (ownC_lt h.ou g e) (fun e' => own_cg h.ou h.oc g e e')), fun g e => ⟨(h.pf g e).1, (h.pf g e).2.1, fun e2 => ?_⟩, fun g e => ?_, OnlyS.marks h.mks k (fun b hb => row_blk h.oc b hb)⟩
  · rcases hat with e' | e'
    · exact (h.pf g e).2.2 (e'.symm.trans e2)
    · rw [e'] at e2
      injection e2 with e2
      subst e2
      exact absurd (ownG_lt h.op _ e) (Nat.lt_irrefl _)
  · rcases hat with e' | e'
    · exact h.cf_ g (e'.symm.trans e)
    · rw [e'] at e
      injection e with e
      subst e
      exact ⟨fun e => absurd (ownG_lt h.of_ _ e) (Nat.lt_irrefl _), fun e => absurd (ownG_lt h.ot _ e) (Nat.lt_irrefl _)⟩
/-- The row of what is under way: another one. -/
theorem DvX.putU (h : DvX w xr xf xt xp xu fb ts F T P C U vf vt vp vc vu ds V) (o : Ord w xr xf xt xp xu) (hg : V.grownBy V' vu.ownBlock) {vu' : Value} {U' : List Cr} (ho : OwnC V' (xu + 1) vu' U') :
    DvX w xr xf xt xp xu fb ts F T P C U' vf vt vp vc vu' ds (V'.setCell ⟨xu, 0, none⟩ vu') := by
  obtain ⟨o1, o2, o3, o4, o5⟩ := o
  have k : OnlyS (fun b => b = xu ∨ vu.ownBlock = some b) V (V'.setCell ⟨xu, 0, none⟩ vu') :=
    OnlyS.set (S := fun b => b = xu ∨ vu.ownBlock = some b) ⟨hg.os, hg.tape, hg.output, hg.size, fun i hi hn => hg.block i hi (fun e => hn (.inr e.symm))⟩ (.inl rfl) vu'
  have nb : ∀ b, b < xu → ¬ (b = xu ∨ vu.ownBlock = some b) := by
    rintro b hb (e | e)
    · omega
    · have := ownC_base h.ou b e; omega
  have ng : ∀ {v : Value} {l : List Mg}, OwnG V (xu + 1) v l → OwnG (V'.setCell ⟨xu, 0, none⟩ vu') (xu + 1) v l := fun hv => hv.stay (fun g e => k.block g (ownG_lt hv g e) (by
    rintro (e' | e')
    · have := ownG_base hv g e; omega
    · exact own_cg h.ou hv g e' e))
  have kp : Blk V' xu 43 #[vu] := h.bu.grown hg (fun e => by have := ownC_base h.ou xu e.symm; omega)
  exact ⟨OnlyS.bel h.bel k (fun b hb => by
      rcases hb with e | e
      · omega
      · have := ownC_base h.ou b e; omega) h.bel.size, k.blk h.br (nb _ (by omega)), k.blk h.bf (nb _ (by omega)), k.blk h.bt (nb _ (by omega)), k.blk h.bp (nb _ (by omega)), blk_put kp vu',
    ng h.of_, ng h.ot, ng h.op, ng h.oc, ho.stay (fun g e => Below.heap_setCell V' ⟨xu, 0, none⟩ vu' g (fun e' => by have := ownC_base ho g e; simp only at e'; omega)), h.pf, h.cf_, OnlyS.marks h.mks k (fun b hb => by
      rcases hb with e | e
      · cases e; exact ⟨_, _, h.bu⟩
      · exact row_blkC h.ou b e)⟩
end
end Go.Proofs.Ytneijohbmphheaa.Pk
