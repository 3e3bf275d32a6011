/- The document's answers (fletchref13): Same. -/
import Derived.Test.YtiaafhcfeeekeaaZChFacts
import Derived.Test.YtiaafhcfeeekeaaZCeEq
import Derived.Deep.QuietTactic
import Derived.BigQuiet
import Derived.Test.YtiaafhcfeeekeaaZStMath
import Derived.Lib.Hide
import Derived.Outline
import Derived.Scope
import Derived.Deep.DeepMust
import Derived.LoopTactic
namespace Go.Proofs.Ytiaafhcfeeekeaa.Pk
open Go.RowKit
set_option linter.unusedVariables false
attribute [local go_sem] Oper.semAt_some
theorem openK_take {l : List Ce} {i : Nat} (h : i < l.length) : openK (l.take (i + 1)) = openK (l.take i) + (if (ceA l i).s = 1 ∨ (ceA l i).s = 2 then 1 else 0) := by
  unfold openK
  rw [List.take_add_one, ceA_get h, Option.toList, List.filter_append, List.length_append]
  by_cases hs : (ceA l i).s = 1 ∨ (ceA l i).s = 2
  · rw [if_pos hs]; simp [hs]
  · rw [if_neg hs]; simp [hs]
theorem openK_le (l : List Ce) : openK l ≤ l.length := List.length_filter_le _ _
theorem OwnK.sl {w : World} {B : Nat} {v : Value} {l : List Ce} (h : OwnK w B v l) : ∃ A c, v = .slice A l.length c := by
  obtain ⟨A, c, e, _⟩ := h.reads
  exact ⟨A, c, e⟩
theorem ownK_reads {w : World} {B : Nat} {A : Option Addr} {n c : Nat} {l : List Ce} (h : OwnK w B (.slice A n c) l) : Reads w w.heap.size 4 A n (ces l) := by
  obtain ⟨A', c', e, _, hr⟩ := OwnK.reads h
  injection e with e1 e2 e3
  subst e1; subst e2
  exact hr
def AlikeK (l r : List Ce) (k : Nat) : Prop := ∀ j, j < k → ceA l j = ceA r j
theorem alikeK_all {l r : List Ce} {n : Nat} (h : AlikeK l r n) (hl : l.length = n) (hr : r.length = n) : l = r := by
  apply List.ext_getElem?
  intro i
  rcases Nat.lt_or_ge i n with h1 | h1
  · rw [ceA_get (by omega), ceA_get (by omega), h i h1]
  · rw [List.getElem?_eq_none (by omega), List.getElem?_eq_none (by omega)]
theorem below_drewC {B : Nat} {w w' : World} (h : Below B w w') (n : Nat) : Below B w (w'.drewN n) := ⟨h.os, h.tape, h.output, h.size, h.block⟩
set_option maxHeartbeats 4000000 in
theorem sameK (A A' : Option Addr) (n c n' c' : Nat) (l r : List Ce) (w : World) (hl : Reads w w.heap.size 4 A n (ces l)) (hr : Reads w w.heap.size 4 A' n' (ces r)) (hn : n ≤ 4611686018427387904) :
    Calls Try.prog 30 #[.slice A n c, .slice A' n' c'] w fun e w' => e = .returned (.bool (decide (l = r))) ∧ Below w.heap.size w w' := by
  have HL := Lib.hid hl.klen
  have HR := Lib.hid hr.klen
  have HRl := Lib.hid hl
  have HRr := Lib.hid hr
  clear hl hr
  obtain ⟨res, hres⟩ : ∃ res, res = decide (l = r) := ⟨_, rfl⟩
  have HRe := Lib.hid hres
  rw [← hres]
  clear hres
  by_cases h1 : n = n'
  case neg =>
    have t1 : ((n : Int) != (n' : Int)) = true := by simp; omega
    have HS : Hid (res = false) := Lib.hid (by rw [HRe.out]; exact decide_eq_false (fun e => h1 (by rw [← HL.out, ← HR.out, e])))
    rw [HS.out]
    clear h1
    go_enter Try.func30, Try.ntmps30
    go_wp2
    go_ret
    exact ⟨rfl, Below.refl _ _⟩
  case pos =>
  subst h1
  have t1 : ((n : Int) != (n : Int)) = false := by simp
  go_enter Try.func30, Try.ntmps30
  go_wp2
  go_loopw [5, 13] (fun _ j wr => ∃ i : Nat, j = .int .i64 i ∧ i ≤ n ∧ AlikeK l r i ∧ ∃ k, wr = w.drewN k) (fun _ j _ => n - (intOf j).toNat)
  case atStart => exact ⟨0, rfl, by omega, (fun j hj => by omega), 0, rfl⟩
  case round =>
    obtain ⟨i, rfl, hi, hal, k, rfl⟩ := hrel
    have HA := Lib.hid hal
    clear hal
    by_cases hlt : i < n
    · obtain ⟨b, off, rfl, _, hc⟩ := HRl.out.ces_ (by omega)
      obtain ⟨b', off', rfl, _, hc'⟩ := HRr.out.ces_ (by omega)
      obtain ⟨m0, m1, m2, m3⟩ := hc i _ (ceA_get (by rw [HL.out]; exact hlt))
      obtain ⟨q0, q1, q2, q3⟩ := hc' i _ (ceA_get (by rw [HR.out]; exact hlt))
      have HEq : Hid ((ceA l i = ceA r i) ↔ ((⟨(ceA l i).n, (ceA l i).s, (ceA l i).d, (ceA l i).x⟩ : Ce) = ⟨(ceA r i).n, (ceA r i).s, (ceA r i).d, (ceA r i).x⟩)) := Lib.hid Iff.rfl
      obtain ⟨x0, h0⟩ : ∃ x, x = (ceA l i).n := ⟨_, rfl⟩
      obtain ⟨x1, h1⟩ : ∃ x, x = (ceA l i).s := ⟨_, rfl⟩
      obtain ⟨x2, h2⟩ : ∃ x, x = (ceA l i).d := ⟨_, rfl⟩
      obtain ⟨x3, h3⟩ : ∃ x, x = (ceA l i).x := ⟨_, rfl⟩
      obtain ⟨y0, g0⟩ : ∃ x, x = (ceA r i).n := ⟨_, rfl⟩
      obtain ⟨y1, g1⟩ : ∃ x, x = (ceA r i).s := ⟨_, rfl⟩
      obtain ⟨y2, g2⟩ : ∃ x, x = (ceA r i).d := ⟨_, rfl⟩
      obtain ⟨y3, g3⟩ : ∃ x, x = (ceA r i).x := ⟨_, rfl⟩
      rw [← h0, ← h1, ← h2, ← h3, ← g0, ← g1, ← g2, ← g3] at HEq
      rw [← h0] at m0; rw [← h1] at m1; rw [← h2] at m2; rw [← h3] at m3
      rw [← g0] at q0; rw [← g1] at q1; rw [← g2] at q2; rw [← g3] at q3
      have cs : ∀ k, (w.drewN k).cell? ⟨b, off + i * 4, none⟩ = some (.int .i64 x0) ∧ (w.drewN k).cell? ⟨b, off + i * 4 + 1, none⟩ = some (.int .i64 x1) ∧ (w.drewN k).cell? ⟨b, off + i * 4 + 2, none⟩ = some (.int .i64 x2) ∧ (w.drewN k).cell? ⟨b, off + i * 4 + 3, none⟩ = some (.int .i64 x3) := fun _ => ⟨m0, m1, m2, m3⟩
      have cs' : ∀ k, (w.drewN k).cell? ⟨b', off' + i * 4, none⟩ = some (.int .i64 y0) ∧ (w.drewN k).cell? ⟨b', off' + i * 4 + 1, none⟩ = some (.int .i64 y1) ∧ (w.drewN k).cell? ⟨b', off' + i * 4 + 2, none⟩ = some (.int .i64 y2) ∧ (w.drewN k).cell? ⟨b', off' + i * 4 + 3, none⟩ = some (.int .i64 y3) := fun _ => ⟨q0, q1, q2, q3⟩
      have c0 := fun k => (cs k).1
      have c1 := fun k => (cs k).2.1
      have c2 := fun k => (cs k).2.2.1
      have c3 := fun k => (cs k).2.2.2
      have d0 := fun k => (cs' k).1
      have d1 := fun k => (cs' k).2.1
      have d2 := fun k => (cs' k).2.2.1
      have d3 := fun k => (cs' k).2.2.2
      clear hc hc' h0 h1 h2 h3 g0 g1 g2 g3 m0 m1 m2 m3 q0 q1 q2 q3 cs cs'
      by_cases he : (⟨x0, x1, x2, x3⟩ : Ce) = ⟨y0, y1, y2, y3⟩
      · have HN : Hid (AlikeK l r (i + 1)) := Lib.hid (fun j hj => by
          rcases Nat.lt_or_ge j i with h | h
          · exact HA.out j h
          · obtain rfl : j = i := by omega
            exact HEq.out.2 he)
        have ke2 : ∀ W : World, (Op.equalIn 10000 57 (.agg #[.int .i64 x0, .int .i64 x1, .int .i64 x2, .int .i64 x3]) (.agg #[.int .i64 y0, .int .i64 y1, .int .i64 y2, .int .i64 y3])).run Try.prog W = .ok true W := fun W => by rw [eq_cell, decide_eq_true he]
        clear he
        go_wp2_with fail
        go_quiet (fail)
        go_wp2
        go_roundw
        case rel => exact ⟨i + 1, by go_num, by omega, HN.out, _, rfl⟩
        case measure => simp [intOf]; omega
      · have ke2 : ∀ W : World, (Op.equalIn 10000 57 (.agg #[.int .i64 x0, .int .i64 x1, .int .i64 x2, .int .i64 x3]) (.agg #[.int .i64 y0, .int .i64 y1, .int .i64 y2, .int .i64 y3])).run Try.prog W = .ok false W := fun W => by rw [eq_cell, decide_eq_false he]
        have HS : Hid (res = false) := Lib.hid (by rw [HRe.out]; exact decide_eq_false (fun e => he (HEq.out.1 (by rw [e]))))
        clear he
        go_wp2_with fail
        go_quiet (fail)
        go_wp2
        go_ret
        exact ⟨by rw [HS.out]; rfl, below_drewC (below_drewC (Below.refl _ w) k) _⟩
    · have HS : Hid (res = true) := Lib.hid (by rw [HRe.out]; exact decide_eq_true (alikeK_all HA.out (by rw [HL.out]; omega) (by rw [HR.out]; omega)))
      go_wp2
      go_ret
      exact ⟨by rw [HS.out]; rfl, below_drewC (Below.refl _ w) k⟩
end Go.Proofs.Ytiaafhcfeeekeaa.Pk

/- How many wait, of a state's objects. -/
namespace Go.Proofs.Ytiaafhcfeeekeaa.Pk
open Go.RowKit
set_option linter.unusedVariables false
theorem InR.inK {w : World} {s : Sl} {l : List Ce} (h : InR ceR w s l) (hi : ∀ x ∈ l, x.I) : InK w l s.A s.n s.c :=
  ⟨h.rd, h.cap, by have : s.n * 32 ≤ 140737488351232 := h.few; omega, hi⟩
theorem sumK_app (a b : List Ow) : sumK (a ++ b) = sumK a + sumK b := by
  induction a with
  | nil => simp [sumK]
  | cons o a ih => simp only [List.cons_append, sumK, ih]; omega
def owA (l : List OwL) (i : Nat) : OwL := l.getD i default
theorem owA_get {l : List OwL} {i : Nat} (h : i < l.length) : l[i]? = some (owA l i) := by
  unfold owA
  rw [List.getD_eq_getElem?_getD, List.getElem?_eq_getElem h]; rfl
theorem sumK_take {l : List OwL} {i : Nat} (h : i < l.length) : sumK ((l.take (i + 1)).map (·.v)) = sumK ((l.take i).map (·.v)) + openK (owA l i).v.c := by
  rw [List.take_add_one, owA_get h, List.map_append, sumK_app]
  simp [sumK]
theorem wrap_on (a b : Int) : wrap64 (wrap64 a + b) = wrap64 (a + b) := by unfold wrap64; omega
def openW (l : List Ow) : Int := wrap64 (sumK l : Int)
end Go.Proofs.Ytiaafhcfeeekeaa.Pk

/- What lies in memory while a state is copied. -/
namespace Go.Proofs.Ytiaafhcfeeekeaa.Pk
open Go.RowKit
set_option linter.unusedVariables false
theorem size_drew (w : World) : w.drew.heap.size = w.heap.size := rfl
theorem Blk.set {w : World} {g : Nat} {T : TypeId} {cs : Array Value} (h : Blk w g T cs) (j : Nat) (v : Value) : Blk (w.setCell ⟨g, j, none⟩ v) g T (cs.setIfInBounds j v) := by
  unfold Blk at h ⊢
  simp [World.setCell, Array.getElem?_modify, h]
/-- What the first statement of Copy leaves. -/
structure CopyI (W1 : World) (me q : Int) (as_ : List Ak) (gs : List Fnd) (x : Nat) (v15 v19 : Value) (W : World) : Prop where
  box : Blk W x 28 #[.int .i64 me, .slice none 0 0, .slice none 0 0, .int .i64 q, v15, v19]
  a : akR.Own W W1.heap.size v15 as_
  g : fdR.Own W W1.heap.size v19 gs
  bel : Below W1.heap.size W1 W
  ge : W1.heap.size ≤ x
  na : ownB v15 ≠ some x
  ng : ownB v19 ≠ some x
  ap : Apart [v15, v19]
theorem apart_two {v u : Value} {m : Nat} (h1 : ∀ g, ownB v = some g → g < m) (h2 : ∀ g, ownB u = some g → m ≤ g) : Apart [v, u] :=
  Apart.app (m := m) (Apart.one v) (Apart.one u) (fun x hx g hg => by rw [List.mem_singleton.1 hx] at hg; exact h1 g hg) (fun x hx g hg => by rw [List.mem_singleton.1 hx] at hg; exact h2 g hg)
theorem OwnO.stay {w w' : World} {B : Nat} {v : Value} {l : List OwL} (h : OwnO w B v l) (hk : ∀ g, B ≤ g → g < w.heap.size → w'.heap[g]? = w.heap[g]?) : OwnO w' B v l :=
  ⟨h.row.stay fun g e => hk g (h.row.base g e) (h.row.lt g e), fun x hx => (h.each x hx).stay fun g e => hk g ((h.each x hx).base g e) ((h.each x hx).lt g e), h.apart⟩
theorem OwnE.stay {w w' : World} {B : Nat} {v : Value} {l : List SdL} (h : OwnE w B v l) (hk : ∀ g, B ≤ g → g < w.heap.size → w'.heap[g]? = w.heap[g]?) : OwnE w' B v l :=
  ⟨h.row.stay fun g e => hk g (h.row.base g e) (h.row.lt g e), fun x hx => (h.each x hx).stay fun g e => hk g ((h.each x hx).base g e) ((h.each x hx).lt g e), h.apart⟩
theorem OwnO.stay_ {w w' : World} {B : Nat} {v : Value} {l : List OwL} (h : OwnO w B v l) (hk : ∀ g, ∀ u ∈ v :: owS l, ownB u = some g → w'.heap[g]? = w.heap[g]?) : OwnO w' B v l :=
  ⟨h.row.stay fun g e => hk g _ List.mem_cons_self e, fun x hx => (h.each x hx).stay fun g e => hk g _ (List.mem_cons_of_mem _ (List.mem_map.2 ⟨x, hx, rfl⟩)) e, h.apart⟩
theorem setc_other (W : World) (x j : Nat) (u : Value) (i : Nat) (h : i ≠ x) : (W.setCell ⟨x, j, none⟩ u).heap[i]? = W.heap[i]? := Below.heap_setCell W ⟨x, j, none⟩ u i (fun e => h e)
theorem setc_size (W : World) (x j : Nat) (u : Value) : (W.setCell ⟨x, j, none⟩ u).heap.size = W.heap.size := by simp [World.setCell]
/-- What lies there between the rounds over the objects. -/
structure CopyJ (W1 : World) (me q : Int) (as_ : List Ak) (gs : List Fnd) (x B2 : Nat) (v15 v19 ve vo : Value) (lo : List OwL) (W : World) : Prop where
  box : Blk W x 28 #[.int .i64 me, vo, ve, .int .i64 q, v15, v19]
  a : akR.Own W W1.heap.size v15 as_
  g : fdR.Own W W1.heap.size v19 gs
  bel : Below W1.heap.size W1 W
  ge : W1.heap.size ≤ x
  lt : x < B2
  up : Under B2 [v15, v19]
  na : ownB v15 ≠ some x
  ng : ownB v19 ≠ some x
  ap : Apart [v15, v19]
  sz : B2 ≤ W.heap.size
  o : OwnO W B2 vo lo
theorem CopyI.j {W1 W : World} {me q : Int} {as_ : List Ak} {gs : List Fnd} {x : Nat} {v15 v19 : Value} (h : CopyI W1 me q as_ gs x v15 v19 W) : CopyJ W1 me q as_ gs x W.heap.size v15 v19 (.slice none 0 0) (.slice none 0 0) [] W :=
  ⟨h.box, h.a, h.g, h.bel, h.ge, h.box.lt, fun v hv g hg => by
    rcases List.mem_cons.1 hv with rfl | hv
    · exact h.a.lt g hg
    · rw [List.mem_singleton.1 hv] at hg; exact h.g.lt g hg, h.na, h.ng, h.ap, Nat.le_refl _, OwnO.none_ _ _⟩
theorem CopyJ.push {W1 W V V' : World} {me q : Int} {as_ : List Ak} {gs : List Fnd} {x B2 : Nat} {v15 v19 ve vo v' : Value} {lo : List OwL} {y : OwL} (h : CopyJ W1 me q as_ gs x B2 v15 v19 ve vo lo W) (hb : Below W.heap.size W V)
    (hy : ceR.Own V W.heap.size y.s.val y.v.c) (hrow : owR.Own V' B2 v' (lo ++ [y])) (hg : V.grownBy V' (ownB vo)) (hat : LiesB V vo v') : CopyJ W1 me q as_ gs x B2 v15 v19 ve v' (lo ++ [y]) (V'.setCell ⟨x, 1, none⟩ v') := by
  have hs := hb.size
  have hs2 := hg.size
  have hsz := h.sz
  have hge := h.ge
  have hlt := h.lt
  have old : ∀ i, i < B2 → V'.heap[i]? = W.heap[i]? := fun i hi => (hg.block i (by omega) (fun e => by have := h.o.row.base i e.symm; omega)).trans (hb.block i (by omega))
  have u15 : ∀ g, ownB v15 = some g → g < B2 := fun g e => h.up _ List.mem_cons_self g e
  have u19 : ∀ g, ownB v19 = some g → g < B2 := fun g e => h.up _ (List.mem_cons_of_mem _ List.mem_cons_self) g e
  have ho := h.o.push h.sz hb hy hrow hg hat
  refine ⟨Blk.set (cs := #[.int .i64 me, vo, ve, .int .i64 q, v15, v19]) ((old x h.lt).trans h.box) 1 v', h.a.stay fun g e => (setc_other _ _ _ _ _ (fun e2 => h.na (by rw [e, e2]))).trans (old g (u15 g e)), h.g.stay fun g e => (setc_other _ _ _ _ _ (fun e2 => h.ng (by rw [e, e2]))).trans (old g (u19 g e)), ?_, h.ge, h.lt, h.up, h.na, h.ng, h.ap, by rw [setc_size]; omega, ho.stay fun g hg1 _ => setc_other _ _ _ _ _ (by omega)⟩
  have b1 : Below W1.heap.size W1 V := h.bel.trans (hb.mono (by omega))
  exact (b1.grown hg (by omega) (fun k e => by have := h.o.row.base k e; omega)).setCell (p := ⟨x, 1, none⟩) h.ge _
theorem CopyJ.below {W1 W W' : World} {me q : Int} {as_ : List Ak} {gs : List Fnd} {x B2 : Nat} {v15 v19 ve vo : Value} {lo : List OwL} (h : CopyJ W1 me q as_ gs x B2 v15 v19 ve vo lo W) (hb : Below W.heap.size W W') : CopyJ W1 me q as_ gs x B2 v15 v19 ve vo lo W' :=
  ⟨h.box.below hb h.box.lt, h.a.below hb, h.g.below hb, h.bel.trans (hb.mono h.bel.size), h.ge, h.lt, h.up, h.na, h.ng, h.ap, Nat.le_trans h.sz hb.size, h.o.below hb⟩
/-- What lies there between the rounds over the sides. -/
structure CopyK (W1 : World) (me q : Int) (as_ : List Ak) (gs : List Fnd) (x B2 B3 : Nat) (v15 v19 vo : Value) (lo : List OwL) (ve : Value) (le : List SdL) (W : World) : Prop where
  j : CopyJ W1 me q as_ gs x B2 v15 v19 ve vo lo W
  l23 : B2 ≤ B3
  sz : B3 ≤ W.heap.size
  uo : Under B3 (vo :: owS lo)
  e : OwnE W B3 ve le
theorem CopyJ.k {W1 W : World} {me q : Int} {as_ : List Ak} {gs : List Fnd} {x B2 : Nat} {v15 v19 vo : Value} {lo : List OwL} (h : CopyJ W1 me q as_ gs x B2 v15 v19 (.slice none 0 0) vo lo W) : CopyK W1 me q as_ gs x B2 W.heap.size v15 v19 vo lo (.slice none 0 0) [] W :=
  ⟨h, h.sz, Nat.le_refl _, h.o.under, OwnE.none_ _ _⟩
theorem CopyK.push {W1 W V V' : World} {me q : Int} {as_ : List Ak} {gs : List Fnd} {x B2 B3 : Nat} {v15 v19 vo ve v' : Value} {lo : List OwL} {le : List SdL} {y : SdL} (h : CopyK W1 me q as_ gs x B2 B3 v15 v19 vo lo ve le W) (hb : Below W.heap.size W V)
    (hy : mgR.Own V W.heap.size y.s.val y.v.o) (hrow : sdR.Own V' B3 v' (le ++ [y])) (hg : V.grownBy V' (ownB ve)) (hat : LiesB V ve v') : CopyK W1 me q as_ gs x B2 B3 v15 v19 vo lo v' (le ++ [y]) (V'.setCell ⟨x, 2, none⟩ v') := by
  have hs := hb.size
  have hs2 := hg.size
  have hsz := h.sz
  have hge := h.j.ge
  have hlt := h.j.lt
  have hle := h.l23
  have old : ∀ i, i < B3 → V'.heap[i]? = W.heap[i]? := fun i hi => (hg.block i (by omega) (fun e => by have := h.e.row.base i e.symm; omega)).trans (hb.block i (by omega))
  have u15 : ∀ g, ownB v15 = some g → g < B2 := fun g e => h.j.up _ List.mem_cons_self g e
  have u19 : ∀ g, ownB v19 = some g → g < B2 := fun g e => h.j.up _ (List.mem_cons_of_mem _ List.mem_cons_self) g e
  have he := h.e.push h.sz hb hy hrow hg hat
  refine ⟨⟨Blk.set (cs := #[.int .i64 me, vo, ve, .int .i64 q, v15, v19]) ((old x (by omega)).trans h.j.box) 2 v', h.j.a.stay fun g e => (setc_other _ _ _ _ _ (fun e2 => h.j.na (by rw [e, e2]))).trans (old g (by have := u15 g e; omega)), h.j.g.stay fun g e => (setc_other _ _ _ _ _ (fun e2 => h.j.ng (by rw [e, e2]))).trans (old g (by have := u19 g e; omega)), ?_, h.j.ge, h.j.lt, h.j.up, h.j.na, h.j.ng, h.j.ap, by rw [setc_size]; omega, ?_⟩, h.l23, by rw [setc_size]; omega, h.uo, he.stay fun g hg1 _ => setc_other _ _ _ _ _ (by omega)⟩
  · have b1 : Below W1.heap.size W1 V := h.j.bel.trans (hb.mono (by have := h.j.bel.size; omega))
    exact (b1.grown hg (by have := b1.size; omega) (fun k e => by have := h.e.row.base k e; omega)).setCell (p := ⟨x, 2, none⟩) h.j.ge _
  · refine h.j.o.stay_ fun g u hu e => ?_
    have h1 := h.uo u hu g e
    have h2 : B2 ≤ g := h.j.o.over u hu g e
    exact (setc_other _ _ _ _ _ (by omega)).trans (old g h1)
def sdA (l : List SdL) (i : Nat) : SdL := l.getD i default
theorem sdA_get {l : List SdL} {i : Nat} (h : i < l.length) : l[i]? = some (sdA l i) := by
  unfold sdA
  rw [List.getD_eq_getElem?_getD, List.getElem?_eq_getElem h]; rfl
/-- The copy that is left. -/
theorem CopyK.own {W1 W w : World} {me q : Int} {as_ : List Ak} {gs : List Fnd} {x B2 B3 : Nat} {A15 A19 Ao Ae : Option Addr} {n15 c15 n19 c19 no co ne ce : Nat} {lo : List OwL} {le : List SdL} (h : CopyK W1 me q as_ gs x B2 B3 (.slice A15 n15 c15) (.slice A19 n19 c19) (.slice Ao no co) lo (.slice Ae ne ce) le W) (hw : w.heap.size ≤ W1.heap.size) :
    OwnS W w.heap.size ⟨me, lo, ⟨Ao, no, co⟩, le, ⟨Ae, ne, ce⟩, q, as_, ⟨A15, n15, c15⟩, gs, ⟨A19, n19, c19⟩⟩ := by
  have h1 := h.j.bel.size
  have h2 := h.l23
  have h3 := h.j.lt
  have h4 := h.j.ge
  refine ⟨h.j.o.low (by omega), h.e.low (by omega), h.j.a.low hw, h.j.g.low hw, ?_⟩
  have a1 : Apart ([Sl.val ⟨A15, n15, c15⟩, Sl.val ⟨A19, n19, c19⟩] ++ (Sl.val ⟨Ao, no, co⟩ :: owS lo)) := Apart.app (m := B2) h.j.ap h.j.o.apart h.j.up h.j.o.over
  have a2 : Apart (([Sl.val ⟨A15, n15, c15⟩, Sl.val ⟨A19, n19, c19⟩] ++ (Sl.val ⟨Ao, no, co⟩ :: owS lo)) ++ (Sl.val ⟨Ae, ne, ce⟩ :: sdS le)) := Apart.app (m := B3) a1 h.e.apart ((h.j.up.mono h.l23).app h.uo) h.e.over
  refine a2.perm ?_
  rw [List.append_assoc]
  refine List.perm_append_comm.trans ?_
  rw [List.append_assoc]
theorem OwnS.stay {w w' : World} {B : Nat} {s : StL} (h : OwnS w B s) (hk : ∀ g, B ≤ g → g < w.heap.size → w'.heap[g]? = w.heap[g]?) : OwnS w' B s :=
  ⟨h.os.stay hk, h.es.stay hk, h.as_.stay fun g e => hk g (h.as_.base g e) (h.as_.lt g e), h.gs.stay fun g e => hk g (h.gs.base g e) (h.gs.lt g e), h.apart⟩
/-- Six cells of a block are written. -/
theorem set6 {w : World} {g : Nat} {T : TypeId} {u0 u1 u2 u3 u4 u5 : Value} (h : Blk w g T #[u0, u1, u2, u3, u4, u5]) (v0 v1 v2 v3 v4 v5 : Value) :
    ∃ V, V = ((((((w.setCell ⟨g, 0, none⟩ v0).setCell ⟨g, 1, none⟩ v1).setCell ⟨g, 2, none⟩ v2).setCell ⟨g, 3, none⟩ v3).setCell ⟨g, 4, none⟩ v4).setCell ⟨g, 5, none⟩ v5) ∧ Blk V g T #[v0, v1, v2, v3, v4, v5] ∧ (∀ B a, B ≤ g → Below B a w → Below B a V) ∧ ∀ i, i ≠ g → V.heap[i]? = w.heap[i]? :=
  ⟨_, rfl, (((((h.set 0 _).set 1 _).set 2 _).set 3 _).set 4 _).set 5 _,
    fun B a hB b => (((((b.setCell (p := ⟨g, 0, none⟩) hB _).setCell (p := ⟨g, 1, none⟩) hB _).setCell (p := ⟨g, 2, none⟩) hB _).setCell (p := ⟨g, 3, none⟩) hB _).setCell (p := ⟨g, 4, none⟩) hB _).setCell (p := ⟨g, 5, none⟩) hB _,
    fun i hi => by rw [setc_other _ _ _ _ _ hi, setc_other _ _ _ _ _ hi, setc_other _ _ _ _ _ hi, setc_other _ _ _ _ _ hi, setc_other _ _ _ _ _ hi, setc_other _ _ _ _ _ hi]⟩
end Go.Proofs.Ytiaafhcfeeekeaa.Pk

/- Package tree: slices.Index, fits and Check by the list of parents. -/
namespace Go.Proofs.Ytiaafhcfeeekeaa.Pk
open Go.RowKit Go.Proofs.Ytiaafhcfeeekeaa.Gr
set_option linter.unusedVariables false

/-- The first place of a number; -1: none. -/
def IdxIs (ps : List Int) (x i : Int) : Prop := (∃ u, u < ps.length ∧ i = (u : Int) ∧ pa ps u = x ∧ ∀ u', u' < u → pa ps u' ≠ x) ∨ (i = -1 ∧ ∀ u, u < ps.length → pa ps u ≠ x)
set_option maxHeartbeats 1000000 in
theorem idx_any (A : Option Addr) (n c : Nat) (ps : List Int) (x : Int) (w : World) (B : Nat) (hr : Reads w B 1 A n (nms ps)) (hbig : n ≤ 4611686018427387904) :
    Calls Try.prog 55 #[.slice A n c, .int .i64 x] w fun e w' => ∃ i, e = .returned (.int .i64 i) ∧ IdxIs ps x i ∧ w' = w := by
  have HL := Lib.hid hr.plen
  have HR := Lib.hid hr
  clear hr
  go_enter Try.func55, Try.ntmps55
  go_wp2
  go_loop [8] (fun y => ∃ v : Nat, y = .int .i64 v ∧ v ≤ n ∧ ∀ u, u < v → pa ps u ≠ x) (fun y => n - (intOf y).toNat)
  case atStart => exact ⟨0, rfl, by omega, fun u hu => by omega⟩
  case round =>
    obtain ⟨v, rfl, hv, hno⟩ := hrel
    have HN := Lib.hid hno
    clear hno
    by_cases hlt : v < n
    · obtain ⟨b, off, rfl, hbb, hc⟩ := HR.out.pa (by omega)
      have cv := hc v hlt
      clear hc
      obtain ⟨p, hp⟩ : ∃ p, p = pa ps v := ⟨_, rfl⟩
      have HP := Lib.hid hp
      rw [← hp] at cv
      clear hp
      by_cases h1 : x = p
      · have HF : Hid (IdxIs ps x (v : Int)) := Lib.hid (.inl ⟨v, by rw [HL.out]; exact hlt, rfl, by rw [← HP.out]; exact h1.symm, HN.out⟩)
        have t1 : (x == p) = true := by simp [h1]
        clear h1
        go_wp2
        go_ret
        exact ⟨_, rfl, HF.out, rfl⟩
      · have HS : Hid (∀ u, u < v + 1 → pa ps u ≠ x) := Lib.hid (fun u hu => by
          rcases Nat.lt_or_ge u v with h | h
          · exact HN.out u h
          · have : u = v := by omega
            subst this
            rw [← HP.out]; exact fun e => h1 e.symm)
        have t1 : (x == p) = false := by simp [h1]
        clear h1
        go_wp2
        go_round
        case rel => exact ⟨v + 1, by go_num, by omega, HS.out⟩
        case measure => simp [intOf]; omega
    · have HF : Hid (IdxIs ps x (-1)) := Lib.hid (.inr ⟨rfl, fun u hu => HN.out u (by rw [HL.out] at hu; omega)⟩)
      go_wp2
      go_ret
      exact ⟨_, rfl, HF.out, rfl⟩

theorem idx_first {ps : List Int} {v : Nat} {i : Int} (h : IdxIs ps (-1) i) (hv : v < ps.length) (hp : pa ps v = -1) : i = (v : Int) ↔ ¬ ∃ u, u < v ∧ pa ps u = -1 := by
  rcases h with ⟨u, hu, rfl, h1, h2⟩ | ⟨rfl, h2⟩
  · constructor
    · rintro e ⟨x, hx, hx2⟩
      have : u = v := by omega
      subst this
      exact h2 x hx hx2
    · intro hno
      rcases Nat.lt_trichotomy u v with h3 | h3 | h3
      · exact absurd ⟨u, h3, h1⟩ hno
      · rw [h3]
      · exact absurd hp (h2 v h3)
  · exact absurd hp (h2 v hv)
theorem fault_root {ps : List Int} {v : Nat} {i : Int} (h : IdxIs ps (-1) i) (hv : v < ps.length) (hp : pa ps v = -1) : i = (v : Int) ↔ ¬ faultA ps v := by
  rw [idx_first h hv hp]
  unfold faultA
  constructor
  · rintro h1 (h2 | h2 | h2 | ⟨_, h2⟩)
    · omega
    · omega
    · omega
    · exact h1 h2
  · intro h1 h2
    exact h1 (.inr (.inr (.inr ⟨hp, h2⟩)))
theorem fault_else {ps : List Int} {v : Nat} (hp : pa ps v ≠ -1) : ¬ faultA ps v ↔ 0 ≤ pa ps v ∧ pa ps v < (ps.length : Int) ∧ pa ps v ≠ (v : Int) := by
  unfold faultA
  constructor
  · intro h
    refine ⟨?_, ?_, fun e => h (.inr (.inr (.inl e)))⟩
    · rcases Int.lt_or_le (pa ps v) 0 with h1 | h1
      · exact absurd (.inl (by omega)) h
      · exact h1
    · rcases Int.lt_or_le (pa ps v) (ps.length : Int) with h1 | h1
      · exact h1
      · exact absurd (.inr (.inl h1)) h
  · rintro ⟨h1, h2, h3⟩ (h | h | h | ⟨h, _⟩)
    · omega
    · omega
    · exact h3 h
    · exact hp h

/-- What fits leaves. -/
def FitsR (ps : List Int) (v : Nat) (w : World) (e : Ending) (w' : World) : Prop := ∃ ok, e = .returned (.bool ok) ∧ (ok = true ↔ ¬ faultA ps v) ∧ w' = w
set_option maxHeartbeats 1000000 in
theorem fits_any (A : Option Addr) (n c : Nat) (ps : List Int) (v : Nat) (w : World) (B : Nat) (hr : Reads w B 1 A n (nms ps)) (hv : v < n) (hn : n ≤ 32) :
    Calls Try.prog 35 #[.slice A n c, .int .i64 (v : Int)] w (FitsR ps v w) := by
  have HL := Lib.hid hr.plen
  have HR := Lib.hid hr
  obtain ⟨b, off, rfl, hbb, hc⟩ := hr.pa (by omega)
  have cv := hc v hv
  clear hr hc
  obtain ⟨p, hp⟩ : ∃ p, p = pa ps v := ⟨_, rfl⟩
  have HP := Lib.hid hp
  rw [← hp] at cv
  clear hp
  go_enter Try.func35, Try.ntmps35
  by_cases h1 : p = -1
  · subst h1
    have HI := Lib.hid (fun (W : World) (h : Reads W B 1 (some ⟨b, off, none⟩) n (nms ps)) => idx_any (some ⟨b, off, none⟩) n c ps (-1) W B h (by omega))
    go_wp2_with fail
    refine (HI.out _ HR.out).mono ?_
    rintro e w1 ⟨i, rfl, hi, rfl⟩
    have HF := Lib.hid (fault_root hi (by rw [HL.out]; exact hv) HP.out.symm)
    by_cases h2 : i = (v : Int)
    · have t1 : (i == (v : Int)) = true := by simp [h2]
      have HG : Hid (¬ faultA ps v) := Lib.hid (HF.out.1 h2)
      clear h2 hi
      go_wp2
      go_ret
      exact ⟨_, rfl, ⟨fun _ => HG.out, fun _ => rfl⟩, rfl⟩
    · have t1 : (i == (v : Int)) = false := by simp [h2]
      have HG : Hid (¬ ¬ faultA ps v) := Lib.hid (fun h => h2 (HF.out.2 h))
      clear h2 hi
      go_wp2
      go_ret
      exact ⟨_, rfl, ⟨fun h => (by cases h), fun h => absurd h HG.out⟩, rfl⟩
  · have HF := Lib.hid (fault_else (ps := ps) (v := v) (by rw [← HP.out]; exact h1))
    have t1 : (p == -1) = false := by simp [h1]
    rw [← HP.out, HL.out] at HF
    by_cases h2 : p < 0
    · have HG : Hid (¬ ¬ faultA ps v) := Lib.hid (fun h => by have := (HF.out.1 h).1; omega)
      clear h1
      go_wp2
      go_ret
      exact ⟨_, rfl, ⟨fun h => (by cases h), fun h => absurd h HG.out⟩, rfl⟩
    · by_cases h3 : (n : Int) ≤ p
      · have HG : Hid (¬ ¬ faultA ps v) := Lib.hid (fun h => by have := (HF.out.1 h).2.1; omega)
        have h2' : 0 ≤ p := by omega
        clear h1 h2
        go_wp2
        go_ret
        exact ⟨_, rfl, ⟨fun h => (by cases h), fun h => absurd h HG.out⟩, rfl⟩
      · have h2' : 0 ≤ p := by omega
        have h3' : p < (n : Int) := by omega
        by_cases h4 : p = (v : Int)
        · have HG : Hid (¬ ¬ faultA ps v) := Lib.hid (fun h => (HF.out.1 h).2.2 h4)
          have t4 : (p != (v : Int)) = false := by simp [h4]
          clear h1 h2 h3 h4
          go_wp2
          go_ret
          exact ⟨_, rfl, ⟨fun h => (by cases h), fun h => absurd h HG.out⟩, rfl⟩
        · have HG : Hid (¬ faultA ps v) := Lib.hid (HF.out.2 ⟨h2', h3', h4⟩)
          have t4 : (p != (v : Int)) = true := by simp [h4]
          clear h1 h2 h3 h4
          go_wp2
          go_ret
          exact ⟨_, rfl, ⟨fun _ => HG.out, fun _ => rfl⟩, rfl⟩
end Go.Proofs.Ytiaafhcfeeekeaa.Pk

/- Package tree: Check by the list of parents. -/
namespace Go.Proofs.Ytiaafhcfeeekeaa.Pk
open Go.RowKit Go.Proofs.Ytiaafhcfeeekeaa.Gr
set_option linter.unusedVariables false

/-- What Check leaves. -/
def ChkR (ps : List Int) (w : World) (e : Ending) (w' : World) : Prop := ∃ p er, e = .returned (.tuple #[.int .i64 p, .int .i64 er]) ∧ ChkIs ps p er ∧ w' = w
set_option maxHeartbeats 4000000 in
theorem chk_any (A : Option Addr) (n c : Nat) (ps : List Int) (w : World) (B : Nat) (hr : Reads w B 1 A n (nms ps)) (hbig : n ≤ 4611686018427387904) :
    Calls Try.prog 20 #[.slice A n c] w (ChkR ps w) := by
  have HL := Lib.hid hr.plen
  have HR := Lib.hid hr
  clear hr
  go_enter Try.func20, Try.ntmps20
  go_wp2
  refine wp_scope_straight ?_
  by_cases h0 : n = 0
  · subst h0
    go_wp2
    try rw [Exit.noGoto_ret]
    go_ret2
    exact ⟨_, _, rfl, .inl ⟨HL.out, rfl, rfl⟩, rfl⟩
  · have hz : ((n : Int) == 0) = false := by simp; omega
    by_cases h32 : 32 < n
    · have h32' : (32 : Int) < (n : Int) := by omega
      go_wp2
      try rw [Exit.noGoto_ret]
      go_ret2
      exact ⟨_, _, rfl, .inr (.inl ⟨by rw [HL.out]; exact h32, rfl, rfl⟩), rfl⟩
    · have h32' : (n : Int) ≤ 32 := by omega
      have hn32 : n ≤ 32 := by omega
      obtain ⟨b, off, rfl, hbb, hc⟩ := HR.out.pa (by omega)
      have HC := Lib.hid hc
      clear hc
      go_wp2
      go_loop [17] (fun y => ∃ v : Nat, y = .int .i64 v ∧ v ≤ n ∧ ∀ u, u < v → ¬ faultA ps u) (fun y => n - (intOf y).toNat)
      case atStart => exact ⟨0, rfl, by omega, fun u hu => by omega⟩
      case round =>
        obtain ⟨v, rfl, hv, hno⟩ := hrel
        have HN := Lib.hid hno
        clear hno
        by_cases hlt : v < n
        · rcases Classical.em (faultA ps v) with hfa | hfa
          · have HF := Lib.hid ((fits_any (some ⟨b, off, none⟩) n c ps v w B HR.out hlt hn32).mono (R' := fun e w' => e = .returned (.bool false) ∧ w' = w) (fun e w' ⟨ok, h1, h2, h3⟩ => ⟨by rw [h1]; cases ok with
              | true => exact absurd hfa (h2.1 rfl)
              | false => rfl, h3⟩))
            have HFi : Hid (ChkIs ps (v : Int) 10) := Lib.hid (.inr (.inr ⟨⟨by rw [HL.out]; omega, by rw [HL.out]; omega⟩, .inl ⟨v, by rw [HL.out]; exact hlt, rfl, rfl, hfa, HN.out⟩⟩))
            clear hfa
            go_wp2_with (go_at_call 35; go_must (refine HF.out.mono ?_); rintro e w1 ⟨rfl, rfl⟩)
            try rw [Exit.noGoto_ret]
            go_ret2
            exact ⟨_, _, rfl, HFi.out, rfl⟩
          · have HF := Lib.hid ((fits_any (some ⟨b, off, none⟩) n c ps v w B HR.out hlt hn32).mono (R' := fun e w' => e = .returned (.bool true) ∧ w' = w) (fun e w' ⟨ok, h1, h2, h3⟩ => ⟨by rw [h1, h2.2 hfa], h3⟩))
            have HS : Hid (∀ u, u < v + 1 → ¬ faultA ps u) := Lib.hid (fun u hu => by
              rcases Nat.lt_or_ge u v with h | h
              · exact HN.out u h
              · have : u = v := by omega
                subst this
                exact hfa)
            clear hfa
            go_wp2_with (go_at_call 35; go_must (refine HF.out.mono ?_); rintro e w1 ⟨rfl, rfl⟩)
            go_round
            case rel => exact ⟨v + 1, by go_num, by omega, HS.out⟩
            case measure => simp [intOf]; omega
        · have HNo : Hid (∀ u, u < n → ¬ faultA ps u) := Lib.hid (fun u hu => HN.out u (by omega))
          clear HN
          have HG : Hid (∀ v, v < n → ∀ k, -1 ≤ climb ps k (v : Int) ∧ climb ps k (v : Int) < (n : Int)) := Lib.hid (fun v hv k => by
            have hl := HL.out
            have := climb_rng (rng_of (fun u hu => HNo.out u (by omega))) v (by omega) k
            rw [hl] at this; exact this)
          go_wp2
          refine wp_label ?_
          go_wp2
          go_loop [28] (fun x => ∃ v : Nat, x = .int .i64 v ∧ v ≤ n ∧ ∀ u, u < v → climb ps n (u : Int) = -1) (fun x => n - (intOf x).toNat)
          case atStart => exact ⟨0, rfl, by omega, fun u hu => by omega⟩
          case round =>
            obtain ⟨v, rfl, hv, hall⟩ := hrel
            have HA := Lib.hid hall
            clear hall
            by_cases hlt : v < n
            · go_wp2
              go_loop [6, 34] (fun x y => ∃ (k m : Nat), x = .int .i64 m ∧ (m : Int) = climb ps k (v : Int) ∧ m < n ∧ y = .int .i64 k ∧ k ≤ n) (fun _ y => n - (intOf y).toNat)
              case atStart => exact ⟨0, v, rfl, rfl, hlt, rfl, by omega⟩
              case round =>
                obtain ⟨k, m, rfl, hm, hmn, rfl, hk⟩ := hrel
                have HM := Lib.hid hm
                clear hm
                have HST : Hid (climb ps (k + 1) (v : Int) = pa ps m) := Lib.hid (by
                  rw [climb_step ps k 0, if_neg (by rw [← HM.out]; omega), ← HM.out]; rfl)
                have cm := HC.out m hmn
                obtain ⟨x, hx⟩ : ∃ x, x = pa ps m := ⟨_, rfl⟩
                rw [← hx] at cm
                have HXE := Lib.hid hx
                clear hx
                by_cases hkn : k < n
                · by_cases hx1 : x = -1
                  · have HN : Hid (∀ u, u < v + 1 → climb ps n (u : Int) = -1) := Lib.hid (fun u hu => by
                      rcases Nat.lt_or_ge u v with h | h
                      · exact HA.out u h
                      · have : u = v := by omega
                        subst this
                        exact climb_more (k + 1) n _ (by rw [HST.out, ← HXE.out]; exact hx1) (by omega))
                    have HB := Lib.hid hlt
                    subst hx1
                    go_wp2
                    go_round
                    case rel => exact ⟨v + 1, by go_num, by have := HB.out; omega, HN.out⟩
                    case measure => have := HB.out; simp [intOf]; omega
                  · have hcl : -1 ≤ x ∧ x < (n : Int) := by
                      have := HG.out v hlt (k + 1)
                      rw [HST.out, ← HXE.out] at this; exact this
                    have t1 : (x == -1) = false := by simp [hx1]
                    obtain ⟨q, rfl⟩ : ∃ q : Nat, x = (q : Int) := ⟨x.toNat, by omega⟩
                    have hq : q < n := by omega
                    have HN : Hid ((q : Int) = climb ps (k + 1) (v : Int)) := Lib.hid (by rw [HST.out]; exact HXE.out)
                    clear hx1 hcl
                    go_wp2
                    go_round
                    case rel => exact ⟨k + 1, q, rfl, HN.out, hq, by go_num, by omega⟩
                    case measure => simp [intOf]; omega
                · have HF : Hid (ChkIs ps (v : Int) 10) := Lib.hid (.inr (.inr ⟨⟨by rw [HL.out]; omega, by rw [HL.out]; omega⟩, .inr ⟨fun u hu => HNo.out u (by rw [← HL.out]; exact hu), .inl ⟨v, by rw [HL.out]; exact hlt, rfl, rfl, by
                    have : k = n := by omega
                    rw [HL.out, ← this, ← HM.out]; omega, fun u hu => by rw [HL.out]; exact HA.out u hu⟩⟩⟩))
                  clear cm
                  go_wp2
                  try rw [Exit.noGoto_ret]
                  go_ret2
                  exact ⟨_, _, rfl, HF.out, rfl⟩
            · have HF : Hid (ChkIs ps 0 0) := Lib.hid (.inr (.inr ⟨⟨by rw [HL.out]; omega, by rw [HL.out]; omega⟩, .inr ⟨fun u hu => HNo.out u (by rw [← HL.out]; exact hu), .inr ⟨fun u hu => by rw [HL.out]; exact HA.out u (by rw [HL.out] at hu; omega), rfl, rfl⟩⟩⟩))
              go_wp2
              try rw [Exit.noGoto_ret]
              go_ret2
              exact ⟨_, _, rfl, HF.out, rfl⟩
end Go.Proofs.Ytiaafhcfeeekeaa.Pk
