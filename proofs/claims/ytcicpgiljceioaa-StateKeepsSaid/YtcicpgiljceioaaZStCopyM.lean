/- The document's answers (fletchref14): Open. -/
import Derived.Test.YtcicpgiljceioaaZCeOwn
import Derived.Test.YtcicpgiljceioaaZChRefA
import Derived.Test.YtcicpgiljceioaaZChFacts
namespace Go.Proofs.Ytcicpgiljceioaa.Pk
open Go.RowKit
set_option linter.unusedVariables false
theorem InR.inK {w : World} {s : Sl} {l : List Ce} (h : InR ceR w s l) (hi : ∀ x ∈ l, x.I) : InK w l s.A s.n s.c :=
  ⟨h.rd, h.cap, by have : s.n * 32 ≤ 140737488351232 := h.few; omega, hi⟩
theorem sumK_app (a b : List Ow) : sumK (a ++ b) = sumK a + sumK b := by
  induction a with
  | nil => simp [sumK]
  | cons o a ih => simp only [List.cons_append, sumK, ih]; omega
def owA (l : List OwL) (i : Nat) : OwL := l.getD i default
theorem owA_get {l : List OwL} {i : Nat} (h : i < l.length) : l[i]? = some (owA l i) := by
  unfold owA
  rw [List.getD_eq_getElem?_getD, List.getElem?_eq_getElem h]; rfl
theorem sumK_take {l : List OwL} {i : Nat} (h : i < l.length) : sumK ((l.take (i + 1)).map (·.v)) = sumK ((l.take i).map (·.v)) + openK (owA l i).v.c := by
  rw [List.take_add_one, owA_get h, List.map_append, sumK_app]
  simp [sumK]
theorem wrap_on (a b : Int) : wrap64 (wrap64 a + b) = wrap64 (a + b) := by unfold wrap64; omega
def openW (l : List Ow) : Int := wrap64 (sumK l : Int)
set_option maxRecDepth 100000 in
set_option maxHeartbeats 4000000 in
theorem refopens_any (s : StL) (w : World) (hin : InS w s) :
    Calls Try.prog 18 #[s.val] w fun e w' => e = .returned (.int .i64 (openW s.v.os)) ∧ Below w.heap.size w w' := by
  have HI := Lib.hid hin
  have HL := Lib.hid hin.os.len
  have hn : s.so.n * 40 ≤ 140737488351232 := hin.os.few
  obtain ⟨me, os, ⟨A, n, c⟩, es, se, q, as_, sa, gs, sg⟩ := s
  simp only at hn HL
  clear hin
  obtain ⟨ve, hve⟩ : ∃ v, v = se.val := ⟨_, rfl⟩
  obtain ⟨va, hva⟩ : ∃ v, v = sa.val := ⟨_, rfl⟩
  obtain ⟨vg, hvg⟩ : ∃ v, v = sg.val := ⟨_, rfl⟩
  show Calls Try.prog 18 #[.agg #[.int .i64 me, .slice A n c, se.val, .int .i64 q, sa.val, sg.val]] w fun e w' => e = .returned (.int .i64 (openW (os.map (·.v)))) ∧ Below w.heap.size w w'
  rw [← hve, ← hva, ← hvg]
  clear hve hva hvg
  have HB0 : Hid (Below w.heap.size w (w.alloc (.cells #[.int .i64 me, .slice A n c, ve, .int .i64 q, va, vg] 30))) := Lib.hid ((Below.refl _ _).alloc (Nat.le_refl _) _)
  go_enter Try.func18, Try.ntmps18
  go_wp2
  go_loopw [3, 9] (fun x j wr => ∃ i : Nat, j = .int .i64 i ∧ i ≤ n ∧ x = .int .i64 (wrap64 (sumK ((os.take i).map (·.v)) : Int)) ∧ Below w.heap.size w wr) (fun _ j _ => n - (intOf j).toNat)
  case atStart => exact ⟨0, rfl, by omega, by simp [sumK, wrap64], HB0.out⟩
  case round =>
    obtain ⟨i, rfl, hi, rfl, hb⟩ := hrel
    obtain ⟨w1, rfl⟩ : ∃ w1 : World, w1 = wr := ⟨_, rfl⟩
    have HB := Lib.hid hb
    clear hb HB0
    by_cases hlt : i < n
    · have hil : i < os.length := by rw [HL.out]; exact hlt
      obtain ⟨b, off, rfl, _, hc⟩ := owR.spots (HI.out.os.next HB.out).rd (show 0 < n by omega)
      have hg := owA_get hil
      have HOk := Lib.hid (HI.out.o _ (List.mem_of_getElem? hg))
      have HS := Lib.hid (sumK_take hil)
      obtain ⟨r, hr⟩ : ∃ r, r = owA os i := ⟨_, rfl⟩
      rw [← hr] at hg HOk HS
      have m0 := hc i r hg 0 _ rfl
      have m1 := hc i r hg 1 _ rfl
      have m2 := hc i r hg 2 _ rfl
      obtain ⟨⟨ra, rm, rc⟩, ⟨A1, n1, c1⟩⟩ := r
      simp only [owR, Nat.add_zero, Sl.val, ← Nat.add_assoc] at m0 m1 m2 HS
      have HB2 : Hid (Below w.heap.size w (w1.alloc (.cells #[.int .i64 ra, .int .i64 rm, .slice A1 n1 c1] 55))) := Lib.hid (HB.out.alloc HB.out.size _)
      have HK := Lib.hid (refopen_any A1 n1 c1 rc _ ((HOk.out.next HB2.out).c.inK HOk.out.i))
      obtain ⟨k, hk⟩ : ∃ k, k = openK rc := ⟨_, rfl⟩
      obtain ⟨t, ht⟩ : ∃ t : Int, t = (sumK ((os.take i).map (·.v)) : Int) := ⟨_, rfl⟩
      have HN : Hid (wrap64 (wrap64 t + (k : Int)) = wrap64 (sumK ((os.take (i + 1)).map (·.v)) : Int)) := Lib.hid (by rw [wrap_on, HS.out, ht, hk]; congr 1)
      rw [← hk] at HK
      rw [← ht]
      clear hc hr hg HOk HS hk ht
      go_wp2_with fail
      refine HK.out.mono ?_
      rintro e w2 ⟨rfl, hb⟩
      have HB3 := Lib.hid (HB2.out.trans (hb.mono HB2.out.size))
      clear hb
      go_wp2
      go_roundw
      case rel => exact ⟨i + 1, by go_num, by omega, by rw [← HN.out], HB3.out⟩
      case measure => simp [intOf]; omega
    · have HF : Hid ((os.take i).map (·.v) = os.map (·.v)) := Lib.hid (by rw [List.take_of_length_le (by rw [HL.out]; omega)])
      rw [HF.out]
      go_wp2
      go_ret
      exact ⟨rfl, HB.out⟩
end Go.Proofs.Ytcicpgiljceioaa.Pk

/- What lies in memory while a state is copied. -/
namespace Go.Proofs.Ytcicpgiljceioaa.Pk
open Go.RowKit
set_option linter.unusedVariables false
theorem size_drew (w : World) : w.drew.heap.size = w.heap.size := rfl
theorem Blk.set {w : World} {g : Nat} {T : TypeId} {cs : Array Value} (h : Blk w g T cs) (j : Nat) (v : Value) : Blk (w.setCell ⟨g, j, none⟩ v) g T (cs.setIfInBounds j v) := by
  unfold Blk at h ⊢
  simp [World.setCell, Array.getElem?_modify, h]
theorem wp_cut {P : Program} {c : Code} {Q : Exit → Act → World → Prop} {a : Act} {w : World} (I : Act → World → Prop) (h : c.wp P (fun e a w => e = .normal ∧ I a w) a w) (k : ∀ a w, I a w → Q .normal a w) : c.wp P Q a w :=
  Code.wp_mono (fun e a w h => by obtain ⟨rfl, h⟩ := h; exact k a w h) h
/-- What the first statement of Copy leaves. -/
structure CopyI (W1 : World) (me q : Int) (as_ : List Ak) (gs : List Fnd) (x : Nat) (v15 v19 : Value) (W : World) : Prop where
  box : Blk W x 30 #[.int .i64 me, .slice none 0 0, .slice none 0 0, .int .i64 q, v15, v19]
  a : akR.Own W W1.heap.size v15 as_
  g : fdR.Own W W1.heap.size v19 gs
  bel : Below W1.heap.size W1 W
  ge : W1.heap.size ≤ x
  na : ownB v15 ≠ some x
  ng : ownB v19 ≠ some x
  ap : Apart [v15, v19]
theorem apart_two {v u : Value} {m : Nat} (h1 : ∀ g, ownB v = some g → g < m) (h2 : ∀ g, ownB u = some g → m ≤ g) : Apart [v, u] :=
  Apart.app (m := m) (Apart.one v) (Apart.one u) (fun x hx g hg => by rw [List.mem_singleton.1 hx] at hg; exact h1 g hg) (fun x hx g hg => by rw [List.mem_singleton.1 hx] at hg; exact h2 g hg)
theorem copyI_alloc {W1 w15 w19 : World} {me q : Int} {as_ : List Ak} {gs : List Fnd} {B1 B2 : Nat} {A15 A19 : Option Addr} {n15 c15 n19 c19 : Nat} (h15 : akR.Own w15 B1 (.slice A15 n15 c15) as_) (h19 : fdR.Own w19 B2 (.slice A19 n19 c19) gs) (b15 : Below W1.heap.size W1 w15) (b19 : Below w15.heap.size w15 w19)
    (hB1 : W1.heap.size ≤ B1) (hB2 : w15.heap.size ≤ B2) :
    CopyI W1 me q as_ gs w19.heap.size (.slice A15 n15 c15) (.slice A19 n19 c19) (w19.alloc (.cells #[.int .i64 me, .slice none 0 0, .slice none 0 0, .int .i64 q, (.slice A15 n15 c15), (.slice A19 n19 c19)] 30)) := by
  have e1 := b15.size
  have e2 := b19.size
  refine ⟨Blk.new w19 _ _, ((h15.below b19).low hB1).alloc _, (h19.low (by omega)).alloc _, (b15.trans (b19.mono e1)).alloc (by omega) _, by omega, fun e => ?_, fun e => ?_, apart_two (m := w15.heap.size) h15.lt (fun g hg => Nat.le_trans hB2 (h19.base g hg))⟩
  · have := h15.lt _ e; omega
  · have := h19.lt _ e; omega
theorem copyI_set {W1 w15 w19 : World} {me q : Int} {as_ : List Ak} {gs : List Fnd} {B1 B2 x : Nat} {A15 A19 : Option Addr} {n15 c15 n19 c19 : Nat} (h15 : akR.Own w15 B1 (.slice A15 n15 c15) as_) (h19 : fdR.Own w19 B2 (.slice A19 n19 c19) gs) (b15 : Below W1.heap.size W1 w15) (b19 : Below w15.heap.size w15 w19)
    (hB1 : W1.heap.size ≤ B1) (hB2 : w15.heap.size ≤ B2) {v0 v1 v2 v3 v4 v5 : Value} (kx : Blk w19 x 30 #[v0, v1, v2, v3, v4, v5]) (hx : W1.heap.size ≤ x) (hx1 : x < B1 ∨ w15.heap.size ≤ x) (hx2 : x < B2) :
    CopyI W1 me q as_ gs x (.slice A15 n15 c15) (.slice A19 n19 c19) ((((((w19.setCell ⟨x, 0, none⟩ (.int .i64 me)).setCell ⟨x, 1, none⟩ (.slice none 0 0)).setCell ⟨x, 2, none⟩ (.slice none 0 0)).setCell ⟨x, 3, none⟩ (.int .i64 q)).setCell ⟨x, 4, none⟩ (.slice A15 n15 c15)).setCell ⟨x, 5, none⟩ (.slice A19 n19 c19)) := by
  have e1 := b15.size
  have e2 := b19.size
  have n1 : ownB (.slice A15 n15 c15) ≠ some x := fun e => by have := h15.lt _ e; have := h15.base _ e; omega
  have n2 : ownB (.slice A19 n19 c19) ≠ some x := fun e => by have := h19.base _ e; omega
  have st : ∀ (V : World) (j : Nat) (u : Value) (i : Nat), i ≠ x → (V.setCell ⟨x, j, none⟩ u).heap[i]? = V.heap[i]? := fun V j u i hi => Below.heap_setCell V ⟨x, j, none⟩ u i (fun e => hi e)
  have all : ∀ i, i ≠ x → ((((((w19.setCell ⟨x, 0, none⟩ (.int .i64 me)).setCell ⟨x, 1, none⟩ (.slice none 0 0)).setCell ⟨x, 2, none⟩ (.slice none 0 0)).setCell ⟨x, 3, none⟩ (.int .i64 q)).setCell ⟨x, 4, none⟩ (.slice A15 n15 c15)).setCell ⟨x, 5, none⟩ (.slice A19 n19 c19)).heap[i]? = w19.heap[i]? := fun i hi => by rw [st _ _ _ _ hi, st _ _ _ _ hi, st _ _ _ _ hi, st _ _ _ _ hi, st _ _ _ _ hi, st _ _ _ _ hi]
  refine ⟨(((((kx.set 0 _).set 1 _).set 2 _).set 3 _).set 4 _).set 5 _, ((h15.below b19).low hB1).stay (fun g e => all g (fun h => n1 (by rw [e, h]))), (h19.low (by omega)).stay (fun g e => all g (fun h => n2 (by rw [e, h]))), ?_, hx, n1, n2, apart_two (m := w15.heap.size) h15.lt (fun g hg => Nat.le_trans hB2 (h19.base g hg))⟩
  have b := b15.trans (b19.mono e1)
  exact (((((b.setCell (p := ⟨x, 0, none⟩) hx _).setCell (p := ⟨x, 1, none⟩) hx _).setCell (p := ⟨x, 2, none⟩) hx _).setCell (p := ⟨x, 3, none⟩) hx _).setCell (p := ⟨x, 4, none⟩) hx _).setCell (p := ⟨x, 5, none⟩) hx _
theorem OwnO.stay {w w' : World} {B : Nat} {v : Value} {l : List OwL} (h : OwnO w B v l) (hk : ∀ g, B ≤ g → g < w.heap.size → w'.heap[g]? = w.heap[g]?) : OwnO w' B v l :=
  ⟨h.row.stay fun g e => hk g (h.row.base g e) (h.row.lt g e), fun x hx => (h.each x hx).stay fun g e => hk g ((h.each x hx).base g e) ((h.each x hx).lt g e), h.apart⟩
theorem OwnE.stay {w w' : World} {B : Nat} {v : Value} {l : List SdL} (h : OwnE w B v l) (hk : ∀ g, B ≤ g → g < w.heap.size → w'.heap[g]? = w.heap[g]?) : OwnE w' B v l :=
  ⟨h.row.stay fun g e => hk g (h.row.base g e) (h.row.lt g e), fun x hx => (h.each x hx).stay fun g e => hk g ((h.each x hx).base g e) ((h.each x hx).lt g e), h.apart⟩
theorem OwnO.stay_ {w w' : World} {B : Nat} {v : Value} {l : List OwL} (h : OwnO w B v l) (hk : ∀ g, ∀ u ∈ v :: owS l, ownB u = some g → w'.heap[g]? = w.heap[g]?) : OwnO w' B v l :=
  ⟨h.row.stay fun g e => hk g _ List.mem_cons_self e, fun x hx => (h.each x hx).stay fun g e => hk g _ (List.mem_cons_of_mem _ (List.mem_map.2 ⟨x, hx, rfl⟩)) e, h.apart⟩
theorem setc_other (W : World) (x j : Nat) (u : Value) (i : Nat) (h : i ≠ x) : (W.setCell ⟨x, j, none⟩ u).heap[i]? = W.heap[i]? := Below.heap_setCell W ⟨x, j, none⟩ u i (fun e => h e)
theorem setc_size (W : World) (x j : Nat) (u : Value) : (W.setCell ⟨x, j, none⟩ u).heap.size = W.heap.size := by simp [World.setCell]
/-- What lies there between the rounds over the objects. -/
structure CopyJ (W1 : World) (me q : Int) (as_ : List Ak) (gs : List Fnd) (x B2 : Nat) (v15 v19 ve vo : Value) (lo : List OwL) (W : World) : Prop where
  box : Blk W x 30 #[.int .i64 me, vo, ve, .int .i64 q, v15, v19]
  a : akR.Own W W1.heap.size v15 as_
  g : fdR.Own W W1.heap.size v19 gs
  bel : Below W1.heap.size W1 W
  ge : W1.heap.size ≤ x
  lt : x < B2
  up : Under B2 [v15, v19]
  na : ownB v15 ≠ some x
  ng : ownB v19 ≠ some x
  ap : Apart [v15, v19]
  sz : B2 ≤ W.heap.size
  o : OwnO W B2 vo lo
theorem CopyI.j {W1 W : World} {me q : Int} {as_ : List Ak} {gs : List Fnd} {x : Nat} {v15 v19 : Value} (h : CopyI W1 me q as_ gs x v15 v19 W) : CopyJ W1 me q as_ gs x W.heap.size v15 v19 (.slice none 0 0) (.slice none 0 0) [] W :=
  ⟨h.box, h.a, h.g, h.bel, h.ge, h.box.lt, fun v hv g hg => by
    rcases List.mem_cons.1 hv with rfl | hv
    · exact h.a.lt g hg
    · rw [List.mem_singleton.1 hv] at hg; exact h.g.lt g hg, h.na, h.ng, h.ap, Nat.le_refl _, OwnO.none_ _ _⟩
theorem CopyJ.push {W1 W V V' : World} {me q : Int} {as_ : List Ak} {gs : List Fnd} {x B2 : Nat} {v15 v19 ve vo v' : Value} {lo : List OwL} {y : OwL} (h : CopyJ W1 me q as_ gs x B2 v15 v19 ve vo lo W) (hb : Below W.heap.size W V)
    (hy : ceR.Own V W.heap.size y.s.val y.v.c) (hrow : owR.Own V' B2 v' (lo ++ [y])) (hg : V.grownBy V' (ownB vo)) (hat : LiesB V vo v') : CopyJ W1 me q as_ gs x B2 v15 v19 ve v' (lo ++ [y]) (V'.setCell ⟨x, 1, none⟩ v') := by
  have hs := hb.size
  have hs2 := hg.size
  have hsz := h.sz
  have hge := h.ge
  have hlt := h.lt
  have old : ∀ i, i < B2 → V'.heap[i]? = W.heap[i]? := fun i hi => (hg.block i (by omega) (fun e => by have := h.o.row.base i e.symm; omega)).trans (hb.block i (by omega))
  have u15 : ∀ g, ownB v15 = some g → g < B2 := fun g e => h.up _ List.mem_cons_self g e
  have u19 : ∀ g, ownB v19 = some g → g < B2 := fun g e => h.up _ (List.mem_cons_of_mem _ List.mem_cons_self) g e
  have ho := h.o.push h.sz hb hy hrow hg hat
  refine ⟨Blk.set (cs := #[.int .i64 me, vo, ve, .int .i64 q, v15, v19]) ((old x h.lt).trans h.box) 1 v', h.a.stay fun g e => (setc_other _ _ _ _ _ (fun e2 => h.na (by rw [e, e2]))).trans (old g (u15 g e)), h.g.stay fun g e => (setc_other _ _ _ _ _ (fun e2 => h.ng (by rw [e, e2]))).trans (old g (u19 g e)), ?_, h.ge, h.lt, h.up, h.na, h.ng, h.ap, by rw [setc_size]; omega, ho.stay fun g hg1 _ => setc_other _ _ _ _ _ (by omega)⟩
  have b1 : Below W1.heap.size W1 V := h.bel.trans (hb.mono (by omega))
  exact (b1.grown hg (by omega) (fun k e => by have := h.o.row.base k e; omega)).setCell (p := ⟨x, 1, none⟩) h.ge _
theorem CopyJ.below {W1 W W' : World} {me q : Int} {as_ : List Ak} {gs : List Fnd} {x B2 : Nat} {v15 v19 ve vo : Value} {lo : List OwL} (h : CopyJ W1 me q as_ gs x B2 v15 v19 ve vo lo W) (hb : Below W.heap.size W W') : CopyJ W1 me q as_ gs x B2 v15 v19 ve vo lo W' :=
  ⟨h.box.below hb h.box.lt, h.a.below hb, h.g.below hb, h.bel.trans (hb.mono h.bel.size), h.ge, h.lt, h.up, h.na, h.ng, h.ap, Nat.le_trans h.sz hb.size, h.o.below hb⟩
/-- What lies there between the rounds over the sides. -/
structure CopyK (W1 : World) (me q : Int) (as_ : List Ak) (gs : List Fnd) (x B2 B3 : Nat) (v15 v19 vo : Value) (lo : List OwL) (ve : Value) (le : List SdL) (W : World) : Prop where
  j : CopyJ W1 me q as_ gs x B2 v15 v19 ve vo lo W
  l23 : B2 ≤ B3
  sz : B3 ≤ W.heap.size
  uo : Under B3 (vo :: owS lo)
  e : OwnE W B3 ve le
theorem CopyJ.k {W1 W : World} {me q : Int} {as_ : List Ak} {gs : List Fnd} {x B2 : Nat} {v15 v19 vo : Value} {lo : List OwL} (h : CopyJ W1 me q as_ gs x B2 v15 v19 (.slice none 0 0) vo lo W) : CopyK W1 me q as_ gs x B2 W.heap.size v15 v19 vo lo (.slice none 0 0) [] W :=
  ⟨h, h.sz, Nat.le_refl _, h.o.under, OwnE.none_ _ _⟩
theorem CopyK.push {W1 W V V' : World} {me q : Int} {as_ : List Ak} {gs : List Fnd} {x B2 B3 : Nat} {v15 v19 vo ve v' : Value} {lo : List OwL} {le : List SdL} {y : SdL} (h : CopyK W1 me q as_ gs x B2 B3 v15 v19 vo lo ve le W) (hb : Below W.heap.size W V)
    (hy : mgR.Own V W.heap.size y.s.val y.v.o) (hrow : sdR.Own V' B3 v' (le ++ [y])) (hg : V.grownBy V' (ownB ve)) (hat : LiesB V ve v') : CopyK W1 me q as_ gs x B2 B3 v15 v19 vo lo v' (le ++ [y]) (V'.setCell ⟨x, 2, none⟩ v') := by
  have hs := hb.size
  have hs2 := hg.size
  have hsz := h.sz
  have hge := h.j.ge
  have hlt := h.j.lt
  have hle := h.l23
  have old : ∀ i, i < B3 → V'.heap[i]? = W.heap[i]? := fun i hi => (hg.block i (by omega) (fun e => by have := h.e.row.base i e.symm; omega)).trans (hb.block i (by omega))
  have u15 : ∀ g, ownB v15 = some g → g < B2 := fun g e => h.j.up _ List.mem_cons_self g e
  have u19 : ∀ g, ownB v19 = some g → g < B2 := fun g e => h.j.up _ (List.mem_cons_of_mem _ List.mem_cons_self) g e
  have he := h.e.push h.sz hb hy hrow hg hat
  refine ⟨⟨Blk.set (cs := #[.int .i64 me, vo, ve, .int .i64 q, v15, v19]) ((old x (by omega)).trans h.j.box) 2 v', h.j.a.stay fun g e => (setc_other _ _ _ _ _ (fun e2 => h.j.na (by rw [e, e2]))).trans (old g (by have := u15 g e; omega)), h.j.g.stay fun g e => (setc_other _ _ _ _ _ (fun e2 => h.j.ng (by rw [e, e2]))).trans (old g (by have := u19 g e; omega)), ?_, h.j.ge, h.j.lt, h.j.up, h.j.na, h.j.ng, h.j.ap, by rw [setc_size]; omega, ?_⟩, h.l23, by rw [setc_size]; omega, h.uo, he.stay fun g hg1 _ => setc_other _ _ _ _ _ (by omega)⟩
  · have b1 : Below W1.heap.size W1 V := h.j.bel.trans (hb.mono (by have := h.j.bel.size; omega))
    exact (b1.grown hg (by have := b1.size; omega) (fun k e => by have := h.e.row.base k e; omega)).setCell (p := ⟨x, 2, none⟩) h.j.ge _
  · refine h.j.o.stay_ fun g u hu e => ?_
    have h1 := h.uo u hu g e
    have h2 : B2 ≤ g := h.j.o.over u hu g e
    exact (setc_other _ _ _ _ _ (by omega)).trans (old g h1)
def sdA (l : List SdL) (i : Nat) : SdL := l.getD i default
theorem sdA_get {l : List SdL} {i : Nat} (h : i < l.length) : l[i]? = some (sdA l i) := by
  unfold sdA
  rw [List.getD_eq_getElem?_getD, List.getElem?_eq_getElem h]; rfl
/-- The copy that is left. -/
theorem CopyK.own {W1 W w : World} {me q : Int} {as_ : List Ak} {gs : List Fnd} {x B2 B3 : Nat} {A15 A19 Ao Ae : Option Addr} {n15 c15 n19 c19 no co ne ce : Nat} {lo : List OwL} {le : List SdL} (h : CopyK W1 me q as_ gs x B2 B3 (.slice A15 n15 c15) (.slice A19 n19 c19) (.slice Ao no co) lo (.slice Ae ne ce) le W) (hw : w.heap.size ≤ W1.heap.size) :
    OwnS W w.heap.size ⟨me, lo, ⟨Ao, no, co⟩, le, ⟨Ae, ne, ce⟩, q, as_, ⟨A15, n15, c15⟩, gs, ⟨A19, n19, c19⟩⟩ := by
  have h1 := h.j.bel.size
  have h2 := h.l23
  have h3 := h.j.lt
  have h4 := h.j.ge
  refine ⟨h.j.o.low (by omega), h.e.low (by omega), h.j.a.low hw, h.j.g.low hw, ?_⟩
  have a1 : Apart ([Sl.val ⟨A15, n15, c15⟩, Sl.val ⟨A19, n19, c19⟩] ++ (Sl.val ⟨Ao, no, co⟩ :: owS lo)) := Apart.app (m := B2) h.j.ap h.j.o.apart h.j.up h.j.o.over
  have a2 : Apart (([Sl.val ⟨A15, n15, c15⟩, Sl.val ⟨A19, n19, c19⟩] ++ (Sl.val ⟨Ao, no, co⟩ :: owS lo)) ++ (Sl.val ⟨Ae, ne, ce⟩ :: sdS le)) := Apart.app (m := B3) a1 h.e.apart ((h.j.up.mono h.l23).app h.uo) h.e.over
  refine a2.perm ?_
  rw [List.append_assoc]
  refine List.perm_append_comm.trans ?_
  rw [List.append_assoc]
theorem OwnS.stay {w w' : World} {B : Nat} {s : StL} (h : OwnS w B s) (hk : ∀ g, B ≤ g → g < w.heap.size → w'.heap[g]? = w.heap[g]?) : OwnS w' B s :=
  ⟨h.os.stay hk, h.es.stay hk, h.as_.stay fun g e => hk g (h.as_.base g e) (h.as_.lt g e), h.gs.stay fun g e => hk g (h.gs.base g e) (h.gs.lt g e), h.apart⟩
/-- Six cells of a block are written. -/
theorem set6 {w : World} {g : Nat} {T : TypeId} {u0 u1 u2 u3 u4 u5 : Value} (h : Blk w g T #[u0, u1, u2, u3, u4, u5]) (v0 v1 v2 v3 v4 v5 : Value) :
    ∃ V, V = ((((((w.setCell ⟨g, 0, none⟩ v0).setCell ⟨g, 1, none⟩ v1).setCell ⟨g, 2, none⟩ v2).setCell ⟨g, 3, none⟩ v3).setCell ⟨g, 4, none⟩ v4).setCell ⟨g, 5, none⟩ v5) ∧ Blk V g T #[v0, v1, v2, v3, v4, v5] ∧ (∀ B a, B ≤ g → Below B a w → Below B a V) ∧ ∀ i, i ≠ g → V.heap[i]? = w.heap[i]? :=
  ⟨_, rfl, (((((h.set 0 _).set 1 _).set 2 _).set 3 _).set 4 _).set 5 _,
    fun B a hB b => (((((b.setCell (p := ⟨g, 0, none⟩) hB _).setCell (p := ⟨g, 1, none⟩) hB _).setCell (p := ⟨g, 2, none⟩) hB _).setCell (p := ⟨g, 3, none⟩) hB _).setCell (p := ⟨g, 4, none⟩) hB _).setCell (p := ⟨g, 5, none⟩) hB _,
    fun i hi => by rw [setc_other _ _ _ _ _ hi, setc_other _ _ _ _ _ hi, setc_other _ _ _ _ _ hi, setc_other _ _ _ _ _ hi, setc_other _ _ _ _ _ hi, setc_other _ _ _ _ _ hi]⟩
end Go.Proofs.Ytcicpgiljceioaa.Pk
