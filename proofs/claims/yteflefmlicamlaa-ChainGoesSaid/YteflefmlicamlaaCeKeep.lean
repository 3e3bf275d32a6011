/- Cells of the law's own that are overwritten one by one. -/
import Derived.Test.YteflefmlicamlaaChSpec
import Derived.Test.YteflefmlicamlaaChUse
import Derived.Test.YteflefmlicamlaaOnly
namespace Go.Proofs.Yteflefmlicamlaa.Pk
open Go.RowKit Go.Shelf
set_option linter.unusedVariables false
theorem ces_set {l : List Ce} {k : Nat} (m : Ce) (h : k < l.length) : ces (l.set k m) = ((((ces l).set (k * 4) (.int .i64 m.n)).set (k * 4 + 1) (.int .i64 m.s)).set (k * 4 + 2) (.int .i64 m.d)).set (k * 4 + 3) (.int .i64 m.x) := by
  induction l generalizing k with
  | nil => simp at h
  | cons x l ih =>
    match k, h with
    | 0, h => simp [ces_cons]
    | k + 1, h =>
      rw [List.set_cons_succ, ces_cons, ih (k := k) (by simpa using h), ces_cons, show (k + 1) * 4 = k * 4 + 1 + 1 + 1 + 1 by omega]
      simp
theorem row_set4 {w : World} {B n c g j : Nat} {T : TypeId} {xs : List Value} (h : w.ownsRow B T 4 (.slice (some ⟨g, 0, none⟩) n c) n xs) (u : Value) : (w.setCell ⟨g, j, none⟩ u).ownsRow B T 4 (.slice (some ⟨g, 0, none⟩) n c) n (xs.set j u) := by
  obtain ⟨h1, ⟨e, _⟩ | ⟨g', cap, cur, e, hg, hh, hc, hm, hs, ht⟩⟩ := h
  · simp at e
  · injection e with e1 e2 e3
    injection e1 with e1
    injection e1 with e1
    subst e1; subst e3
    refine ⟨by simpa using h1, .inr ⟨g, c, cur.setIfInBounds j u, rfl, hg, by simp [World.setCell, Array.getElem?_modify, hh], hc, hm, by simpa using hs, ?_⟩⟩
    rw [← ht, Array.toList_setIfInBounds, List.take_set]
theorem OnlyS.setAt4 {S : Nat → Prop} {w V : World} (h : OnlyS S w V) {x : Nat} (hx : S x) (j : Nat) (u : Value) : OnlyS S w (V.setCell ⟨x, j, none⟩ u) :=
  ⟨h.os, h.tape, h.output, by have := h.size; simpa [World.setCell] using this, fun i hi hn => (Below.heap_setCell V ⟨x, j, none⟩ u i (fun e => by simp at e; subst e; exact hn hx)).trans (h.block i hi hn)⟩
/-- The i-th cell, and what lies there when another is put in. -/
theorem OwnK.spot {w : World} {B n c i : Nat} {A : Option Addr} {l : List Ce} (h : OwnK w B (.slice A n c) l) (hi : i < n) : ∃ g, A = some ⟨g, 0, none⟩ ∧ B ≤ g ∧ g < w.heap.size ∧
    (∃ u0 u1 u2 u3, w.cell? ⟨g, i * 4, none⟩ = some u0 ∧ w.cell? ⟨g, i * 4 + 1, none⟩ = some u1 ∧ w.cell? ⟨g, i * 4 + 2, none⟩ = some u2 ∧ w.cell? ⟨g, i * 4 + 3, none⟩ = some u3) ∧
    (∀ j, w.frozen? ⟨g, j, none⟩ = false) ∧
    ∀ m : Ce, OwnK ((((w.setCell ⟨g, i * 4, none⟩ (.int .i64 m.n)).setCell ⟨g, i * 4 + 1, none⟩ (.int .i64 m.s)).setCell ⟨g, i * 4 + 2, none⟩ (.int .i64 m.d)).setCell ⟨g, i * 4 + 3, none⟩ (.int .i64 m.x)) B (.slice A n c) (l.set i m) ∧
      ∀ (S : Nat → Prop) (V : World), OnlyS S V w → S g → OnlyS S V ((((w.setCell ⟨g, i * 4, none⟩ (.int .i64 m.n)).setCell ⟨g, i * 4 + 1, none⟩ (.int .i64 m.s)).setCell ⟨g, i * 4 + 2, none⟩ (.int .i64 m.d)).setCell ⟨g, i * 4 + 3, none⟩ (.int .i64 m.x)) := by
  obtain ⟨A', c', e, hc, hr⟩ := OwnK.reads h
  injection e with e1 e2 e3
  subst e1; subst e3; subst e2
  have h0 := h
  obtain ⟨h1, ⟨e, e0⟩ | ⟨g, cap, cur, e, hg, hh, hn, hm, hs, ht⟩⟩ := h0
  · omega
  injection e with e1 e2 e3
  subst e1; subst e3
  have hlt := ownK_lt h g rfl
  obtain ⟨b, off, e4, hb, hcs⟩ := hr.ces_ (by omega)
  injection e4 with e4
  injection e4 with e4 e5
  subst e4; subst e5
  simp only [Nat.zero_add] at hcs
  obtain ⟨c0, c1, c2, c3⟩ := hcs i _ (List.getElem?_eq_getElem hi)
  refine ⟨g, rfl, hg, hlt, ⟨_, _, _, _, c0, c1, c2, c3⟩, fun j => by simp [World.frozen?, hh], fun m => ⟨?_, fun S V hO hS => ?_⟩⟩
  rotate_left
  · have k0 := hO.setAt4 hS (i * 4) (.int .i64 m.n)
    have k1 := k0.setAt4 hS (i * 4 + 1) (.int .i64 m.s)
    have k2 := k1.setAt4 hS (i * 4 + 2) (.int .i64 m.d)
    have k3 := k2.setAt4 hS (i * 4 + 3) (.int .i64 m.x)
    exact k3
  unfold OwnK at h ⊢
  rw [ces_set m hi, List.length_set]
  have k0 := row_set4 (j := i * 4) h (.int .i64 m.n)
  have k1 := row_set4 (j := i * 4 + 1) k0 (.int .i64 m.s)
  have k2 := row_set4 (j := i * 4 + 2) k1 (.int .i64 m.d)
  have k3 := row_set4 (j := i * 4 + 3) k2 (.int .i64 m.x)
  exact k3
theorem OwnK.onlyS {S : Nat → Prop} {w w' : World} {B : Nat} {v : Value} {l : List Ce} (h : OwnK w B v l) (hO : OnlyS S w w') (hv : ∀ g, v.ownBlock = some g → ¬ S g) : OwnK w' B v l :=
  h.stay fun g e => hO.block g (ownK_lt h g e) (hv g e)
theorem OwnK.mlen {w : World} {B n c : Nat} {A : Option Addr} {l : List Ce} (h : OwnK w B (.slice A n c) l) : l.length = n := (ownK_reads h).klen
theorem OwnK.le {w : World} {B n c : Nat} {A : Option Addr} {l : List Ce} (h : OwnK w B (.slice A n c) l) : n ≤ c := by
  obtain ⟨A', c', e, hc, hr⟩ := OwnK.reads h
  injection e with e1 e2 e3
  omega
theorem readsK_take {w : World} {B n k : Nat} {A : Option Addr} {l r : List Ce} (h : Reads w B 4 A k (ces (l ++ r))) (hl : l.length = n) : Reads w B 4 A n (ces l) := by
  have hk := h.klen
  rw [List.length_append] at hk
  refine ⟨by simp [hl], fun hn => ?_⟩
  obtain ⟨ad, e, hb, hc⟩ := h.2 (by omega)
  refine ⟨ad, e, hb, fun j u hj => hc j u ?_⟩
  rw [ces_append, List.getElem?_append_left (List.getElem?_eq_some_iff.1 hj).1]
  exact hj
def ceN (k : Int) : Ce := ⟨k, 0, 0, 0⟩
theorem reads_newK (w : World) (cs : Array Value) (T : TypeId) (k : Nat) {xs : List Value} (hx : xs.length = k * 4) (h : cs.toList = xs := by rfl) : Reads (w.alloc (.cells cs T)) (w.heap.size + 1) 4 (some ⟨w.heap.size, 0, none⟩) k xs := by
  subst h
  refine ⟨hx, fun _ => ⟨_, rfl, by simp, fun j u hj => ?_⟩⟩
  have h0 : (w.alloc (.cells cs T)).cell? ⟨w.heap.size, j, none⟩ = cs[j]? := (Blk.new w T cs).cell j
  have e : (⟨w.heap.size, 0, none⟩ : Addr).add j = ⟨w.heap.size, j, none⟩ := by unfold Addr.add; by_cases hj : j = 0 <;> simp [hj]
  rw [e, h0]
  simpa using hj
theorem onlyS_row4 {S : Nat → Prop} {w V W : World} {row : Option Nat} (h : OnlyS S w V) (hg : V.grownBy W row) (hr : ∀ g, row = some g → S g) : OnlyS S w W :=
  ⟨hg.os.trans h.os, hg.tape.trans h.tape, hg.output.trans h.output, Nat.le_trans h.size hg.size, fun i hi hn => (hg.block i (Nat.lt_of_lt_of_le hi h.size) (fun e => hn (hr i e.symm))).trans (h.block i hi hn)⟩
theorem OnlyS.trans4 {S : Nat → Prop} {w V W : World} (h : OnlyS S w V) (k : OnlyS S V W) : OnlyS S w W :=
  ⟨k.os.trans h.os, k.tape.trans h.tape, k.output.trans h.output, Nat.le_trans h.size k.size, fun i h1 hn => (k.block i (Nat.lt_of_lt_of_le h1 h.size) hn).trans (h.block i h1 hn)⟩
theorem OnlyS.weak4 {S S' : Nat → Prop} {w V : World} (h : OnlyS S w V) (hS : ∀ b, S b → S' b) : OnlyS S' w V := ⟨h.os, h.tape, h.output, h.size, fun i h1 hn => h.block i h1 (fun hs => hn (hS i hs))⟩
theorem roomK {w : World} {B n c g : Nat} {l : List Ce} (h : OwnK w B (.slice (some ⟨g, 0, none⟩) (n + 2) c) (l ++ [ceN 71, ceN 72])) (hl : l.length = n) : w.cell? ⟨g, n * 4, none⟩ = some (.int .i64 71) ∧ w.cell? ⟨g, (n + 1) * 4, none⟩ = some (.int .i64 72) := by
  obtain ⟨b, off, e, _, hc⟩ := (ownK_reads h).ces_ (by omega)
  injection e with e
  injection e with e1 e2
  subst e1; subst e2
  have h1 := (hc n (ceN 71) (by rw [List.getElem?_append_right (by omega), hl, Nat.sub_self]; rfl)).1
  have h2 := (hc (n + 1) (ceN 72) (by rw [List.getElem?_append_right (by omega), hl, show n + 1 - n = 1 by omega]; rfl)).1
  rw [Nat.zero_add] at h1 h2
  exact ⟨h1, h2⟩
/-- Four lists of the call's own, none in another's. -/
structure Four (cs : Array Value) (m : Nat) (V : Nat → Value) (lf : Nat → List Ce) (lo : Nat → Nat) : Prop where
  at_ : ∀ t, t < 4 → cs[t]? = some (V t)
  len : ∀ t, t < 4 → (lf t).length ≤ m
  blk : ∀ t, t < 4 → ∀ b, (V t).ownBlock = some b → lo t ≤ b ∧ b < lo (t + 1)
  mono : ∀ s t, s ≤ t → t ≤ 4 → lo s ≤ lo t
theorem Four.apart {cs : Array Value} {m : Nat} {V : Nat → Value} {lf : Nat → List Ce} {lo : Nat → Nat} (h : Four cs m V lf lo) {s t : Nat} (hst : s < t) (ht : t < 4) {b : Nat} (hb : (V t).ownBlock = some b) : (V s).ownBlock ≠ some b := by
  intro e
  have h1 := h.blk s (by omega) b e
  have h2 := h.blk t ht b hb
  have h3 := h.mono (s + 1) t (by omega) (by omega)
  omega
theorem four_of {w : World} {s0 s1 s2 s3 s4 m : Nat} {a b c d : Value} {la lb lc ld : List Ce} (oa : OwnK w s0 a la) (ob : OwnK w s1 b lb) (oc : OwnK w s2 c lc) (od : OwnK w s3 d ld)
    (ha : ∀ x, a.ownBlock = some x → x < s1) (hb : ∀ x, b.ownBlock = some x → x < s2) (hc : ∀ x, c.ownBlock = some x → x < s3) (hd : ∀ x, d.ownBlock = some x → x < s4)
    (h01 : s0 ≤ s1) (h12 : s1 ≤ s2) (h23 : s2 ≤ s3) (h34 : s3 ≤ s4) (m1 : la.length ≤ m) (m2 : lb.length ≤ m) (m3 : lc.length ≤ m) (m4 : ld.length ≤ m) :
    ∃ V lf lo, Four #[a, b, c, d] m V lf lo ∧ lo 0 = s0 ∧ lo 4 = s4 ∧ ∀ t, t < 4 → OwnK w (lo t) (V t) (lf t) := by
  refine ⟨fun t => if t = 0 then a else if t = 1 then b else if t = 2 then c else d, fun t => if t = 0 then la else if t = 1 then lb else if t = 2 then lc else ld, fun t => if t = 0 then s0 else if t = 1 then s1 else if t = 2 then s2 else if t = 3 then s3 else s4, ⟨?_, ?_, ?_, ?_⟩, rfl, rfl, ?_⟩
  · intro t ht
    match t, ht with
    | 0, _ => rfl
    | 1, _ => rfl
    | 2, _ => rfl
    | 3, _ => rfl
  · intro t ht
    match t, ht with
    | 0, _ => exact m1
    | 1, _ => exact m2
    | 2, _ => exact m3
    | 3, _ => exact m4
  · intro t ht x hx
    match t, ht with
    | 0, _ => exact ⟨ownK_base oa x hx, ha x hx⟩
    | 1, _ => exact ⟨ownK_base ob x hx, hb x hx⟩
    | 2, _ => exact ⟨ownK_base oc x hx, hc x hx⟩
    | 3, _ => exact ⟨ownK_base od x hx, hd x hx⟩
  · intro s t hst ht
    have hs : s = 0 ∨ s = 1 ∨ s = 2 ∨ s = 3 ∨ s = 4 := by omega
    have h2 : t = 0 ∨ t = 1 ∨ t = 2 ∨ t = 3 ∨ t = 4 := by omega
    rcases hs with rfl | rfl | rfl | rfl | rfl <;> rcases h2 with rfl | rfl | rfl | rfl | rfl <;> simp <;> omega
  · intro t ht
    match t, ht with
    | 0, _ => exact oa
    | 1, _ => exact ob
    | 2, _ => exact oc
    | 3, _ => exact od
end Go.Proofs.Yteflefmlicamlaa.Pk
