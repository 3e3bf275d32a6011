/- Messages of the law's own that are overwritten one by one. -/
import Derived.Test.YtneijohbmphheaaHfSpec
import Derived.Test.YtneijohbmphheaaMgApp
namespace Go.Proofs.Ytneijohbmphheaa.Pk
open Go.RowKit Go.Shelf
set_option linter.unusedVariables false
theorem mgs_set {l : List Mg} {k : Nat} (m : Mg) (h : k < l.length) : mgs (l.set k m) = (((((mgs l).set (k * 5) (.int .i64 m.k)).set (k * 5 + 1) (.int .i64 m.o)).set (k * 5 + 2) (.int .i64 m.n)).set (k * 5 + 3) (.int .i64 m.u)).set (k * 5 + 4) (.int .i64 m.v) := by
  induction l generalizing k with
  | nil => simp at h
  | cons x l ih =>
    match k, h with
    | 0, h => simp [mgs_cons]
    | k + 1, h =>
      rw [List.set_cons_succ, mgs_cons, ih (k := k) (by simpa using h), mgs_cons, show (k + 1) * 5 = k * 5 + 1 + 1 + 1 + 1 + 1 by omega]
      simp
theorem row_set {w : World} {B n c g j : Nat} {T : TypeId} {xs : List Value} (h : w.ownsRow B T 5 (.slice (some ⟨g, 0, none⟩) n c) n xs) (u : Value) : (w.setCell ⟨g, j, none⟩ u).ownsRow B T 5 (.slice (some ⟨g, 0, none⟩) n c) n (xs.set j u) := by
  obtain ⟨h1, ⟨e, _⟩ | ⟨g', cap, cur, e, hg, hh, hc, hm, hs, ht⟩⟩ := h
  · simp at e
  · injection e with e1 e2 e3
    injection e1 with e1
    injection e1 with e1
    subst e1; subst e3
    refine ⟨by simpa using h1, .inr ⟨g, c, cur.setIfInBounds j u, rfl, hg, by simp [World.setCell, Array.getElem?_modify, hh], hc, hm, by simpa using hs, ?_⟩⟩
    rw [← ht, Array.toList_setIfInBounds, List.take_set]
theorem OnlyS.setAt {S : Nat → Prop} {w V : World} (h : OnlyS S w V) {x : Nat} (hx : S x) (j : Nat) (u : Value) : OnlyS S w (V.setCell ⟨x, j, none⟩ u) :=
  ⟨h.os, h.tape, h.output, by have := h.size; simpa [World.setCell] using this, fun i hi hn => (Below.heap_setCell V ⟨x, j, none⟩ u i (fun e => by simp at e; subst e; exact hn hx)).trans (h.block i hi hn)⟩
/-- The i-th message's cells, and what lies there when another is put in. -/
theorem OwnG.spot {w : World} {B n c i : Nat} {A : Option Addr} {l : List Mg} (h : OwnG w B (.slice A n c) l) (hi : i < n) : ∃ g, A = some ⟨g, 0, none⟩ ∧ B ≤ g ∧ g < w.heap.size ∧
    (∃ u0 u1 u2 u3 u4, w.cell? ⟨g, i * 5, none⟩ = some u0 ∧ w.cell? ⟨g, i * 5 + 1, none⟩ = some u1 ∧ w.cell? ⟨g, i * 5 + 2, none⟩ = some u2 ∧ w.cell? ⟨g, i * 5 + 3, none⟩ = some u3 ∧ w.cell? ⟨g, i * 5 + 4, none⟩ = some u4) ∧
    (∀ j, w.frozen? ⟨g, j, none⟩ = false) ∧
    ∀ m : Mg, OwnG (((((w.setCell ⟨g, i * 5, none⟩ (.int .i64 m.k)).setCell ⟨g, i * 5 + 1, none⟩ (.int .i64 m.o)).setCell ⟨g, i * 5 + 2, none⟩ (.int .i64 m.n)).setCell ⟨g, i * 5 + 3, none⟩ (.int .i64 m.u)).setCell ⟨g, i * 5 + 4, none⟩ (.int .i64 m.v)) B (.slice A n c) (l.set i m) ∧
      ∀ (S : Nat → Prop) (V : World), OnlyS S V w → S g → OnlyS S V (((((w.setCell ⟨g, i * 5, none⟩ (.int .i64 m.k)).setCell ⟨g, i * 5 + 1, none⟩ (.int .i64 m.o)).setCell ⟨g, i * 5 + 2, none⟩ (.int .i64 m.n)).setCell ⟨g, i * 5 + 3, none⟩ (.int .i64 m.u)).setCell ⟨g, i * 5 + 4, none⟩ (.int .i64 m.v)) := by
  obtain ⟨A', c', e, hc, hr⟩ := OwnG.reads h
  injection e with e1 e2 e3
  subst e1; subst e3; subst e2
  have h0 := h
  obtain ⟨h1, ⟨e, e0⟩ | ⟨g, cap, cur, e, hg, hh, hn, hm, hs, ht⟩⟩ := h0
  · omega
  injection e with e1 e2 e3
  subst e1; subst e3
  have hlt := ownG_lt h g rfl
  obtain ⟨b, off, e4, hb, hcs⟩ := hr.mgs_ (by omega)
  injection e4 with e4
  injection e4 with e4 e5
  subst e4; subst e5
  simp only [Nat.zero_add] at hcs
  obtain ⟨c0, c1, c2, c3, c4⟩ := hcs i _ (List.getElem?_eq_getElem hi)
  refine ⟨g, rfl, hg, hlt, ⟨_, _, _, _, _, c0, c1, c2, c3, c4⟩, fun j => by simp [World.frozen?, hh], fun m => ⟨?_, fun S V hO hS => ?_⟩⟩
  rotate_left
  · have k0 := hO.setAt hS (i * 5) (.int .i64 m.k)
    have k1 := k0.setAt hS (i * 5 + 1) (.int .i64 m.o)
    have k2 := k1.setAt hS (i * 5 + 2) (.int .i64 m.n)
    have k3 := k2.setAt hS (i * 5 + 3) (.int .i64 m.u)
    have k4 := k3.setAt hS (i * 5 + 4) (.int .i64 m.v)
    exact k4
  unfold OwnG at h ⊢
  rw [mgs_set m hi, List.length_set]
  have k0 := row_set (j := i * 5) h (.int .i64 m.k)
  have k1 := row_set (j := i * 5 + 1) k0 (.int .i64 m.o)
  have k2 := row_set (j := i * 5 + 2) k1 (.int .i64 m.n)
  have k3 := row_set (j := i * 5 + 3) k2 (.int .i64 m.u)
  have k4 := row_set (j := i * 5 + 4) k3 (.int .i64 m.v)
  exact k4
theorem OwnG.onlyS {S : Nat → Prop} {w w' : World} {B : Nat} {v : Value} {l : List Mg} (h : OwnG w B v l) (hO : OnlyS S w w') (hv : ∀ g, v.ownBlock = some g → ¬ S g) : OwnG w' B v l :=
  h.stay fun g e => hO.block g (ownG_lt h g e) (hv g e)
theorem OwnG.mlen {w : World} {B n c : Nat} {A : Option Addr} {l : List Mg} (h : OwnG w B (.slice A n c) l) : l.length = n := by
  obtain ⟨A', c', e, hc, hr⟩ := OwnG.reads h
  injection e with e1 e2 e3
  exact e2.symm
theorem OwnG.le {w : World} {B n c : Nat} {A : Option Addr} {l : List Mg} (h : OwnG w B (.slice A n c) l) : n ≤ c := by
  obtain ⟨A', c', e, hc, hr⟩ := OwnG.reads h
  injection e with e1 e2 e3
  omega
end Go.Proofs.Ytneijohbmphheaa.Pk
