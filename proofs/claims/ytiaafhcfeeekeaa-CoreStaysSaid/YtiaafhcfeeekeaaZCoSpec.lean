/- Rows of one's own that share no block, each by its name: one is turned, the others stay. -/
import Derived.Test.YtiaafhcfeeekeaaZStPut
import Derived.Test.YtiaafhcfeeekeaaZCeEq
namespace Go.Proofs.Ytiaafhcfeeekeaa.Pk
open Go.RowKit
set_option linter.unusedVariables false
def slcR : Row Sl where
  enc s := [s.val]
  k := 1
  T := 53
  S := 136
  z := .slice none 0 0
  by_ := 24
  len _ := rfl
  one x u hu := by simp [Sl.val] at hu; subst hu; rfl
  und := Try.underlying136
  info := by kernel_rfl
  zc := rfl
  pos := by omega
  bpos := by omega
def slmR : Row Sl where
  enc s := [s.val]
  k := 1
  T := 48
  S := 141
  z := .slice none 0 0
  by_ := 24
  len _ := rfl
  one x u hu := by simp [Sl.val] at hu; subst hu; rfl
  und := Try.underlying141
  info := by kernel_rfl
  zc := rfl
  pos := by omega
  bpos := by omega
/-- Cells written one behind the other. -/
def putC (w : World) (g : Nat) : Nat → List Value → World
  | _, [] => w
  | b, v :: vs => putC (w.setCell ⟨g, b, none⟩ v) g (b + 1) vs
def setR : List Value → Nat → List Value → List Value
  | xs, _, [] => xs
  | xs, b, v :: vs => setR (xs.set b v) (b + 1) vs
theorem setR_mid : ∀ (vs mid pre post : List Value), mid.length = vs.length → setR (pre ++ (mid ++ post)) pre.length vs = pre ++ (vs ++ post)
  | [], mid, pre, post, h => by
    have : mid = [] := List.length_eq_zero_iff.1 h
    subst this; rfl
  | v :: vs, [], pre, post, h => by simp at h
  | v :: vs, m :: mid, pre, post, h => by
    have e : (pre ++ (m :: mid ++ post)).set pre.length v = (pre ++ [v]) ++ (mid ++ post) := by
      rw [List.set_append_right _ _ (Nat.le_refl _), Nat.sub_self]; simp
    rw [setR, e]
    have := setR_mid vs mid (pre ++ [v]) post (by simpa using h)
    rw [List.length_append, List.length_singleton] at this
    rw [this]; simp
theorem Row.cells_put {α : Type} {R : Row α} {l : List α} {i : Nat} {x x' : α} (hi : l[i]? = some x) : setR (R.cells l) (i * R.k) (R.enc x') = R.cells (l.set i x') := by
  obtain ⟨h1, h2⟩ := List.getElem?_eq_some_iff.1 hi
  have e1 : l = l.take i ++ x :: l.drop (i + 1) := by rw [← h2, ← List.drop_eq_getElem_cons h1, List.take_append_drop]
  have e2 : l.set i x' = l.take i ++ x' :: l.drop (i + 1) := by
    conv => lhs; rw [e1]
    rw [List.set_append_right _ _ (by rw [List.length_take]; omega), List.length_take, show i - min i l.length = 0 by omega, List.set_cons_zero]
  rw [e2]
  conv => lhs; rw [e1]
  rw [R.cells_append, R.cells_append, R.cells_cons, R.cells_cons]
  have hl : (R.cells (l.take i)).length = i * R.k := by rw [R.cells_length, List.length_take, show min i l.length = i by omega]
  rw [← hl]
  exact setR_mid _ _ _ _ (by rw [R.len, R.len])
theorem putC_row {e : TypeId} {size g n cap B : Nat} : ∀ (vs : List Value) (w : World) (xs : List Value) (b : Nat), w.ownsRow B e size (.slice (some ⟨g, 0, none⟩) n cap) n xs →
    (putC w g b vs).ownsRow B e size (.slice (some ⟨g, 0, none⟩) n cap) n (setR xs b vs) ∧ w.grownBy (putC w g b vs) (some g)
  | [], w, xs, b, h => ⟨h, rfl, rfl, rfl, Nat.le_refl _, fun _ _ _ => rfl⟩
  | v :: vs, w, xs, b, h => by
    have h1 := h.stored b v
    have h2 := putC_row vs _ _ (b + 1) h1.1
    refine ⟨h2.1, ?_⟩
    obtain ⟨a1, a2, a3, a4, a5⟩ := h1.2
    obtain ⟨c1, c2, c3, c4, c5⟩ := h2.2
    exact ⟨c1.trans a1, c2.trans a2, c3.trans a3, Nat.le_trans a4 c4, fun k hk hr => (c5 k (Nat.lt_of_lt_of_le hk a4) hr).trans (a5 k hk hr)⟩
/-- Another element is put in. -/
theorem Row.Own.putAll {α : Type} {R : Row α} {w : World} {B g n c i : Nat} {l : List α} {x : α} (h : R.Own w B (.slice (some ⟨g, 0, none⟩) n c) l) (hi : l[i]? = some x) (x' : α) :
    R.Own (putC w g (i * R.k) (R.enc x')) B (.slice (some ⟨g, 0, none⟩) n c) (l.set i x') ∧ w.grownBy (putC w g (i * R.k) (R.enc x')) (some g) := by
  rcases h with ⟨h, e⟩ | ⟨rfl, A, e⟩
  · have hn : l.length = n := (Row.Own.rd (.inl ⟨h, e⟩)).1
    rw [hn] at h
    have h2 := putC_row (R.enc x') w _ (i * R.k) h
    rw [Row.cells_put hi] at h2
    refine ⟨.inl ⟨?_, e⟩, h2.2⟩
    rw [List.length_set, hn]
    exact h2.1
  · simp at hi
inductive Ix where
  | so | se | sa | sg | vr | vo
  | c (i : Nat)
  | m (i : Nat)
  deriving DecidableEq
structure Item where
  v : Value
  P : World → Prop
  st : ∀ w w', P w → (∀ g, ownB v = some g → w'.heap[g]? = w.heap[g]?) → P w'
  lt : ∀ w, P w → ∀ g, ownB v = some g → g < w.heap.size
def Row.item {α : Type} (R : Row α) (B : Nat) (v : Value) (l : List α) : Item := ⟨v, fun w => R.Own w B v l, fun w w' h k => h.stay k, fun w h => h.lt⟩
/-- All that the names name, since a world W0 of which only the blocks S may be turned. -/
structure Fam (W0 : World) (S : Nat → Prop) (w : World) (F : Ix → Item) : Prop where
  own : ∀ a, (F a).P w
  apart : ∀ a b, a ≠ b → ∀ g, ownB (F a).v = some g → ownB (F b).v ≠ some g
  only : OnlyS S W0 w
  tame : ∀ a g, ownB (F a).v = some g → S g ∨ W0.heap.size ≤ g
section
variable {W0 w w' : World} {S : Nat → Prop} {F : Ix → Item}
theorem Fam.below (h : Fam W0 S w F) (hb : Below w.heap.size w w') : Fam W0 S w' F :=
  ⟨fun a => (F a).st w w' (h.own a) fun g e => hb.block g ((F a).lt w (h.own a) g e), h.apart, h.only.below hb, h.tame⟩
def up (F : Ix → Item) (a : Ix) (x : Item) : Ix → Item := fun b => if b = a then x else F b
theorem Fam.up (h : Fam W0 S w F) (a : Ix) (x : Item) (hg : w.grownBy w' (ownB (F a).v)) (hx : x.P w') (hv : LiesB w (F a).v x.v) : Fam W0 S w' (Pk.up F a x) := by
  have hs := h.only.size
  have far : ∀ b, b ≠ a → ∀ g, ownB (F b).v = some g → ownB x.v ≠ some g := fun b hb g e e2 => by
    rcases hv with hv | hv | ⟨k, hv, hk⟩
    · rw [hv] at e2; exact h.apart b a hb g e e2
    · rw [hv] at e2; cases e2
    · rw [hv] at e2
      injection e2 with e2
      have := (F b).lt w (h.own b) g e
      omega
  refine ⟨fun b => ?_, fun b c hbc g e => ?_, ?_, fun b g e => ?_⟩
  · unfold Pk.up
    by_cases hb : b = a
    · rw [if_pos hb]; exact hx
    · rw [if_neg hb]
      exact (F b).st w w' (h.own b) fun g e => hg.block g ((F b).lt w (h.own b) g e) (fun e2 => h.apart b a hb g e e2.symm)
  · unfold Pk.up at e ⊢
    by_cases hb : b = a
    · rw [if_pos hb] at e
      rw [if_neg (fun hc => hbc (hb.trans hc.symm))]
      exact fun e2 => far c (fun hc => hbc (hb.trans hc.symm)) g e2 e
    · rw [if_neg hb] at e
      by_cases hc : c = a
      · rw [if_pos hc]; exact far b hb g e
      · rw [if_neg hc]; exact h.apart b c hbc g e
  · obtain ⟨a1, a2, a3, a4, a5⟩ := hg
    refine ⟨a1.trans h.only.os, a2.trans h.only.tape, a3.trans h.only.output, Nat.le_trans hs a4, fun i hi hn => ?_⟩
    refine (a5 i (by omega) (fun e => ?_)).trans (h.only.block i hi hn)
    rcases h.tame a i e.symm with h1 | h1
    · exact hn h1
    · omega
  · unfold Pk.up at e
    by_cases hb : b = a
    · rw [if_pos hb] at e
      rcases hv with hv | hv | ⟨k, hv, hk⟩
      · rw [hv] at e; exact h.tame a g e
      · rw [hv] at e; cases e
      · rw [hv] at e
        injection e with e
        right; omega
    · rw [if_neg hb] at e; exact h.tame b g e
end
def upd {α : Type} (f : Nat → α) (i : Nat) (x : α) : Nat → α := fun j => if j = i then x else f j
/-- A state whose lists are written over, and the two rows of them. -/
structure Sp where
  so : Sl
  os : List OwL
  se : Sl
  es : List SdL
  sa : Sl
  as_ : List Ak
  sg : Sl
  gs : List Fnd
  vr : Sl
  rl : List Sl
  vo : Sl
  ol : List Sl
  cs : Nat → Sl
  cl : Nat → List Ce
  ms : Nat → Sl
  ml : Nat → List Mg
def Sp.fam (B : Nat) (p : Sp) : Ix → Item
  | .so => owR.item B p.so.val p.os
  | .se => sdR.item B p.se.val p.es
  | .sa => akR.item B p.sa.val p.as_
  | .sg => fdR.item B p.sg.val p.gs
  | .vr => slcR.item B p.vr.val p.rl
  | .vo => slmR.item B p.vo.val p.ol
  | .c i => ceR.item B (p.cs i).val (p.cl i)
  | .m i => mgR.item B (p.ms i).val (p.ml i)
section
variable {B : Nat} {p : Sp}
end
theorem apart_at {L : List Value} (h : Apart L) {i j : Nat} (hij : i ≠ j) {u v : Value} (hi : L[i]? = some u) (hj : L[j]? = some v) {g : Nat} (e : ownB u = some g) : ownB v ≠ some g := by
  obtain ⟨h1, h2⟩ := List.getElem?_eq_some_iff.1 hi
  have e1 : L = L.take i ++ u :: L.drop (i + 1) := by rw [← h2, ← List.drop_eq_getElem_cons h1, List.take_append_drop]
  rw [e1] at h
  have hm : v ∈ L.take i ++ L.drop (i + 1) := by
    rcases Nat.lt_or_ge j i with hlt | hge
    · refine List.mem_append_left _ (List.mem_of_getElem? (i := j) ?_)
      rw [List.getElem?_take_of_lt hlt]; exact hj
    · refine List.mem_append_right _ (List.mem_of_getElem? (i := j - (i + 1)) ?_)
      rw [List.getElem?_drop, show i + 1 + (j - (i + 1)) = j by omega]; exact hj
  exact fun e2 => h.ne hm e e2 rfl
def sp0 (s : StL) : Sp := ⟨s.so, s.os, s.se, s.es, s.sa, s.as_, s.sg, s.gs, ⟨none, 0, 0⟩, [], ⟨none, 0, 0⟩, [], fun i => (s.os.getD i default).s, fun i => (s.os.getD i default).v.c, fun i => (s.es.getD i default).s, fun i => (s.es.getD i default).v.o⟩
/-- The blocks of a state of one's own. -/
def stB (s : StL) (g : Nat) : Prop := ∃ v ∈ (s.so.val :: owS s.os) ++ ((s.se.val :: sdS s.es) ++ [s.sa.val, s.sg.val]), ownB v = some g
def posI (n m : Nat) : Ix → Nat
  | .so => 0
  | .c i => 1 + i
  | .se => n + 1
  | .m i => n + 2 + i
  | .sa => n + m + 2
  | .sg => n + m + 3
  | .vr => 0
  | .vo => 0
theorem pos_at (s : StL) (B : Nat) : ∀ a g, ownB (((sp0 s).fam B) a).v = some g → (a ≠ .vr ∧ a ≠ .vo ∧ (∀ i, a = .c i → i < s.os.length) ∧ ∀ i, a = .m i → i < s.es.length) ∧ ((s.so.val :: owS s.os) ++ ((s.se.val :: sdS s.es) ++ [s.sa.val, s.sg.val]))[posI s.os.length s.es.length a]? = some (((sp0 s).fam B) a).v := by
  have ho : (owS s.os).length = s.os.length := by simp [owS]
  have he : (sdS s.es).length = s.es.length := by simp [sdS]
  intro a g e
  cases a with
  | so => exact ⟨⟨by simp, by simp, fun i h => (by cases h), fun i h => (by cases h)⟩, rfl⟩
  | vr => cases e
  | vo => cases e
  | c i =>
    rcases Nat.lt_or_ge i s.os.length with h | h
    · refine ⟨⟨by simp, by simp, fun j hj => (by cases hj; exact h), fun j hj => (by cases hj)⟩, ?_⟩
      show _[1 + i]? = some (s.os.getD i default).s.val
      rw [List.getElem?_append_left (by simp [ho]; omega), show 1 + i = i + 1 by omega, List.getElem?_cons_succ]
      simp [owS, List.getElem?_map, List.getElem?_eq_getElem h, List.getD_eq_getElem?_getD]
    · have e2 : ownB (s.os.getD i default).s.val = some g := e
      rw [List.getD_eq_getElem?_getD, List.getElem?_eq_none h] at e2
      cases e2
  | se =>
    refine ⟨⟨by simp, by simp, fun i h => (by cases h), fun i h => (by cases h)⟩, ?_⟩
    show _[s.os.length + 1]? = some s.se.val
    rw [List.getElem?_append_right (by simp [ho])]
    simp [ho]
  | m i =>
    rcases Nat.lt_or_ge i s.es.length with h | h
    · refine ⟨⟨by simp, by simp, fun j hj => (by cases hj), fun j hj => (by cases hj; exact h)⟩, ?_⟩
      show _[s.os.length + 2 + i]? = some (s.es.getD i default).s.val
      rw [List.getElem?_append_right (by simp [ho]; omega), List.getElem?_append_left (by simp [ho, he]; omega)]
      rw [show s.os.length + 2 + i - (s.so.val :: owS s.os).length = i + 1 by simp [ho]; omega, List.getElem?_cons_succ]
      simp [sdS, List.getElem?_map, List.getElem?_eq_getElem h, List.getD_eq_getElem?_getD]
    · have e2 : ownB (s.es.getD i default).s.val = some g := e
      rw [List.getD_eq_getElem?_getD, List.getElem?_eq_none h] at e2
      cases e2
  | sa =>
    refine ⟨⟨by simp, by simp, fun i h => (by cases h), fun i h => (by cases h)⟩, ?_⟩
    show _[s.os.length + s.es.length + 2]? = some s.sa.val
    rw [List.getElem?_append_right (by simp [ho]; omega), List.getElem?_append_right (by simp [ho, he]; omega)]
    rw [show s.os.length + s.es.length + 2 - (s.so.val :: owS s.os).length - (s.se.val :: sdS s.es).length = 0 by simp [ho, he]; omega]
    rfl
  | sg =>
    refine ⟨⟨by simp, by simp, fun i h => (by cases h), fun i h => (by cases h)⟩, ?_⟩
    show _[s.os.length + s.es.length + 3]? = some s.sg.val
    rw [List.getElem?_append_right (by simp [ho]; omega), List.getElem?_append_right (by simp [ho, he]; omega)]
    rw [show s.os.length + s.es.length + 3 - (s.so.val :: owS s.os).length - (s.se.val :: sdS s.es).length = 1 by simp [ho, he]; omega]
    rfl
theorem pos_inj {n m : Nat} {a b : Ix} (ha : a ≠ .vr ∧ a ≠ .vo ∧ (∀ i, a = .c i → i < n) ∧ ∀ i, a = .m i → i < m) (hb : b ≠ .vr ∧ b ≠ .vo ∧ (∀ i, b = .c i → i < n) ∧ ∀ i, b = .m i → i < m) (h : posI n m a = posI n m b) : a = b := by
  obtain ⟨a1, a2, a3, a4⟩ := ha
  obtain ⟨b1, b2, b3, b4⟩ := hb
  cases a <;> cases b <;> simp only [posI] at h <;> first | rfl | (exact absurd rfl a1) | (exact absurd rfl a2) | (exact absurd rfl b1) | (exact absurd rfl b2) | (have := a3 _ rfl; have := b3 _ rfl; exact congrArg _ (by omega)) | (have := a4 _ rfl; have := b4 _ rfl; exact congrArg _ (by omega)) | (exfalso; first | omega | (have := a3 _ rfl; omega) | (have := a4 _ rfl; omega) | (have := b3 _ rfl; omega) | (have := b4 _ rfl; omega) | (have := a3 _ rfl; have := b4 _ rfl; omega) | (have := a4 _ rfl; have := b3 _ rfl; omega))
/-- A state of one's own, as it begins. -/
theorem OwnS.fam {w : World} {B : Nat} {s : StL} (h : OwnS w B s) {S : Nat → Prop} (hS : ∀ g, stB s g → S g) : Fam w S w ((sp0 s).fam B) := by
  refine ⟨fun a => ?_, fun a b hab g e e2 => ?_, OnlyS.refl _ _, fun a g e => ?_⟩
  · cases a with
    | so => exact h.os.row
    | se => exact h.es.row
    | sa => exact h.as_
    | sg => exact h.gs
    | vr => exact Row.Own.none_ _ _
    | vo => exact Row.Own.none_ _ _
    | c i =>
      show ceR.Own w B (s.os.getD i default).s.val (s.os.getD i default).v.c
      rcases Nat.lt_or_ge i s.os.length with hi | hi
      · have e : s.os.getD i default = s.os[i] := by rw [List.getD_eq_getElem?_getD, List.getElem?_eq_getElem hi]; rfl
        rw [e]; exact h.os.each _ (List.getElem_mem hi)
      · have e : s.os.getD i default = default := by rw [List.getD_eq_getElem?_getD, List.getElem?_eq_none hi]; rfl
        rw [e]; exact Row.Own.none_ _ _
    | m i =>
      show mgR.Own w B (s.es.getD i default).s.val (s.es.getD i default).v.o
      rcases Nat.lt_or_ge i s.es.length with hi | hi
      · have e : s.es.getD i default = s.es[i] := by rw [List.getD_eq_getElem?_getD, List.getElem?_eq_getElem hi]; rfl
        rw [e]; exact h.es.each _ (List.getElem_mem hi)
      · have e : s.es.getD i default = default := by rw [List.getD_eq_getElem?_getD, List.getElem?_eq_none hi]; rfl
        rw [e]; exact Row.Own.none_ _ _
  · obtain ⟨q1, p1⟩ := pos_at s B a g e
    obtain ⟨q2, p2⟩ := pos_at s B b g e2
    exact apart_at h.apart (fun hp => hab (pos_inj q1 q2 hp)) p1 p2 e e2
  · obtain ⟨_, p1⟩ := pos_at s B a g e
    exact .inl (hS g ⟨_, List.mem_of_getElem? p1, e⟩)
end Go.Proofs.Ytiaafhcfeeekeaa.Pk

/- What is put into, and what grows behind, a row that has a name. -/
namespace Go.Proofs.Ytiaafhcfeeekeaa.Pk
open Go.RowKit
set_option linter.unusedVariables false
section
variable {α : Type} {R : Row α} {W0 w w1 w2 : World} {S : Nat → Prop} {F : Ix → Item} {B g n c i : Nat} {l l' : List α} {v v' : Value}
theorem Fam.row (h : Fam W0 S w F) (a : Ix) (hF : F a = R.item B v l) : R.Own w B v l := by
  have := h.own a
  rw [hF] at this
  exact this
theorem Fam.put (h : Fam W0 S w F) (a : Ix) (hF : F a = R.item B (.slice (some ⟨g, 0, none⟩) n c) l) (hc : c ≠ 0) {x : α} (hi : l[i]? = some x) (y : α) :
    Fam W0 S (putC w g (i * R.k) (R.enc y)) (Pk.up F a (R.item B (.slice (some ⟨g, 0, none⟩) n c) (l.set i y))) := by
  have ho := (h.row a hF).putAll hi y
  refine h.up a (R.item B (.slice (some ⟨g, 0, none⟩) n c) (l.set i y)) ?_ ho.1 (.inl ?_)
  · rw [hF]
    show w.grownBy _ (ownB (.slice (some ⟨g, 0, none⟩) n c))
    rw [ownB_some hc]; exact ho.2
  · rw [hF]; rfl
theorem Fam.app (h : Fam W0 S w F) (a : Ix) (hF : F a = R.item B v l) (hb : Below w.heap.size w w1) (ho : R.Own w2 B v' l') (hg : w1.grownBy w2 (ownB v)) (hl : LiesB w1 v v') : Fam W0 S w2 (Pk.up F a (R.item B v' l')) := by
  refine (h.below hb).up a (R.item B v' l') ?_ ho ?_
  · rw [hF]; exact hg
  · rw [hF]; exact hl
theorem Row.Own.at_ (h : R.Own w B (.slice (some ⟨g, 0, none⟩) n c) l) {x : α} (hi : l[i]? = some x) {j : Nat} {u : Value} (hu : (R.enc x)[j]? = some u) : w.cell? ⟨g, i * R.k + j, none⟩ = some u := by
  have hn : 0 < n := by
    have h1 := h.rd.1
    have h2 := (List.getElem?_eq_some_iff.1 hi).1
    omega
  obtain ⟨g', e, _, _, _, _, hc⟩ := h.cell hn
  injection e with e
  injection e with e _ _
  subst e
  exact hc i x hi j u hu
end
end Go.Proofs.Ytiaafhcfeeekeaa.Pk

/- A state of one's own, of which one part is turned. -/
namespace Go.Proofs.Ytiaafhcfeeekeaa.Pk
open Go.RowKit Go.Proofs.Ytiaafhcfeeekeaa.Gr
set_option linter.unusedVariables false
/-- All the lists of a state. -/
def stV (s : StL) : List Value := (s.so.val :: owS s.os) ++ ((s.se.val :: sdS s.es) ++ [s.sa.val, s.sg.val])
theorem Apart.set {L : List Value} (h : Apart L) {i : Nat} {x v' : Value} (hi : L[i]? = some x) (hv : ownB v' = ownB x ∨ ownB v' = none ∨ ∃ g, ownB v' = some g ∧ Under g L) : Apart (L.set i v') := by
  obtain ⟨h1, h2⟩ := List.getElem?_eq_some_iff.1 hi
  have e1 : L = L.take i ++ x :: L.drop (i + 1) := by rw [← h2, ← List.drop_eq_getElem_cons h1, List.take_append_drop]
  have e2 : L.set i v' = L.take i ++ v' :: L.drop (i + 1) := by
    conv => lhs; rw [e1]
    rw [List.set_append_right _ _ (by rw [List.length_take]; omega), List.length_take, show i - min i L.length = 0 by omega, List.set_cons_zero]
  have h3 : Apart (x :: (L.take i ++ L.drop (i + 1))) := by
    rw [e1] at h
    exact h.perm List.perm_middle
  rw [e2]
  refine (h3.swap (hv.imp id (Or.imp id fun ⟨g, e, hu⟩ => ⟨g, e, fun u hm k hk => hu u ?_ k hk⟩))).perm List.perm_middle.symm
  rw [e1]
  rcases List.mem_append.1 hm with hm | hm
  · exact List.mem_append_left _ hm
  · exact List.mem_append_right _ (List.mem_cons_of_mem _ hm)
/-- Lists at two places share no block. -/
theorem Apart.at2 {L : List Value} (h : Apart L) {i j : Nat} (hij : i ≠ j) {u v : Value} (hi : L[i]? = some u) (hj : L[j]? = some v) {g : Nat} (e : ownB u = some g) : ownB v ≠ some g := apart_at h hij hi hj e
section
variable {w w1 w' : World} {B : Nat} {s : StL}
theorem OwnS.mem (h : OwnS w B s) : ∀ u ∈ stV s, ∀ g, ownB u = some g → B ≤ g ∧ g < w.heap.size := by
  intro v hv g e
  rcases List.mem_append.1 hv with hv | hv
  · exact ⟨h.os.over v hv g e, h.os.under v hv g e⟩
  · rcases List.mem_append.1 hv with hv | hv
    · exact ⟨h.es.over v hv g e, h.es.under v hv g e⟩
    · rcases List.mem_cons.1 hv with rfl | hv
      · exact ⟨h.as_.base g e, h.as_.lt g e⟩
      · rw [List.mem_singleton.1 hv] at e; exact ⟨h.gs.base g e, h.gs.lt g e⟩
theorem OwnS.undr (h : OwnS w B s) : Under w.heap.size (stV s) := fun u hu g e => (h.mem u hu g e).2
theorem at_so : (stV s)[0]? = some s.so.val := rfl
theorem at_oc {k : Nat} {o : OwL} (hk : s.os[k]? = some o) : (stV s)[1 + k]? = some o.s.val := by
  have hl := (List.getElem?_eq_some_iff.1 hk).1
  unfold stV
  rw [List.getElem?_append_left (by simp [owS]; omega), show 1 + k = k + 1 by omega, List.getElem?_cons_succ]
  simp [owS, List.getElem?_map, hk]
theorem at_se : (stV s)[s.os.length + 1]? = some s.se.val := by
  unfold stV
  rw [List.getElem?_append_right (by simp [owS])]
  simp [owS]
theorem at_em {i : Nat} {e : SdL} (hi : s.es[i]? = some e) : (stV s)[s.os.length + 2 + i]? = some e.s.val := by
  have hl := (List.getElem?_eq_some_iff.1 hi).1
  unfold stV
  rw [List.getElem?_append_right (by simp [owS]; omega), List.getElem?_append_left (by simp [owS, sdS]; omega)]
  rw [show s.os.length + 2 + i - (s.so.val :: owS s.os).length = i + 1 by simp [owS]; omega, List.getElem?_cons_succ]
  simp [sdS, List.getElem?_map, hi]
theorem at_sa : (stV s)[s.os.length + s.es.length + 2]? = some s.sa.val := by
  unfold stV
  rw [List.getElem?_append_right (by simp [owS]; omega), List.getElem?_append_right (by simp [owS, sdS]; omega)]
  rw [show s.os.length + s.es.length + 2 - (s.so.val :: owS s.os).length - (s.se.val :: sdS s.es).length = 0 by simp [owS, sdS]; omega]
  rfl
theorem at_sg : (stV s)[s.os.length + s.es.length + 3]? = some s.sg.val := by
  unfold stV
  rw [List.getElem?_append_right (by simp [owS]; omega), List.getElem?_append_right (by simp [owS, sdS]; omega)]
  rw [show s.os.length + s.es.length + 3 - (s.so.val :: owS s.os).length - (s.se.val :: sdS s.es).length = 1 by simp [owS, sdS]; omega]
  rfl
theorem mem_stV {u : Value} : u ∈ stV s ↔ u = s.so.val ∨ u ∈ owS s.os ∨ u = s.se.val ∨ u ∈ sdS s.es ∨ u = s.sa.val ∨ u = s.sg.val := by
  unfold stV
  simp only [List.mem_append, List.mem_cons, List.not_mem_nil, or_false, or_assoc]
theorem OwnS.apO (h : Apart (stV s)) : Apart (s.so.val :: owS s.os) := by
  unfold Apart stV at *
  rw [blks_app, List.nodup_append] at h
  exact h.1
theorem OwnS.apE (h : Apart (stV s)) : Apart (s.se.val :: sdS s.es) := by
  unfold Apart stV at *
  rw [blks_app, List.nodup_append, blks_app, List.nodup_append] at h
  exact h.2.1.1
theorem OwnS.stay_ (h : OwnS w B s) (hk : ∀ u ∈ stV s, ∀ g, ownB u = some g → w'.heap[g]? = w.heap[g]?) : OwnS w' B s :=
  ⟨h.os.stay_ fun g u hu e => hk u (List.mem_append_left _ hu) g e, h.es.stay_ fun g u hu e => hk u (List.mem_append_right _ (List.mem_append_left _ hu)) g e,
    h.as_.stay fun g e => hk _ (mem_stV.2 (by simp)) g e, h.gs.stay fun g e => hk _ (mem_stV.2 (by simp)) g e, h.apart⟩
/-- An object is turned: its list lies where it lay, nowhere, or above all. -/
theorem OwnS.setO (h : OwnS w B s) {k : Nat} {o o' : OwL} (hk : s.os[k]? = some o) (hrow : owR.Own w' B s.so.val (s.os.set k o')) (hoth : ∀ g, ownB s.so.val ≠ some g → g < w.heap.size → w'.heap[g]? = w.heap[g]?)
    (hc : ceR.Own w' B o'.s.val o'.v.c) (hap : ownB o'.s.val = ownB o.s.val ∨ ownB o'.s.val = none ∨ ∃ g, ownB o'.s.val = some g ∧ Under g (stV s)) : OwnS w' B {s with os := s.os.set k o'} := by
  have hl := (List.getElem?_eq_some_iff.1 hk).1
  have ap : Apart (stV {s with os := s.os.set k o'}) := by
    have h1 := Apart.set (L := stV s) h.apart (at_oc hk) hap
    have e : stV {s with os := s.os.set k o'} = (stV s).set (1 + k) o'.s.val := by
      unfold stV
      rw [List.set_append_left _ _ (by simp [owS]; omega), show 1 + k = k + 1 by omega, List.set_cons_succ]
      simp [owS, List.map_set]
    rw [e]; exact h1
  have far : ∀ j u, j ≠ 0 → (stV s)[j]? = some u → ∀ g, ownB u = some g → w'.heap[g]? = w.heap[g]? := fun j u hj hu g e =>
    hoth g (fun e2 => Apart.at2 (L := stV s) h.apart (i := 0) (j := j) (by omega) at_so hu e2 e) (h.mem u (List.mem_of_getElem? hu) g e).2
  refine ⟨⟨hrow, fun x hx => ?_, OwnS.apO ap⟩, h.es.stay_ fun g u hu e => ?_, h.as_.stay (far _ _ (by omega) at_sa), h.gs.stay (far _ _ (by omega) at_sg), ap⟩
  · obtain ⟨j, hj⟩ := List.getElem?_of_mem hx
    have hj0 : (s.os.set k o')[j]? = some x := hj
    rw [List.getElem?_set] at hj0
    by_cases e : k = j
    · rw [if_pos e, if_pos hl] at hj0
      injection hj0 with hj0; rw [← hj0]; exact hc
    · rw [if_neg e] at hj0
      exact (h.os.each x (List.mem_of_getElem? hj0)).stay (far _ _ (by omega) (at_oc hj0))
  · rcases List.mem_cons.1 hu with rfl | hu
    · exact far _ _ (by omega) at_se g e
    · obtain ⟨x, hx, rfl⟩ := List.mem_map.1 hu
      obtain ⟨j, hj⟩ := List.getElem?_of_mem hx
      exact far _ _ (by omega) (at_em hj) g e
theorem OwnS.setE (h : OwnS w B s) {k : Nat} {o o' : SdL} (hk : s.es[k]? = some o) (hrow : sdR.Own w' B s.se.val (s.es.set k o')) (hoth : ∀ g, ownB s.se.val ≠ some g → g < w.heap.size → w'.heap[g]? = w.heap[g]?)
    (hc : mgR.Own w' B o'.s.val o'.v.o) (hap : ownB o'.s.val = ownB o.s.val ∨ ownB o'.s.val = none ∨ ∃ g, ownB o'.s.val = some g ∧ Under g (stV s)) : OwnS w' B {s with es := s.es.set k o'} := by
  have hl := (List.getElem?_eq_some_iff.1 hk).1
  have ap : Apart (stV {s with es := s.es.set k o'}) := by
    have h1 := Apart.set (L := stV s) h.apart (at_em hk) hap
    have e : stV {s with es := s.es.set k o'} = (stV s).set (s.os.length + 2 + k) o'.s.val := by
      unfold stV
      rw [List.set_append_right _ _ (by simp [owS]; omega), List.set_append_left _ _ (by simp [owS, sdS]; omega), show s.os.length + 2 + k - (s.so.val :: owS s.os).length = k + 1 by simp [owS]; omega, List.set_cons_succ]
      simp [sdS, List.map_set]
    rw [e]; exact h1
  have far : ∀ j u, j ≠ s.os.length + 1 → (stV s)[j]? = some u → ∀ g, ownB u = some g → w'.heap[g]? = w.heap[g]? := fun j u hj hu g e =>
    hoth g (fun e2 => Apart.at2 (L := stV s) h.apart (i := s.os.length + 1) (j := j) (fun x => hj x.symm) at_se hu e2 e) (h.mem u (List.mem_of_getElem? hu) g e).2
  refine ⟨h.os.stay_ fun g u hu e => ?_, ⟨hrow, fun x hx => ?_, OwnS.apE ap⟩, h.as_.stay (far _ _ (by omega) at_sa), h.gs.stay (far _ _ (by omega) at_sg), ap⟩
  · rcases List.mem_cons.1 hu with rfl | hu
    · exact far _ _ (by omega) at_so g e
    · obtain ⟨x, hx, rfl⟩ := List.mem_map.1 hu
      obtain ⟨j, hj⟩ := List.getElem?_of_mem hx
      exact far _ _ (by have := (List.getElem?_eq_some_iff.1 hj).1; omega) (at_oc hj) g e
  · obtain ⟨j, hj⟩ := List.getElem?_of_mem hx
    have hj0 : (s.es.set k o')[j]? = some x := hj
    rw [List.getElem?_set] at hj0
    by_cases e : k = j
    · rw [if_pos e, if_pos hl] at hj0
      injection hj0 with hj0; rw [← hj0]; exact hc
    · rw [if_neg e] at hj0
      exact (h.es.each x (List.mem_of_getElem? hj0)).stay (far _ _ (by omega) (at_em hj0))
/-- The open locates are turned; the answered ones. -/
theorem OwnS.setA (h : OwnS w B s) {v' : Sl} {l' : List Ak} (hrow : akR.Own w' B v'.val l') (hoth : ∀ g, ownB s.sa.val ≠ some g → g < w.heap.size → w'.heap[g]? = w.heap[g]?)
    (hap : ownB v'.val = ownB s.sa.val ∨ ownB v'.val = none ∨ ∃ g, ownB v'.val = some g ∧ Under g (stV s)) : OwnS w' B {s with as_ := l', sa := v'} := by
  have ap : Apart (stV {s with as_ := l', sa := v'}) := by
    have h1 := Apart.set (L := stV s) h.apart at_sa hap
    have e : stV {s with as_ := l', sa := v'} = (stV s).set (s.os.length + s.es.length + 2) v'.val := by
      unfold stV
      rw [List.set_append_right _ _ (by simp [owS]; omega), List.set_append_right _ _ (by simp [owS, sdS]; omega), show s.os.length + s.es.length + 2 - (s.so.val :: owS s.os).length - (s.se.val :: sdS s.es).length = 0 by simp [owS, sdS]; omega]
      rfl
    rw [e]; exact h1
  have far : ∀ j u, j ≠ s.os.length + s.es.length + 2 → (stV s)[j]? = some u → ∀ g, ownB u = some g → w'.heap[g]? = w.heap[g]? := fun j u hj hu g e =>
    hoth g (fun e2 => Apart.at2 (L := stV s) h.apart (i := s.os.length + s.es.length + 2) (j := j) (fun x => hj x.symm) at_sa hu e2 e) (h.mem u (List.mem_of_getElem? hu) g e).2
  refine ⟨h.os.stay_ fun g u hu e => ?_, h.es.stay_ fun g u hu e => ?_, hrow, h.gs.stay (far _ _ (by omega) at_sg), ap⟩
  · rcases List.mem_cons.1 hu with rfl | hu
    · exact far _ _ (by omega) at_so g e
    · obtain ⟨x, hx, rfl⟩ := List.mem_map.1 hu
      obtain ⟨j, hj⟩ := List.getElem?_of_mem hx
      exact far _ _ (by have := (List.getElem?_eq_some_iff.1 hj).1; omega) (at_oc hj) g e
  · rcases List.mem_cons.1 hu with rfl | hu
    · exact far _ _ (by omega) at_se g e
    · obtain ⟨x, hx, rfl⟩ := List.mem_map.1 hu
      obtain ⟨j, hj⟩ := List.getElem?_of_mem hx
      exact far _ _ (by have := (List.getElem?_eq_some_iff.1 hj).1; omega) (at_em hj) g e
theorem OwnS.setG (h : OwnS w B s) {v' : Sl} {l' : List Fnd} (hrow : fdR.Own w' B v'.val l') (hoth : ∀ g, ownB s.sg.val ≠ some g → g < w.heap.size → w'.heap[g]? = w.heap[g]?)
    (hap : ownB v'.val = ownB s.sg.val ∨ ownB v'.val = none ∨ ∃ g, ownB v'.val = some g ∧ Under g (stV s)) : OwnS w' B {s with gs := l', sg := v'} := by
  have ap : Apart (stV {s with gs := l', sg := v'}) := by
    have h1 := Apart.set (L := stV s) h.apart at_sg hap
    have e : stV {s with gs := l', sg := v'} = (stV s).set (s.os.length + s.es.length + 3) v'.val := by
      unfold stV
      rw [List.set_append_right _ _ (by simp [owS]; omega), List.set_append_right _ _ (by simp [owS, sdS]; omega), show s.os.length + s.es.length + 3 - (s.so.val :: owS s.os).length - (s.se.val :: sdS s.es).length = 1 by simp [owS, sdS]; omega]
      rfl
    rw [e]; exact h1
  have far : ∀ j u, j ≠ s.os.length + s.es.length + 3 → (stV s)[j]? = some u → ∀ g, ownB u = some g → w'.heap[g]? = w.heap[g]? := fun j u hj hu g e =>
    hoth g (fun e2 => Apart.at2 (L := stV s) h.apart (i := s.os.length + s.es.length + 3) (j := j) (fun x => hj x.symm) at_sg hu e2 e) (h.mem u (List.mem_of_getElem? hu) g e).2
  refine ⟨h.os.stay_ fun g u hu e => ?_, h.es.stay_ fun g u hu e => ?_, h.as_.stay (far _ _ (by omega) at_sa), hrow, ap⟩
  · rcases List.mem_cons.1 hu with rfl | hu
    · exact far _ _ (by omega) at_so g e
    · obtain ⟨x, hx, rfl⟩ := List.mem_map.1 hu
      obtain ⟨j, hj⟩ := List.getElem?_of_mem hx
      exact far _ _ (by have := (List.getElem?_eq_some_iff.1 hj).1; omega) (at_oc hj) g e
  · rcases List.mem_cons.1 hu with rfl | hu
    · exact far _ _ (by omega) at_se g e
    · obtain ⟨x, hx, rfl⟩ := List.mem_map.1 hu
      obtain ⟨j, hj⟩ := List.getElem?_of_mem hx
      exact far _ _ (by have := (List.getElem?_eq_some_iff.1 hj).1; omega) (at_em hj) g e
end
/-- A slice without its first elements. -/
def Sl.cut (v : Sl) (k : Nat) : Sl := ⟨v.A.map fun a => ⟨a.block, a.off + k * 3, none⟩, v.n - k, v.c - k⟩
/-- A state of one's own whose answered locates may be the last ones of a row. -/
def OwnX (w : World) (B : Nat) (s : StL) : Prop := OwnS w B s ∨ ∃ v0 l0, OwnS w B {s with sg := v0, gs := l0} ∧ (∃ g n c, v0 = ⟨some ⟨g, 0, none⟩, n + 1, c⟩ ∧ s.sg = ⟨some ⟨g, 3, none⟩, n, c - 1⟩) ∧ s.gs = l0.drop 1
theorem OwnS.x {w : World} {B : Nat} {s : StL} (h : OwnS w B s) : OwnX w B s := .inl h
theorem OwnX.below {w w' : World} {B : Nat} {s : StL} (h : OwnX w B s) (hb : Below w.heap.size w w') : OwnX w' B s := h.imp (fun h => h.below hb) fun ⟨v0, l0, h1, h2⟩ => ⟨v0, l0, h1.below hb, h2⟩
theorem OwnX.low {w : World} {B B' : Nat} {s : StL} (h : OwnX w B s) (hB : B' ≤ B) : OwnX w B' s := h.imp (fun h => h.low hB) fun ⟨v0, l0, h1, h2⟩ => ⟨v0, l0, h1.low hB, h2⟩
/-- The answered locates, read. -/
theorem OwnX.gs {w : World} {B : Nat} {s : StL} (h : OwnX w B s) : s.gs.length = s.sg.n ∧ s.sg.n ≤ s.sg.c ∧ Reads w w.heap.size 3 s.sg.A s.sg.n (fdR.cells s.gs) := by
  rcases h with h | ⟨v0, l0, h, ⟨g, n, c, rfl, e⟩, e2⟩
  · exact Row.Own.rd (R := fdR) h.gs
  · obtain ⟨h1, h2, h3⟩ := Row.Own.rd (R := fdR) h.gs
    simp only at h1 h2 h3
    rw [e, e2]
    refine ⟨by rw [List.length_drop]; simp only; omega, by simp only; omega, ?_⟩
    simp only
    refine ⟨by rw [Row.cells_length, List.length_drop]; show _ * 3 = _; omega, fun hn => ?_⟩
    obtain ⟨ad, e3, hb, hc⟩ := h3.2 (by omega)
    injection e3 with e3
    subst e3
    refine ⟨_, rfl, hb, fun j u hu => ?_⟩
    have e4 : fdR.cells (l0.drop 1) = (fdR.cells l0).drop 3 := by
      cases l0 with
      | nil => simp at h1
      | cons x r => rw [List.drop_succ_cons, List.drop_zero, Row.cells_cons]; rfl
    rw [e4, List.getElem?_drop] at hu
    have := hc (3 + j) u hu
    rw [← this]
    congr 1
    unfold Addr.add
    by_cases hj : j = 0 <;> simp [hj]
theorem OwnX.few {w : World} {B : Nat} {s : StL} (h : OwnX w B s) (hf : FewS s.v) : InS w s := by
  have hg := h.gs
  rcases h with h | ⟨v0, l0, h, ⟨g, n, c, e0, e⟩, e2⟩
  · exact h.few hf
  · have hr : InR fdR w s.sg s.gs := ⟨hg.2.2, hg.2.1, by have := hf.gs; rw [← hg.1]; exact this⟩
    have hl0 : l0.length = n + 1 := by have := (Row.Own.rd (R := fdR) h.gs).1; rw [e0] at this; exact this
    have rd : ∀ {α : Type} {R : Row α} {sl : Sl} {l : List α}, R.Own w B sl.val l → l.length * R.by_ ≤ 140737488351232 → InR R w sl l := by
      intro α R sl l ho hl
      obtain ⟨h1, h2, h3⟩ := Row.Own.rd ho
      exact ⟨h3, h2, by rw [← h1]; exact hl⟩
    have ho : ∀ x ∈ s.os, x.v ∈ s.v.os := fun x hx => List.mem_map.2 ⟨x, hx, rfl⟩
    have he : ∀ x ∈ s.es, x.v ∈ s.v.es := fun x hx => List.mem_map.2 ⟨x, hx, rfl⟩
    refine ⟨hf.me, hf.q, rd h.os.row (by have := hf.os; unfold StL.v at this; simp only [List.length_map] at this; exact this), rd h.es.row (by have := hf.es; unfold StL.v at this; simp only [List.length_map] at this; exact this), rd h.as_ hf.as_, hr, fun x hx => ?_, fun x hx => ?_, hf.a, hf.g⟩
    · obtain ⟨h1, h2, h3, h4⟩ := hf.o _ (ho x hx)
      exact ⟨h1, h2, rd (h.os.each x hx) h3, h4⟩
    · obtain ⟨h1, h2, h3, h4, h5⟩ := hf.e _ (he x hx)
      exact ⟨h1, h2, h3, rd (h.es.each x hx) h4, h5⟩
theorem OwnX.stayX {w w' : World} {B : Nat} {s : StL} (h : OwnX w B s) (hk : ∀ x, B ≤ x → x < w.heap.size → w'.heap[x]? = w.heap[x]?) : OwnX w' B s :=
  h.imp (fun h => h.stay_ fun u hu x e => hk x (h.mem u hu x e).1 (h.mem u hu x e).2) fun ⟨v0, l0, h1, h2⟩ => ⟨v0, l0, h1.stay_ fun u hu x e => hk x (h1.mem u hu x e).1 (h1.mem u hu x e).2, h2⟩
theorem OwnX.os_ {w : World} {B : Nat} {s : StL} (h : OwnX w B s) : OwnO w B s.so.val s.os := h.elim (fun h => h.os) fun ⟨_, _, h, _⟩ => h.os
end Go.Proofs.Ytiaafhcfeeekeaa.Pk

/- What package core promises (to be proved of the code that lands). -/
namespace Go.Proofs.Ytiaafhcfeeekeaa.Pk
open Go.RowKit Go.Proofs.Ytiaafhcfeeekeaa.Gr
set_option linter.unusedVariables false
def Ev.val (ev : Ev) : Value := .agg #[.int .i64 ev.k, .int .i64 ev.o, .int .i64 ev.g.f, .int .i64 ev.g.t, .int .i64 ev.g.a, .int .i64 ev.g.s, .int .i64 ev.g.m.k, .int .i64 ev.g.m.o, .int .i64 ev.g.m.n, .int .i64 ev.g.m.u, .int .i64 ev.g.m.v]
/-- Eleven ints. -/
structure Ev.I (ev : Ev) : Prop where
  k : I64 ev.k
  o : I64 ev.o
  g : ev.g.I
def CoApplyP : Prop := ∀ (T g : Nat) (ps : List Int) (s : StL) (ev : Ev) (w : World), IsTr w T g ps → Gr.Good ps → InS w s → ev.I →
  Calls Try.prog 13 #[.pointer (some ⟨T, 0, none⟩), s.val, ev.val] w fun e w' => ∃ s2 : StL, e = .returned (.tuple #[s2.val, .int .i64 (applyS ps s.v ev).2.1, .int .i64 (applyS ps s.v ev).2.2]) ∧ s2.v = (applyS ps s.v ev).1 ∧ OwnX w' w.heap.size s2 ∧ Below w.heap.size w w'
def CoApplyZ : Prop := ∀ (s : StL) (ev : Ev) (w : World), InS w s → ev.I →
  Calls Try.prog 13 #[.pointer none, s.val, ev.val] w fun e w' => ∃ s2 : StL, e = .returned (.tuple #[s2.val, .int .i64 0, .int .i64 2]) ∧ s2.v = St.zero ∧ OwnX w' w.heap.size s2 ∧ Below w.heap.size w w'
end Go.Proofs.Ytiaafhcfeeekeaa.Pk
