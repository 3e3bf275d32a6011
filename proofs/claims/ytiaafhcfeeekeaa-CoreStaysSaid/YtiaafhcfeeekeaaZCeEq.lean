/- What an event makes of a node's state: the model. -/
import Derived.Test.YtiaafhcfeeekeaaZStMath
import Derived.Test.YtiaafhcfeeekeaaZGmMath
import Derived.Test.YtiaafhcfeeekeaaZHfMath
import Derived.Test.YtiaafhcfeeekeaaZChFacts
import Derived.Test.YtiaafhcfeeekeaaZCeVal
import Derived.Maps.AppendAt
import Derived.OwnWalk
import Derived.Deep.AppendLies
import Derived.Deep.RegionLaw
import Derived.Deep.RegionLawGrows
import Derived.Outline
namespace Go.Proofs.Ytiaafhcfeeekeaa.Pk
open Go.Proofs.Ytiaafhcfeeekeaa.Gr
set_option linter.unusedVariables false
/-- An event. -/
structure Ev where
  k : Int
  o : Int
  g : Gm
  deriving DecidableEq
def objA (s : St) (k : Nat) : Ow := s.os.getD k ⟨0, 0, []⟩
def setO (s : St) (k : Nat) (o : Ow) : St := { s with os := s.os.set k o }
def sideA (s : St) (i : Nat) : Hf := s.es.getD i Hf.zero
def setE (s : St) (i : Nat) (e : Hf) : St := { s with es := s.es.set i e }
/-- Where the side to a neighbour stands. -/
def edgeAt (s : St) (p : Int) : Option Nat := s.es.findIdx? fun e => decide (e.p = p)
def pushS (s : St) (p : Int) (m : Mg) : St × Int :=
  match edgeAt s p with
  | none => (s, 0)
  | some i => if (hpush (sideA s i) m).2 = 0 then (setE s i (hpush (sideA s i) m).1, 0) else (s, (hpush (sideA s i) m).2)
def holdK (l : List Ce) : List Ce := l.set 0 ⟨(ceA l 0).n, 2, (ceA l 0).d, (ceA l 0).x⟩
/-- A Pass that came. -/
def passS (s : St) (m : Mg) : St :=
  if 0 < (objA s m.o.toNat).c.length ∧ (ceA (objA s m.o.toNat).c 0).n = m.u ∧ (ceA (objA s m.o.toNat).c 0).s = 1
  then setO s m.o.toNat ⟨(objA s m.o.toNat).a, (objA s m.o.toNat).m, holdK (objA s m.o.toNat).c⟩ else s
def last4 (l : List Fnd) : List Fnd := if 4 < l.length then l.drop 1 else l
/-- A Tell that came. -/
def tellS (s : St) (m : Mg) : St :=
  if (⟨m.o, m.u⟩ : Ak) ∈ s.as_ then { s with as_ := s.as_.filter (fun a => decide (a ≠ ⟨m.o, m.u⟩)), gs := last4 (s.gs ++ [⟨m.o, m.u, m.v⟩]) } else s
def towardS (ps : List Int) (s : St) (m : Mg) : St × Int :=
  if m.n ≠ s.me then pushS s (nextI ps s.me m.n) m else if m.k = 2 then (passS s m, 0) else (tellS s m, 0)
def seekS (ps : List Int) (s : St) (m : Mg) : St × Int :=
  if (objA s m.o.toNat).a ≠ s.me then pushS s (objA s m.o.toNat).a m else towardS ps s ⟨4, m.o, m.n, m.u, s.me⟩
def findS (ps : List Int) (s : St) (from_ : Int) (m : Mg) : St × Int :=
  if m.n = s.me then (s, 0)
  else if (objA s m.o.toNat).a ≠ s.me then pushS (setO s m.o.toNat ⟨from_, (objA s m.o.toNat).m, (objA s m.o.toNat).c⟩) (objA s m.o.toNat).a m
  else if (succK (objA s m.o.toNat).c m.n m.u).2 = true then towardS ps (setO s m.o.toNat ⟨from_, (objA s m.o.toNat).m, (succK (objA s m.o.toNat).c m.n m.u).1⟩) ⟨2, m.o, m.n, m.u, 0⟩
  else (setO s m.o.toNat ⟨from_, (objA s m.o.toNat).m, (succK (objA s m.o.toNat).c m.n m.u).1⟩, 0)
def comeS (ps : List Int) (s : St) (from_ : Int) (m : Mg) : St × Int :=
  if m.k = 3 then seekS ps s m else if m.k ≠ 1 then towardS ps s m else findS ps s from_ m
/-- What a sink's own request makes of its cells. -/
def ownK (l : List Ce) (me num : Int) : List Ce := if (succK l me num).2 = true then holdK (addK (succK l me num).1 num) else addK (succK l me num).1 num
def acqS (s : St) (k : Nat) : St × Int × Int :=
  if 8 ≤ sumK s.os then (s, 0, 21)
  else if (objA s k).m = 1099511627776 then (s, 0, 23)
  else if (objA s k).a = s.me then (setO s k ⟨s.me, (objA s k).m + 1, ownK (objA s k).c s.me ((objA s k).m + 1)⟩, (objA s k).m + 1, 0)
  else if (pushS s (objA s k).a ⟨1, (k : Int), s.me, (objA s k).m + 1, 0⟩).2 = 0
    then (setO (pushS s (objA s k).a ⟨1, (k : Int), s.me, (objA s k).m + 1, 0⟩).1 k ⟨s.me, (objA s k).m + 1, addK (objA s k).c ((objA s k).m + 1)⟩, (objA s k).m + 1, 0)
  else (s, 0, (pushS s (objA s k).a ⟨1, (k : Int), s.me, (objA s k).m + 1, 0⟩).2)
def relS (ps : List Int) (s : St) (k : Nat) : St × Int :=
  if (relK (objA s k).c).2.2.2 ≠ 0 then (s, (relK (objA s k).c).2.2.2)
  else if (relK (objA s k).c).2.1 = -1 then (setO s k ⟨(objA s k).a, (objA s k).m, (relK (objA s k).c).1⟩, 0)
  else towardS ps (setO s k ⟨(objA s k).a, (objA s k).m, (relK (objA s k).c).1⟩) ⟨2, (k : Int), (relK (objA s k).c).2.1, (relK (objA s k).c).2.2.1, 0⟩
def locS (ps : List Int) (s : St) (k : Nat) : St × Int × Int :=
  if 4 ≤ s.as_.length then (s, 0, 21)
  else if s.q = 1099511627776 then (s, 0, 23)
  else ((seekS ps { s with q := s.q + 1, as_ := s.as_ ++ [⟨(k : Int), s.q + 1⟩] } ⟨3, (k : Int), s.me, s.q + 1, 0⟩).1, s.q + 1, (seekS ps { s with q := s.q + 1, as_ := s.as_ ++ [⟨(k : Int), s.q + 1⟩] } ⟨3, (k : Int), s.me, s.q + 1, 0⟩).2)
/-- A datagram that can come. -/
def ComesS (ps : List Int) (s : St) (g : Gm) : Prop := g.Be ∧ g.t = s.me ∧ g.f ∈ nbsI ps s.me ∧ (g.s = 0 ∨ MeantS (ps.length : Int) (s.os.length : Int) g.m)
instance (ps : List Int) (s : St) (g : Gm) : Decidable (ComesS ps s g) := by unfold ComesS; exact inferInstance
def gramS (ps : List Int) (s : St) (g : Gm) : St × Int :=
  if ¬ ComesS ps s g then (s, 25)
  else match edgeAt s g.f with
    | none => (s, 0)
    | some i =>
      if 0 < g.s ∧ hfits (hheard (sideA s i) g.a).1 g.s = true then comeS ps (setE s i (hheard (sideA s i) g.a).1.one) g.f g.m
      else (setE s i (hheard (sideA s i) g.a).1, 0)
def stepS (ps : List Int) (s : St) (ev : Ev) : St × Int × Int :=
  if ev.k < 1 ∨ 4 < ev.k then (s, 0, 25)
  else if ev.k = 4 then ((gramS ps s ev.g).1, 0, (gramS ps s ev.g).2)
  else if ev.o < 0 ∨ (s.os.length : Int) ≤ ev.o then (s, 0, 20)
  else if ev.k = 1 then acqS s ev.o.toNat
  else if ev.k = 2 then ((relS ps s ev.o.toNat).1, 0, (relS ps s ev.o.toNat).2)
  else locS ps s ev.o.toNat
open Classical in
/-- What Apply answers. -/
noncomputable def applyS (ps : List Int) (s : St) (ev : Ev) : St × Int × Int :=
  if GoodS ps s then (if (stepS ps s ev).2.2 = 0 then stepS ps s ev else (St.zero, 0, (stepS ps s ev).2.2)) else (St.zero, 0, 24)
theorem applyS_bad {ps : List Int} {s : St} {ev : Ev} (h : ¬ GoodS ps s) : applyS ps s ev = (St.zero, 0, 24) := if_neg h
theorem applyS_ok {ps : List Int} {s : St} {ev : Ev} (h : GoodS ps s) (he : (stepS ps s ev).2.2 = 0) : applyS ps s ev = stepS ps s ev := by unfold applyS; rw [if_pos h, if_pos he]
theorem applyS_err {ps : List Int} {s : St} {ev : Ev} (h : GoodS ps s) (he : (stepS ps s ev).2.2 ≠ 0) : applyS ps s ev = (St.zero, 0, (stepS ps s ev).2.2) := by unfold applyS; rw [if_pos h, if_neg he]
end Go.Proofs.Ytiaafhcfeeekeaa.Pk

/- Datagrams as they lie. -/
namespace Go.Proofs.Ytiaafhcfeeekeaa.Pk
open Go.RowKit
set_option linter.unusedVariables false
def Gm.val (g : Gm) : Value := .agg #[.int .i64 g.f, .int .i64 g.t, .int .i64 g.a, .int .i64 g.s, .int .i64 g.m.k, .int .i64 g.m.o, .int .i64 g.m.n, .int .i64 g.m.u, .int .i64 g.m.v]
/-- Nine ints. -/
structure Gm.I (g : Gm) : Prop where
  f : -9223372036854775808 ≤ g.f ∧ g.f ≤ 9223372036854775807
  t : -9223372036854775808 ≤ g.t ∧ g.t ≤ 9223372036854775807
  a : -9223372036854775808 ≤ g.a ∧ g.a ≤ 9223372036854775807
  s : -9223372036854775808 ≤ g.s ∧ g.s ≤ 9223372036854775807
  m : g.m.I
theorem mg_zero_i : Mg.zero.I := by
  refine ⟨?_, ?_, ?_, ?_, ?_⟩ <;> (constructor <;> (show _ ≤ _; decide))
theorem Gm.Be.i {g : Gm} (h : g.Be) : g.I := by
  obtain ⟨h1, h2, h3, h4, h5, h6, h7, h8, h9, h10, h11⟩ := h
  have hm : g.m.I := by
    by_cases h0 : g.s = 0
    · rw [h10 h0]; exact mg_zero_i
    · exact (h11 h0).i
  exact ⟨by omega, by omega, by omega, by omega, hm⟩
end Go.Proofs.Ytiaafhcfeeekeaa.Pk

/- A state in memory of its own: every list in it is owned, and no two share a block. -/
namespace Go.Proofs.Ytiaafhcfeeekeaa.Pk
open Go.RowKit
set_option linter.unusedVariables false
/-- The blocks of these slices. -/
def blks (vs : List Value) : List Nat := vs.filterMap ownB
def Apart (vs : List Value) : Prop := (blks vs).Nodup
theorem blks_app (a b : List Value) : blks (a ++ b) = blks a ++ blks b := List.filterMap_append
theorem mem_blks {vs : List Value} {g : Nat} : g ∈ blks vs ↔ ∃ v ∈ vs, ownB v = some g := List.mem_filterMap
/-- All blocks lie below, above. -/
def Under (m : Nat) (vs : List Value) : Prop := ∀ v ∈ vs, ∀ g, ownB v = some g → g < m
def Over (m : Nat) (vs : List Value) : Prop := ∀ v ∈ vs, ∀ g, ownB v = some g → m ≤ g
theorem Under.mono {m n : Nat} {vs : List Value} (h : Under m vs) (hm : m ≤ n) : Under n vs := fun v hv g hg => Nat.lt_of_lt_of_le (h v hv g hg) hm
theorem Over.mono {m n : Nat} {vs : List Value} (h : Over m vs) (hm : n ≤ m) : Over n vs := fun v hv g hg => Nat.le_trans hm (h v hv g hg)
theorem Under.app {m : Nat} {a b : List Value} (h : Under m a) (h2 : Under m b) : Under m (a ++ b) := fun v hv => (List.mem_append.1 hv).elim (h v) (h2 v)
theorem Over.app {m : Nat} {a b : List Value} (h : Over m a) (h2 : Over m b) : Over m (a ++ b) := fun v hv => (List.mem_append.1 hv).elim (h v) (h2 v)
theorem Apart.nil : Apart [] := List.nodup_nil
theorem Apart.one (v : Value) : Apart [v] := by
  unfold Apart blks
  cases h : ownB v with
  | none => simp [h]
  | some g => simp [h]
theorem Apart.app {m : Nat} {a b : List Value} (ha : Apart a) (hb : Apart b) (h1 : Under m a) (h2 : Over m b) : Apart (a ++ b) := by
  unfold Apart at ha hb ⊢
  rw [blks_app, List.nodup_append]
  refine ⟨ha, hb, fun x hx y hy e => ?_⟩
  subst e
  obtain ⟨v, hv, e1⟩ := mem_blks.1 hx
  obtain ⟨u, hu, e2⟩ := mem_blks.1 hy
  have := h1 v hv x e1
  have := h2 u hu x e2
  omega
theorem Apart.perm {a b : List Value} (h : Apart a) (hp : a.Perm b) : Apart b := (hp.filterMap _).nodup_iff.1 h
theorem Apart.tail {v : Value} {vs : List Value} (h : Apart (v :: vs)) : Apart vs := by
  unfold Apart blks at h ⊢
  rw [List.filterMap_cons] at h
  split at h
  · exact h
  · exact (List.nodup_cons.1 h).2
/-- Another head: it lies where the old one lay, or above all. -/
theorem Apart.swap {v v' : Value} {vs : List Value} (h : Apart (v :: vs)) (hv : ownB v' = ownB v ∨ ownB v' = none ∨ ∃ g, ownB v' = some g ∧ Under g vs) : Apart (v' :: vs) := by
  rcases hv with hv | hv | ⟨g, hg, hu⟩
  · unfold Apart blks at h ⊢
    rw [List.filterMap_cons] at h ⊢
    rw [hv]; exact h
  · have h2 := h.tail
    unfold Apart blks at h2 ⊢
    rw [List.filterMap_cons, hv]; exact h2
  · have h2 := h.tail
    unfold Apart blks at h2 ⊢
    rw [List.filterMap_cons, hg]
    refine List.nodup_cons.2 ⟨fun hm => ?_, h2⟩
    obtain ⟨u, hu1, hu2⟩ := List.mem_filterMap.1 hm
    have := hu u hu1 g hu2
    omega
theorem Apart.push {m : Nat} {v v1 : Value} {vs : List Value} (h : Apart (v :: vs)) (h1 : Under m (v :: vs)) (h2 : ∀ g, ownB v1 = some g → m ≤ g) : Apart (v :: (vs ++ [v1])) := by
  have := Apart.app h (Apart.one v1) h1 (fun u hu g hg => by rw [List.mem_singleton.1 hu] at hg; exact h2 g hg)
  simpa using this
/-- Two of them that lie at different places of the list share no block. -/
theorem Apart.ne {a b : List Value} {v u : Value} (h : Apart (a ++ v :: b)) (hu : u ∈ a ++ b) {g k : Nat} (hg : ownB v = some g) (hk : ownB u = some k) : k ≠ g := by
  have h2 : Apart (v :: (a ++ b)) := h.perm List.perm_middle
  unfold Apart blks at h2
  rw [List.filterMap_cons, hg] at h2
  intro e
  subst e
  exact (List.nodup_cons.1 h2).1 (List.mem_filterMap.2 ⟨u, hu, hk⟩)
theorem Row.Own.under {α : Type} {R : Row α} {w : World} {B : Nat} {v : Value} {l : List α} (h : R.Own w B v l) : Under w.heap.size [v] := fun u hu g hg => by rw [List.mem_singleton.1 hu] at hg; exact h.lt g hg
theorem Row.Own.over {α : Type} {R : Row α} {w : World} {B : Nat} {v : Value} {l : List α} (h : R.Own w B v l) : Over B [v] := fun u hu g hg => by rw [List.mem_singleton.1 hu] at hg; exact h.base g hg
def owS (l : List OwL) : List Value := l.map (·.s.val)
def sdS (l : List SdL) : List Value := l.map (·.s.val)
/-- Objects, sides, each with a list of its own. -/
structure OwnO (w : World) (B : Nat) (v : Value) (l : List OwL) : Prop where
  row : owR.Own w B v l
  each : ∀ x ∈ l, ceR.Own w B x.s.val x.v.c
  apart : Apart (v :: owS l)
structure OwnE (w : World) (B : Nat) (v : Value) (l : List SdL) : Prop where
  row : sdR.Own w B v l
  each : ∀ x ∈ l, mgR.Own w B x.s.val x.v.o
  apart : Apart (v :: sdS l)
theorem OwnO.below {w w' : World} {B : Nat} {v : Value} {l : List OwL} (h : OwnO w B v l) (hb : Below w.heap.size w w') : OwnO w' B v l := ⟨h.row.below hb, fun x hx => (h.each x hx).below hb, h.apart⟩
theorem OwnE.below {w w' : World} {B : Nat} {v : Value} {l : List SdL} (h : OwnE w B v l) (hb : Below w.heap.size w w') : OwnE w' B v l := ⟨h.row.below hb, fun x hx => (h.each x hx).below hb, h.apart⟩
theorem OwnO.low {w : World} {B B' : Nat} {v : Value} {l : List OwL} (h : OwnO w B v l) (hB : B' ≤ B) : OwnO w B' v l := ⟨h.row.low hB, fun x hx => (h.each x hx).low hB, h.apart⟩
theorem OwnE.low {w : World} {B B' : Nat} {v : Value} {l : List SdL} (h : OwnE w B v l) (hB : B' ≤ B) : OwnE w B' v l := ⟨h.row.low hB, fun x hx => (h.each x hx).low hB, h.apart⟩
theorem OwnO.under {w : World} {B : Nat} {v : Value} {l : List OwL} (h : OwnO w B v l) : Under w.heap.size (v :: owS l) := fun u hu g hg => by
  rcases List.mem_cons.1 hu with rfl | hu
  · exact h.row.lt g hg
  · obtain ⟨x, hx, rfl⟩ := List.mem_map.1 hu
    exact (h.each x hx).lt g hg
theorem OwnO.over {w : World} {B : Nat} {v : Value} {l : List OwL} (h : OwnO w B v l) : Over B (v :: owS l) := fun u hu g hg => by
  rcases List.mem_cons.1 hu with rfl | hu
  · exact h.row.base g hg
  · obtain ⟨x, hx, rfl⟩ := List.mem_map.1 hu
    exact (h.each x hx).base g hg
theorem OwnE.under {w : World} {B : Nat} {v : Value} {l : List SdL} (h : OwnE w B v l) : Under w.heap.size (v :: sdS l) := fun u hu g hg => by
  rcases List.mem_cons.1 hu with rfl | hu
  · exact h.row.lt g hg
  · obtain ⟨x, hx, rfl⟩ := List.mem_map.1 hu
    exact (h.each x hx).lt g hg
theorem OwnE.over {w : World} {B : Nat} {v : Value} {l : List SdL} (h : OwnE w B v l) : Over B (v :: sdS l) := fun u hu g hg => by
  rcases List.mem_cons.1 hu with rfl | hu
  · exact h.row.base g hg
  · obtain ⟨x, hx, rfl⟩ := List.mem_map.1 hu
    exact (h.each x hx).base g hg
theorem OwnO.none_ (w : World) (B : Nat) : OwnO w B (.slice none 0 0) [] := ⟨Row.Own.none_ _ _, fun x hx => (by cases hx), Apart.one _⟩
theorem OwnE.none_ (w : World) (B : Nat) : OwnE w B (.slice none 0 0) [] := ⟨Row.Own.none_ _ _, fun x hx => (by cases hx), Apart.one _⟩
/-- One more object, whose cells lie in a block that is newer than all. -/
theorem OwnO.push {w w1 w2 : World} {B : Nat} {v v' : Value} {l : List OwL} {x : OwL} (h : OwnO w B v l) (hB : B ≤ w.heap.size) (hb1 : Below w.heap.size w w1) (hx : ceR.Own w1 w.heap.size x.s.val x.v.c)
    (hrow : owR.Own w2 B v' (l ++ [x])) (hg : w1.grownBy w2 (ownB v)) (hat : LiesB w1 v v') : OwnO w2 B v' (l ++ [x]) := by
  have hne : ∀ u ∈ owS l, ∀ g, ownB u = some g → some g ≠ ownB v := fun u hu g hgu e =>
    h.apart.ne (a := []) (b := owS l) (v := v) (u := u) (by simpa using hu) e.symm hgu rfl
  refine ⟨hrow, fun y hy => ?_, ?_⟩
  · rcases List.mem_append.1 hy with hy | hy
    · have h1 := (h.each y hy).below hb1
      exact h1.stay fun g e => hg.block g (h1.lt g e) (hne _ (List.mem_map.2 ⟨y, hy, rfl⟩) g e)
    · obtain rfl := List.mem_singleton.1 hy
      refine (hx.low hB).stay fun g e => hg.block g (hx.lt g e) (fun e2 => ?_)
      have h3 := h.row.lt g e2.symm
      have h4 := hx.base g e
      omega
  · have h3 : Apart (v :: (owS l ++ [x.s.val])) := h.apart.push h.under hx.base
    have h4 : owS (l ++ [x]) = owS l ++ [x.s.val] := by simp [owS]
    rw [h4]
    refine h3.swap (hat.imp id (Or.imp id fun ⟨g, e, hle⟩ => ⟨g, e, ?_⟩))
    intro u hu k hk
    rcases List.mem_append.1 hu with hu | hu
    · have := h.under u (List.mem_cons_of_mem _ hu) k hk
      have := hb1.size
      omega
    · rw [List.mem_singleton.1 hu] at hk
      have := hx.lt k hk
      omega
theorem OwnE.push {w w1 w2 : World} {B : Nat} {v v' : Value} {l : List SdL} {x : SdL} (h : OwnE w B v l) (hB : B ≤ w.heap.size) (hb1 : Below w.heap.size w w1) (hx : mgR.Own w1 w.heap.size x.s.val x.v.o)
    (hrow : sdR.Own w2 B v' (l ++ [x])) (hg : w1.grownBy w2 (ownB v)) (hat : LiesB w1 v v') : OwnE w2 B v' (l ++ [x]) := by
  have hne : ∀ u ∈ sdS l, ∀ g, ownB u = some g → some g ≠ ownB v := fun u hu g hgu e =>
    h.apart.ne (a := []) (b := sdS l) (v := v) (u := u) (by simpa using hu) e.symm hgu rfl
  refine ⟨hrow, fun y hy => ?_, ?_⟩
  · rcases List.mem_append.1 hy with hy | hy
    · have h1 := (h.each y hy).below hb1
      exact h1.stay fun g e => hg.block g (h1.lt g e) (hne _ (List.mem_map.2 ⟨y, hy, rfl⟩) g e)
    · obtain rfl := List.mem_singleton.1 hy
      refine (hx.low hB).stay fun g e => hg.block g (hx.lt g e) (fun e2 => ?_)
      have h3 := h.row.lt g e2.symm
      have h4 := hx.base g e
      omega
  · have h3 : Apart (v :: (sdS l ++ [x.s.val])) := h.apart.push h.under hx.base
    have h4 : sdS (l ++ [x]) = sdS l ++ [x.s.val] := by simp [sdS]
    rw [h4]
    refine h3.swap (hat.imp id (Or.imp id fun ⟨g, e, hle⟩ => ⟨g, e, ?_⟩))
    intro u hu k hk
    rcases List.mem_append.1 hu with hu | hu
    · have := h.under u (List.mem_cons_of_mem _ hu) k hk
      have := hb1.size
      omega
    · rw [List.mem_singleton.1 hu] at hk
      have := hx.lt k hk
      omega
/-- A state in memory of its own. -/
structure OwnS (w : World) (B : Nat) (s : StL) : Prop where
  os : OwnO w B s.so.val s.os
  es : OwnE w B s.se.val s.es
  as_ : akR.Own w B s.sa.val s.as_
  gs : fdR.Own w B s.sg.val s.gs
  apart : Apart ((s.so.val :: owS s.os) ++ ((s.se.val :: sdS s.es) ++ [s.sa.val, s.sg.val]))
theorem OwnS.below {w w' : World} {B : Nat} {s : StL} (h : OwnS w B s) (hb : Below w.heap.size w w') : OwnS w' B s := ⟨h.os.below hb, h.es.below hb, h.as_.below hb, h.gs.below hb, h.apart⟩
theorem OwnS.low {w : World} {B B' : Nat} {s : StL} (h : OwnS w B s) (hB : B' ≤ B) : OwnS w B' s := ⟨h.os.low hB, h.es.low hB, h.as_.low hB, h.gs.low hB, h.apart⟩
end Go.Proofs.Ytiaafhcfeeekeaa.Pk

/- Cells in memory: five cells each. -/
namespace Go.Proofs.Ytiaafhcfeeekeaa.Pk
open Go.RowKit
set_option linter.unusedVariables false
def Ce.cells (m : Ce) : List Value := [.int .i64 m.n, .int .i64 m.s, .int .i64 m.d, .int .i64 m.x]
def ces (l : List Ce) : List Value := l.flatMap Ce.cells
theorem ces_cons (r : Ce) (l : List Ce) : ces (r :: l) = .int .i64 r.n :: .int .i64 r.s :: .int .i64 r.d :: .int .i64 r.x :: ces l := rfl
@[simp] theorem ces_length (l : List Ce) : (ces l).length = l.length * 4 := by
  induction l with
  | nil => rfl
  | cons r l ih => rw [ces_cons]; simp [ih]; omega
theorem ces_get {l : List Ce} {k : Nat} {r : Ce} (h : l[k]? = some r) : (ces l)[k * 4]? = some (.int .i64 r.n) ∧ (ces l)[k * 4 + 1]? = some (.int .i64 r.s) ∧ (ces l)[k * 4 + 2]? = some (.int .i64 r.d) ∧ (ces l)[k * 4 + 3]? = some (.int .i64 r.x) := by
  induction l generalizing k with
  | nil => simp at h
  | cons x l ih =>
    rw [ces_cons]
    match k, h with
    | 0, h => simp at h; subst h; exact ⟨rfl, rfl, rfl, rfl⟩
    | k + 1, h =>
      have := ih (k := k) (by simpa using h)
      rw [show (k + 1) * 4 = k * 4 + 1 + 1 + 1 + 1 by omega]
      simpa using this
theorem Reads.ces_ {w : World} {B : Nat} {A : Option Addr} {n : Nat} {l : List Ce} (h : Reads w B 4 A n (ces l)) (hn : 0 < n) :
    ∃ b off, A = some ⟨b, off, none⟩ ∧ b < B ∧ ∀ i r, l[i]? = some r → w.cell? ⟨b, off + i * 4, none⟩ = some (.int .i64 r.n) ∧ w.cell? ⟨b, off + i * 4 + 1, none⟩ = some (.int .i64 r.s) ∧
      w.cell? ⟨b, off + i * 4 + 2, none⟩ = some (.int .i64 r.d) ∧ w.cell? ⟨b, off + i * 4 + 3, none⟩ = some (.int .i64 r.x) := by
  obtain ⟨ad, rfl, hb, hc⟩ := h.2 hn
  have hl : 0 < (ces l).length := by rw [h.1]; omega
  have h0 := hc 0 _ (List.getElem?_eq_getElem hl)
  obtain ⟨b, off, spot⟩ := ad
  have hs : spot = none := by simpa [Addr.add] using World.cell?_spot h0
  subst hs
  have hat : ∀ j u, (ces l)[j]? = some u → w.cell? ⟨b, off + j, none⟩ = some u := by
    intro j u hu
    have := hc j u hu
    unfold Addr.add at this
    by_cases hj : j = 0
    · subst hj; simpa using this
    · simpa [hj] using this
  refine ⟨b, off, rfl, hb, fun i r hr => ?_⟩
  obtain ⟨h1, h2, h3, h4⟩ := ces_get hr
  exact ⟨hat _ _ h1, by rw [Nat.add_assoc]; exact hat _ _ h2, by rw [Nat.add_assoc]; exact hat _ _ h3, by rw [Nat.add_assoc]; exact hat _ _ h4⟩
theorem Reads.klen {w : World} {B : Nat} {A : Option Addr} {n : Nat} {l : List Ce} (h : Reads w B 4 A n (ces l)) : l.length = n := by
  have := h.1; simp at this; omega
end Go.Proofs.Ytiaafhcfeeekeaa.Pk

/- Cells of the call's own: what a list of them owns, and how it grows. -/
namespace Go.Proofs.Ytiaafhcfeeekeaa.Pk
open Go.RowKit
set_option linter.unusedVariables false
theorem ces_append (l m : List Ce) : ces (l ++ m) = ces l ++ ces m := List.flatMap_append ..
theorem ces_one (l : List Ce) : ∀ u ∈ ces l, u.oneCell' = true := by
  intro u hu
  obtain ⟨r, _, h⟩ := List.mem_flatMap.1 hu
  simp [Ce.cells] at h
  rcases h with rfl | rfl | rfl | rfl <;> rfl
theorem cell_info : (Try.prog.info? 57).map (fun i => (i.zero, i.size, i.bytes)) = some (some (.agg #[.int .i64 0, .int .i64 0, .int .i64 0, .int .i64 0]), 4, 32) := by kernel_rfl
/-- The value owns the cells. -/
def OwnK (w : World) (B : Nat) (v : Value) (l : List Ce) : Prop := w.ownsRow B 57 4 v l.length (ces l)
theorem OwnK.none_ (w : World) (B : Nat) : OwnK w B (.slice none 0 0) [] := ⟨rfl, .inl ⟨rfl, rfl⟩⟩
theorem OwnK.alloc {w : World} {B : Nat} {v : Value} {l : List Ce} (h : OwnK w B v l) (o : Obj) : OwnK (w.alloc o) B v l := World.ownsRow.alloc h o
theorem ownK_base {w : World} {base : Nat} {v : Value} {l : List Ce} (h : OwnK w base v l) : ∀ k, v.ownBlock = some k → base ≤ k := by
  intro k hk
  rcases h.2 with ⟨rfl, _⟩ | ⟨g, cap, cur, rfl, hb, _⟩
  · simp [Value.ownBlock] at hk
  · simp [Value.ownBlock] at hk; omega
theorem ownK_lt {w : World} {B : Nat} {v : Value} {l : List Ce} (h : OwnK w B v l) : ∀ g, v.ownBlock = some g → g < w.heap.size := by
  intro g hg
  rcases h.2 with ⟨rfl, _⟩ | ⟨g', cap, cur, rfl, _, hh, _⟩
  · simp [Value.ownBlock] at hg
  · simp [Value.ownBlock] at hg
    subst hg
    rcases Nat.lt_or_ge g' w.heap.size with h' | h'
    · exact h'
    · rw [Array.getElem?_eq_none h'] at hh; cases hh
theorem OwnK.stay {w w' : World} {B : Nat} {v : Value} {l : List Ce} (h : OwnK w B v l) (hk : ∀ g, v.ownBlock = some g → w'.heap[g]? = w.heap[g]?) : OwnK w' B v l := by
  obtain ⟨h1, h2⟩ := h
  refine ⟨h1, ?_⟩
  rcases h2 with h2 | ⟨g, cap, cur, rfl, hg, hh, hr⟩
  · exact .inl h2
  · exact .inr ⟨g, cap, cur, rfl, hg, (hk g rfl).trans hh, hr⟩
theorem OwnK.below {w w' : World} {B : Nat} {v : Value} {l : List Ce} (h : OwnK w B v l) (hb : Below w.heap.size w w') : OwnK w' B v l := h.stay fun g e => hb.block g (ownK_lt h g e)
theorem OwnK.reads {w : World} {B : Nat} {v : Value} {l : List Ce} (h : OwnK w B v l) : ∃ A c, v = .slice A l.length c ∧ l.length ≤ c ∧ Reads w w.heap.size 4 A l.length (ces l) := by
  have h2 := h
  obtain ⟨h1, ⟨rfl, e⟩ | ⟨g, cap, cur, rfl, _, _, hc, _⟩⟩ := h2
  · obtain rfl : l = [] := List.length_eq_zero_iff.1 e
    exact ⟨none, 0, rfl, by simp, Reads.none_⟩
  · exact ⟨_, cap, rfl, hc, Reads.of_own h⟩
theorem ownK_slice {w : World} {B : Nat} {v : Value} {l : List Ce} (h : OwnK w B v l) : ∃ A n c, v = .slice A n c := by
  obtain ⟨A, c, e, _, _⟩ := h.reads
  exact ⟨A, _, c, e⟩
end Go.Proofs.Ytiaafhcfeeekeaa.Pk

/- Cells of any list behind cells of one's own; behind an empty literal. -/
namespace Go.Proofs.Ytiaafhcfeeekeaa.Pk
open Go.RowKit
set_option linter.unusedVariables false
theorem OwnK.app_ {w : World} {B n k : Nat} {v : Value} {l r : List Ce} (hn : n = l.length) (hk : k = r.length) (h : w.ownsRow B 57 4 v (n + k) (ces l ++ ces r)) : OwnK w B v (l ++ r) := by
  unfold OwnK
  rw [ces_append, List.length_append, ← hn, ← hk]
  exact h
theorem appKs {ops : Array Oper} {rest : List Oper} {o : Oper} {a : Act} {Q : Exit → Act → World → Prop} (w : World) (hgd : o.guard = none) (s x : Operand)
    (ho : o.op = .call { callee := .builtin .append, args := #[s, x], argTypes := #[53, 53] }) (B : Nat) (v : Value) (l : List Ce) (hs : a.eval s = v) (hown : OwnK w B v l)
    (B' : Nat) (A : Option Addr) (c : Nat) (r : List Ce) (n : Nat) (hx : a.eval x = .slice A n c) (hr : Reads w B' 4 A n (ces r)) (hlen : (l.length + n) * 32 ≤ 140737488355328) (hB : B ≤ w.heap.size)
    (h : ∀ v' w', OwnK w' B v' (l ++ r) → Below B w w' → (v'.ownBlock = v.ownBlock ∨ v'.ownBlock = some w.heap.size) → w.grownBy w' v.ownBlock → wpList Try.prog ops Q rest (a.put o.dst v') w') : wpList Try.prog ops Q (o :: rest) a w := by
  obtain ⟨i0, hi0, hz0, hz1, hz2⟩ := info_parts cell_info
  have hnr : n = r.length := hr.klen.symm
  refine wpList_append_any _ hgd s x _ ho B 57 i0 _ 4 32 Try.underlying53 hi0 hz0 hz1 hz2 rfl (by omega) v l.length (ces l) hs hown B' A n c (ces r) hx hr (ces_one r)
    (by unfold maxLen; omega) (by omega) hB ?_
  intro v' w' ho hg hat
  exact h v' w' (OwnK.app_ rfl hnr ho) ((Below.refl _ _).grown hg hB (ownK_base hown)) hat hg
theorem OwnK.fresh (w : World) (B : Nat) (hB : B ≤ w.heap.size) : OwnK (w.alloc (.cells #[] 57)) B (.slice (some ⟨w.heap.size, 0, none⟩) 0 0) [] :=
  ⟨rfl, .inr ⟨w.heap.size, 0, #[], rfl, hB, heap_alloc_new w _, Nat.le_refl _, by unfold maxLen; omega, rfl, rfl⟩⟩
/-- Cells of any list behind an empty literal. -/
theorem appKE {ops : Array Oper} {rest : List Oper} {o : Oper} {a : Act} {Q : Exit → Act → World → Prop} (w : World) (hgd : o.guard = none) (s x : Operand)
    (ho : o.op = .call { callee := .builtin .append, args := #[s, x], argTypes := #[53, 53] }) (B : Nat) (hs : a.eval s = .slice (some ⟨w.heap.size, 0, none⟩) 0 0)
    (B' : Nat) (A : Option Addr) (c : Nat) (r : List Ce) (n : Nat) (hx : a.eval x = .slice A n c) (hr : Reads w B' 4 A n (ces r)) (hB' : B' ≤ w.heap.size) (hlen : n * 32 ≤ 140737488355328) (hB : B ≤ w.heap.size)
    (h : ∀ v' w', OwnK w' B v' r → Below B w w' → wpList Try.prog ops Q rest (a.put o.dst v') w') : wpList Try.prog ops Q (o :: rest) a (w.alloc (.cells #[] 57)) := by
  refine appKs _ hgd s x ho B _ [] hs (OwnK.fresh w B hB) B' A c r n hx (hr.alloc hB' _) (by simp; omega) (by simp; omega) ?_
  intro v' w' ho' hb' _ _
  exact h v' w' (by simpa using ho') (((Below.refl _ _).alloc hB _).trans hb')
theorem below_setK {B : Nat} {w V : World} (h : Below B w V) {x : Nat} (hx : B ≤ x) (o : Nat) (u : Value) : Below B w (V.setCell ⟨x, o, none⟩ u) := h.setCell (p := ⟨x, o, none⟩) hx u
theorem reads_cell (w : World) (T : TypeId) (m : Ce) : Reads (w.alloc (.cells #[.int .i64 m.n, .int .i64 m.s, .int .i64 m.d, .int .i64 m.x] T)) (w.heap.size + 1) 4 (some ⟨w.heap.size, 0, none⟩) 1 (ces [m]) := by
  refine ⟨rfl, fun _ => ⟨_, rfl, by simp, fun j u hj => ?_⟩⟩
  match j, hj with
  | 0, hj => simp [ces, Ce.cells] at hj; subst hj; simp [Addr.add]
  | 1, hj => simp [ces, Ce.cells] at hj; subst hj; simp [Addr.add]
  | 2, hj => simp [ces, Ce.cells] at hj; subst hj; simp [Addr.add]
  | 3, hj => simp [ces, Ce.cells] at hj; subst hj; simp [Addr.add]
  | j + 4, hj => simp [ces, Ce.cells] at hj
/-- A list of cells that is handed over. -/
structure InK (w : World) (l : List Ce) (A : Option Addr) (n c : Nat) : Prop where
  rd : Reads w w.heap.size 4 A n (ces l)
  cap : n ≤ c
  few : n ≤ 4398046511000
  i : ∀ m ∈ l, m.I
theorem InK.len {w : World} {l : List Ce} {A : Option Addr} {n c : Nat} (h : InK w l A n c) : l.length = n := h.rd.klen
theorem InK.next {w w' : World} {l : List Ce} {A : Option Addr} {n c : Nat} (h : InK w l A n c) (hb : Below w.heap.size w w') : InK w' l A n c := ⟨(h.rd.below hb).more hb.size, h.cap, h.few, h.i⟩
end Go.Proofs.Ytiaafhcfeeekeaa.Pk

/- Two cells compared. -/
namespace Go.Proofs.Ytiaafhcfeeekeaa.Pk
open Go.RowKit
set_option linter.unusedVariables false
section
attribute [local go_sem] Oper.semAt_some
set_option maxHeartbeats 4000000 in
theorem eq_cell (a b c d a' b' c' d' : Int) (w : World) : (Op.equalIn 10000 57 (.agg #[.int .i64 a, .int .i64 b, .int .i64 c, .int .i64 d]) (.agg #[.int .i64 a', .int .i64 b', .int .i64 c', .int .i64 d'])).run Try.prog w = .ok (decide ((⟨a, b, c, d⟩ : Ce) = ⟨a', b', c', d'⟩)) w := by
  have u3 := Try.underlying3
  have a3 := Try.isAgg3
  have z3 := Try.sizeOf3
  have hst : Try.prog.stoodInHeld 57 = false := by kernel_rfl
  rw [show (10000 : Nat) = 9999 + 1 from rfl, Op.equalIn]
  simp only [Sem.run_bind, run_underlying Try.underlying57, Result.andThen_ok]
  go_simp
  by_cases h1 : a = a' <;> by_cases h2 : b = b' <;> by_cases h3 : c = c' <;> by_cases h4 : d = d' <;> simp [h1, h2, h3, h4]
end
end Go.Proofs.Ytiaafhcfeeekeaa.Pk
