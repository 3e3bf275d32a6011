/- A state in memory of its own: every list in it is owned, and no two share a block. -/
import Derived.Test.YtcicpgiljceioaaZStVal
import Derived.Test.YtcicpgiljceioaaZPackMath
namespace Go.Proofs.Ytcicpgiljceioaa.Pk
open Go.RowKit
set_option linter.unusedVariables false
/-- The blocks of these slices. -/
def blks (vs : List Value) : List Nat := vs.filterMap ownB
def Apart (vs : List Value) : Prop := (blks vs).Nodup
theorem blks_app (a b : List Value) : blks (a ++ b) = blks a ++ blks b := List.filterMap_append
theorem mem_blks {vs : List Value} {g : Nat} : g ∈ blks vs ↔ ∃ v ∈ vs, ownB v = some g := List.mem_filterMap
/-- All blocks lie below, above. -/
def Under (m : Nat) (vs : List Value) : Prop := ∀ v ∈ vs, ∀ g, ownB v = some g → g < m
def Over (m : Nat) (vs : List Value) : Prop := ∀ v ∈ vs, ∀ g, ownB v = some g → m ≤ g
theorem Under.mono {m n : Nat} {vs : List Value} (h : Under m vs) (hm : m ≤ n) : Under n vs := fun v hv g hg => Nat.lt_of_lt_of_le (h v hv g hg) hm
theorem Over.mono {m n : Nat} {vs : List Value} (h : Over m vs) (hm : n ≤ m) : Over n vs := fun v hv g hg => Nat.le_trans hm (h v hv g hg)
theorem Under.app {m : Nat} {a b : List Value} (h : Under m a) (h2 : Under m b) : Under m (a ++ b) := fun v hv => (List.mem_append.1 hv).elim (h v) (h2 v)
theorem Over.app {m : Nat} {a b : List Value} (h : Over m a) (h2 : Over m b) : Over m (a ++ b) := fun v hv => (List.mem_append.1 hv).elim (h v) (h2 v)
theorem Apart.nil : Apart [] := List.nodup_nil
theorem Apart.one (v : Value) : Apart [v] := by
  unfold Apart blks
  cases h : ownB v with
  | none => simp [h]
  | some g => simp [h]
theorem Apart.app {m : Nat} {a b : List Value} (ha : Apart a) (hb : Apart b) (h1 : Under m a) (h2 : Over m b) : Apart (a ++ b) := by
  unfold Apart at ha hb ⊢
  rw [blks_app, List.nodup_append]
  refine ⟨ha, hb, fun x hx y hy e => ?_⟩
  subst e
  obtain ⟨v, hv, e1⟩ := mem_blks.1 hx
  obtain ⟨u, hu, e2⟩ := mem_blks.1 hy
  have := h1 v hv x e1
  have := h2 u hu x e2
  omega
theorem Apart.perm {a b : List Value} (h : Apart a) (hp : a.Perm b) : Apart b := (hp.filterMap _).nodup_iff.1 h
theorem Apart.tail {v : Value} {vs : List Value} (h : Apart (v :: vs)) : Apart vs := by
  unfold Apart blks at h ⊢
  rw [List.filterMap_cons] at h
  split at h
  · exact h
  · exact (List.nodup_cons.1 h).2
/-- Another head: it lies where the old one lay, or above all. -/
theorem Apart.swap {v v' : Value} {vs : List Value} (h : Apart (v :: vs)) (hv : ownB v' = ownB v ∨ ownB v' = none ∨ ∃ g, ownB v' = some g ∧ Under g vs) : Apart (v' :: vs) := by
  rcases hv with hv | hv | ⟨g, hg, hu⟩
  · unfold Apart blks at h ⊢
    rw [List.filterMap_cons] at h ⊢
    rw [hv]; exact h
  · have h2 := h.tail
    unfold Apart blks at h2 ⊢
    rw [List.filterMap_cons, hv]; exact h2
  · have h2 := h.tail
    unfold Apart blks at h2 ⊢
    rw [List.filterMap_cons, hg]
    refine List.nodup_cons.2 ⟨fun hm => ?_, h2⟩
    obtain ⟨u, hu1, hu2⟩ := List.mem_filterMap.1 hm
    have := hu u hu1 g hu2
    omega
theorem Apart.push {m : Nat} {v v1 : Value} {vs : List Value} (h : Apart (v :: vs)) (h1 : Under m (v :: vs)) (h2 : ∀ g, ownB v1 = some g → m ≤ g) : Apart (v :: (vs ++ [v1])) := by
  have := Apart.app h (Apart.one v1) h1 (fun u hu g hg => by rw [List.mem_singleton.1 hu] at hg; exact h2 g hg)
  simpa using this
/-- Two of them that lie at different places of the list share no block. -/
theorem Apart.ne {a b : List Value} {v u : Value} (h : Apart (a ++ v :: b)) (hu : u ∈ a ++ b) {g k : Nat} (hg : ownB v = some g) (hk : ownB u = some k) : k ≠ g := by
  have h2 : Apart (v :: (a ++ b)) := h.perm List.perm_middle
  unfold Apart blks at h2
  rw [List.filterMap_cons, hg] at h2
  intro e
  subst e
  exact (List.nodup_cons.1 h2).1 (List.mem_filterMap.2 ⟨u, hu, hk⟩)
theorem Row.Own.under {α : Type} {R : Row α} {w : World} {B : Nat} {v : Value} {l : List α} (h : R.Own w B v l) : Under w.heap.size [v] := fun u hu g hg => by rw [List.mem_singleton.1 hu] at hg; exact h.lt g hg
theorem Row.Own.over {α : Type} {R : Row α} {w : World} {B : Nat} {v : Value} {l : List α} (h : R.Own w B v l) : Over B [v] := fun u hu g hg => by rw [List.mem_singleton.1 hu] at hg; exact h.base g hg
def owS (l : List OwL) : List Value := l.map (·.s.val)
def sdS (l : List SdL) : List Value := l.map (·.s.val)
/-- Objects, sides, each with a list of its own. -/
structure OwnO (w : World) (B : Nat) (v : Value) (l : List OwL) : Prop where
  row : owR.Own w B v l
  each : ∀ x ∈ l, ceR.Own w B x.s.val x.v.c
  apart : Apart (v :: owS l)
structure OwnE (w : World) (B : Nat) (v : Value) (l : List SdL) : Prop where
  row : sdR.Own w B v l
  each : ∀ x ∈ l, mgR.Own w B x.s.val x.v.o
  apart : Apart (v :: sdS l)
theorem OwnO.below {w w' : World} {B : Nat} {v : Value} {l : List OwL} (h : OwnO w B v l) (hb : Below w.heap.size w w') : OwnO w' B v l := ⟨h.row.below hb, fun x hx => (h.each x hx).below hb, h.apart⟩
theorem OwnE.below {w w' : World} {B : Nat} {v : Value} {l : List SdL} (h : OwnE w B v l) (hb : Below w.heap.size w w') : OwnE w' B v l := ⟨h.row.below hb, fun x hx => (h.each x hx).below hb, h.apart⟩
theorem OwnO.low {w : World} {B B' : Nat} {v : Value} {l : List OwL} (h : OwnO w B v l) (hB : B' ≤ B) : OwnO w B' v l := ⟨h.row.low hB, fun x hx => (h.each x hx).low hB, h.apart⟩
theorem OwnE.low {w : World} {B B' : Nat} {v : Value} {l : List SdL} (h : OwnE w B v l) (hB : B' ≤ B) : OwnE w B' v l := ⟨h.row.low hB, fun x hx => (h.each x hx).low hB, h.apart⟩
theorem OwnO.under {w : World} {B : Nat} {v : Value} {l : List OwL} (h : OwnO w B v l) : Under w.heap.size (v :: owS l) := fun u hu g hg => by
  rcases List.mem_cons.1 hu with rfl | hu
  · exact h.row.lt g hg
  · obtain ⟨x, hx, rfl⟩ := List.mem_map.1 hu
    exact (h.each x hx).lt g hg
theorem OwnO.over {w : World} {B : Nat} {v : Value} {l : List OwL} (h : OwnO w B v l) : Over B (v :: owS l) := fun u hu g hg => by
  rcases List.mem_cons.1 hu with rfl | hu
  · exact h.row.base g hg
  · obtain ⟨x, hx, rfl⟩ := List.mem_map.1 hu
    exact (h.each x hx).base g hg
theorem OwnE.under {w : World} {B : Nat} {v : Value} {l : List SdL} (h : OwnE w B v l) : Under w.heap.size (v :: sdS l) := fun u hu g hg => by
  rcases List.mem_cons.1 hu with rfl | hu
  · exact h.row.lt g hg
  · obtain ⟨x, hx, rfl⟩ := List.mem_map.1 hu
    exact (h.each x hx).lt g hg
theorem OwnE.over {w : World} {B : Nat} {v : Value} {l : List SdL} (h : OwnE w B v l) : Over B (v :: sdS l) := fun u hu g hg => by
  rcases List.mem_cons.1 hu with rfl | hu
  · exact h.row.base g hg
  · obtain ⟨x, hx, rfl⟩ := List.mem_map.1 hu
    exact (h.each x hx).base g hg
theorem OwnO.none_ (w : World) (B : Nat) : OwnO w B (.slice none 0 0) [] := ⟨Row.Own.none_ _ _, fun x hx => (by cases hx), Apart.one _⟩
theorem OwnE.none_ (w : World) (B : Nat) : OwnE w B (.slice none 0 0) [] := ⟨Row.Own.none_ _ _, fun x hx => (by cases hx), Apart.one _⟩
/-- One more object, whose cells lie in a block that is newer than all. -/
theorem OwnO.push {w w1 w2 : World} {B : Nat} {v v' : Value} {l : List OwL} {x : OwL} (h : OwnO w B v l) (hB : B ≤ w.heap.size) (hb1 : Below w.heap.size w w1) (hx : ceR.Own w1 w.heap.size x.s.val x.v.c)
    (hrow : owR.Own w2 B v' (l ++ [x])) (hg : w1.grownBy w2 (ownB v)) (hat : LiesB w1 v v') : OwnO w2 B v' (l ++ [x]) := by
  have hne : ∀ u ∈ owS l, ∀ g, ownB u = some g → some g ≠ ownB v := fun u hu g hgu e =>
    h.apart.ne (a := []) (b := owS l) (v := v) (u := u) (by simpa using hu) e.symm hgu rfl
  refine ⟨hrow, fun y hy => ?_, ?_⟩
  · rcases List.mem_append.1 hy with hy | hy
    · have h1 := (h.each y hy).below hb1
      exact h1.stay fun g e => hg.block g (h1.lt g e) (hne _ (List.mem_map.2 ⟨y, hy, rfl⟩) g e)
    · obtain rfl := List.mem_singleton.1 hy
      refine (hx.low hB).stay fun g e => hg.block g (hx.lt g e) (fun e2 => ?_)
      have h3 := h.row.lt g e2.symm
      have h4 := hx.base g e
      omega
  · have h3 : Apart (v :: (owS l ++ [x.s.val])) := h.apart.push h.under hx.base
    have h4 : owS (l ++ [x]) = owS l ++ [x.s.val] := by simp [owS]
    rw [h4]
    refine h3.swap (hat.imp id (Or.imp id fun ⟨g, e, hle⟩ => ⟨g, e, ?_⟩))
    intro u hu k hk
    rcases List.mem_append.1 hu with hu | hu
    · have := h.under u (List.mem_cons_of_mem _ hu) k hk
      have := hb1.size
      omega
    · rw [List.mem_singleton.1 hu] at hk
      have := hx.lt k hk
      omega
theorem OwnE.push {w w1 w2 : World} {B : Nat} {v v' : Value} {l : List SdL} {x : SdL} (h : OwnE w B v l) (hB : B ≤ w.heap.size) (hb1 : Below w.heap.size w w1) (hx : mgR.Own w1 w.heap.size x.s.val x.v.o)
    (hrow : sdR.Own w2 B v' (l ++ [x])) (hg : w1.grownBy w2 (ownB v)) (hat : LiesB w1 v v') : OwnE w2 B v' (l ++ [x]) := by
  have hne : ∀ u ∈ sdS l, ∀ g, ownB u = some g → some g ≠ ownB v := fun u hu g hgu e =>
    h.apart.ne (a := []) (b := sdS l) (v := v) (u := u) (by simpa using hu) e.symm hgu rfl
  refine ⟨hrow, fun y hy => ?_, ?_⟩
  · rcases List.mem_append.1 hy with hy | hy
    · have h1 := (h.each y hy).below hb1
      exact h1.stay fun g e => hg.block g (h1.lt g e) (hne _ (List.mem_map.2 ⟨y, hy, rfl⟩) g e)
    · obtain rfl := List.mem_singleton.1 hy
      refine (hx.low hB).stay fun g e => hg.block g (hx.lt g e) (fun e2 => ?_)
      have h3 := h.row.lt g e2.symm
      have h4 := hx.base g e
      omega
  · have h3 : Apart (v :: (sdS l ++ [x.s.val])) := h.apart.push h.under hx.base
    have h4 : sdS (l ++ [x]) = sdS l ++ [x.s.val] := by simp [sdS]
    rw [h4]
    refine h3.swap (hat.imp id (Or.imp id fun ⟨g, e, hle⟩ => ⟨g, e, ?_⟩))
    intro u hu k hk
    rcases List.mem_append.1 hu with hu | hu
    · have := h.under u (List.mem_cons_of_mem _ hu) k hk
      have := hb1.size
      omega
    · rw [List.mem_singleton.1 hu] at hk
      have := hx.lt k hk
      omega
/-- A state in memory of its own. -/
structure OwnS (w : World) (B : Nat) (s : StL) : Prop where
  os : OwnO w B s.so.val s.os
  es : OwnE w B s.se.val s.es
  as_ : akR.Own w B s.sa.val s.as_
  gs : fdR.Own w B s.sg.val s.gs
  apart : Apart ((s.so.val :: owS s.os) ++ ((s.se.val :: sdS s.es) ++ [s.sa.val, s.sg.val]))
theorem OwnS.below {w w' : World} {B : Nat} {s : StL} (h : OwnS w B s) (hb : Below w.heap.size w w') : OwnS w' B s := ⟨h.os.below hb, h.es.below hb, h.as_.below hb, h.gs.below hb, h.apart⟩
theorem OwnS.low {w : World} {B B' : Nat} {s : StL} (h : OwnS w B s) (hB : B' ≤ B) : OwnS w B' s := ⟨h.os.low hB, h.es.low hB, h.as_.low hB, h.gs.low hB, h.apart⟩
/-- A state of one's own, handed over: what it says is what another one says that can be handed over. -/
theorem OwnS.inS {w w0 : World} {B : Nat} {s s0 : StL} (h : OwnS w B s) (hv : s.v = s0.v) (h0 : InS w0 s0) : InS w s := by
  have e1 : s.me = s0.me := congrArg St.me hv
  have e2 : s.os.map (·.v) = s0.os.map (·.v) := congrArg St.os hv
  have e3 : s.es.map (·.v) = s0.es.map (·.v) := congrArg St.es hv
  have e4 : s.q = s0.q := congrArg St.q hv
  have e5 : s.as_ = s0.as_ := congrArg St.as_ hv
  have e6 : s.gs = s0.gs := congrArg St.gs hv
  have rd : ∀ {α : Type} {R : Row α} {sl sl0 : Sl} {l l0 : List α}, R.Own w B sl.val l → l.length = l0.length → InR R w0 sl0 l0 → InR R w sl l := by
    intro α R sl sl0 l l0 ho hl hi
    obtain ⟨h1, h2, h3⟩ := Row.Own.rd ho
    exact ⟨h3, h2, by rw [← h1, hl, hi.len]; exact hi.few⟩
  have l2 : s.os.length = s0.os.length := by simpa using congrArg List.length e2
  have l3 : s.es.length = s0.es.length := by simpa using congrArg List.length e3
  refine ⟨e1 ▸ h0.me, e4 ▸ h0.q, rd h.os.row l2 h0.os, rd h.es.row l3 h0.es, rd h.as_ (by rw [e5]) h0.as_, rd h.gs (by rw [e6]) h0.gs, fun x hx => ?_, fun x hx => ?_, e5 ▸ h0.a, e6 ▸ h0.g⟩
  · obtain ⟨y, hy, e⟩ : ∃ y ∈ s0.os, y.v = x.v := by
      have : x.v ∈ s0.os.map (·.v) := by rw [← e2]; exact List.mem_map.2 ⟨x, hx, rfl⟩
      obtain ⟨y, hy, e⟩ := List.mem_map.1 this
      exact ⟨y, hy, e⟩
    have hok := h0.o y hy
    refine ⟨e ▸ hok.a, e ▸ hok.m, rd (h.os.each x hx) (by rw [e]) hok.c, e ▸ hok.i⟩
  · obtain ⟨y, hy, e⟩ : ∃ y ∈ s0.es, y.v = x.v := by
      have : x.v ∈ s0.es.map (·.v) := by rw [← e3]; exact List.mem_map.2 ⟨x, hx, rfl⟩
      obtain ⟨y, hy, e⟩ := List.mem_map.1 this
      exact ⟨y, hy, e⟩
    have hok := h0.e y hy
    refine ⟨e ▸ hok.p, e ▸ hok.b, e ▸ hok.s, rd (h.es.each x hx) (by rw [e]) hok.o, e ▸ hok.i⟩
end Go.Proofs.Ytcicpgiljceioaa.Pk

/- A node's requests for an object: what each call makes of them. -/
namespace Go.Proofs.Ytcicpgiljceioaa.Pk
set_option linter.unusedVariables false
def ceA (l : List Ce) (i : Nat) : Ce := l.getD i Ce.zero
theorem ceA_get {l : List Ce} {i : Nat} (h : i < l.length) : l[i]? = some (ceA l i) := by
  unfold ceA
  rw [List.getD_eq_getElem?_getD, List.getElem?_eq_getElem h]
  rfl
theorem ceA_of {l : List Ce} {i : Nat} {c : Ce} (h : l[i]? = some c) : ceA l i = c := by
  unfold ceA
  rw [List.getD_eq_getElem?_getD, h]
  rfl
/-- One cell can be. -/
def CellOk (l : List Ce) (me : Int) (sink : Bool) (i : Nat) : Prop :=
  (0 ≤ (ceA l i).n ∧ (ceA l i).n ≤ 1099511627776 ∧ 1 ≤ (ceA l i).s ∧ (ceA l i).s ≤ 3) ∧
  (0 < i → (ceA l (i - 1)).n < (ceA l i).n ∧ (ceA l i).s = 1) ∧
  ((ceA l i).n = 0 → (ceA l i).s = 3) ∧
  (if sink = true ∧ i + 1 = l.length then (ceA l i).d = -1 ∧ (ceA l i).x = 0
    else ((ceA l i).s ≠ 3 ∧ 0 ≤ (ceA l i).d ∧ (ceA l i).d < 32 ∧ 1 ≤ (ceA l i).x ∧ (ceA l i).x ≤ 1099511627776) ∧ ((ceA l i).d = me → i + 1 < l.length ∧ (ceA l (i + 1)).n = (ceA l i).x))
instance (l : List Ce) (me : Int) (sink : Bool) (i : Nat) : Decidable (CellOk l me sink i) := by unfold CellOk; exact inferInstance
def GoodK (l : List Ce) (me : Int) (sink : Bool) : Prop := (sink = true → 0 < l.length) ∧ ∀ i, i < l.length → CellOk l me sink i
instance (l : List Ce) (me : Int) (sink : Bool) : Decidable (GoodK l me sink) := by unfold GoodK; exact inferInstance
def addK (l : List Ce) (num : Int) : List Ce := l ++ [⟨num, 1, -1, 0⟩]
/-- The last one's successor: where a cell stands at the end. -/
def succK (l : List Ce) (d x : Int) : List Ce × Bool :=
  match l.getLast? with
  | none => ([], false)
  | some c => if c.s = 3 then (l.dropLast, true) else (l.dropLast ++ [⟨c.n, c.s, d, x⟩], false)
def grantAt (l : List Ce) (num : Int) : Option Nat := l.findIdx? fun c => decide (c.n = num ∧ c.s = 1)
def grantK (l : List Ce) (num : Int) : List Ce × Bool :=
  match grantAt l num with
  | none => (l, false)
  | some k => (l.set k ⟨(ceA l k).n, 2, (ceA l k).d, (ceA l k).x⟩, true)
def heldAt (l : List Ce) : Option Nat := l.findIdx? fun c => decide (c.s = 2)
def relK (l : List Ce) : List Ce × Int × Int × Int :=
  match heldAt l with
  | none => ([], 0, 0, 22)
  | some k => if (ceA l k).d = -1 then (l.set k ⟨(ceA l k).n, 3, (ceA l k).d, (ceA l k).x⟩, -1, 0, 0) else (l.eraseIdx k, (ceA l k).d, (ceA l k).x, 0)
def openK (l : List Ce) : Nat := (l.filter fun c => decide (c.s = 1 ∨ c.s = 2)).length
theorem idx_none {l : List Ce} {p : Ce → Bool} (h : ∀ i, i < l.length → p (ceA l i) = false) : l.findIdx? p = none := by
  rw [List.findIdx?_eq_none_iff]
  intro x hx
  obtain ⟨i, hi⟩ := List.getElem?_of_mem hx
  have := h i (List.getElem?_eq_some_iff.1 hi).1
  rw [ceA_of hi] at this
  simpa using this
theorem idx_some {l : List Ce} {p : Ce → Bool} {k : Nat} (hk : k < l.length) (hp : p (ceA l k) = true) (h : ∀ i, i < k → p (ceA l i) = false) : l.findIdx? p = some k := by
  rw [List.findIdx?_eq_some_iff_getElem]
  refine ⟨hk, ?_, fun j hj => ?_⟩
  · have e : l[k] = ceA l k := by
      have := ceA_get hk
      rw [List.getElem?_eq_getElem hk] at this
      injection this
    rw [e]; exact hp
  · have e : l[j]'(by omega) = ceA l j := by
      have := ceA_get (l := l) (i := j) (by omega)
      rw [List.getElem?_eq_getElem (by omega)] at this
      injection this
    rw [e]; simpa using h j hj
end Go.Proofs.Ytcicpgiljceioaa.Pk

/- What each call makes of the cells: facts. -/
namespace Go.Proofs.Ytcicpgiljceioaa.Pk
set_option linter.unusedVariables false
theorem take_ce {l : List Ce} {i : Nat} (h : i < l.length) : l.take (i + 1) = l.take i ++ [ceA l i] := by
  rw [List.take_add_one, ceA_get h]; rfl
theorem succK_rest {l : List Ce} {k : Nat} {d x : Int} (h : l.length = k + 1) (hs : (ceA l k).s = 3) : succK l d x = (l.take k, true) := by
  unfold succK
  have e : l.getLast? = some (ceA l k) := by rw [List.getLast?_eq_getElem?, h, Nat.add_sub_cancel]; exact ceA_get (by omega)
  rw [e]
  simp only
  rw [if_pos hs, List.dropLast_eq_take, h, Nat.add_sub_cancel]
theorem succK_on {l : List Ce} {k : Nat} {d x : Int} (h : l.length = k + 1) (hs : (ceA l k).s ≠ 3) : succK l d x = (l.take k ++ [⟨(ceA l k).n, (ceA l k).s, d, x⟩], false) := by
  unfold succK
  have e : l.getLast? = some (ceA l k) := by rw [List.getLast?_eq_getElem?, h, Nat.add_sub_cancel]; exact ceA_get (by omega)
  rw [e]
  simp only
  rw [if_neg hs, List.dropLast_eq_take, h, Nat.add_sub_cancel]
theorem succK_nil {l : List Ce} {d x : Int} (h : l.length = 0) : succK l d x = ([], false) := by
  rw [List.length_eq_zero_iff.1 h]; rfl
theorem grant_none {l : List Ce} {num : Int} (h : grantAt l num = none) : grantK l num = (l, false) ∧ ∀ i, i < l.length → ¬ ((ceA l i).n = num ∧ (ceA l i).s = 1) := by
  refine ⟨by unfold grantK; rw [h], fun i hi hp => ?_⟩
  unfold grantAt at h
  rw [List.findIdx?_eq_none_iff] at h
  have := h _ (List.mem_of_getElem? (ceA_get hi))
  simp [hp.1, hp.2] at this
theorem grant_some {l : List Ce} {num : Int} {k : Nat} (h : grantAt l num = some k) : grantK l num = (l.set k ⟨(ceA l k).n, 2, (ceA l k).d, (ceA l k).x⟩, true) ∧ k < l.length ∧ (ceA l k).n = num ∧ (ceA l k).s = 1 ∧ ∀ i, i < k → ¬ ((ceA l i).n = num ∧ (ceA l i).s = 1) := by
  refine ⟨by unfold grantK; rw [h], ?_⟩
  unfold grantAt at h
  rw [List.findIdx?_eq_some_iff_getElem] at h
  obtain ⟨hk, hp, hj⟩ := h
  have e : ∀ i (hi : i < l.length), l[i] = ceA l i := fun i hi => by
    have := ceA_get hi
    rw [List.getElem?_eq_getElem hi] at this
    injection this
  rw [e] at hp
  simp at hp
  refine ⟨hk, hp.1, hp.2, fun i hi hp2 => ?_⟩
  have := hj i hi
  rw [e] at this
  simp [hp2.1, hp2.2] at this
theorem ceA_set {l : List Ce} {k i : Nat} {c : Ce} (hk : k < l.length) : ceA (l.set k c) i = if i = k then c else ceA l i := by
  unfold ceA
  by_cases e : i = k
  · subst e
    rw [if_pos rfl, List.getD_eq_getElem?_getD, List.getElem?_set_self hk]; rfl
  · rw [if_neg e, List.getD_eq_getElem?_getD, List.getElem?_set_ne (Ne.symm e), List.getD_eq_getElem?_getD]
theorem held_none {l : List Ce} (h : heldAt l = none) : relK l = ([], 0, 0, 22) ∧ ∀ i, i < l.length → (ceA l i).s ≠ 2 := by
  refine ⟨by unfold relK; rw [h], fun i hi hp => ?_⟩
  unfold heldAt at h
  rw [List.findIdx?_eq_none_iff] at h
  have := h _ (List.mem_of_getElem? (ceA_get hi))
  simp [hp] at this
theorem held_some {l : List Ce} {k : Nat} (h : heldAt l = some k) : relK l = (if (ceA l k).d = -1 then (l.set k ⟨(ceA l k).n, 3, (ceA l k).d, (ceA l k).x⟩, -1, 0, 0) else (l.eraseIdx k, (ceA l k).d, (ceA l k).x, 0)) ∧ k < l.length ∧ (ceA l k).s = 2 ∧ ∀ i, i < k → (ceA l i).s ≠ 2 := by
  refine ⟨by unfold relK; rw [h], ?_⟩
  unfold heldAt at h
  rw [List.findIdx?_eq_some_iff_getElem] at h
  obtain ⟨hk, hp, hj⟩ := h
  have e : ∀ i (hi : i < l.length), l[i] = ceA l i := fun i hi => by
    have := ceA_get hi
    rw [List.getElem?_eq_getElem hi] at this
    injection this
  rw [e] at hp
  simp at hp
  refine ⟨hk, hp, fun i hi hp2 => ?_⟩
  have := hj i hi
  rw [e] at this
  simp [hp2] at this
theorem ceA_erase {l : List Ce} {k j : Nat} : ceA (l.eraseIdx k) j = if j < k then ceA l j else ceA l (j + 1) := by
  unfold ceA
  rw [List.getD_eq_getElem?_getD, List.getElem?_eraseIdx]
  split
  · rw [List.getD_eq_getElem?_getD]
  · rw [List.getD_eq_getElem?_getD]
end Go.Proofs.Ytcicpgiljceioaa.Pk
