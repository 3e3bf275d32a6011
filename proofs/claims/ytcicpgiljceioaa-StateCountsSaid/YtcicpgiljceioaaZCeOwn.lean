/- The next node on the way, on lists of parents. -/
import Derived.Test.YtcicpgiljceioaaZGrList
import Derived.Test.YtcicpgiljceioaaZGrNext
import Derived.Test.YtcicpgiljceioaaZStVal
import Derived.Test.YtcicpgiljceioaaZChFacts
import Derived.Test.YtcicpgiljceioaaZGrWave
import Derived.Test.YtcicpgiljceioaaZPackMath
import Derived.Maps.AppendAt
import Derived.OwnWalk
namespace Go.Proofs.Ytcicpgiljceioaa.Gr
set_option linter.unusedVariables false
variable {ps : List Int}
/-- The next node towards b; b itself there. -/
def nx (ps : List Int) (a b : Nat) : Nat := if a = b then b else nextN ps a b
theorem Good.nx_is (G : Good ps) : Nx ps.length (root ps) (par ps) (dep ps) (nx ps) where
  self := fun b _ => if_pos rfl
  lt := fun a b ha hb => by
    unfold nx
    split
    · exact hb
    · rename_i h; exact (G.nextN_is ha hb h).1
  nr := fun a b ha hb hab => by
    unfold nx
    rw [if_neg hab]
    obtain ⟨h1, h2, _⟩ := G.nextN_is ha hb hab
    exact (G.near_iff h1 ha).1 h2
  dn := fun a b ha hb hab => by
    unfold nx
    rw [if_neg hab]
    exact (G.nextN_is ha hb hab).2.2
theorem nextI_nx {a b : Nat} (ha : a < ps.length) (hb : b < ps.length) : nextI ps (a : Int) (b : Int) = (nx ps a b : Nat) := by
  unfold nextI nx
  rw [if_pos (by omega)]
  by_cases h : a = b
  · rw [if_pos (by omega), if_pos h]
  · rw [if_neg (by omega), if_neg h]
    rfl
end Go.Proofs.Ytcicpgiljceioaa.Gr

/- Which states can be; the first ones. -/
namespace Go.Proofs.Ytcicpgiljceioaa.Pk
open Go.Proofs.Ytcicpgiljceioaa.Gr
set_option linter.unusedVariables false
def MeantS (n k : Int) (m : Mg) : Prop := 0 ≤ m.o ∧ m.o < k ∧ 0 ≤ m.n ∧ m.n < n ∧ 0 ≤ m.v ∧ m.v < n
instance (n k : Int) (m : Mg) : Decidable (MeantS n k m) := by unfold MeantS; exact inferInstance
def HomesS (n : Nat) (hs : List Int) : Prop := (1 ≤ hs.length ∧ hs.length ≤ 8) ∧ ∀ h ∈ hs, 0 ≤ h ∧ h < (n : Int)
instance (n : Nat) (hs : List Int) : Decidable (HomesS n hs) := by unfold HomesS; exact inferInstance
/-- How many wait or hold, of all objects. -/
def sumK : List Ow → Nat
  | [] => 0
  | o :: r => openK o.c + sumK r
def OwnOk (ps : List Int) (me : Int) (o : Ow) : Prop :=
  (o.a = me ∨ o.a ∈ nbsI ps me) ∧ (0 ≤ o.m ∧ o.m ≤ 1099511627776) ∧ GoodK o.c me (decide (o.a = me)) ∧ ∀ c ∈ o.c, c.n ≤ o.m ∧ c.d < (ps.length : Int)
instance (ps : List Int) (me : Int) (o : Ow) : Decidable (OwnOk ps me o) := by unfold OwnOk; exact inferInstance
def SideOk (n k : Int) (e : Hf) : Prop := e.Be ∧ ∀ m ∈ e.o, MeantS n k m
instance (n k : Int) (e : Hf) : Decidable (SideOk n k e) := by unfold SideOk; exact inferInstance
/-- The locates that are open: their numbers rise. -/
def AsksOk (k q : Int) : Int → List Ak → Prop
  | _, [] => True
  | last, a :: r => (0 ≤ a.o ∧ a.o < k) ∧ (last < a.n ∧ a.n ≤ q) ∧ AsksOk k q a.n r
def AsksOk.dec (k q : Int) : ∀ (last : Int) (l : List Ak), Decidable (AsksOk k q last l)
  | _, [] => .isTrue trivial
  | last, a :: r => by unfold AsksOk; exact @instDecidableAnd _ _ _ (@instDecidableAnd _ _ _ (AsksOk.dec k q a.n r))
instance (k q last : Int) (l : List Ak) : Decidable (AsksOk k q last l) := AsksOk.dec k q last l
def GotOk (n k q : Int) (f : Fnd) : Prop := (0 ≤ f.o ∧ f.o < k) ∧ (1 ≤ f.n ∧ f.n ≤ q) ∧ 0 ≤ f.w ∧ f.w < n
instance (n k q : Int) (f : Fnd) : Decidable (GotOk n k q f) := by unfold GotOk; exact inferInstance
structure GoodS (ps : List Int) (s : St) : Prop where
  me : 0 ≤ s.me ∧ s.me < (ps.length : Int)
  many : 1 ≤ s.os.length ∧ s.os.length ≤ 8
  os : ∀ o ∈ s.os, OwnOk ps s.me o
  ps_ : s.es.map (·.p) = nbsI ps s.me
  es : ∀ e ∈ s.es, SideOk (ps.length : Int) (s.os.length : Int) e
  q : 0 ≤ s.q ∧ s.q ≤ 1099511627776
  an : s.as_.length ≤ 4
  gn : s.gs.length ≤ 4
  as_ : AsksOk (s.os.length : Int) s.q 0 s.as_
  gs : ∀ f ∈ s.gs, GotOk (ps.length : Int) (s.os.length : Int) s.q f
  few : sumK s.os ≤ 8
/-- The state in which a node begins. -/
def firstS (ps hs : List Int) (me : Int) : St :=
  ⟨me, hs.map fun h => ⟨nextI ps me h, 0, if h = me then [⟨0, 3, -1, 0⟩] else []⟩, (nbsI ps me).map fun v => ⟨v, 0, [], 0⟩, 0, [], []⟩
theorem sumK_rest (f : Int → Ow) (h : ∀ x, openK (f x).c = 0) : ∀ hs : List Int, sumK (hs.map f) = 0
  | [] => rfl
  | x :: r => by rw [List.map_cons, sumK, h, sumK_rest f h r]
theorem first_good {ps hs : List Int} (G : Gr.Good ps) (hn : ps.length ≤ 32) {me : Int} (h0 : 0 ≤ me) (h1 : me < (ps.length : Int)) (hh : HomesS ps.length hs) : GoodS ps (firstS ps hs me) := by
  obtain ⟨m, rfl⟩ : ∃ m : Nat, me = (m : Int) := ⟨me.toNat, by omega⟩
  have hm : m < ps.length := by omega
  have key : ∀ h : Nat, h < ps.length → (nextI ps (m : Int) (h : Int) = (m : Int) ↔ h = m) ∧ (nextI ps (m : Int) (h : Int) = (m : Int) ∨ nextI ps (m : Int) (h : Int) ∈ nbsI ps (m : Int)) := by
    intro h hh
    rw [nextI_nx hm hh]
    have X := G.nx_is
    by_cases e : h = m
    · subst e
      rw [X.self h hh]
      exact ⟨⟨fun _ => rfl, fun _ => rfl⟩, .inl rfl⟩
    · have hlt := X.lt m h hm hh
      have hne : nx ps m h ≠ m := fun hx => by
        have := X.dn m h hm hh (fun e2 => e e2.symm)
        rw [hx] at this
        omega
      refine ⟨⟨fun hx => absurd (show nx ps m h = m by omega) hne, fun hx => absurd hx e⟩, .inr ?_⟩
      unfold nbsI
      rw [if_pos ⟨by omega, by omega⟩]
      unfold nbs
      refine List.mem_map.2 ⟨nx ps m h, List.mem_filter.2 ⟨List.mem_range.2 hlt, ?_⟩, rfl⟩
      rw [show ((m : Int)).toNat = m by omega]
      exact (G.near_iff hlt hm).2 (X.nr m h hm hh (fun e2 => e e2.symm))
  have bound : ∀ v ∈ nbsI ps (m : Int), 0 ≤ v ∧ v < (ps.length : Int) := by
    intro v hv
    unfold nbsI at hv
    rw [if_pos ⟨h0, h1⟩] at hv
    unfold nbs at hv
    obtain ⟨u, hu, rfl⟩ := List.mem_map.1 hv
    have := List.mem_range.1 (List.mem_filter.1 hu).1
    omega
  refine ⟨⟨h0, h1⟩, by unfold firstS; simpa using hh.1, ?_, by unfold firstS; simp [Function.comp_def], ?_, by unfold firstS; simp, by unfold firstS; simp, by unfold firstS; simp, trivial, fun f hf => by unfold firstS at hf; simp at hf, ?_⟩
  · intro o ho
    obtain ⟨h, hin, rfl⟩ := List.mem_map.1 ho
    obtain ⟨q1, q2⟩ := hh.2 h hin
    obtain ⟨k, rfl⟩ : ∃ k : Nat, h = (k : Int) := ⟨h.toNat, by omega⟩
    obtain ⟨e1, e2⟩ := key k (by omega)
    show OwnOk ps (m : Int) _
    refine ⟨e2, ⟨by simp, by simp⟩, ?_, ?_⟩
    · by_cases hk : k = m
      · subst hk
        have := e1.2 rfl
        simp only [this, decide_true, if_true]
        refine ⟨fun _ => by simp, fun i hi => ?_⟩
        have : i = 0 := by simpa using hi
        subst this
        exact ⟨⟨by show (0 : Int) ≤ 0; omega, by show (0 : Int) ≤ 1099511627776; omega, by show (1 : Int) ≤ 3; omega, by show (3 : Int) ≤ 3; omega⟩, fun h => absurd h (by omega), fun _ => rfl, by rw [if_pos ⟨rfl, rfl⟩]; exact ⟨rfl, rfl⟩⟩
      · have hne : ¬ nextI ps (m : Int) (k : Int) = (m : Int) := fun h => hk (e1.1 h)
        have hkm : ¬ ((k : Int) = (m : Int)) := by omega
        simp only [hne, hkm, decide_false, if_false]
        exact ⟨fun h => (by cases h), fun i hi => (by simp at hi)⟩
    · intro c hc
      have hc : c ∈ (if (k : Int) = (m : Int) then [(⟨0, 3, -1, 0⟩ : Ce)] else []) := hc
      split at hc
      · rw [List.mem_singleton.1 hc]
        exact ⟨by show (0 : Int) ≤ 0; omega, by show (-1 : Int) < _; omega⟩
      · cases hc
  · intro e he
    obtain ⟨v, hv, rfl⟩ := List.mem_map.1 he
    obtain ⟨b1, b2⟩ := bound v hv
    refine ⟨⟨b1, by show v ≤ 31; omega, by show (0 : Int) ≤ 0; omega, by show (0 : Int) ≤ 0; omega, by show (0 : Int) ≤ 1099511627776; omega, by simp, by simp, fun m hm => by cases hm⟩, fun m hm => by cases hm⟩
  · have : sumK (firstS ps hs (m : Int)).os = 0 := sumK_rest _ (fun x => by
      by_cases hx : x = (m : Int)
      · simp [hx, openK]
      · simp [hx, openK]) hs
    omega
end Go.Proofs.Ytcicpgiljceioaa.Pk

/- Cells in memory: five cells each. -/
namespace Go.Proofs.Ytcicpgiljceioaa.Pk
open Go.RowKit
set_option linter.unusedVariables false
def Ce.cells (m : Ce) : List Value := [.int .i64 m.n, .int .i64 m.s, .int .i64 m.d, .int .i64 m.x]
def ces (l : List Ce) : List Value := l.flatMap Ce.cells
theorem ces_cons (r : Ce) (l : List Ce) : ces (r :: l) = .int .i64 r.n :: .int .i64 r.s :: .int .i64 r.d :: .int .i64 r.x :: ces l := rfl
@[simp] theorem ces_length (l : List Ce) : (ces l).length = l.length * 4 := by
  induction l with
  | nil => rfl
  | cons r l ih => rw [ces_cons]; simp [ih]; omega
theorem ces_get {l : List Ce} {k : Nat} {r : Ce} (h : l[k]? = some r) : (ces l)[k * 4]? = some (.int .i64 r.n) ∧ (ces l)[k * 4 + 1]? = some (.int .i64 r.s) ∧ (ces l)[k * 4 + 2]? = some (.int .i64 r.d) ∧ (ces l)[k * 4 + 3]? = some (.int .i64 r.x) := by
  induction l generalizing k with
  | nil => simp at h
  | cons x l ih =>
    rw [ces_cons]
    match k, h with
    | 0, h => simp at h; subst h; exact ⟨rfl, rfl, rfl, rfl⟩
    | k + 1, h =>
      have := ih (k := k) (by simpa using h)
      rw [show (k + 1) * 4 = k * 4 + 1 + 1 + 1 + 1 by omega]
      simpa using this
theorem Reads.ces_ {w : World} {B : Nat} {A : Option Addr} {n : Nat} {l : List Ce} (h : Reads w B 4 A n (ces l)) (hn : 0 < n) :
    ∃ b off, A = some ⟨b, off, none⟩ ∧ b < B ∧ ∀ i r, l[i]? = some r → w.cell? ⟨b, off + i * 4, none⟩ = some (.int .i64 r.n) ∧ w.cell? ⟨b, off + i * 4 + 1, none⟩ = some (.int .i64 r.s) ∧
      w.cell? ⟨b, off + i * 4 + 2, none⟩ = some (.int .i64 r.d) ∧ w.cell? ⟨b, off + i * 4 + 3, none⟩ = some (.int .i64 r.x) := by
  obtain ⟨ad, rfl, hb, hc⟩ := h.2 hn
  have hl : 0 < (ces l).length := by rw [h.1]; omega
  have h0 := hc 0 _ (List.getElem?_eq_getElem hl)
  obtain ⟨b, off, spot⟩ := ad
  have hs : spot = none := by simpa [Addr.add] using World.cell?_spot h0
  subst hs
  have hat : ∀ j u, (ces l)[j]? = some u → w.cell? ⟨b, off + j, none⟩ = some u := by
    intro j u hu
    have := hc j u hu
    unfold Addr.add at this
    by_cases hj : j = 0
    · subst hj; simpa using this
    · simpa [hj] using this
  refine ⟨b, off, rfl, hb, fun i r hr => ?_⟩
  obtain ⟨h1, h2, h3, h4⟩ := ces_get hr
  exact ⟨hat _ _ h1, by rw [Nat.add_assoc]; exact hat _ _ h2, by rw [Nat.add_assoc]; exact hat _ _ h3, by rw [Nat.add_assoc]; exact hat _ _ h4⟩
theorem Reads.klen {w : World} {B : Nat} {A : Option Addr} {n : Nat} {l : List Ce} (h : Reads w B 4 A n (ces l)) : l.length = n := by
  have := h.1; simp at this; omega
end Go.Proofs.Ytcicpgiljceioaa.Pk

/- Cells of the call's own: what a list of them owns, and how it grows. -/
namespace Go.Proofs.Ytcicpgiljceioaa.Pk
open Go.RowKit
set_option linter.unusedVariables false
theorem ces_append (l m : List Ce) : ces (l ++ m) = ces l ++ ces m := List.flatMap_append ..
theorem ces_one (l : List Ce) : ∀ u ∈ ces l, u.oneCell' = true := by
  intro u hu
  obtain ⟨r, _, h⟩ := List.mem_flatMap.1 hu
  simp [Ce.cells] at h
  rcases h with rfl | rfl | rfl | rfl <;> rfl
theorem cell_info : (Try.prog.info? 57).map (fun i => (i.zero, i.size, i.bytes)) = some (some (.agg #[.int .i64 0, .int .i64 0, .int .i64 0, .int .i64 0]), 4, 32) := by kernel_rfl
/-- The value owns the cells. -/
def OwnK (w : World) (B : Nat) (v : Value) (l : List Ce) : Prop := w.ownsRow B 57 4 v l.length (ces l)
theorem OwnK.none_ (w : World) (B : Nat) : OwnK w B (.slice none 0 0) [] := ⟨rfl, .inl ⟨rfl, rfl⟩⟩
theorem OwnK.alloc {w : World} {B : Nat} {v : Value} {l : List Ce} (h : OwnK w B v l) (o : Obj) : OwnK (w.alloc o) B v l := World.ownsRow.alloc h o
theorem ownK_base {w : World} {base : Nat} {v : Value} {l : List Ce} (h : OwnK w base v l) : ∀ k, v.ownBlock = some k → base ≤ k := by
  intro k hk
  rcases h.2 with ⟨rfl, _⟩ | ⟨g, cap, cur, rfl, hb, _⟩
  · simp [Value.ownBlock] at hk
  · simp [Value.ownBlock] at hk; omega
theorem ownK_lt {w : World} {B : Nat} {v : Value} {l : List Ce} (h : OwnK w B v l) : ∀ g, v.ownBlock = some g → g < w.heap.size := by
  intro g hg
  rcases h.2 with ⟨rfl, _⟩ | ⟨g', cap, cur, rfl, _, hh, _⟩
  · simp [Value.ownBlock] at hg
  · simp [Value.ownBlock] at hg
    subst hg
    rcases Nat.lt_or_ge g' w.heap.size with h' | h'
    · exact h'
    · rw [Array.getElem?_eq_none h'] at hh; cases hh
theorem OwnK.stay {w w' : World} {B : Nat} {v : Value} {l : List Ce} (h : OwnK w B v l) (hk : ∀ g, v.ownBlock = some g → w'.heap[g]? = w.heap[g]?) : OwnK w' B v l := by
  obtain ⟨h1, h2⟩ := h
  refine ⟨h1, ?_⟩
  rcases h2 with h2 | ⟨g, cap, cur, rfl, hg, hh, hr⟩
  · exact .inl h2
  · exact .inr ⟨g, cap, cur, rfl, hg, (hk g rfl).trans hh, hr⟩
theorem OwnK.below {w w' : World} {B : Nat} {v : Value} {l : List Ce} (h : OwnK w B v l) (hb : Below w.heap.size w w') : OwnK w' B v l := h.stay fun g e => hb.block g (ownK_lt h g e)
theorem OwnK.reads {w : World} {B : Nat} {v : Value} {l : List Ce} (h : OwnK w B v l) : ∃ A c, v = .slice A l.length c ∧ l.length ≤ c ∧ Reads w w.heap.size 4 A l.length (ces l) := by
  have h2 := h
  obtain ⟨h1, ⟨rfl, e⟩ | ⟨g, cap, cur, rfl, _, _, hc, _⟩⟩ := h2
  · obtain rfl : l = [] := List.length_eq_zero_iff.1 e
    exact ⟨none, 0, rfl, by simp, Reads.none_⟩
  · exact ⟨_, cap, rfl, hc, Reads.of_own h⟩
theorem ownK_slice {w : World} {B : Nat} {v : Value} {l : List Ce} (h : OwnK w B v l) : ∃ A n c, v = .slice A n c := by
  obtain ⟨A, c, e, _, _⟩ := h.reads
  exact ⟨A, _, c, e⟩
/-- One cell more, out of a new box. -/
theorem appK {ops : Array Oper} {rest : List Oper} {o : Oper} {a : Act} {Q : Exit → Act → World → Prop} (w : World) (m : Ce) (T : TypeId) (hgd : o.guard = none) (so x : Operand)
    (ho : o.op = .call { callee := .builtin .append, args := #[so, x], argTypes := #[53, 53] }) (B : Nat) (v : Value) (l : List Ce) (hs : a.eval so = v) (hown : OwnK w B v l)
    (g : Nat) (hg : g = w.heap.size) (hx : a.eval x = .slice (some ⟨g, 0, none⟩) 1 1) (hlen : (l.length + 1) * 32 ≤ 140737488355328) (hB : B ≤ w.heap.size)
    (h : ∀ v' w', OwnK w' B v' (l ++ [m]) → Below B w w' → (w.alloc (.cells #[.int .i64 m.n, .int .i64 m.s, .int .i64 m.d, .int .i64 m.x] T)).grownBy w' v.ownBlock → (v'.ownBlock = v.ownBlock ∨ v'.ownBlock = some (w.heap.size + 1)) → wpList Try.prog ops Q rest (a.put o.dst v') w') : wpList Try.prog ops Q (o :: rest) a (w.alloc (.cells #[.int .i64 m.n, .int .i64 m.s, .int .i64 m.d, .int .i64 m.x] T)) := by
  subst hg
  obtain ⟨i0, hi0, hz0, hz1, hz2⟩ := info_parts cell_info
  refine wpList_append_own_at (P := Try.prog) _ hgd so x _ ho B 57 i0 _ 4 32 Try.underlying53 hi0 hz0 hz1 hz2 rfl (by omega) v l.length (ces l) hs (World.ownsRow.alloc hown _) ⟨w.heap.size, 0, none⟩ 1 1 (ces [m]) hx rfl ?_ (ces_one _)
    (by unfold maxLen; omega) (by omega) (by simp; omega) ?_
  · intro j u hj
    match j, hj with
    | 0, hj => simp [ces, Ce.cells] at hj; subst hj; simp [Addr.add]
    | 1, hj => simp [ces, Ce.cells] at hj; subst hj; simp [Addr.add]
    | 2, hj => simp [ces, Ce.cells] at hj; subst hj; simp [Addr.add]
    | 3, hj => simp [ces, Ce.cells] at hj; subst hj; simp [Addr.add]
    | j + 4, hj => simp [ces, Ce.cells] at hj
  · intro v' w' ho hg _ hat
    refine h v' w' ?_ (((Below.refl _ _).alloc hB _).grown hg (by simp; omega) (ownK_base hown)) hg (by simpa using hat)
    unfold OwnK
    rw [ces_append, List.length_append]; exact ho
end Go.Proofs.Ytcicpgiljceioaa.Pk
