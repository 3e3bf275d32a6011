/- A state of one's own of which one part is turned; what StateCounts counts. -/
import Derived.Test.YtcicpgiljceioaaZStSpoil
import Derived.Test.YtcicpgiljceioaaZStSpec
import Derived.Test.YtcicpgiljceioaaZCeOwn
namespace Go.Proofs.Ytcicpgiljceioaa.Pk
open Go.RowKit Go.Proofs.Ytcicpgiljceioaa.Gr
set_option linter.unusedVariables false
theorem bareK_take {l : List Ce} {i : Nat} (h : i < l.length) : bareK (l.take (i + 1)) = bareK (l.take i) + (if (ceA l i).d = -1 then 1 else 0) := by
  unfold bareK
  rw [List.take_add_one, ceA_get h, Option.toList, List.filter_append, List.length_append]
  by_cases hs : (ceA l i).d = -1
  · rw [if_pos hs]; simp [hs]
  · rw [if_neg hs]; simp [hs]
theorem bareK_le (l : List Ce) : bareK l ≤ l.length := List.length_filter_le _ _
theorem and7 (n : Int) : ∃ k : Nat, k ≤ 7 ∧ bits .and .i64 n 7 = (k : Int) := by
  unfold bits
  have h : (BitVec.ofInt 64 n &&& BitVec.ofInt 64 7).toNat ≤ 7 := by
    rw [BitVec.toNat_and]
    exact Nat.le_trans Nat.and_le_right (by decide)
  refine ⟨(BitVec.ofInt 64 n &&& BitVec.ofInt 64 7).toNat, h, ?_⟩
  show IntKind.i64.wrap ((BitVec.ofInt 64 n &&& BitVec.ofInt 64 7).toNat : Int) = _
  generalize (BitVec.ofInt 64 n &&& BitVec.ofInt 64 7).toNat = k at h ⊢
  unfold IntKind.wrap
  simp [IntKind.bits, IntKind.signed]
  omega
/-- Lists of one's own, read. -/
theorem in_parts {w : World} {B1 B2 B3 B4 : Nat} {s : StL} (ho : OwnO w B1 s.so.val s.os) (he : OwnE w B2 s.se.val s.es) (ha : akR.Own w B3 s.sa.val s.as_) (hg : fdR.Own w B4 s.sg.val s.gs) (hf : FewS s.v) : InS w s := by
  have rd : ∀ {α : Type} {R : Row α} {B : Nat} {sl : Sl} {l : List α}, R.Own w B sl.val l → l.length * R.by_ ≤ 140737488351232 → InR R w sl l := by
    intro α R B sl l ho hl
    obtain ⟨h1, h2, h3⟩ := Row.Own.rd ho
    exact ⟨h3, h2, by rw [← h1]; exact hl⟩
  have mo : ∀ x ∈ s.os, x.v ∈ s.v.os := fun x hx => List.mem_map.2 ⟨x, hx, rfl⟩
  have me : ∀ x ∈ s.es, x.v ∈ s.v.es := fun x hx => List.mem_map.2 ⟨x, hx, rfl⟩
  refine ⟨hf.me, hf.q, rd ho.row (by have := hf.os; unfold StL.v at this; simp only [List.length_map] at this; exact this), rd he.row (by have := hf.es; unfold StL.v at this; simp only [List.length_map] at this; exact this), rd ha hf.as_, rd hg hf.gs, fun x hx => ?_, fun x hx => ?_, hf.a, hf.g⟩
  · obtain ⟨h1, h2, h3, h4⟩ := hf.o _ (mo x hx)
    exact ⟨h1, h2, rd (ho.each x hx) h3, h4⟩
  · obtain ⟨h1, h2, h3, h4, h5⟩ := hf.e _ (me x hx)
    exact ⟨h1, h2, h3, rd (he.each x hx) h4, h5⟩
theorem Apart.other {a b : List Value} {v : Value} (h : Apart (a ++ v :: b)) : ∀ u ∈ a ++ b, ∀ g, ownB u = some g → some g ≠ ownB v := fun u hu g hg e => h.ne hu e.symm hg rfl
section
variable {w V : World} {B : Nat} {s : StL}
/-- Only the row of the objects was turned. -/
theorem OwnS.but_o (h : OwnS w B s) (hk : ∀ g, g < w.heap.size → some g ≠ ownB s.so.val → V.heap[g]? = w.heap[g]?) : (∀ x ∈ s.os, ceR.Own V B x.s.val x.v.c) ∧ OwnE V B s.se.val s.es ∧ akR.Own V B s.sa.val s.as_ ∧ fdR.Own V B s.sg.val s.gs := by
  have hA := Apart.other (a := []) (v := s.so.val) (b := owS s.os ++ ((s.se.val :: sdS s.es) ++ [s.sa.val, s.sg.val])) h.apart
  have m1 : ∀ u ∈ owS s.os, u ∈ [] ++ (owS s.os ++ ((s.se.val :: sdS s.es) ++ [s.sa.val, s.sg.val])) := fun u hu => List.mem_append_right [] (List.mem_append_left _ hu)
  have m2 : ∀ u ∈ s.se.val :: sdS s.es, u ∈ [] ++ (owS s.os ++ ((s.se.val :: sdS s.es) ++ [s.sa.val, s.sg.val])) := fun u hu => List.mem_append_right [] (List.mem_append_right _ (List.mem_append_left _ hu))
  have m3 : ∀ u ∈ [s.sa.val, s.sg.val], u ∈ [] ++ (owS s.os ++ ((s.se.val :: sdS s.es) ++ [s.sa.val, s.sg.val])) := fun u hu => List.mem_append_right [] (List.mem_append_right _ (List.mem_append_right _ hu))
  refine ⟨fun x hx => (h.os.each x hx).stay fun g e => hk g ((h.os.each x hx).lt g e) (hA _ (m1 _ (List.mem_map.2 ⟨x, hx, rfl⟩)) g e), ⟨h.es.row.stay fun g e => hk g (h.es.row.lt g e) (hA _ (m2 _ List.mem_cons_self) g e), fun x hx => (h.es.each x hx).stay fun g e => hk g ((h.es.each x hx).lt g e) (hA _ (m2 _ (List.mem_cons_of_mem _ (List.mem_map.2 ⟨x, hx, rfl⟩))) g e), h.es.apart⟩, h.as_.stay fun g e => hk g (h.as_.lt g e) (hA _ (m3 _ List.mem_cons_self) g e), h.gs.stay fun g e => hk g (h.gs.lt g e) (hA _ (m3 _ (List.mem_cons_of_mem _ List.mem_cons_self)) g e)⟩
/-- Only the row of the sides was turned. -/
theorem OwnS.but_e (h : OwnS w B s) (hk : ∀ g, g < w.heap.size → some g ≠ ownB s.se.val → V.heap[g]? = w.heap[g]?) : OwnO V B s.so.val s.os ∧ (∀ x ∈ s.es, mgR.Own V B x.s.val x.v.o) ∧ akR.Own V B s.sa.val s.as_ ∧ fdR.Own V B s.sg.val s.gs := by
  have hA := Apart.other (a := s.so.val :: owS s.os) (v := s.se.val) (b := sdS s.es ++ [s.sa.val, s.sg.val]) h.apart
  have m1 : ∀ u ∈ s.so.val :: owS s.os, u ∈ (s.so.val :: owS s.os) ++ (sdS s.es ++ [s.sa.val, s.sg.val]) := fun u hu => List.mem_append_left _ hu
  have m2 : ∀ u ∈ sdS s.es, u ∈ (s.so.val :: owS s.os) ++ (sdS s.es ++ [s.sa.val, s.sg.val]) := fun u hu => List.mem_append_right _ (List.mem_append_left _ hu)
  have m3 : ∀ u ∈ [s.sa.val, s.sg.val], u ∈ (s.so.val :: owS s.os) ++ (sdS s.es ++ [s.sa.val, s.sg.val]) := fun u hu => List.mem_append_right _ (List.mem_append_right _ hu)
  refine ⟨⟨h.os.row.stay fun g e => hk g (h.os.row.lt g e) (hA _ (m1 _ List.mem_cons_self) g e), fun x hx => (h.os.each x hx).stay fun g e => hk g ((h.os.each x hx).lt g e) (hA _ (m1 _ (List.mem_cons_of_mem _ (List.mem_map.2 ⟨x, hx, rfl⟩))) g e), h.os.apart⟩, fun x hx => (h.es.each x hx).stay fun g e => hk g ((h.es.each x hx).lt g e) (hA _ (m2 _ (List.mem_map.2 ⟨x, hx, rfl⟩)) g e), h.as_.stay fun g e => hk g (h.as_.lt g e) (hA _ (m3 _ List.mem_cons_self) g e), h.gs.stay fun g e => hk g (h.gs.lt g e) (hA _ (m3 _ (List.mem_cons_of_mem _ List.mem_cons_self)) g e)⟩
/-- Only the row of the open locates was turned. -/
theorem OwnS.but_a (h : OwnS w B s) (hk : ∀ g, g < w.heap.size → some g ≠ ownB s.sa.val → V.heap[g]? = w.heap[g]?) : OwnO V B s.so.val s.os ∧ OwnE V B s.se.val s.es ∧ fdR.Own V B s.sg.val s.gs := by
  have hp : Apart (((s.so.val :: owS s.os) ++ (s.se.val :: sdS s.es)) ++ s.sa.val :: [s.sg.val]) := by have := h.apart; rwa [← List.append_assoc] at this
  have hA := Apart.other hp
  have m1 : ∀ u ∈ s.so.val :: owS s.os, u ∈ ((s.so.val :: owS s.os) ++ (s.se.val :: sdS s.es)) ++ [s.sg.val] := fun u hu => List.mem_append_left _ (List.mem_append_left _ hu)
  have m2 : ∀ u ∈ s.se.val :: sdS s.es, u ∈ ((s.so.val :: owS s.os) ++ (s.se.val :: sdS s.es)) ++ [s.sg.val] := fun u hu => List.mem_append_left _ (List.mem_append_right _ hu)
  have m3 : s.sg.val ∈ ((s.so.val :: owS s.os) ++ (s.se.val :: sdS s.es)) ++ [s.sg.val] := List.mem_append_right _ List.mem_cons_self
  exact ⟨⟨h.os.row.stay fun g e => hk g (h.os.row.lt g e) (hA _ (m1 _ List.mem_cons_self) g e), fun x hx => (h.os.each x hx).stay fun g e => hk g ((h.os.each x hx).lt g e) (hA _ (m1 _ (List.mem_cons_of_mem _ (List.mem_map.2 ⟨x, hx, rfl⟩))) g e), h.os.apart⟩, ⟨h.es.row.stay fun g e => hk g (h.es.row.lt g e) (hA _ (m2 _ List.mem_cons_self) g e), fun x hx => (h.es.each x hx).stay fun g e => hk g ((h.es.each x hx).lt g e) (hA _ (m2 _ (List.mem_cons_of_mem _ (List.mem_map.2 ⟨x, hx, rfl⟩))) g e), h.es.apart⟩, h.gs.stay fun g e => hk g (h.gs.lt g e) (hA _ m3 g e)⟩
/-- Only the row of the answers was turned. -/
theorem OwnS.but_g (h : OwnS w B s) (hk : ∀ g, g < w.heap.size → some g ≠ ownB s.sg.val → V.heap[g]? = w.heap[g]?) : OwnO V B s.so.val s.os ∧ OwnE V B s.se.val s.es ∧ akR.Own V B s.sa.val s.as_ := by
  have hp : Apart ((((s.so.val :: owS s.os) ++ (s.se.val :: sdS s.es)) ++ [s.sa.val]) ++ s.sg.val :: []) := by have := h.apart; rwa [← List.append_assoc, show [s.sa.val, s.sg.val] = [s.sa.val] ++ [s.sg.val] from rfl, ← List.append_assoc] at this
  have hA := Apart.other hp
  have m1 : ∀ u ∈ s.so.val :: owS s.os, u ∈ (((s.so.val :: owS s.os) ++ (s.se.val :: sdS s.es)) ++ [s.sa.val]) ++ [] := fun u hu => List.mem_append_left _ (List.mem_append_left _ (List.mem_append_left _ hu))
  have m2 : ∀ u ∈ s.se.val :: sdS s.es, u ∈ (((s.so.val :: owS s.os) ++ (s.se.val :: sdS s.es)) ++ [s.sa.val]) ++ [] := fun u hu => List.mem_append_left _ (List.mem_append_left _ (List.mem_append_right _ hu))
  have m3 : s.sa.val ∈ (((s.so.val :: owS s.os) ++ (s.se.val :: sdS s.es)) ++ [s.sa.val]) ++ [] := List.mem_append_left _ (List.mem_append_right _ List.mem_cons_self)
  exact ⟨⟨h.os.row.stay fun g e => hk g (h.os.row.lt g e) (hA _ (m1 _ List.mem_cons_self) g e), fun x hx => (h.os.each x hx).stay fun g e => hk g ((h.os.each x hx).lt g e) (hA _ (m1 _ (List.mem_cons_of_mem _ (List.mem_map.2 ⟨x, hx, rfl⟩))) g e), h.os.apart⟩, ⟨h.es.row.stay fun g e => hk g (h.es.row.lt g e) (hA _ (m2 _ List.mem_cons_self) g e), fun x hx => (h.es.each x hx).stay fun g e => hk g ((h.es.each x hx).lt g e) (hA _ (m2 _ (List.mem_cons_of_mem _ (List.mem_map.2 ⟨x, hx, rfl⟩))) g e), h.es.apart⟩, h.as_.stay fun g e => hk g (h.as_.lt g e) (hA _ m3 g e)⟩
end
/-- A list of a state that lies in a box grows behind the box. -/
theorem grown_far {w7 Vb Vn V8 : World} {cs : Array Value} {T : TypeId} {o : Obj} {row : Option Nat} (hVb : Vb = w7.alloc (.cells cs T)) (hVn : Vn = Vb.alloc o) (hg : Vn.grownBy V8 row) (hr : ∀ g, row = some g → g < w7.heap.size) (j : Nat) (u : Value) :
    (∀ g, g < w7.heap.size → some g ≠ row → (V8.setCell ⟨w7.heap.size, j, none⟩ u).heap[g]? = w7.heap[g]?) ∧ Blk V8 w7.heap.size T cs ∧ (∀ {B : Nat} {a : World}, B ≤ a.heap.size → Below B a w7 → (∀ g, row = some g → B ≤ g) → Below B a (V8.setCell ⟨w7.heap.size, j, none⟩ u)) ∧ Below w7.heap.size w7 Vn ∧ Vn.heap.size = w7.heap.size + 1 + 1 := by
  have hs1 : Vb.heap.size = w7.heap.size + 1 := by rw [hVb, World.size_alloc]
  have hs2 : Vn.heap.size = w7.heap.size + 1 + 1 := by rw [hVn, World.size_alloc, hs1]
  have hb1 : Below w7.heap.size w7 Vb := hVb ▸ (Below.refl _ _).alloc (Nat.le_refl _) _
  have hb2 : Below w7.heap.size w7 Vn := hVn ▸ hb1.alloc hb1.size _
  have hk : Blk Vn w7.heap.size T cs := by rw [hVn, hVb]; exact (Blk.new w7 T cs).alloc _
  have hne : some w7.heap.size ≠ row := fun e => by have := hr _ e.symm; omega
  refine ⟨fun g hgl hgr => ?_, (hg.block _ (by omega) hne).trans hk, fun {B a} h0 h hB => ?_, hb2, hs2⟩
  · exact (setc_other _ _ _ _ _ (by omega)).trans ((hg.block g (by omega) hgr).trans (hb2.block g hgl))
  · have h1 : Below B a Vn := by rw [hVn, hVb]; exact (h.alloc (Nat.le_trans h0 h.size) _).alloc (by rw [World.size_alloc]; have := h.size; omega) _
    exact below_setc (h1.grown hg (Nat.le_trans h0 h1.size) hB) (Nat.le_trans h0 h.size) _ _
theorem app_e {w7 Vb Vn V8 : World} {cs : Array Value} {T : TypeId} {o : Obj} {B0 j : Nat} {s : StL} {v8 : Value} (h : OwnS w7 B0 s) (hB : B0 ≤ w7.heap.size) (hVb : Vb = w7.alloc (.cells cs T)) (hVn : Vn = Vb.alloc o) (ho : sdR.Own V8 B0 v8 (s.es ++ [⟨⟨0, 0, [], 0⟩, ⟨none, 0, 0⟩⟩])) (hg : Vn.grownBy V8 (ownB s.se.val)) (hl : LiesB Vn s.se.val v8) :
    Blk V8 w7.heap.size T cs ∧ (∀ {B : Nat} {a : World}, B ≤ B0 → B ≤ a.heap.size → Below B a w7 → Below B a (V8.setCell ⟨w7.heap.size, j, none⟩ v8)) ∧ OwnO (V8.setCell ⟨w7.heap.size, j, none⟩ v8) B0 s.so.val s.os ∧ OwnE (V8.setCell ⟨w7.heap.size, j, none⟩ v8) B0 v8 (s.es ++ [⟨⟨0, 0, [], 0⟩, ⟨none, 0, 0⟩⟩]) ∧ akR.Own (V8.setCell ⟨w7.heap.size, j, none⟩ v8) B0 s.sa.val s.as_ ∧ fdR.Own (V8.setCell ⟨w7.heap.size, j, none⟩ v8) B0 s.sg.val s.gs := by
  obtain ⟨f1, f2, f3, f4, f5⟩ := grown_far hVb hVn hg h.es.row.lt j v8
  obtain ⟨q1, q2, q3, q4⟩ := h.but_e f1
  refine ⟨f2, fun hb h0 h1 => f3 h0 h1 (fun g e => Nat.le_trans hb (h.es.row.base g e)), q1, ?_, q3, q4⟩
  refine (h.es.push hB f4 (Row.Own.none_ _ _) ho hg hl).stay_ fun g u hu e => setc_other _ _ _ _ _ ?_
  rcases List.mem_cons.1 hu with rfl | hu
  · rcases hl with hl | hl | ⟨k, hl, hk⟩
    · rw [e] at hl
      have := h.es.row.lt g hl.symm
      omega
    · rw [e] at hl; cases hl
    · rw [e] at hl
      injection hl with hl
      omega
  · unfold sdS at hu
    rw [List.map_append] at hu
    rcases List.mem_append.1 hu with hu | hu
    · obtain ⟨y, hy, rfl⟩ := List.mem_map.1 hu
      have := (h.es.each y hy).lt g e
      omega
    · rw [List.map_cons, List.map_nil, List.mem_singleton] at hu
      rw [hu] at e
      cases e
theorem row_far {α : Type} {R : Row α} {w7 Vn V8 : World} {B0 j : Nat} {v v8 : Value} {l l' : List α} (h : R.Own w7 B0 v l) (hs : Vn.heap.size = w7.heap.size + 1 + 1) (ho : R.Own V8 B0 v8 l') (hl : LiesB Vn v v8) (u : Value) : R.Own (V8.setCell ⟨w7.heap.size, j, none⟩ u) B0 v8 l' := by
  refine ho.stay fun g e => setc_other _ _ _ _ _ ?_
  rcases hl with hl | hl | ⟨k, hl, hk⟩
  · rw [e] at hl
    have := h.lt g hl.symm
    omega
  · rw [e] at hl; cases hl
  · rw [e] at hl
    injection hl with hl
    omega
theorem app_a {w7 Vb Vn V8 : World} {cs : Array Value} {T : TypeId} {o : Obj} {B0 j : Nat} {s : StL} {v8 : Value} {z : Ak} (h : OwnS w7 B0 s) (hVb : Vb = w7.alloc (.cells cs T)) (hVn : Vn = Vb.alloc o) (ho : akR.Own V8 B0 v8 (s.as_ ++ [z])) (hg : Vn.grownBy V8 (ownB s.sa.val)) (hl : LiesB Vn s.sa.val v8) :
    Blk V8 w7.heap.size T cs ∧ (∀ {B : Nat} {a : World}, B ≤ B0 → B ≤ a.heap.size → Below B a w7 → Below B a (V8.setCell ⟨w7.heap.size, j, none⟩ v8)) ∧ OwnO (V8.setCell ⟨w7.heap.size, j, none⟩ v8) B0 s.so.val s.os ∧ OwnE (V8.setCell ⟨w7.heap.size, j, none⟩ v8) B0 s.se.val s.es ∧ akR.Own (V8.setCell ⟨w7.heap.size, j, none⟩ v8) B0 v8 (s.as_ ++ [z]) ∧ fdR.Own (V8.setCell ⟨w7.heap.size, j, none⟩ v8) B0 s.sg.val s.gs := by
  obtain ⟨f1, f2, f3, f4, f5⟩ := grown_far hVb hVn hg h.as_.lt j v8
  obtain ⟨q1, q2, q3⟩ := h.but_a f1
  exact ⟨f2, fun hb h0 h1 => f3 h0 h1 (fun g e => Nat.le_trans hb (h.as_.base g e)), q1, q2, row_far h.as_ f5 ho hl _, q3⟩
theorem app_g {w7 Vb Vn V8 : World} {cs : Array Value} {T : TypeId} {o : Obj} {B0 j : Nat} {s : StL} {v8 : Value} {z : Fnd} (h : OwnS w7 B0 s) (hVb : Vb = w7.alloc (.cells cs T)) (hVn : Vn = Vb.alloc o) (ho : fdR.Own V8 B0 v8 (s.gs ++ [z])) (hg : Vn.grownBy V8 (ownB s.sg.val)) (hl : LiesB Vn s.sg.val v8) :
    Blk V8 w7.heap.size T cs ∧ (∀ {B : Nat} {a : World}, B ≤ B0 → B ≤ a.heap.size → Below B a w7 → Below B a (V8.setCell ⟨w7.heap.size, j, none⟩ v8)) ∧ OwnO (V8.setCell ⟨w7.heap.size, j, none⟩ v8) B0 s.so.val s.os ∧ OwnE (V8.setCell ⟨w7.heap.size, j, none⟩ v8) B0 s.se.val s.es ∧ akR.Own (V8.setCell ⟨w7.heap.size, j, none⟩ v8) B0 s.sa.val s.as_ ∧ fdR.Own (V8.setCell ⟨w7.heap.size, j, none⟩ v8) B0 v8 (s.gs ++ [z]) := by
  obtain ⟨f1, f2, f3, f4, f5⟩ := grown_far hVb hVn hg h.gs.lt j v8
  obtain ⟨q1, q2, q3⟩ := h.but_g f1
  exact ⟨f2, fun hb h0 h1 => f3 h0 h1 (fun g e => Nat.le_trans hb (h.gs.base g e)), q1, q2, q3, row_far h.gs f5 ho hl _⟩
theorem spoil_few {ps : List Int} {s : St} (h : GoodS ps s) (hn : ps.length ≤ 32) (f : FewS s) (i : Nat) : FewS (spoil (ps.length : Int) s i) := by
  have hel : s.es.length ≤ 32 := by
    have h2 := congrArg List.length h.ps_
    rw [List.length_map] at h2
    rw [h2]
    unfold nbsI
    split
    · exact Nat.le_trans (nbs_len _ _ _) hn
    · simp
  obtain ⟨o, r, e⟩ : ∃ o r, s.os = o :: r := by
    cases e : s.os with
    | nil => have := h.many.1; rw [e] at this; simp at this
    | cons o r => exact ⟨o, r, rfl⟩
  have ho := f.o o (by rw [e]; exact List.mem_cons_self)
  have hr : ∀ x ∈ r, _ := fun x hx => f.o x (by rw [e]; exact List.mem_cons_of_mem _ hx)
  have hm := h.many.2
  have hq := h.q
  have i0 : I64 0 := ⟨by omega, by omega⟩
  match i with
  | 0 => exact ⟨⟨by show _ ≤ ((ps.length : Nat) : Int); omega, by show ((ps.length : Nat) : Int) ≤ _; omega⟩, f.q, f.os, f.es, f.as_, f.gs, f.o, f.e, f.a, f.g⟩
  | 1 => exact ⟨f.me, f.q, by simp [spoil], f.es, f.as_, f.gs, fun x hx => by simp [spoil] at hx, f.e, f.a, f.g⟩
  | 2 =>
    refine ⟨f.me, f.q, by simp only [spoil, List.length_modify]; exact f.os, f.es, f.as_, f.gs, fun x hx => ?_, f.e, f.a, f.g⟩
    simp only [spoil, e, List.modify_zero_cons] at hx
    rcases List.mem_cons.1 hx with rfl | hx
    · exact ⟨⟨by simp, by simp⟩, ho.2⟩
    · exact hr x hx
  | 3 =>
    refine ⟨f.me, f.q, by simp only [spoil, List.length_modify]; exact f.os, f.es, f.as_, f.gs, fun x hx => ?_, f.e, f.a, f.g⟩
    simp only [spoil, e, List.modify_zero_cons] at hx
    rcases List.mem_cons.1 hx with rfl | hx
    · exact ⟨ho.1, ⟨by simp, by simp⟩, ho.2.2⟩
    · exact hr x hx
  | 4 => exact ⟨f.me, ⟨by simp [spoil], by simp [spoil]⟩, f.os, f.es, f.as_, f.gs, f.o, f.e, f.a, f.g⟩
  | 5 =>
    refine ⟨f.me, f.q, f.os, by simp only [spoil, List.length_append, List.length_singleton]; omega, f.as_, f.gs, f.o, fun x hx => ?_, f.a, f.g⟩
    simp only [spoil] at hx
    rcases List.mem_append.1 hx with hx | hx
    · exact f.e x hx
    · rw [List.mem_singleton.1 hx]
      exact ⟨i0, i0, i0, by simp, fun y hy => by cases hy⟩
  | 6 =>
    refine ⟨f.me, f.q, f.os, f.es, f.as_, by simp only [spoil, List.length_append, List.length_singleton]; have := h.gn; omega, f.o, f.e, f.a, fun x hx => ?_⟩
    simp only [spoil] at hx
    rcases List.mem_append.1 hx with hx | hx
    · exact f.g x hx
    · rw [List.mem_singleton.1 hx]
      exact ⟨i0, ⟨by show _ ≤ s.q + 1; omega, by show s.q + 1 ≤ _; omega⟩, i0⟩
  | i + 7 =>
    refine ⟨f.me, f.q, f.os, f.es, by simp only [spoil, List.length_append, List.length_singleton]; have := h.an; omega, f.gs, f.o, f.e, fun x hx => ?_, f.g⟩
    simp only [spoil] at hx
    rcases List.mem_append.1 hx with hx | hx
    · exact f.a x hx
    · rw [List.mem_singleton.1 hx]
      exact ⟨i0, i0⟩
end Go.Proofs.Ytcicpgiljceioaa.Pk

/- The document's answers (fletchref14): Meant, Homes. -/
namespace Go.Proofs.Ytcicpgiljceioaa.Pk
open Go.RowKit
set_option linter.unusedVariables false
set_option maxHeartbeats 4000000 in
theorem refmeant_any (n k : Int) (m : Mg) (w : World) :
    Calls Try.prog 21 #[.int .i64 n, .int .i64 k, m.val] w fun e w' => e = .returned (.bool (decide (MeantS n k m))) ∧ Below w.heap.size w w' := by
  obtain ⟨mk, mo, mn, mu, mv⟩ := m
  unfold Mg.val
  simp only
  have HB0 : Hid (Below w.heap.size w (w.alloc (.cells #[.int .i64 mk, .int .i64 mo, .int .i64 mn, .int .i64 mu, .int .i64 mv] 45))) := Lib.hid ((Below.refl _ _).alloc (Nat.le_refl _) _)
  have hcase : mo < 0 ∨ (0 ≤ mo ∧ k ≤ mo) ∨ (0 ≤ mo ∧ mo < k ∧ mn < 0) ∨ (0 ≤ mo ∧ mo < k ∧ 0 ≤ mn ∧ n ≤ mn) ∨ (0 ≤ mo ∧ mo < k ∧ 0 ≤ mn ∧ mn < n ∧ mv < 0) ∨ (0 ≤ mo ∧ mo < k ∧ 0 ≤ mn ∧ mn < n ∧ 0 ≤ mv ∧ n ≤ mv) ∨ (0 ≤ mo ∧ mo < k ∧ 0 ≤ mn ∧ mn < n ∧ 0 ≤ mv ∧ mv < n) := by omega
  rcases hcase with h1 | ⟨h1, h2⟩ | ⟨h1, h2, h3⟩ | ⟨h1, h2, h3, h4⟩ | ⟨h1, h2, h3, h4, h5⟩ | ⟨h1, h2, h3, h4, h5, h6⟩ | ⟨h1, h2, h3, h4, h5, h6⟩
  rotate_right
  · have hd : decide (MeantS n k ⟨mk, mo, mn, mu, mv⟩) = true := decide_eq_true (by unfold MeantS; simp only; omega)
    rw [hd]
    go_enter Try.func21, Try.ntmps21
    go_wp2
    go_ret
    exact ⟨by simp <;> omega, HB0.out⟩
  all_goals (
    have hd : decide (MeantS n k ⟨mk, mo, mn, mu, mv⟩) = false := decide_eq_false (by unfold MeantS; simp only; omega)
    rw [hd]
    go_enter Try.func21, Try.ntmps21
    go_wp2
    go_ret
    exact ⟨by first | rfl | (simp <;> omega), HB0.out⟩)
end Go.Proofs.Ytcicpgiljceioaa.Pk
