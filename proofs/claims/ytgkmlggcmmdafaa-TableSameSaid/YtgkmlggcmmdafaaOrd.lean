/- A list of ints in the call's own memory: made by append, two of its places swapped. -/
import Derived.Test.YtgkmlggcmmdafaaWords
import Derived.Test.YtgkmlggcmmdafaaProg
namespace Go.Proofs.Ytgkmlggcmmdafaa.Pk
open Go.RowKit
set_option linter.unusedVariables false

theorem int_info : (Try.prog.info? 3).map (fun i => (i.zero, i.size, i.bytes)) = some (some (.int .i64 0), 1, 8) := by kernel_rfl
/-- The slice's own memory, block g, holds ys. -/
def OrdI (w : World) (B : Nat) (v : Value) (g : Nat) (ys : List Int) : Prop :=
  ∃ A c, v = .slice A ys.length c ∧ ys.length ≤ c ∧ (0 < ys.length → A = some ⟨g, 0, none⟩ ∧ B ≤ g ∧ ∃ cur, Blk w g 3 cur ∧ cur.toList.take ys.length = nms ys)
theorem OrdI.of {w : World} {B n : Nat} {v : Value} {ys : List Int} (h : w.ownsRow B 3 1 v n (nms ys)) (hn : ys.length = n) : ∃ g, OrdI w B v g ys := by
  rcases h.2 with ⟨e, h0⟩ | ⟨g, cap, cur, e, hg, hh, hc, hm, hs, ht⟩
  · exact ⟨0, none, 0, by rw [e, hn, h0], by omega, fun h => by omega⟩
  · refine ⟨g, some ⟨g, 0, none⟩, cap, by rw [e, hn], by omega, fun _ => ⟨rfl, hg, cur, hh, ?_⟩⟩
    rw [hn]; simpa using ht
theorem OrdI.stay {w w' : World} {B g : Nat} {v : Value} {ys : List Int} (h : OrdI w B v g ys) (hs : 0 < ys.length → w'.heap[g]? = w.heap[g]?) : OrdI w' B v g ys := by
  obtain ⟨A, c, e, h1, h2⟩ := h
  refine ⟨A, c, e, h1, fun hp => ?_⟩
  obtain ⟨h3, h4, cur, h5, h6⟩ := h2 hp
  exact ⟨h3, h4, cur, (hs hp).trans h5, h6⟩
theorem take_get {cur : Array Value} {ys : List Int} {i : Nat} (h : cur.toList.take ys.length = nms ys) (hi : i < ys.length) : cur[i]? = some (.int .i64 (ys.getD i 0)) := by
  have h1 := congrArg (fun (z : List Value) => z[i]?) h
  simp only [List.getElem?_take, if_pos hi, nms_get hi, Array.getElem?_toList] at h1
  exact h1
theorem OrdI.cell {w : World} {B g c : Nat} {A : Option Addr} {ys : List Int} (h : OrdI w B (.slice A ys.length c) g ys) {i : Nat} (hi : i < ys.length) :
    A = some ⟨g, 0, none⟩ ∧ B ≤ g ∧ g < w.heap.size ∧ w.cell? ⟨g, i, none⟩ = some (.int .i64 (ys.getD i 0)) ∧ w.frozen? ⟨g, i, none⟩ = false := by
  obtain ⟨A', c', e, h1, h2⟩ := h
  injection e with e1 e2 e3
  subst e1
  obtain ⟨h3, h4, cur, h5, h6⟩ := h2 (by omega)
  exact ⟨h3, h4, h5.lt, (h5.cell i).trans (take_get h6 hi), h5.frozen i⟩
theorem nms_set (l : List Int) (i : Nat) (x : Int) : nms (l.set i x) = (nms l).set i (.int .i64 x) := by
  simp [nms]
theorem OrdI.set {w : World} {B g c : Nat} {A : Option Addr} {ys : List Int} (h : OrdI w B (.slice A ys.length c) g ys) {i : Nat} (hi : i < ys.length) (x : Int) :
    OrdI (w.setCell ⟨g, i, none⟩ (.int .i64 x)) B (.slice A (ys.set i x).length c) g (ys.set i x) := by
  obtain ⟨A', c', e, h1, h2⟩ := h
  injection e with e1 e2 e3
  subst e1; subst e3
  obtain ⟨h3, h4, cur, h5, h6⟩ := h2 (by omega)
  refine ⟨A, c, rfl, by simpa using h1, fun _ => ⟨h3, h4, cur.setIfInBounds i (.int .i64 x), h5.set_ i _, ?_⟩⟩
  rw [List.length_set, nms_set, ← h6, Array.toList_setIfInBounds, List.take_set]
theorem ints_fresh (w : World) (B : Nat) (hB : B ≤ w.heap.size) : (w.alloc (.cells #[] 3)).ownsRow B 3 1 (.slice (some ⟨w.heap.size, 0, none⟩) 0 0) 0 [] :=
  ⟨rfl, .inr ⟨w.heap.size, 0, #[], rfl, hB, heap_alloc_new w _, Nat.le_refl _, by unfold maxLen; omega, rfl, rfl⟩⟩
/-- Ints of any slice behind an empty literal. -/
theorem appN {ops : Array Oper} {rest : List Oper} {o : Oper} {a : Act} {Q : Exit → Act → World → Prop} (w : World) (hgd : o.guard = none) (s x : Operand)
    (ho : o.op = .call { callee := .builtin .append, args := #[s, x], argTypes := #[50, 50] }) (B g : Nat) (hg0 : g = w.heap.size) (hs : a.eval s = .slice (some ⟨g, 0, none⟩) 0 0)
    (B' : Nat) (A : Option Addr) (c : Nat) (r : List Int) (n : Nat) (hx : a.eval x = .slice A n c) (hr : Reads w B' 1 A n (nms r)) (hB' : B' ≤ w.heap.size) (hlen : n ≤ 1000000) (hB : B ≤ w.heap.size)
    (h : ∀ v' w', w'.ownsRow B 3 1 v' n (nms r) → Below B w w' → wpList Try.prog ops Q rest (a.put o.dst v') w') : wpList Try.prog ops Q (o :: rest) a (w.alloc (.cells #[] 3)) := by
  obtain ⟨i0, hi0, hz0, hz1, hz2⟩ := info_parts int_info
  subst hg0
  refine wpList_append_any _ hgd s x _ ho B 3 i0 _ 1 8 Try.underlying50 hi0 hz0 hz1 hz2 rfl (by omega) _ 0 [] hs (ints_fresh w B hB) B' A n c (nms r) hx (hr.alloc hB' _) (nms_one r)
    (by unfold maxLen; omega) (by omega) (by simp; omega) ?_
  intro v' w' ho hg _
  rw [Nat.zero_add, List.nil_append] at ho
  exact h v' w' ho (((Below.refl B w).alloc hB _).grown hg (by simp; omega) (fun k e => by simp [Value.ownBlock] at e; omega))
end Go.Proofs.Ytgkmlggcmmdafaa.Pk
