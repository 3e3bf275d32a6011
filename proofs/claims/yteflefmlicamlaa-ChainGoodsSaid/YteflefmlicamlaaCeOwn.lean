/- Cells of the call's own: what a list of them owns, and how it grows. -/
import Derived.Test.YteflefmlicamlaaCes
import Derived.Maps.AppendAt
import Derived.OwnWalk
namespace Go.Proofs.Yteflefmlicamlaa.Pk
open Go.RowKit
set_option linter.unusedVariables false
theorem ces_append (l m : List Ce) : ces (l ++ m) = ces l ++ ces m := List.flatMap_append ..
theorem ces_one (l : List Ce) : ∀ u ∈ ces l, u.oneCell' = true := by
  intro u hu
  obtain ⟨r, _, h⟩ := List.mem_flatMap.1 hu
  simp [Ce.cells] at h
  rcases h with rfl | rfl | rfl | rfl <;> rfl
theorem cell_info : (Try.prog.info? 36).map (fun i => (i.zero, i.size, i.bytes)) = some (some (.agg #[.int .i64 0, .int .i64 0, .int .i64 0, .int .i64 0]), 4, 32) := by kernel_rfl
/-- The value owns the cells. -/
def OwnK (w : World) (B : Nat) (v : Value) (l : List Ce) : Prop := w.ownsRow B 36 4 v l.length (ces l)
theorem OwnK.none_ (w : World) (B : Nat) : OwnK w B (.slice none 0 0) [] := ⟨rfl, .inl ⟨rfl, rfl⟩⟩
theorem OwnK.alloc {w : World} {B : Nat} {v : Value} {l : List Ce} (h : OwnK w B v l) (o : Obj) : OwnK (w.alloc o) B v l := World.ownsRow.alloc h o
theorem ownK_base {w : World} {base : Nat} {v : Value} {l : List Ce} (h : OwnK w base v l) : ∀ k, v.ownBlock = some k → base ≤ k := by
  intro k hk
  rcases h.2 with ⟨rfl, _⟩ | ⟨g, cap, cur, rfl, hb, _⟩
  · simp [Value.ownBlock] at hk
  · simp [Value.ownBlock] at hk; omega
theorem ownK_lt {w : World} {B : Nat} {v : Value} {l : List Ce} (h : OwnK w B v l) : ∀ g, v.ownBlock = some g → g < w.heap.size := by
  intro g hg
  rcases h.2 with ⟨rfl, _⟩ | ⟨g', cap, cur, rfl, _, hh, _⟩
  · simp [Value.ownBlock] at hg
  · simp [Value.ownBlock] at hg
    subst hg
    rcases Nat.lt_or_ge g' w.heap.size with h' | h'
    · exact h'
    · rw [Array.getElem?_eq_none h'] at hh; cases hh
theorem OwnK.stay {w w' : World} {B : Nat} {v : Value} {l : List Ce} (h : OwnK w B v l) (hk : ∀ g, v.ownBlock = some g → w'.heap[g]? = w.heap[g]?) : OwnK w' B v l := by
  obtain ⟨h1, h2⟩ := h
  refine ⟨h1, ?_⟩
  rcases h2 with h2 | ⟨g, cap, cur, rfl, hg, hh, hr⟩
  · exact .inl h2
  · exact .inr ⟨g, cap, cur, rfl, hg, (hk g rfl).trans hh, hr⟩
theorem OwnK.below {w w' : World} {B : Nat} {v : Value} {l : List Ce} (h : OwnK w B v l) (hb : Below w.heap.size w w') : OwnK w' B v l := h.stay fun g e => hb.block g (ownK_lt h g e)
theorem OwnK.reads {w : World} {B : Nat} {v : Value} {l : List Ce} (h : OwnK w B v l) : ∃ A c, v = .slice A l.length c ∧ l.length ≤ c ∧ Reads w w.heap.size 4 A l.length (ces l) := by
  have h2 := h
  obtain ⟨h1, ⟨rfl, e⟩ | ⟨g, cap, cur, rfl, _, _, hc, _⟩⟩ := h2
  · obtain rfl : l = [] := List.length_eq_zero_iff.1 e
    exact ⟨none, 0, rfl, by simp, Reads.none_⟩
  · exact ⟨_, cap, rfl, hc, Reads.of_own h⟩
theorem ownK_slice {w : World} {B : Nat} {v : Value} {l : List Ce} (h : OwnK w B v l) : ∃ A n c, v = .slice A n c := by
  obtain ⟨A, c, e, _, _⟩ := h.reads
  exact ⟨A, _, c, e⟩
/-- One cell more, out of a new box. -/
theorem appK {ops : Array Oper} {rest : List Oper} {o : Oper} {a : Act} {Q : Exit → Act → World → Prop} (w : World) (m : Ce) (T : TypeId) (hgd : o.guard = none) (so x : Operand)
    (ho : o.op = .call { callee := .builtin .append, args := #[so, x], argTypes := #[22, 22] }) (B : Nat) (v : Value) (l : List Ce) (hs : a.eval so = v) (hown : OwnK w B v l)
    (g : Nat) (hg : g = w.heap.size) (hx : a.eval x = .slice (some ⟨g, 0, none⟩) 1 1) (hlen : (l.length + 1) * 32 ≤ 140737488355328) (hB : B ≤ w.heap.size)
    (h : ∀ v' w', OwnK w' B v' (l ++ [m]) → Below B w w' → (w.alloc (.cells #[.int .i64 m.n, .int .i64 m.s, .int .i64 m.d, .int .i64 m.x] T)).grownBy w' v.ownBlock → (v'.ownBlock = v.ownBlock ∨ v'.ownBlock = some (w.heap.size + 1)) → wpList Try.prog ops Q rest (a.put o.dst v') w') : wpList Try.prog ops Q (o :: rest) a (w.alloc (.cells #[.int .i64 m.n, .int .i64 m.s, .int .i64 m.d, .int .i64 m.x] T)) := by
  subst hg
  obtain ⟨i0, hi0, hz0, hz1, hz2⟩ := info_parts cell_info
  refine wpList_append_own_at (P := Try.prog) _ hgd so x _ ho B 36 i0 _ 4 32 Try.underlying22 hi0 hz0 hz1 hz2 rfl (by omega) v l.length (ces l) hs (World.ownsRow.alloc hown _) ⟨w.heap.size, 0, none⟩ 1 1 (ces [m]) hx rfl ?_ (ces_one _)
    (by unfold maxLen; omega) (by omega) (by simp; omega) ?_
  · intro j u hj
    match j, hj with
    | 0, hj => simp [ces, Ce.cells] at hj; subst hj; simp [Addr.add]
    | 1, hj => simp [ces, Ce.cells] at hj; subst hj; simp [Addr.add]
    | 2, hj => simp [ces, Ce.cells] at hj; subst hj; simp [Addr.add]
    | 3, hj => simp [ces, Ce.cells] at hj; subst hj; simp [Addr.add]
    | j + 4, hj => simp [ces, Ce.cells] at hj
  · intro v' w' ho hg _ hat
    refine h v' w' ?_ (((Below.refl _ _).alloc hB _).grown hg (by simp; omega) (ownK_base hown)) hg (by simpa using hat)
    unfold OwnK
    rw [ces_append, List.length_append]; exact ho
end Go.Proofs.Yteflefmlicamlaa.Pk
