/- Numbers of any slice behind those of the call's own; one of one's own turned. -/
import Derived.Test.YtcomiininaemhaaNums
import Derived.Test.YtcomiininaemhaaGrNear
namespace Go.Proofs.Ytcomiininaemhaa.Pk
open Go.RowKit
set_option linter.unusedVariables false
/-- Numbers of any slice behind those of the call's own. -/
theorem appNs {ops : Array Oper} {rest : List Oper} {o : Oper} {a : Act} {Q : Exit → Act → World → Prop} (w : World) (hgd : o.guard = none) (s x : Operand)
    (ho : o.op = .call { callee := .builtin .append, args := #[s, x], argTypes := #[26, 26] }) (B : Nat) (v : Value) (l : List Int) (hs : a.eval s = v) (hown : OwnN w B v l)
    (B' : Nat) (A : Option Addr) (c : Nat) (r : List Int) (n : Nat) (hx : a.eval x = .slice A n c) (hr : Reads w B' 1 A n (nms r)) (hlen : (l.length + n) * 8 ≤ 140737488355328) (hB : B ≤ w.heap.size)
    (h : ∀ v' w', OwnN w' B v' (l ++ r) → Below B w w' → (v'.ownBlock = v.ownBlock ∨ v'.ownBlock = some w.heap.size) → w.grownBy w' v.ownBlock → wpList Try.prog ops Q rest (a.put o.dst v') w') : wpList Try.prog ops Q (o :: rest) a w := by
  obtain ⟨i0, hi0, hz0, hz1, hz2⟩ := info_parts int_info
  refine wpList_append_any _ hgd s x _ ho B 3 i0 _ 1 8 Try.underlying26 hi0 hz0 hz1 hz2 rfl (by omega) v l.length (nms l) hs hown B' A n c (nms r) hx hr (nms_one r)
    (by unfold maxLen; omega) (by omega) hB ?_
  intro v' w' ho hg hat
  have hr' : r.length = n := by have := hr.1; simp [nms] at this; omega
  refine h v' w' ?_ ((Below.refl _ _).grown hg hB (ownN_base hown)) hat hg
  unfold OwnN
  rw [← nms_append, List.length_append, hr']; exact ho
theorem OwnN.fresh (w : World) (B : Nat) (hB : B ≤ w.heap.size) : OwnN (w.alloc (.cells #[] 3)) B (.slice (some ⟨w.heap.size, 0, none⟩) 0 0) [] :=
  ⟨rfl, .inr ⟨w.heap.size, 0, #[], rfl, hB, heap_alloc_new w _, Nat.le_refl _, by unfold maxLen; omega, rfl, rfl⟩⟩
/-- Numbers of any slice behind an empty literal. -/
theorem appNE {ops : Array Oper} {rest : List Oper} {o : Oper} {a : Act} {Q : Exit → Act → World → Prop} (w : World) (hgd : o.guard = none) (s x : Operand)
    (ho : o.op = .call { callee := .builtin .append, args := #[s, x], argTypes := #[26, 26] }) (hs : a.eval s = .slice (some ⟨w.heap.size, 0, none⟩) 0 0)
    (B' : Nat) (A : Option Addr) (c : Nat) (r : List Int) (n : Nat) (hx : a.eval x = .slice A n c) (hr : Reads w B' 1 A n (nms r)) (hB' : B' ≤ w.heap.size) (hlen : n * 8 ≤ 140737488355328)
    (h : ∀ v' w', OwnN w' w.heap.size v' r → Below w.heap.size w w' → wpList Try.prog ops Q rest (a.put o.dst v') w') : wpList Try.prog ops Q (o :: rest) a (w.alloc (.cells #[] 3)) := by
  refine appNs _ hgd s x ho w.heap.size _ [] hs (OwnN.fresh w _ (Nat.le_refl _)) B' A c r n hx (hr.alloc hB' _) (by simp; omega) (by simp) ?_
  intro v' w' ho' hb' _ _
  exact h v' w' (by simpa using ho') (((Below.refl _ _).alloc (Nat.le_refl _) _).trans hb')

/-- One number of one's own is turned. -/
theorem OwnN.set_ {w : World} {B g n c : Nat} {l : List Int} (h : OwnN w B (.slice (some ⟨g, 0, none⟩) n c) l) (i : Nat) (x : Int) : OwnN (w.setCell ⟨g, i, none⟩ (.int .i64 x)) B (.slice (some ⟨g, 0, none⟩) n c) (l.set i x) := by
  obtain ⟨h1, ⟨e, _⟩ | ⟨g', cap, cur, e, hb, hh, h3, h4, h5, h6⟩⟩ := h
  · cases e
  · simp only [Value.slice.injEq, Option.some.injEq, Addr.mk.injEq] at e
    obtain ⟨⟨rfl, _⟩, rfl, rfl⟩ := e
    have hk : Blk (w.setCell ⟨g, i, none⟩ (.int .i64 x)) g 3 (cur.setIfInBounds i (.int .i64 x)) := Blk.set_ hh i _
    refine ⟨by simp [nms], .inr ⟨g, c, _, by simp, hb, hk, by simpa using h3, h4, by simpa using h5, ?_⟩⟩
    rw [Array.toList_setIfInBounds, List.length_set, List.take_set, h6]
    simp [nms]
theorem OwnN.at_ {w : World} {B g n c : Nat} {l : List Int} (h : OwnN w B (.slice (some ⟨g, 0, none⟩) n c) l) : n = l.length ∧ B ≤ g ∧ g < w.heap.size ∧ (∀ i, i < n → w.cell? ⟨g, i, none⟩ = some (.int .i64 (l.getD i 0))) ∧ ∀ i, w.frozen? ⟨g, i, none⟩ = false := by
  have hlt := ownN_lt h g rfl
  have hbs := ownN_base h g rfl
  obtain ⟨A, c', e, hc, hr⟩ := h.reads
  obtain ⟨h1, ⟨e', _⟩ | ⟨g', cap, cur, e', hb, hh, h3, h4, h5, h6⟩⟩ := h
  · cases e'
  · simp only [Value.slice.injEq, Option.some.injEq, Addr.mk.injEq] at e e'
    obtain ⟨⟨rfl, _⟩, rfl, rfl⟩ := e'
    obtain ⟨rfl, hn, rfl⟩ := e
    refine ⟨hn, hbs, hlt, fun i hi => ?_, fun i => Blk.frozen (t := 3) (cs := cur) hh i⟩
    obtain ⟨b, off, eb, _, hcell⟩ := hr.i64 (by omega)
    simp only [Option.some.injEq, Addr.mk.injEq] at eb
    obtain ⟨rfl, rfl, _⟩ := eb
    have := hcell i (by omega)
    simpa using this

end Go.Proofs.Ytcomiininaemhaa.Pk
