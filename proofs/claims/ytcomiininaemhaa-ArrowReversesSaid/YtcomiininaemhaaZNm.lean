/- Numbers of the call's own: what owns them, and how they are appended to. -/
import Derived.Test.YtcomiininaemhaaZMem
import Derived.Test.YtcomiininaemhaaProg
import Derived.Test.YtcomiininaemhaaZGrb
import Derived.Lib.Hide
import Derived.Outline
import Derived.Deep.QuietTactic
import Derived.BigQuiet
import Derived.Deep.DeepMust
import Derived.LoopTactic
namespace Go.Proofs.Ytcomiininaemhaa.Pk
open Go.RowKit
set_option linter.unusedVariables false

theorem int_info : (Try.prog.info? 3).map (fun i => (i.zero, i.size, i.bytes)) = some (some (.int .i64 0), 1, 8) := by kernel_rfl
/-- The value owns the numbers l, in new memory from block B on. -/
def OwnN (w : World) (B : Nat) (v : Value) (l : List Int) : Prop := w.ownsRow B 3 1 v l.length (nms l)
theorem OwnN.none_ (w : World) (B : Nat) : OwnN w B (.slice none 0 0) [] := ⟨rfl, .inl ⟨rfl, rfl⟩⟩
theorem OwnN.alloc {w : World} {B : Nat} {v : Value} {l : List Int} (h : OwnN w B v l) (o : Obj) : OwnN (w.alloc o) B v l := World.ownsRow.alloc h o
theorem OwnN.below {w w' : World} {B : Nat} {v : Value} {l : List Int} (h : OwnN w B v l) (hb : Below w.heap.size w w') : OwnN w' B v l := by
  obtain ⟨h1, h2⟩ := h
  refine ⟨h1, ?_⟩
  rcases h2 with h2 | ⟨g, cap, cur, e, hg, hh, hr⟩
  · exact .inl h2
  · refine .inr ⟨g, cap, cur, e, hg, ?_, hr⟩
    have hlt : g < w.heap.size := by
      rcases Nat.lt_or_ge g w.heap.size with hlt | hge
      · exact hlt
      · rw [Array.getElem?_eq_none hge] at hh; cases hh
    rw [hb.block g hlt]; exact hh
theorem OwnN.reads {w : World} {B : Nat} {v : Value} {l : List Int} (h : OwnN w B v l) : ∃ A c, v = .slice A l.length c ∧ l.length ≤ c ∧ Reads w w.heap.size 1 A l.length (nms l) := by
  have h2 := h
  obtain ⟨h1, ⟨rfl, e⟩ | ⟨g, cap, cur, rfl, _, _, hc, _⟩⟩ := h2
  · obtain rfl : l = [] := List.length_eq_zero_iff.1 e
    exact ⟨none, 0, rfl, by simp, Reads.none_⟩
  · exact ⟨_, cap, rfl, hc, Reads.of_own h⟩
theorem ownN_base {w : World} {base : Nat} {v : Value} {l : List Int} (h : OwnN w base v l) : ∀ k, v.ownBlock = some k → base ≤ k := by
  intro k hk
  rcases h.2 with ⟨rfl, _⟩ | ⟨g, cap, cur, rfl, hb, _⟩
  · simp [Value.ownBlock] at hk
  · simp [Value.ownBlock] at hk; omega
theorem ownN_lt {w : World} {B : Nat} {v : Value} {l : List Int} (h : OwnN w B v l) : ∀ g, v.ownBlock = some g → g < w.heap.size := by
  intro g hg
  rcases h.2 with ⟨rfl, _⟩ | ⟨g', cap, cur, rfl, _, hh, _⟩
  · simp [Value.ownBlock] at hg
  · simp [Value.ownBlock] at hg
    subst hg
    rcases Nat.lt_or_ge g' w.heap.size with h' | h'
    · exact h'
    · rw [Array.getElem?_eq_none h'] at hh; cases hh
/-- One number more, out of a new box. -/
theorem appN {ops : Array Oper} {rest : List Oper} {o : Oper} {a : Act} {Q : Exit → Act → World → Prop} (w : World) (k : Int) (T : TypeId) (hgd : o.guard = none) (so x : Operand)
    (ho : o.op = .call { callee := .builtin .append, args := #[so, x], argTypes := #[26, 26] }) (B : Nat) (v : Value) (l : List Int) (hs : a.eval so = v) (hown : OwnN w B v l)
    (g : Nat) (hg : g = w.heap.size) (hx : a.eval x = .slice (some ⟨g, 0, none⟩) 1 1) (hlen : (l.length + 1) * 8 ≤ 140737488355328) (hB : B ≤ w.heap.size)
    (h : ∀ v' w', OwnN w' B v' (l ++ [k]) → Below B w w' → (w.alloc (.cells #[.int .i64 k] T)).grownBy w' v.ownBlock → wpList Try.prog ops Q rest (a.put o.dst v') w') : wpList Try.prog ops Q (o :: rest) a (w.alloc (.cells #[.int .i64 k] T)) := by
  subst hg
  obtain ⟨i0, hi0, hz0, hz1, hz2⟩ := info_parts int_info
  refine wpList_append_own _ hgd so x _ ho B 3 i0 _ 1 8 Try.underlying26 hi0 hz0 hz1 hz2 rfl (by omega) v l.length (nms l) hs (World.ownsRow.alloc hown _) ⟨w.heap.size, 0, none⟩ 1 1 (nms [k]) hx rfl ?_ (nms_one _)
    (by unfold maxLen; omega) (by omega) (by simp; omega) ?_
  · intro j u hj
    match j, hj with
    | 0, hj => simp [nms] at hj; subst hj; simp [Addr.add]
    | j + 1, hj => simp [nms] at hj
  · intro v' w' ho hg _
    refine h v' w' ?_ (((Below.refl _ _).alloc hB _).grown hg (by simp; omega) (ownN_base hown)) hg
    unfold OwnN
    rw [← nms_append, List.length_append]; exact ho
end Go.Proofs.Ytcomiininaemhaa.Pk

/- The document's answer for trees (fletchref04): Neighbours. -/
namespace Go.Proofs.Ytcomiininaemhaa.Pk
open Go.RowKit Go.Proofs.Ytcomiininaemhaa.Gr
set_option linter.unusedVariables false

/-- The neighbours of v below k. -/
def nbs (ps : List Int) (v k : Nat) : List Int := List.map (fun u : Nat => (u : Int)) (List.filter (fun u : Nat => nearL ps u v) (List.range k))
theorem nbs_succ (ps : List Int) (v k : Nat) : nbs ps v (k + 1) = if nearL ps k v = true then nbs ps v k ++ [(k : Int)] else nbs ps v k := by
  unfold nbs
  rw [List.range_succ, List.filter_append, List.map_append]
  by_cases h : nearL ps k v = true
  · rw [if_pos h]; simp [h]
  · rw [if_neg h]; simp [h]
theorem nbs_len (ps : List Int) (v k : Nat) : (nbs ps v k).length ≤ k := by
  unfold nbs
  rw [List.length_map]
  exact Nat.le_trans (List.length_filter_le _ _) (by simp)
def nbsI (ps : List Int) (v : Int) : List Int := if 0 ≤ v ∧ v < (ps.length : Int) then nbs ps v.toNat ps.length else []

end Go.Proofs.Ytcomiininaemhaa.Pk

/- Numbers of any slice behind those of the call's own; one of one's own turned. -/
namespace Go.Proofs.Ytcomiininaemhaa.Pk
open Go.RowKit
set_option linter.unusedVariables false
/-- Numbers of any slice behind those of the call's own. -/
theorem appNs {ops : Array Oper} {rest : List Oper} {o : Oper} {a : Act} {Q : Exit → Act → World → Prop} (w : World) (hgd : o.guard = none) (s x : Operand)
    (ho : o.op = .call { callee := .builtin .append, args := #[s, x], argTypes := #[26, 26] }) (B : Nat) (v : Value) (l : List Int) (hs : a.eval s = v) (hown : OwnN w B v l)
    (B' : Nat) (A : Option Addr) (c : Nat) (r : List Int) (n : Nat) (hx : a.eval x = .slice A n c) (hr : Reads w B' 1 A n (nms r)) (hlen : (l.length + n) * 8 ≤ 140737488355328) (hB : B ≤ w.heap.size)
    (h : ∀ v' w', OwnN w' B v' (l ++ r) → Below B w w' → (v'.ownBlock = v.ownBlock ∨ v'.ownBlock = some w.heap.size) → w.grownBy w' v.ownBlock → wpList Try.prog ops Q rest (a.put o.dst v') w') : wpList Try.prog ops Q (o :: rest) a w := by
  obtain ⟨i0, hi0, hz0, hz1, hz2⟩ := info_parts int_info
  refine wpList_append_any _ hgd s x _ ho B 3 i0 _ 1 8 Try.underlying26 hi0 hz0 hz1 hz2 rfl (by omega) v l.length (nms l) hs hown B' A n c (nms r) hx hr (nms_one r)
    (by unfold maxLen; omega) (by omega) hB ?_
  intro v' w' ho hg hat
  have hr' : r.length = n := by have := hr.1; simp [nms] at this; omega
  refine h v' w' ?_ ((Below.refl _ _).grown hg hB (ownN_base hown)) hat hg
  unfold OwnN
  rw [← nms_append, List.length_append, hr']; exact ho
theorem OwnN.fresh (w : World) (B : Nat) (hB : B ≤ w.heap.size) : OwnN (w.alloc (.cells #[] 3)) B (.slice (some ⟨w.heap.size, 0, none⟩) 0 0) [] :=
  ⟨rfl, .inr ⟨w.heap.size, 0, #[], rfl, hB, heap_alloc_new w _, Nat.le_refl _, by unfold maxLen; omega, rfl, rfl⟩⟩
/-- Numbers of any slice behind an empty literal. -/
theorem appNE {ops : Array Oper} {rest : List Oper} {o : Oper} {a : Act} {Q : Exit → Act → World → Prop} (w : World) (hgd : o.guard = none) (s x : Operand)
    (ho : o.op = .call { callee := .builtin .append, args := #[s, x], argTypes := #[26, 26] }) (hs : a.eval s = .slice (some ⟨w.heap.size, 0, none⟩) 0 0)
    (B' : Nat) (A : Option Addr) (c : Nat) (r : List Int) (n : Nat) (hx : a.eval x = .slice A n c) (hr : Reads w B' 1 A n (nms r)) (hB' : B' ≤ w.heap.size) (hlen : n * 8 ≤ 140737488355328)
    (h : ∀ v' w', OwnN w' w.heap.size v' r → Below w.heap.size w w' → wpList Try.prog ops Q rest (a.put o.dst v') w') : wpList Try.prog ops Q (o :: rest) a (w.alloc (.cells #[] 3)) := by
  refine appNs _ hgd s x ho w.heap.size _ [] hs (OwnN.fresh w _ (Nat.le_refl _)) B' A c r n hx (hr.alloc hB' _) (by simp; omega) (by simp) ?_
  intro v' w' ho' hb' _ _
  exact h v' w' (by simpa using ho') (((Below.refl _ _).alloc (Nat.le_refl _) _).trans hb')

/-- One number of one's own is turned. -/
theorem OwnN.set_ {w : World} {B g n c : Nat} {l : List Int} (h : OwnN w B (.slice (some ⟨g, 0, none⟩) n c) l) (i : Nat) (x : Int) : OwnN (w.setCell ⟨g, i, none⟩ (.int .i64 x)) B (.slice (some ⟨g, 0, none⟩) n c) (l.set i x) := by
  obtain ⟨h1, ⟨e, _⟩ | ⟨g', cap, cur, e, hb, hh, h3, h4, h5, h6⟩⟩ := h
  · cases e
  · simp only [Value.slice.injEq, Option.some.injEq, Addr.mk.injEq] at e
    obtain ⟨⟨rfl, _⟩, rfl, rfl⟩ := e
    have hk : Blk (w.setCell ⟨g, i, none⟩ (.int .i64 x)) g 3 (cur.setIfInBounds i (.int .i64 x)) := Blk.set_ hh i _
    refine ⟨by simp [nms], .inr ⟨g, c, _, by simp, hb, hk, by simpa using h3, h4, by simpa using h5, ?_⟩⟩
    rw [Array.toList_setIfInBounds, List.length_set, List.take_set, h6]
    simp [nms]
theorem OwnN.at_ {w : World} {B g n c : Nat} {l : List Int} (h : OwnN w B (.slice (some ⟨g, 0, none⟩) n c) l) : n = l.length ∧ B ≤ g ∧ g < w.heap.size ∧ (∀ i, i < n → w.cell? ⟨g, i, none⟩ = some (.int .i64 (l.getD i 0))) ∧ ∀ i, w.frozen? ⟨g, i, none⟩ = false := by
  have hlt := ownN_lt h g rfl
  have hbs := ownN_base h g rfl
  obtain ⟨A, c', e, hc, hr⟩ := h.reads
  obtain ⟨h1, ⟨e', _⟩ | ⟨g', cap, cur, e', hb, hh, h3, h4, h5, h6⟩⟩ := h
  · cases e'
  · simp only [Value.slice.injEq, Option.some.injEq, Addr.mk.injEq] at e e'
    obtain ⟨⟨rfl, _⟩, rfl, rfl⟩ := e'
    obtain ⟨rfl, hn, rfl⟩ := e
    refine ⟨hn, hbs, hlt, fun i hi => ?_, fun i => Blk.frozen (t := 3) (cs := cur) hh i⟩
    obtain ⟨b, off, eb, _, hcell⟩ := hr.i64 (by omega)
    simp only [Option.some.injEq, Addr.mk.injEq] at eb
    obtain ⟨rfl, rfl, _⟩ := eb
    have := hcell i (by omega)
    simpa using this

end Go.Proofs.Ytcomiininaemhaa.Pk

/- What a list of neighbours holds. -/
namespace Go.Proofs.Ytcomiininaemhaa.Pk
open Go.RowKit Go.Proofs.Ytcomiininaemhaa.Gr
set_option linter.unusedVariables false
theorem nbs_in {ps : List Int} {a : Nat} {v : Int} (h : v ∈ nbs ps a ps.length) : ∃ x : Nat, v = (x : Int) ∧ x < ps.length ∧ nearL ps x a = true := by
  unfold nbs at h
  obtain ⟨x, hx, rfl⟩ := List.mem_map.1 h
  obtain ⟨h1, h2⟩ := List.mem_filter.1 hx
  exact ⟨x, rfl, List.mem_range.1 h1, h2⟩
end Go.Proofs.Ytcomiininaemhaa.Pk
