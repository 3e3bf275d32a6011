/- The document's answer for trees (fletchref04): Walk. -/
import Derived.Test.YtohlgimbohkepaaGrBeyond
import Derived.Test.YtohlgimbohkepaaGrNext
namespace Go.Proofs.Ytohlgimbohkepaa.Gr
variable {ps : List Int}
/-- The neighbours of a that lie farther from f, rising. -/
def kids (ps : List Int) (f a : Nat) : List Nat := (List.range ps.length).filter fun v => nearL ps v a && decide (distL ps f v = distL ps f a + 1)
theorem Good.kids (G : Good ps) (f : Nat) : Kids ps.length (root ps) f (par ps) (dep ps) (kids ps f) where
  mem := by
    intro a v ha
    unfold Gr.kids
    rw [List.mem_filter, List.mem_range, Bool.and_eq_true, decide_eq_true_eq]
    constructor
    · rintro ⟨h1, h2, h3⟩; exact ⟨h1, (G.near_iff h1 ha).1 h2, h3⟩
    · rintro ⟨h1, h2, h3⟩; exact ⟨h1, (G.near_iff h1 ha).2 h2, h3⟩
  nodup := fun a ha => List.Pairwise.filter _ List.nodup_range
/-- Whence the walk came to a. -/
def Whence (ps : List Int) (f a : Nat) (back : Int) : Prop := (a = f ∧ back = -1) ∨ ∃ p : Nat, back = (p : Int) ∧ p < ps.length ∧ nearL ps p a = true ∧ distL ps f p + 1 = distL ps f a
theorem Good.kid_iff (G : Good ps) {f a v : Nat} {back : Int} (hf : f < ps.length) (ha : a < ps.length) (hw : Whence ps f a back) (hv : v < ps.length) (hn : nearL ps v a = true) :
    (v : Int) ≠ back ↔ distL ps f v = distL ps f a + 1 := by
  have hn' := (G.near_iff hv ha).1 hn
  have h1 := G.rt.step hv ha hf hn'
  rw [G.rt.dist_symm hv hf, G.rt.dist_symm ha hf] at h1
  change distL ps f v = distL ps f a + 1 ∨ distL ps f a = distL ps f v + 1 at h1
  rcases hw with ⟨rfl, rfl⟩ | ⟨p, rfl, hp, hpn, hpd⟩
  · have : distL ps a a = 0 := dist_self a
    constructor
    · intro _; omega
    · intro _; omega
  · constructor
    · intro hne
      rcases h1 with h1 | h1
      · exact h1
      · exfalso
        apply hne
        have := G.rt.only _ a f v p ha hf hv hp (Nat.le_refl _) hn' ((G.near_iff hp ha).1 hpn) (by rw [G.rt.dist_symm hv hf, G.rt.dist_symm ha hf]; exact h1.symm) (by rw [G.rt.dist_symm hp hf, G.rt.dist_symm ha hf]; exact hpd)
        rw [this]
    · intro h e
      have : v = p := by omega
      subst this
      omega
theorem Good.whence_kid (G : Good ps) {f a v : Nat} (ha : a < ps.length) (hv : v < ps.length) (hn : nearL ps v a = true) (hd : distL ps f v = distL ps f a + 1) : Whence ps f v (a : Int) :=
  .inr ⟨a, rfl, ha, (G.near_iff ha hv).2 (near_symm ((G.near_iff hv ha).1 hn)), hd.symm⟩
end Go.Proofs.Ytohlgimbohkepaa.Gr
namespace Go.Proofs.Ytohlgimbohkepaa.Pk
open Go.RowKit Go.Proofs.Ytohlgimbohkepaa.Gr
set_option linter.unusedVariables false
/-- The neighbours of a but the one whence the walk came. -/
theorem kids_nbs {ps : List Int} (G : Gr.Good ps) {f a : Nat} {back : Int} (hf : f < ps.length) (ha : a < ps.length) (hw : Whence ps f a back) :
    (nbs ps a ps.length).filter (fun v => decide (v ≠ back)) = (kids ps f a).map fun v : Nat => (v : Int) := by
  unfold nbs kids
  rw [List.filter_map, List.filter_filter]
  congr 1
  apply List.filter_congr
  intro v hv
  have hv' := List.mem_range.1 hv
  cases hn : nearL ps v a with
  | false => simp
  | true =>
    have := G.kid_iff hf ha hw hv' hn
    simp only [Function.comp, Bool.and_true, Bool.true_and]
    exact decide_eq_decide.2 this

/-- Pairs of numbers, as cells. -/
def prs (l : List (Int × Int)) : List Value := l.flatMap fun p => [.int .i64 p.1, .int .i64 p.2]
@[simp] theorem prs_length (l : List (Int × Int)) : (prs l).length = l.length * 2 := by
  induction l with
  | nil => rfl
  | cons x l ih => unfold prs at ih ⊢; rw [List.flatMap_cons, List.length_append, ih]; simp; omega
theorem prs_append (l m : List (Int × Int)) : prs (l ++ m) = prs l ++ prs m := List.flatMap_append ..
theorem prs_one (l : List (Int × Int)) : ∀ u ∈ prs l, u.oneCell' = true := by
  intro u hu
  obtain ⟨r, _, h⟩ := List.mem_flatMap.1 hu
  simp at h
  rcases h with rfl | rfl <;> rfl
theorem pair_info : (Try.prog.info? 50).map (fun i => (i.zero, i.size, i.bytes)) = some (some (.agg #[.int .i64 0, .int .i64 0]), 2, 16) := by kernel_rfl
def OwnQ (w : World) (B : Nat) (v : Value) (l : List (Int × Int)) : Prop := w.ownsRow B 50 2 v l.length (prs l)
theorem OwnQ.below {w w' : World} {B : Nat} {v : Value} {l : List (Int × Int)} (h : OwnQ w B v l) (hb : Below w.heap.size w w') : OwnQ w' B v l := by
  obtain ⟨h1, h2⟩ := h
  refine ⟨h1, ?_⟩
  rcases h2 with h2 | ⟨g, cap, cur, e, hg, hh, hr⟩
  · exact .inl h2
  · refine .inr ⟨g, cap, cur, e, hg, ?_, hr⟩
    have hlt : g < w.heap.size := by
      rcases Nat.lt_or_ge g w.heap.size with hlt | hge
      · exact hlt
      · rw [Array.getElem?_eq_none hge] at hh; cases hh
    rw [hb.block g hlt]; exact hh
theorem ownQ_base {w : World} {base : Nat} {v : Value} {l : List (Int × Int)} (h : OwnQ w base v l) : ∀ k, v.ownBlock = some k → base ≤ k := by
  intro k hk
  rcases h.2 with ⟨rfl, _⟩ | ⟨g, cap, cur, rfl, hb, _⟩
  · simp [Value.ownBlock] at hk
  · simp [Value.ownBlock] at hk; omega
theorem OwnQ.reads {w : World} {B : Nat} {v : Value} {l : List (Int × Int)} (h : OwnQ w B v l) : ∃ A c, v = .slice A l.length c ∧ l.length ≤ c ∧ Reads w w.heap.size 2 A l.length (prs l) := by
  have h2 := h
  obtain ⟨h1, ⟨rfl, e⟩ | ⟨g, cap, cur, rfl, _, _, hc, _⟩⟩ := h2
  · obtain rfl : l = [] := List.length_eq_zero_iff.1 e
    exact ⟨none, 0, rfl, by simp, Reads.none_⟩
  · exact ⟨_, cap, rfl, hc, Reads.of_own h⟩
theorem OwnQ.lit (w : World) (B : Nat) (x y : Int) (hB : B ≤ w.heap.size) : OwnQ (w.alloc (.cells #[.int .i64 x, .int .i64 y] 50)) B (.slice (some ⟨w.heap.size, 0, none⟩) 1 1) [(x, y)] :=
  ⟨rfl, .inr ⟨w.heap.size, 1, _, rfl, hB, heap_alloc_new w _, Nat.le_refl _, by unfold maxLen; omega, rfl, rfl⟩⟩
/-- Pairs of any slice behind those of the call's own. -/
theorem appQ {ops : Array Oper} {rest : List Oper} {o : Oper} {a : Act} {Q : Exit → Act → World → Prop} (w : World) (hgd : o.guard = none) (s x : Operand)
    (ho : o.op = .call { callee := .builtin .append, args := #[s, x], argTypes := #[49, 49] }) (B : Nat) (v : Value) (l : List (Int × Int)) (hs : a.eval s = v) (hown : OwnQ w B v l)
    (B' : Nat) (A : Option Addr) (c : Nat) (r : List (Int × Int)) (n : Nat) (hx : a.eval x = .slice A n c) (hr : Reads w B' 2 A n (prs r)) (hlen : (l.length + n) * 16 ≤ 140737488355328) (hB : B ≤ w.heap.size)
    (h : ∀ v' w', OwnQ w' B v' (l ++ r) → Below B w w' → (v'.ownBlock = v.ownBlock ∨ v'.ownBlock = some w.heap.size) → w.grownBy w' v.ownBlock → wpList Try.prog ops Q rest (a.put o.dst v') w') : wpList Try.prog ops Q (o :: rest) a w := by
  obtain ⟨i0, hi0, hz0, hz1, hz2⟩ := info_parts pair_info
  refine wpList_append_any _ hgd s x _ ho B 50 i0 _ 2 16 Try.underlying49 hi0 hz0 hz1 hz2 rfl (by omega) v l.length (prs l) hs hown B' A n c (prs r) hx hr (prs_one r)
    (by unfold maxLen; omega) (by omega) hB ?_
  intro v' w' ho hg hat
  have hr' : r.length = n := by have := hr.1; simp at this; omega
  refine h v' w' ?_ ((Below.refl _ _).grown hg hB (ownQ_base hown)) hat hg
  unfold OwnQ
  rw [prs_append, List.length_append, hr']; exact ho
end Go.Proofs.Ytohlgimbohkepaa.Pk
