/- Several ranges over functions in one call: what they leave to be taken at the return. -/
import Derived.Test.YtkgkiplidjoamaaPackIter
namespace Go.Proofs.Ytkgkiplidjoamaa.Pk
open Go.RowKit Go.Shelf
set_option linter.unusedVariables false

def Marks (B : Nat) : List Deferred → World → Prop
  | [], _ => True
  | d :: ds, W => ∃ D, d = { target := .collected D, args := #[] } ∧ B ≤ D ∧ D < W.heap.size ∧ W.heap[D]? = some (.deferred (some [])) ∧ (∀ d' ∈ ds, d' ≠ d) ∧ Marks B ds W
theorem Marks.mem {B : Nat} {ds : List Deferred} {W : World} (h : Marks B ds W) : ∀ d ∈ ds, ∃ D, d = { target := .collected D, args := #[] } ∧ B ≤ D ∧ D < W.heap.size ∧ W.heap[D]? = some (.deferred (some [])) := by
  induction ds with
  | nil => intro d hd; cases hd
  | cons x r ih =>
    obtain ⟨D, e, h1, h2, h3, h4, h5⟩ := h
    intro d hd
    rcases List.mem_cons.1 hd with rfl | hd
    · exact ⟨D, e, h1, h2, h3⟩
    · exact ih h5 d hd
theorem Marks.keep {B : Nat} {ds : List Deferred} {W W' : World} (h : Marks B ds W) (hs : W.heap.size ≤ W'.heap.size) (hk : ∀ k, (∃ d ∈ ds, d = { target := .collected k, args := #[] }) → W'.heap[k]? = W.heap[k]?) : Marks B ds W' := by
  induction ds with
  | nil => trivial
  | cons x r ih =>
    obtain ⟨D, e, h1, h2, h3, h4, h5⟩ := h
    exact ⟨D, e, h1, by omega, (hk D ⟨x, by simp, e⟩).trans h3, h4, ih h5 (fun k ⟨d, hd, he⟩ => hk k ⟨d, by simp [hd], he⟩)⟩
/-- Blocks of cells are none of them. -/
theorem Marks.only {B : Nat} {ds : List Deferred} {W W' : World} {g : Nat} {t : TypeId} {cs : Array Value} (h : Marks B ds W) (ho : Only W W' g) (hg : Blk W g t cs) : Marks B ds W' := by
  refine h.keep ho.size (fun k ⟨d, hd, he⟩ => ho.block k ?_ (fun e => ?_))
  · obtain ⟨D, e1, _, h2, _⟩ := h.mem d hd
    rw [e1] at he
    injection he with he
    injection he with he
    omega
  · injection e with e
    subst e
    obtain ⟨D, e1, _, h2, h3⟩ := h.mem d hd
    rw [e1] at he
    injection he with he
    injection he with he
    subst he
    unfold Blk at hg
    rw [hg] at h3; cases h3
theorem Marks.below {B : Nat} {ds : List Deferred} {W W' : World} (h : Marks B ds W) (hb : Below W.heap.size W W') : Marks B ds W' :=
  h.keep hb.size (fun k ⟨d, hd, he⟩ => hb.block k (by
    obtain ⟨D, e1, _, h2, _⟩ := h.mem d hd
    rw [e1] at he
    injection he with he
    injection he with he
    omega))
theorem Marks.cons {B D : Nat} {ds : List Deferred} {W : World} (h : Marks B ds W) (hlt : ∀ d ∈ ds, ∀ k, d = { target := .collected k, args := #[] } → k < D) (hB : B ≤ D) (hD : W.heap[D]? = some (.deferred (some []))) : Marks B ({ target := .collected D, args := #[] } :: ds) W := by
  refine ⟨D, rfl, hB, ?_, hD, fun d' hd' e => ?_, h⟩
  · rcases Nat.lt_or_ge D W.heap.size with h1 | h1
    · exact h1
    · rw [Array.getElem?_eq_none h1] at hD; cases hD
  · have := hlt d' hd' D e
    omega
/-- All below the heap's size as it was. -/
theorem Marks.lt {B : Nat} {ds : List Deferred} {W : World} (h : Marks B ds W) : ∀ d ∈ ds, ∀ k, d = { target := .collected k, args := #[] } → k < W.heap.size := by
  intro d hd k e
  obtain ⟨D, e1, _, h2, _⟩ := h.mem d hd
  rw [e1] at e
  injection e with e
  injection e with e
  omega

theorem below_putObj {B D : Nat} (W : World) (o : Obj) (h : B ≤ D) : Below B W (W.putObj D o) :=
  ⟨rfl, rfl, rfl, by simp [World.putObj], fun k hk => World.putObj_heap_other (by omega)⟩

/-- At the return each is taken. -/
theorem Marks.leave {F : Fence} {n : Nat} {P : Program} {fn : Func} {tmps : Array Value} {R : Ending → World → Prop} {B : Nat} : ∀ (ds : List Deferred) (W : World), Marks B ds W →
    (∀ W', Below B W W' → LeavesIn F n P fn tmps R [] .returning W') → LeavesInM F n P fn tmps R ds .returning W := by
  intro ds
  induction ds with
  | nil => intro W _ h; exact h W (Below.refl _ _)
  | cons d ds ih =>
    intro W hm h
    obtain ⟨D, rfl, h1, h2, h3, h4, h5⟩ := hm
    refine ⟨by simp, .inl ⟨D, W.putObj D (.deferred none), rfl, run_takeDeferred h3, ?_⟩⟩
    have hb := below_putObj W (.deferred none) h1
    refine ih _ (h5.keep (by simp [World.putObj]) (fun k ⟨d, hd, he⟩ => World.putObj_heap_other (fun e => ?_))) (fun W' hW' => h W' (hb.trans hW'))
    exact h4 d hd (by rw [he, e])
end Go.Proofs.Ytkgkiplidjoamaa.Pk
