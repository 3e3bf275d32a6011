/- Sets of blocks, and bytes of one's own. -/
import Derived.Test.YtcjfammfplcigaaBytes
import Derived.Test.YtcjfammfplcigaaSet0
namespace Go.Proofs.Ytcjfammfplcigaa.Pk
open Go.RowKit
set_option linter.unusedVariables false
/-- A value that owns its bytes keeps them as long as its block stays. -/
theorem OwnB.stay {w w' : World} {B : Nat} {v : Value} {l : List Int} (h : OwnB w B v l) (hk : ∀ g, v.ownBlock = some g → w'.heap[g]? = w.heap[g]?) : OwnB w' B v l := by
  obtain ⟨h1, h2⟩ := h
  refine ⟨h1, ?_⟩
  rcases h2 with h2 | ⟨g, cap, cur, rfl, hg, hh, hr⟩
  · exact .inl h2
  · exact .inr ⟨g, cap, cur, rfl, hg, (hk g rfl).trans hh, hr⟩
theorem OwnB.lt {w : World} {B : Nat} {v : Value} {l : List Int} (h : OwnB w B v l) : ∀ g, v.ownBlock = some g → g < w.heap.size := by
  intro g hg
  rcases h.2 with ⟨rfl, _⟩ | ⟨g', cap, cur, rfl, _, hh, _⟩
  · simp [Value.ownBlock] at hg
  · simp [Value.ownBlock] at hg
    subst hg
    rcases Nat.lt_or_ge g' w.heap.size with h' | h'
    · exact h'
    · rw [Array.getElem?_eq_none h'] at hh; cases hh
theorem OwnB.base {w : World} {B : Nat} {v : Value} {l : List Int} (h : OwnB w B v l) : ∀ g, v.ownBlock = some g → B ≤ g := own_base h
theorem OwnB.free {w : World} {B : Nat} {A : Option Addr} {n c : Nat} {l : List Int} (h : OwnB w B (.slice A n c) l) {S : Nat → Prop} (hS : ∀ b, S b → b < B) : Free S A n := fun _ ad e hs => by
  subst e
  have h1 := h.base ad.block rfl
  have h2 := hS _ hs
  omega
theorem OwnB.nil_ (w : World) (B : Nat) : OwnB w B (.slice none 0 0) [] := ⟨rfl, .inl ⟨rfl, rfl⟩⟩
/-- The first k bytes of what is owned are owned. -/
theorem OwnB.cut {w : World} {B : Nat} {A : Option Addr} {n c k : Nat} {l : List Int} (h : OwnB w B (.slice A n c) l) (hk : k ≤ n) : OwnB w B (.slice A k c) (l.take k) := by
  have hl : l.length = n := by
    obtain ⟨A', c', e, _, _⟩ := h.reads
    injection e with _ e _; omega
  rcases h.2 with ⟨e, e0⟩ | ⟨g, cap, cur, e, hg, hh, hn, hm, hs, ht⟩
  · injection e with e1 e2 e3
    subst e1; subst e2; subst e3
    have hk0 : k = 0 := by omega
    subst hk0
    exact OwnB.nil_ w B
  · injection e with e1 e2 e3
    subst e1; subst e3
    have e4 : (l.take k).length = k := by rw [List.length_take]; omega
    refine ⟨by simp [e4], .inr ⟨g, c, cur, by rw [e4], hg, hh, by omega, hm, hs, ?_⟩⟩
    have e5 : bts (l.take k) = (bts l).take k := by unfold bts; rw [List.map_take]
    rw [e5, ← ht, e4, List.take_take]
    congr 1
    omega
end Go.Proofs.Ytcjfammfplcigaa.Pk
