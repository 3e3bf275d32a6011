/- Request by request of one node: where its numbers lie; a list of truths in memory. -/
import Derived.Test.YteflefmlicamlaaChRun
import Derived.Test.YteflefmlicamlaaBoArgs
namespace Go.Proofs.Yteflefmlicamlaa.Pk
open Go.RowKit
set_option linter.unusedVariables false
theorem GoodK.i {l : List Ce} {me : Int} {sink : Bool} (h : GoodK l me sink) : ∀ c ∈ l, c.I := by
  intro c hc
  obtain ⟨i, hi⟩ := List.getElem?_of_mem hc
  have hil := (List.getElem?_eq_some_iff.1 hi).1
  have e := ceA_of hi
  obtain ⟨⟨q1, q2, q3, q4⟩, -, -, q5⟩ := h.2 i hil
  rw [e] at q1 q2 q3 q4 q5
  refine ⟨⟨by omega, by omega⟩, ⟨by omega, by omega⟩, ?_, ?_⟩
  · split at q5
    · omega
    · obtain ⟨⟨_, _, _, _, _⟩, _⟩ := q5; omega
  · split at q5
    · omega
    · obtain ⟨⟨_, _, _, _, _⟩, _⟩ := q5; omega
theorem OwnK.slk {w : World} {B k : Nat} {v : Value} {l : List Ce} (h : OwnK w B v l) (hk : l.length = k + 1) : ∃ A c, v = .slice A (k + 1) c := by
  obtain ⟨A, c, e⟩ := h.sl
  exact ⟨A, c, by rw [e, hk]⟩
theorem OwnK.inKk {w : World} {B n c : Nat} {A : Option Addr} {l : List Ce} (h : OwnK w B (.slice A n c) l) (hf : n ≤ 4398046511000) (hi : ∀ m ∈ l, m.I) : InK w l A n c := by
  have e : l.length = n := (ownK_reads h).klen
  exact h.inK (by omega) hi
namespace Run
theorem spots {w : World} {L : List Ce} {A : Option Addr} {k c : Nat} {me : Int} {a m : Nat} {r : Bool} (hin : InK w L A (k + 1) c) (h : Run L me a m r) (ai mi s : Int) (ha : (a : Int) = ai) (hm : (m : Int) = mi) (hs : (if r = true then (3 : Int) else 2) = s) :
    ∃ b off, A = some ⟨b, off, none⟩ ∧ ∀ W, Below w.heap.size w W → W.cell? ⟨b, off, none⟩ = some (.int .i64 ai) ∧ W.cell? ⟨b, off + 1, none⟩ = some (.int .i64 s) ∧ W.cell? ⟨b, off + k * 4, none⟩ = some (.int .i64 mi) := by
  obtain ⟨b, off, e, hc⟩ := hin.cells (by omega)
  have hl := hin.len
  have hln := h.len
  refine ⟨b, off, e, fun W hW => ?_⟩
  have h0 := hc W hW 0 _ (ceA_get (by omega))
  have h1 := hc W hW k _ (ceA_get (by omega))
  have n0 := h.num 0 (by omega)
  have n1 := h.num k (by omega)
  rw [n0, h.s0, hs] at h0
  rw [n1] at h1
  refine ⟨?_, ?_, ?_⟩
  · have := h0.1
    rw [Nat.zero_mul, Nat.add_zero] at this
    rw [this, ← ha]; simp
  · have := h0.2.1
    rw [Nat.zero_mul, Nat.add_zero] at this
    exact this
  · rw [h1.1, ← hm]
    congr 2
    omega
end Run
theorem argT_cells {w : World} {a : Option Addr} {n c : Nat} {l : List Bool} (h : Ar.ArgT w a n c l) (hn : 0 < n) : ∃ b off, a = some ⟨b, off, none⟩ ∧ ∀ W, Below w.heap.size w W → ∀ i, i < n → W.cell? ⟨b, off + i, none⟩ = some (.bool (l.getD i false)) := by
  obtain ⟨hl, hr⟩ := h.1
  obtain ⟨ad, rfl, hb, hc⟩ := hr hn
  simp only [List.length_map, Nat.mul_one] at hl
  have h0 := hc 0 _ (List.getElem?_eq_getElem (by simp; omega))
  obtain ⟨b, off, spot⟩ := ad
  have hs : spot = none := by simpa [Addr.add] using World.cell?_spot h0
  subst hs
  refine ⟨b, off, rfl, fun W hW i hi => ?_⟩
  have := ((h.1.below hW).2 hn)
  obtain ⟨ad', e, _, hc'⟩ := this
  injection e with e
  subst e
  have h2 := hc' i (.bool (l.getD i false)) (by
    rw [List.getElem?_map, List.getD_eq_getElem?_getD, List.getElem?_eq_getElem (by omega)]; rfl)
  unfold Addr.add at h2
  by_cases hj : i = 0
  · subst hj; simpa using h2
  · simpa [hj] using h2
end Go.Proofs.Yteflefmlicamlaa.Pk
