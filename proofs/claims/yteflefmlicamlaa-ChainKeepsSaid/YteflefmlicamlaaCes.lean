/- Cells in memory: five cells each. -/
import Derived.Test.YteflefmlicamlaaCeVal
namespace Go.Proofs.Yteflefmlicamlaa.Pk
open Go.RowKit
set_option linter.unusedVariables false
def Ce.cells (m : Ce) : List Value := [.int .i64 m.n, .int .i64 m.s, .int .i64 m.d, .int .i64 m.x]
def ces (l : List Ce) : List Value := l.flatMap Ce.cells
theorem ces_cons (r : Ce) (l : List Ce) : ces (r :: l) = .int .i64 r.n :: .int .i64 r.s :: .int .i64 r.d :: .int .i64 r.x :: ces l := rfl
@[simp] theorem ces_length (l : List Ce) : (ces l).length = l.length * 4 := by
  induction l with
  | nil => rfl
  | cons r l ih => rw [ces_cons]; simp [ih]; omega
theorem ces_get {l : List Ce} {k : Nat} {r : Ce} (h : l[k]? = some r) : (ces l)[k * 4]? = some (.int .i64 r.n) ∧ (ces l)[k * 4 + 1]? = some (.int .i64 r.s) ∧ (ces l)[k * 4 + 2]? = some (.int .i64 r.d) ∧ (ces l)[k * 4 + 3]? = some (.int .i64 r.x) := by
  induction l generalizing k with
  | nil => simp at h
  | cons x l ih =>
    rw [ces_cons]
    match k, h with
    | 0, h => simp at h; subst h; exact ⟨rfl, rfl, rfl, rfl⟩
    | k + 1, h =>
      have := ih (k := k) (by simpa using h)
      rw [show (k + 1) * 4 = k * 4 + 1 + 1 + 1 + 1 by omega]
      simpa using this
theorem Reads.ces_ {w : World} {B : Nat} {A : Option Addr} {n : Nat} {l : List Ce} (h : Reads w B 4 A n (ces l)) (hn : 0 < n) :
    ∃ b off, A = some ⟨b, off, none⟩ ∧ b < B ∧ ∀ i r, l[i]? = some r → w.cell? ⟨b, off + i * 4, none⟩ = some (.int .i64 r.n) ∧ w.cell? ⟨b, off + i * 4 + 1, none⟩ = some (.int .i64 r.s) ∧
      w.cell? ⟨b, off + i * 4 + 2, none⟩ = some (.int .i64 r.d) ∧ w.cell? ⟨b, off + i * 4 + 3, none⟩ = some (.int .i64 r.x) := by
  obtain ⟨ad, rfl, hb, hc⟩ := h.2 hn
  have hl : 0 < (ces l).length := by rw [h.1]; omega
  have h0 := hc 0 _ (List.getElem?_eq_getElem hl)
  obtain ⟨b, off, spot⟩ := ad
  have hs : spot = none := by simpa [Addr.add] using World.cell?_spot h0
  subst hs
  have hat : ∀ j u, (ces l)[j]? = some u → w.cell? ⟨b, off + j, none⟩ = some u := by
    intro j u hu
    have := hc j u hu
    unfold Addr.add at this
    by_cases hj : j = 0
    · subst hj; simpa using this
    · simpa [hj] using this
  refine ⟨b, off, rfl, hb, fun i r hr => ?_⟩
  obtain ⟨h1, h2, h3, h4⟩ := ces_get hr
  exact ⟨hat _ _ h1, by rw [Nat.add_assoc]; exact hat _ _ h2, by rw [Nat.add_assoc]; exact hat _ _ h3, by rw [Nat.add_assoc]; exact hat _ _ h4⟩
theorem Reads.klen {w : World} {B : Nat} {A : Option Addr} {n : Nat} {l : List Ce} (h : Reads w B 4 A n (ces l)) : l.length = n := by
  have := h.1; simp at this; omega
end Go.Proofs.Yteflefmlicamlaa.Pk
