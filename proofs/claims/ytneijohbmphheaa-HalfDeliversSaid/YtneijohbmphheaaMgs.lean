/- Messages in memory: five cells each. -/
import Derived.Test.YtneijohbmphheaaWiVal
namespace Go.Proofs.Ytneijohbmphheaa.Pk
open Go.RowKit
set_option linter.unusedVariables false
def Mg.cells (m : Mg) : List Value := [.int .i64 m.k, .int .i64 m.o, .int .i64 m.n, .int .i64 m.u, .int .i64 m.v]
def mgs (l : List Mg) : List Value := l.flatMap Mg.cells
theorem mgs_cons (r : Mg) (l : List Mg) : mgs (r :: l) = .int .i64 r.k :: .int .i64 r.o :: .int .i64 r.n :: .int .i64 r.u :: .int .i64 r.v :: mgs l := rfl
@[simp] theorem mgs_length (l : List Mg) : (mgs l).length = l.length * 5 := by
  induction l with
  | nil => rfl
  | cons r l ih => rw [mgs_cons]; simp [ih]; omega
theorem mgs_get {l : List Mg} {k : Nat} {r : Mg} (h : l[k]? = some r) : (mgs l)[k * 5]? = some (.int .i64 r.k) ∧ (mgs l)[k * 5 + 1]? = some (.int .i64 r.o) ∧ (mgs l)[k * 5 + 2]? = some (.int .i64 r.n) ∧ (mgs l)[k * 5 + 3]? = some (.int .i64 r.u) ∧ (mgs l)[k * 5 + 4]? = some (.int .i64 r.v) := by
  induction l generalizing k with
  | nil => simp at h
  | cons x l ih =>
    rw [mgs_cons]
    match k, h with
    | 0, h => simp at h; subst h; exact ⟨rfl, rfl, rfl, rfl, rfl⟩
    | k + 1, h =>
      have := ih (k := k) (by simpa using h)
      rw [show (k + 1) * 5 = k * 5 + 1 + 1 + 1 + 1 + 1 by omega]
      simpa using this
theorem Reads.mgs_ {w : World} {B : Nat} {A : Option Addr} {n : Nat} {l : List Mg} (h : Reads w B 5 A n (mgs l)) (hn : 0 < n) :
    ∃ b off, A = some ⟨b, off, none⟩ ∧ b < B ∧ ∀ i r, l[i]? = some r → w.cell? ⟨b, off + i * 5, none⟩ = some (.int .i64 r.k) ∧ w.cell? ⟨b, off + i * 5 + 1, none⟩ = some (.int .i64 r.o) ∧
      w.cell? ⟨b, off + i * 5 + 2, none⟩ = some (.int .i64 r.n) ∧ w.cell? ⟨b, off + i * 5 + 3, none⟩ = some (.int .i64 r.u) ∧ w.cell? ⟨b, off + i * 5 + 4, none⟩ = some (.int .i64 r.v) := by
  obtain ⟨ad, rfl, hb, hc⟩ := h.2 hn
  have hl : 0 < (mgs l).length := by rw [h.1]; omega
  have h0 := hc 0 _ (List.getElem?_eq_getElem hl)
  obtain ⟨b, off, spot⟩ := ad
  have hs : spot = none := by simpa [Addr.add] using World.cell?_spot h0
  subst hs
  have hat : ∀ j u, (mgs l)[j]? = some u → w.cell? ⟨b, off + j, none⟩ = some u := by
    intro j u hu
    have := hc j u hu
    unfold Addr.add at this
    by_cases hj : j = 0
    · subst hj; simpa using this
    · simpa [hj] using this
  refine ⟨b, off, rfl, hb, fun i r hr => ?_⟩
  obtain ⟨h1, h2, h3, h4, h5⟩ := mgs_get hr
  exact ⟨hat _ _ h1, by rw [Nat.add_assoc]; exact hat _ _ h2, by rw [Nat.add_assoc]; exact hat _ _ h3, by rw [Nat.add_assoc]; exact hat _ _ h4, by rw [Nat.add_assoc]; exact hat _ _ h5⟩
theorem Reads.mlen {w : World} {B : Nat} {A : Option Addr} {n : Nat} {l : List Mg} (h : Reads w B 5 A n (mgs l)) : l.length = n := by
  have := h.1; simp at this; omega
end Go.Proofs.Ytneijohbmphheaa.Pk
