/- What a table's rows do where numbers are laid behind all others: plain mathematics. -/
import Derived.Test.YtcjfammfplcigaaTreeMath
namespace Go.Proofs.Ytcjfammfplcigaa.Tb
set_option linter.unusedVariables false
variable {α : Type}
theorem ins_end {k : Int} {v : α} : ∀ {L : List (Int × α)}, (∀ y ∈ L, y.1 < k) → ins k v L = L ++ [(k, v)]
  | [], _ => rfl
  | y :: L, h => by rw [ins_cons, if_pos (h y (by simp)), ins_end (fun z hz => h z (by simp [hz]))]; rfl
theorem at_end {k : Int} : ∀ {L : List (Int × α)}, (∀ y ∈ L, y.1 < k) → at_ k L = none
  | [], _ => rfl
  | y :: L, h => by rw [at_cons, if_neg (by have := h y (by simp); omega), at_end (fun z hz => h z (by simp [hz]))]; rfl
theorem at_nth {k : Int} {v : α} : ∀ {L : List (Int × α)} {i : Nat}, Rises L → L[i]? = some (k, v) → at_ k L = some i ∧ under k L = some v
  | [], _, _, h => by simp at h
  | y :: L, 0, hR, h => by
    simp at h; subst h
    exact ⟨by rw [at_cons, if_pos rfl], by rw [look_cons, if_pos rfl]⟩
  | y :: L, i + 1, hR, h => by
    rw [List.getElem?_cons_succ] at h
    have h1 := hR.head (k, v) (List.mem_of_getElem? h)
    obtain ⟨h2, h3⟩ := at_nth hR.tail h
    refine ⟨by rw [at_cons, if_neg (by simp at h1; omega), h2]; rfl, by rw [look_cons, if_neg (by simp at h1; omega), h3]⟩
theorem del_nth {k : Int} {v : α} {L : List (Int × α)} {i : Nat} (hR : Rises L) (h : L[i]? = some (k, v)) : del k L = L.eraseIdx i := by
  rw [del_at (at_nth hR h).1, List.eraseIdx_eq_take_drop_succ]
theorem last_most {k : Int} {v : α} {L : List (Int × α)} (hR : Rises L) (h : L[L.length - 1]? = some (k, v)) : ∀ y ∈ L, y.1 ≤ k := by
  intro y hy
  obtain ⟨j, hj, rfl⟩ := List.getElem_of_mem hy
  obtain ⟨h1, h2⟩ := List.getElem?_eq_some_iff.1 h
  rcases Nat.lt_or_ge j (L.length - 1) with h3 | h3
  · have := List.pairwise_iff_getElem.1 hR j (L.length - 1) hj h1 h3
    rw [h2] at this
    simp at this; omega
  · have e : j = L.length - 1 := by omega
    subst e
    rw [h2]; simp
end Go.Proofs.Ytcjfammfplcigaa.Tb
