/- What each call makes of the cells: facts. -/
import Derived.Test.YteflefmlicamlaaChMath
namespace Go.Proofs.Yteflefmlicamlaa.Pk
set_option linter.unusedVariables false
theorem take_ce {l : List Ce} {i : Nat} (h : i < l.length) : l.take (i + 1) = l.take i ++ [ceA l i] := by
  rw [List.take_add_one, ceA_get h]; rfl
theorem succK_rest {l : List Ce} {k : Nat} {d x : Int} (h : l.length = k + 1) (hs : (ceA l k).s = 3) : succK l d x = (l.take k, true) := by
  unfold succK
  have e : l.getLast? = some (ceA l k) := by rw [List.getLast?_eq_getElem?, h, Nat.add_sub_cancel]; exact ceA_get (by omega)
  rw [e]
  simp only
  rw [if_pos hs, List.dropLast_eq_take, h, Nat.add_sub_cancel]
theorem succK_on {l : List Ce} {k : Nat} {d x : Int} (h : l.length = k + 1) (hs : (ceA l k).s ≠ 3) : succK l d x = (l.take k ++ [⟨(ceA l k).n, (ceA l k).s, d, x⟩], false) := by
  unfold succK
  have e : l.getLast? = some (ceA l k) := by rw [List.getLast?_eq_getElem?, h, Nat.add_sub_cancel]; exact ceA_get (by omega)
  rw [e]
  simp only
  rw [if_neg hs, List.dropLast_eq_take, h, Nat.add_sub_cancel]
theorem succK_nil {l : List Ce} {d x : Int} (h : l.length = 0) : succK l d x = ([], false) := by
  rw [List.length_eq_zero_iff.1 h]; rfl
theorem grant_none {l : List Ce} {num : Int} (h : grantAt l num = none) : grantK l num = (l, false) ∧ ∀ i, i < l.length → ¬ ((ceA l i).n = num ∧ (ceA l i).s = 1) := by
  refine ⟨by unfold grantK; rw [h], fun i hi hp => ?_⟩
  unfold grantAt at h
  rw [List.findIdx?_eq_none_iff] at h
  have := h _ (List.mem_of_getElem? (ceA_get hi))
  simp [hp.1, hp.2] at this
theorem grant_some {l : List Ce} {num : Int} {k : Nat} (h : grantAt l num = some k) : grantK l num = (l.set k ⟨(ceA l k).n, 2, (ceA l k).d, (ceA l k).x⟩, true) ∧ k < l.length ∧ (ceA l k).n = num ∧ (ceA l k).s = 1 ∧ ∀ i, i < k → ¬ ((ceA l i).n = num ∧ (ceA l i).s = 1) := by
  refine ⟨by unfold grantK; rw [h], ?_⟩
  unfold grantAt at h
  rw [List.findIdx?_eq_some_iff_getElem] at h
  obtain ⟨hk, hp, hj⟩ := h
  have e : ∀ i (hi : i < l.length), l[i] = ceA l i := fun i hi => by
    have := ceA_get hi
    rw [List.getElem?_eq_getElem hi] at this
    injection this
  rw [e] at hp
  simp at hp
  refine ⟨hk, hp.1, hp.2, fun i hi hp2 => ?_⟩
  have := hj i hi
  rw [e] at this
  simp [hp2.1, hp2.2] at this
theorem ceA_set {l : List Ce} {k i : Nat} {c : Ce} (hk : k < l.length) : ceA (l.set k c) i = if i = k then c else ceA l i := by
  unfold ceA
  by_cases e : i = k
  · subst e
    rw [if_pos rfl, List.getD_eq_getElem?_getD, List.getElem?_set_self hk]; rfl
  · rw [if_neg e, List.getD_eq_getElem?_getD, List.getElem?_set_ne (Ne.symm e), List.getD_eq_getElem?_getD]
theorem held_none {l : List Ce} (h : heldAt l = none) : relK l = ([], 0, 0, 22) ∧ ∀ i, i < l.length → (ceA l i).s ≠ 2 := by
  refine ⟨by unfold relK; rw [h], fun i hi hp => ?_⟩
  unfold heldAt at h
  rw [List.findIdx?_eq_none_iff] at h
  have := h _ (List.mem_of_getElem? (ceA_get hi))
  simp [hp] at this
theorem held_some {l : List Ce} {k : Nat} (h : heldAt l = some k) : relK l = (if (ceA l k).d = -1 then (l.set k ⟨(ceA l k).n, 3, (ceA l k).d, (ceA l k).x⟩, -1, 0, 0) else (l.eraseIdx k, (ceA l k).d, (ceA l k).x, 0)) ∧ k < l.length ∧ (ceA l k).s = 2 ∧ ∀ i, i < k → (ceA l i).s ≠ 2 := by
  refine ⟨by unfold relK; rw [h], ?_⟩
  unfold heldAt at h
  rw [List.findIdx?_eq_some_iff_getElem] at h
  obtain ⟨hk, hp, hj⟩ := h
  have e : ∀ i (hi : i < l.length), l[i] = ceA l i := fun i hi => by
    have := ceA_get hi
    rw [List.getElem?_eq_getElem hi] at this
    injection this
  rw [e] at hp
  simp at hp
  refine ⟨hk, hp, fun i hi hp2 => ?_⟩
  have := hj i hi
  rw [e] at this
  simp [hp2] at this
theorem ceA_erase {l : List Ce} {k j : Nat} : ceA (l.eraseIdx k) j = if j < k then ceA l j else ceA l (j + 1) := by
  unfold ceA
  rw [List.getD_eq_getElem?_getD, List.getElem?_eraseIdx]
  split
  · rw [List.getD_eq_getElem?_getD]
  · rw [List.getD_eq_getElem?_getD]
end Go.Proofs.Yteflefmlicamlaa.Pk
