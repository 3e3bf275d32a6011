/- A node's requests for an object: what each call makes of them. -/
import Derived.Test.YteflefmlicamlaaCeVal
namespace Go.Proofs.Yteflefmlicamlaa.Pk
set_option linter.unusedVariables false
def ceA (l : List Ce) (i : Nat) : Ce := l.getD i Ce.zero
theorem ceA_get {l : List Ce} {i : Nat} (h : i < l.length) : l[i]? = some (ceA l i) := by
  unfold ceA
  rw [List.getD_eq_getElem?_getD, List.getElem?_eq_getElem h]
  rfl
theorem ceA_of {l : List Ce} {i : Nat} {c : Ce} (h : l[i]? = some c) : ceA l i = c := by
  unfold ceA
  rw [List.getD_eq_getElem?_getD, h]
  rfl
/-- One cell can be. -/
def CellOk (l : List Ce) (me : Int) (sink : Bool) (i : Nat) : Prop :=
  (0 ≤ (ceA l i).n ∧ (ceA l i).n ≤ 1099511627776 ∧ 1 ≤ (ceA l i).s ∧ (ceA l i).s ≤ 3) ∧
  (0 < i → (ceA l (i - 1)).n < (ceA l i).n ∧ (ceA l i).s = 1) ∧
  ((ceA l i).n = 0 → (ceA l i).s = 3) ∧
  (if sink = true ∧ i + 1 = l.length then (ceA l i).d = -1 ∧ (ceA l i).x = 0
    else ((ceA l i).s ≠ 3 ∧ 0 ≤ (ceA l i).d ∧ (ceA l i).d < 32 ∧ 1 ≤ (ceA l i).x ∧ (ceA l i).x ≤ 1099511627776) ∧ ((ceA l i).d = me → i + 1 < l.length ∧ (ceA l (i + 1)).n = (ceA l i).x))
instance (l : List Ce) (me : Int) (sink : Bool) (i : Nat) : Decidable (CellOk l me sink i) := by unfold CellOk; exact inferInstance
def GoodK (l : List Ce) (me : Int) (sink : Bool) : Prop := (sink = true → 0 < l.length) ∧ ∀ i, i < l.length → CellOk l me sink i
instance (l : List Ce) (me : Int) (sink : Bool) : Decidable (GoodK l me sink) := by unfold GoodK; exact inferInstance
def addK (l : List Ce) (num : Int) : List Ce := l ++ [⟨num, 1, -1, 0⟩]
/-- The last one's successor: where a cell stands at the end. -/
def succK (l : List Ce) (d x : Int) : List Ce × Bool :=
  match l.getLast? with
  | none => ([], false)
  | some c => if c.s = 3 then (l.dropLast, true) else (l.dropLast ++ [⟨c.n, c.s, d, x⟩], false)
def grantAt (l : List Ce) (num : Int) : Option Nat := l.findIdx? fun c => decide (c.n = num ∧ c.s = 1)
def grantK (l : List Ce) (num : Int) : List Ce × Bool :=
  match grantAt l num with
  | none => (l, false)
  | some k => (l.set k ⟨(ceA l k).n, 2, (ceA l k).d, (ceA l k).x⟩, true)
def heldAt (l : List Ce) : Option Nat := l.findIdx? fun c => decide (c.s = 2)
def relK (l : List Ce) : List Ce × Int × Int × Int :=
  match heldAt l with
  | none => ([], 0, 0, 22)
  | some k => if (ceA l k).d = -1 then (l.set k ⟨(ceA l k).n, 3, (ceA l k).d, (ceA l k).x⟩, -1, 0, 0) else (l.eraseIdx k, (ceA l k).d, (ceA l k).x, 0)
def openK (l : List Ce) : Nat := (l.filter fun c => decide (c.s = 1 ∨ c.s = 2)).length
theorem idx_none {l : List Ce} {p : Ce → Bool} (h : ∀ i, i < l.length → p (ceA l i) = false) : l.findIdx? p = none := by
  rw [List.findIdx?_eq_none_iff]
  intro x hx
  obtain ⟨i, hi⟩ := List.getElem?_of_mem hx
  have := h i (List.getElem?_eq_some_iff.1 hi).1
  rw [ceA_of hi] at this
  simpa using this
theorem idx_some {l : List Ce} {p : Ce → Bool} {k : Nat} (hk : k < l.length) (hp : p (ceA l k) = true) (h : ∀ i, i < k → p (ceA l i) = false) : l.findIdx? p = some k := by
  rw [List.findIdx?_eq_some_iff_getElem]
  refine ⟨hk, ?_, fun j hj => ?_⟩
  · have e : l[k] = ceA l k := by
      have := ceA_get hk
      rw [List.getElem?_eq_getElem hk] at this
      injection this
    rw [e]; exact hp
  · have e : l[j]'(by omega) = ceA l j := by
      have := ceA_get (l := l) (i := j) (by omega)
      rw [List.getElem?_eq_getElem (by omega)] at this
      injection this
    rw [e]; simpa using h j hj
end Go.Proofs.Yteflefmlicamlaa.Pk
