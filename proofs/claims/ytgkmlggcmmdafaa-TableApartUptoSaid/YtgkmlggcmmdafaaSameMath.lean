/- Numbers that are put in any order: the same rows. -/
import Derived.Test.YtgkmlggcmmdafaaTreeMath
namespace Go.Proofs.Ytgkmlggcmmdafaa.Tb
set_option linter.unusedVariables false
variable {α : Type}

def puts (f : Int → α) (ks : List Int) : List (Int × α) := ks.foldl (fun l k => ins k (f k) l) []
theorem puts_snoc (f : Int → α) (ks : List Int) (k : Int) : puts f (ks ++ [k]) = ins k (f k) (puts f ks) := by simp [puts]
theorem foldl_rises (f : Int → α) : ∀ (ks : List Int) (l : List (Int × α)), Rises l → Rises (ks.foldl (fun l k => ins k (f k) l) l)
  | [], l, h => h
  | k :: ks, l, h => foldl_rises f ks _ (ins_rises h)
theorem puts_rises (f : Int → α) (ks : List Int) : Rises (puts f ks) := foldl_rises f ks [] List.Pairwise.nil
theorem foldl_under (f : Int → α) (j : Int) : ∀ (ks : List Int) (l : List (Int × α)), Rises l → under j (ks.foldl (fun l k => ins k (f k) l) l) = if j ∈ ks then some (f j) else under j l
  | [], l, h => by simp
  | k :: ks, l, h => by
    rw [List.foldl_cons, foldl_under f j ks _ (ins_rises h), look_ins h]
    by_cases h1 : j ∈ ks
    · rw [if_pos h1, if_pos (by simp [h1])]
    · rw [if_neg h1]
      by_cases h2 : j = k
      · subst h2; rw [if_pos rfl, if_pos (by simp)]
      · rw [if_neg h2, if_neg (by simp [h1, h2])]
theorem puts_under (f : Int → α) (j : Int) (ks : List Int) : under j (puts f ks) = if j ∈ ks then some (f j) else none := by
  have := foldl_under f j ks [] List.Pairwise.nil
  rw [show under j ([] : List (Int × α)) = none from rfl] at this
  exact this
theorem puts_perm (f : Int → α) {ks js : List Int} (h : ks.Perm js) : puts f ks = puts f js := by
  refine rises_ext (puts_rises f ks) (puts_rises f js) fun j => ?_
  rw [puts_under, puts_under]
  by_cases hj : j ∈ ks
  · rw [if_pos hj, if_pos (h.mem_iff.1 hj)]
  · rw [if_neg hj, if_neg (fun h2 => hj (h.mem_iff.2 h2))]
theorem foldl_len (f : Int → α) : ∀ (ks : List Int) (l : List (Int × α)), (ks.foldl (fun l k => ins k (f k) l) l).length ≤ l.length + ks.length
  | [], l => by simp
  | k :: ks, l => by
    have h1 := foldl_len f ks (ins k (f k) l)
    have h2 := ins_len (k := k) (v := f k) l
    simp only [List.foldl_cons, List.length_cons]
    omega
theorem puts_len (f : Int → α) (ks : List Int) : (puts f ks).length ≤ ks.length := by
  have := foldl_len f ks []
  simpa [puts] using this
/-- A row that stands at a place stands under its number. -/
theorem under_of_get {l : List (Int × α)} (h : Rises l) {i : Nat} {k : Int} {v : α} (hi : l[i]? = some (k, v)) : under k l = some v := by
  obtain ⟨a, b, rfl⟩ : ∃ a b, l = a ++ (k, v) :: b := by
    refine ⟨l.take i, l.drop (i + 1), ?_⟩
    have hlt := (List.getElem?_eq_some_iff.1 hi).1
    have := List.take_append_drop i l
    rw [List.drop_eq_getElem_cons hlt] at this
    rw [(List.getElem?_eq_some_iff.1 hi).2] at this
    exact this.symm
  exact under_here _ _ (Rises.parts h).2.2.1
theorem puts_get (f : Int → α) {ks : List Int} {i : Nat} {k : Int} {v : α} (hi : (puts f ks)[i]? = some (k, v)) : v = f k := by
  have h := under_of_get (puts_rises f ks) hi
  rw [puts_under] at h
  split at h
  · injection h with h; exact h.symm
  · cases h
/-- Two places of a list are swapped. -/
def swap (l : List Int) (i j : Nat) : List Int := (l.set i (l.getD j 0)).set j (l.getD i 0)
theorem swap_perm (l : List Int) (i j : Nat) (hi : i < l.length) (hj : j < l.length) : (swap l i j).Perm l := by
  unfold swap
  have e1 : l.getD j 0 = l[j] := by simp [List.getD, hj]
  have e2 : l.getD i 0 = l[i] := by simp [List.getD, hi]
  rw [e1, e2]
  exact List.set_set_perm hi hj
end Go.Proofs.Ytgkmlggcmmdafaa.Tb
