/- Rows in two halves round a row: what put, delete and find do there. -/
import Derived.Test.YtcjfammfplcigaaRowMath
namespace Go.Proofs.Ytcjfammfplcigaa.Tb
set_option linter.unusedVariables false
variable {α : Type}

theorem Rises.parts {L R : List (Int × α)} {x : Int × α} (h : Rises (L ++ x :: R)) : Rises L ∧ Rises R ∧ (∀ y ∈ L, y.1 < x.1) ∧ (∀ y ∈ R, x.1 < y.1) := by
  obtain ⟨h1, h2, h3⟩ := List.pairwise_append.1 h
  exact ⟨h1, h2.tail, fun y hy => h3 y hy x (by simp), fun y hy => (List.pairwise_cons.1 h2).1 y hy⟩
theorem Rises.join {L R : List (Int × α)} {x : Int × α} (h1 : Rises L) (h2 : Rises R) (h3 : ∀ y ∈ L, y.1 < x.1) (h4 : ∀ y ∈ R, x.1 < y.1) : Rises (L ++ x :: R) := by
  refine List.pairwise_append.2 ⟨h1, List.pairwise_cons.2 ⟨h4, h2⟩, fun y hy z hz => ?_⟩
  rcases List.mem_cons.1 hz with rfl | hz
  · exact h3 y hy
  · have := h3 y hy; have := h4 z hz; omega
theorem ins_left {k : Int} {v : α} {x : Int × α} (h : k < x.1) (R : List (Int × α)) : ∀ L : List (Int × α), ins k v (L ++ x :: R) = ins k v L ++ x :: R
  | [] => by rw [List.nil_append, ins_cons, if_neg (by omega), if_neg (by omega)]; rfl
  | y :: L => by
    rw [List.cons_append, ins_cons, ins_cons, ins_left h R L]
    split
    · rfl
    · split <;> rfl
theorem ins_right {k : Int} {v : α} {x : Int × α} (h : x.1 < k) (R : List (Int × α)) : ∀ L : List (Int × α), (∀ y ∈ L, y.1 < x.1) → ins k v (L ++ x :: R) = L ++ x :: ins k v R
  | [], _ => by rw [List.nil_append, ins_cons, if_pos h]; rfl
  | y :: L, hL => by
    have := hL y (by simp)
    rw [List.cons_append, ins_cons, if_pos (by omega), ins_right h R L (fun z hz => hL z (by simp [hz]))]; rfl
theorem ins_here {k : Int} {v u : α} (R : List (Int × α)) : ∀ L : List (Int × α), (∀ y ∈ L, y.1 < k) → ins k v (L ++ (k, u) :: R) = L ++ (k, v) :: R
  | [], _ => by rw [List.nil_append, ins_cons, if_neg (by simp), if_pos rfl]; rfl
  | y :: L, hL => by
    have := hL y (by simp)
    rw [List.cons_append, ins_cons, if_pos (by omega), ins_here R L (fun z hz => hL z (by simp [hz]))]; rfl
theorem ins_len {k : Int} {v : α} : ∀ L : List (Int × α), (ins k v L).length ≤ L.length + 1
  | [] => by simp [ins]
  | y :: L => by
    rw [ins_cons]
    split
    · have := ins_len (k := k) (v := v) L; simp; omega
    · split <;> simp
theorem ins_length {k : Int} {v : α} : ∀ L : List (Int × α), Rises L → (ins k v L).length = L.length + if (at_ k L).isNone then 1 else 0
  | [], _ => by simp [ins, at_]
  | y :: L, h => by
    rw [ins_cons, at_cons]
    by_cases h1 : y.1 < k
    · rw [if_pos h1, if_neg (show ¬ y.1 = k by omega), List.length_cons, ins_length L h.tail, List.length_cons]
      cases at_ k L <;> simp <;> omega
    · by_cases h2 : y.1 = k
      · rw [if_neg h1, if_pos h2, if_pos h2]; simp
      · have h3 : at_ k L = none := by
          rw [← look_at]; exact look_none_of_lt fun z hz => by have := h.head z hz; omega
        rw [if_neg h1, if_neg h2, if_neg h2, h3]; simp
theorem del_left {k : Int} {x : Int × α} (h : k < x.1) (R : List (Int × α)) (hR : ∀ y ∈ R, x.1 < y.1) : ∀ L : List (Int × α), del k (L ++ x :: R) = del k L ++ x :: R
  | [] => by
    have h3 : at_ k (x :: R) = none := by
      rw [← look_at]; exact look_none_of_lt fun z hz => by
        rcases List.mem_cons.1 hz with rfl | hz
        · exact h
        · have := hR z hz; omega
    rw [List.nil_append, del_none h3]; rfl
  | y :: L => by
    rw [List.cons_append, del_cons, del_cons, del_left h R hR L]
    split <;> rfl
theorem del_right {k : Int} {x : Int × α} (h : x.1 < k) (R : List (Int × α)) : ∀ L : List (Int × α), (∀ y ∈ L, y.1 < x.1) → del k (L ++ x :: R) = L ++ x :: del k R
  | [], _ => by rw [List.nil_append, del_cons, if_neg (by omega)]; rfl
  | y :: L, hL => by
    have := hL y (by simp)
    rw [List.cons_append, del_cons, if_neg (by omega), del_right h R L (fun z hz => hL z (by simp [hz]))]; rfl
theorem del_here {k : Int} {u : α} (R : List (Int × α)) : ∀ L : List (Int × α), (∀ y ∈ L, y.1 < k) → del k (L ++ (k, u) :: R) = L ++ R
  | [], _ => by rw [List.nil_append, del_cons, if_pos rfl]; rfl
  | y :: L, hL => by
    have := hL y (by simp)
    rw [List.cons_append, del_cons, if_neg (by omega), del_here R L (fun z hz => hL z (by simp [hz]))]; rfl
theorem del_len {k : Int} : ∀ L : List (Int × α), (del k L).length ≤ L.length
  | [] => by simp [del]
  | y :: L => by
    rw [del_cons]
    split
    · simp
    · have := del_len (k := k) L; simp; omega
theorem under_left {k : Int} {x : Int × α} (h : k < x.1) (R : List (Int × α)) (hR : ∀ y ∈ R, x.1 < y.1) : ∀ L : List (Int × α), under k (L ++ x :: R) = under k L
  | [] => by
    rw [List.nil_append, look_none_of_lt (l := x :: R)]
    · rfl
    · intro z hz
      rcases List.mem_cons.1 hz with rfl | hz
      · exact h
      · have := hR z hz; omega
  | y :: L => by
    rw [List.cons_append, look_cons, look_cons, under_left h R hR L]
theorem under_right {k : Int} {x : Int × α} (h : x.1 < k) (R : List (Int × α)) : ∀ L : List (Int × α), (∀ y ∈ L, y.1 < x.1) → under k (L ++ x :: R) = under k R
  | [], _ => by rw [List.nil_append, look_cons, if_neg (by omega)]
  | y :: L, hL => by
    have := hL y (by simp)
    rw [List.cons_append, look_cons, if_neg (by omega), under_right h R L (fun z hz => hL z (by simp [hz]))]
theorem under_here {k : Int} {u : α} (R : List (Int × α)) : ∀ L : List (Int × α), (∀ y ∈ L, y.1 < k) → under k (L ++ (k, u) :: R) = some u
  | [], _ => by rw [List.nil_append, look_cons, if_pos rfl]
  | y :: L, hL => by
    have := hL y (by simp)
    rw [List.cons_append, look_cons, if_neg (by omega), under_here R L (fun z hz => hL z (by simp [hz]))]
theorem at_isSome {k : Int} {l : List (Int × α)} : (at_ k l).isSome = (under k l).isSome := by
  cases h : at_ k l with
  | none => rw [look_at.2 h]; rfl
  | some i => obtain ⟨v, _, h2⟩ := at_get h; rw [h2]; rfl
theorem at_isNone {k : Int} {l : List (Int × α)} : (at_ k l).isNone = (under k l).isNone := by
  cases h : at_ k l with
  | none => rw [look_at.2 h]; rfl
  | some i => obtain ⟨v, _, h2⟩ := at_get h; rw [h2]; rfl
end Go.Proofs.Ytcjfammfplcigaa.Tb
