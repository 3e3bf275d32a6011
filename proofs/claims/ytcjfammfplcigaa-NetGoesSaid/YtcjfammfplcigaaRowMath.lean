/- Rows in their order: what put, find and delete make of them. -/
namespace Go.Proofs.Ytcjfammfplcigaa.Tb
set_option linter.unusedVariables false
section
variable {α : Type}

/-- The numbers rise. -/
def Rises (l : List (Int × α)) : Prop := l.Pairwise fun x y => x.1 < y.1
/-- The place of a number, if it is there. -/
def at_ (k : Int) : List (Int × α) → Option Nat
  | [] => none
  | x :: l => if x.1 = k then some 0 else (at_ k l).map (· + 1)
/-- What stands under a number. -/
def under (k : Int) : List (Int × α) → Option α
  | [] => none
  | x :: l => if x.1 = k then some x.2 else under k l
/-- The rows with one more, or one in the place of what stood there. -/
def ins (k : Int) (v : α) : List (Int × α) → List (Int × α)
  | [] => [(k, v)]
  | x :: l => if x.1 < k then x :: ins k v l else if x.1 = k then (k, v) :: l else (k, v) :: x :: l
/-- The rows without one. -/
def del (k : Int) : List (Int × α) → List (Int × α)
  | [] => []
  | x :: l => if x.1 = k then l else x :: del k l
theorem look_cons (k : Int) (x : Int × α) (l : List (Int × α)) : under k (x :: l) = if x.1 = k then some x.2 else under k l := rfl
theorem at_cons (k : Int) (x : Int × α) (l : List (Int × α)) : at_ k (x :: l) = if x.1 = k then some 0 else (at_ k l).map (· + 1) := rfl
theorem ins_cons (k : Int) (v : α) (x : Int × α) (l : List (Int × α)) : ins k v (x :: l) = if x.1 < k then x :: ins k v l else if x.1 = k then (k, v) :: l else (k, v) :: x :: l := rfl
theorem del_cons (k : Int) (x : Int × α) (l : List (Int × α)) : del k (x :: l) = if x.1 = k then l else x :: del k l := rfl
theorem Rises.tail {x : Int × α} {l : List (Int × α)} (h : Rises (x :: l)) : Rises l := (List.pairwise_cons.1 h).2
theorem Rises.head {x : Int × α} {l : List (Int × α)} (h : Rises (x :: l)) : ∀ y ∈ l, x.1 < y.1 := (List.pairwise_cons.1 h).1
theorem look_none_of_lt {k : Int} {l : List (Int × α)} (h : ∀ y ∈ l, k < y.1) : under k l = none := by
  induction l with
  | nil => rfl
  | cons x l ih =>
    have hx := h x (List.mem_cons_self ..)
    unfold under
    rw [if_neg (by omega)]
    exact ih fun y hy => h y (List.mem_cons_of_mem _ hy)
theorem look_at {k : Int} {l : List (Int × α)} : under k l = none ↔ at_ k l = none := by
  induction l with
  | nil => simp [under, at_]
  | cons x l ih =>
    unfold under at_
    by_cases h : x.1 = k
    · simp [h]
    · simp [h, ih]
theorem at_get {k : Int} {l : List (Int × α)} {i : Nat} (h : at_ k l = some i) : ∃ v, l[i]? = some (k, v) ∧ under k l = some v := by
  induction l generalizing i with
  | nil => cases h
  | cons x l ih =>
    unfold at_ at h
    unfold under
    by_cases hx : x.1 = k
    · rw [if_pos hx] at h; injection h with h; subst h
      rw [if_pos hx]
      exact ⟨x.2, by rw [← hx]; rfl, rfl⟩
    · rw [if_neg hx] at h
      obtain ⟨j, hj, rfl⟩ := Option.map_eq_some_iff.1 h
      obtain ⟨v, h1, h2⟩ := ih hj
      exact ⟨v, by simpa using h1, by rw [if_neg hx]; exact h2⟩
theorem at_lt {k : Int} {l : List (Int × α)} {i : Nat} (h : at_ k l = some i) : i < l.length := by
  obtain ⟨v, h1, _⟩ := at_get h
  exact (List.getElem?_eq_some_iff.1 h1).1
theorem del_at {k : Int} {l : List (Int × α)} {i : Nat} (h : at_ k l = some i) : del k l = l.take i ++ l.drop (i + 1) := by
  induction l generalizing i with
  | nil => cases h
  | cons x l ih =>
    unfold at_ at h
    unfold del
    by_cases hx : x.1 = k
    · rw [if_pos hx] at h; injection h with h; subst h
      rw [if_pos hx]; simp
    · rw [if_neg hx] at h
      obtain ⟨j, hj, rfl⟩ := Option.map_eq_some_iff.1 h
      rw [if_neg hx, ih hj]; simp
theorem del_none {k : Int} {l : List (Int × α)} (h : at_ k l = none) : del k l = l := by
  induction l with
  | nil => rfl
  | cons x l ih =>
    unfold at_ at h
    unfold del
    by_cases hx : x.1 = k
    · rw [if_pos hx] at h; cases h
    · rw [if_neg hx] at h ⊢
      rw [ih (by simpa using h)]
theorem ins_mem {k : Int} {v : α} {l : List (Int × α)} {y : Int × α} (h : y ∈ ins k v l) : y = (k, v) ∨ y ∈ l := by
  induction l with
  | nil => left; simpa [ins] using h
  | cons x l ih =>
    unfold ins at h
    split at h
    · rcases List.mem_cons.1 h with h | h
      · right; rw [h]; exact List.mem_cons_self ..
      · rcases ih h with h | h
        · exact .inl h
        · exact .inr (List.mem_cons_of_mem _ h)
    · split at h
      · rcases List.mem_cons.1 h with h | h
        · exact .inl h
        · exact .inr (List.mem_cons_of_mem _ h)
      · rcases List.mem_cons.1 h with h | h
        · exact .inl h
        · exact .inr h
theorem ins_rises {k : Int} {v : α} {l : List (Int × α)} (h : Rises l) : Rises (ins k v l) := by
  induction l with
  | nil => simp [ins, Rises]
  | cons x l ih =>
    unfold ins
    split
    · refine List.pairwise_cons.2 ⟨fun y hy => ?_, ih h.tail⟩
      rcases ins_mem hy with rfl | hy
      · assumption
      · exact h.head y hy
    · split
      · rename_i h1 h2
        exact List.pairwise_cons.2 ⟨fun y hy => by have := h.head y hy; show k < y.1; omega, h.tail⟩
      · rename_i h1 h2
        refine List.pairwise_cons.2 ⟨fun y hy => ?_, h⟩
        show k < y.1
        rcases List.mem_cons.1 hy with rfl | hy
        · omega
        · have := h.head y hy; omega
theorem del_mem {k : Int} {l : List (Int × α)} {y : Int × α} (h : y ∈ del k l) : y ∈ l := by
  induction l with
  | nil => exact h
  | cons x l ih =>
    unfold del at h
    split at h
    · exact List.mem_cons_of_mem _ h
    · rcases List.mem_cons.1 h with h | h
      · rw [h]; exact List.mem_cons_self ..
      · exact List.mem_cons_of_mem _ (ih h)
theorem del_rises {k : Int} {l : List (Int × α)} (h : Rises l) : Rises (del k l) := by
  induction l with
  | nil => exact h
  | cons x l ih =>
    unfold del
    split
    · exact h.tail
    · exact List.pairwise_cons.2 ⟨fun y hy => h.head y (del_mem hy), ih h.tail⟩
theorem look_ins {k j : Int} {v : α} {l : List (Int × α)} (h : Rises l) : under j (ins k v l) = if j = k then some v else under j l := by
  induction l with
  | nil =>
    show (if k = j then some v else none) = if j = k then some v else none
    by_cases e : j = k
    · rw [if_pos e, if_pos e.symm]
    · rw [if_neg e, if_neg fun h => e h.symm]
  | cons x l ih =>
    rw [ins_cons]
    split
    · rename_i h1
      rw [look_cons, look_cons, ih h.tail]
      by_cases e1 : x.1 = j
      · rw [if_pos e1, if_neg (by omega), if_pos e1]
      · rw [if_neg e1, if_neg e1]
    · split
      · rename_i h1 h2
        rw [look_cons, look_cons]
        by_cases e1 : j = k
        · rw [if_pos e1.symm, if_pos e1]
        · rw [if_neg (fun e => e1 e.symm), if_neg e1, if_neg (by omega)]
      · rename_i h1 h2
        rw [look_cons]
        by_cases e1 : j = k
        · rw [if_pos e1.symm, if_pos e1]
        · rw [if_neg (fun e => e1 e.symm), if_neg e1]
theorem look_del {k j : Int} {l : List (Int × α)} (h : Rises l) : under j (del k l) = if j = k then none else under j l := by
  induction l with
  | nil => simp [del, under]
  | cons x l ih =>
    rw [del_cons]
    split
    · rename_i h1
      by_cases e : j = k
      · rw [if_pos e]
        exact look_none_of_lt fun y hy => by have := h.head y hy; omega
      · rw [if_neg e, look_cons, if_neg (by omega)]
    · rename_i h1
      rw [look_cons, look_cons, ih h.tail]
      by_cases e1 : x.1 = j
      · rw [if_pos e1, if_neg (by omega), if_pos e1]
      · rw [if_neg e1, if_neg e1]
/-- Two lists that rise and have the same under each number are the same. -/
theorem rises_ext {l m : List (Int × α)} (hl : Rises l) (hm : Rises m) (h : ∀ k, under k l = under k m) : l = m := by
  induction l generalizing m with
  | nil =>
    cases m with
    | nil => rfl
    | cons y m =>
      have := h y.1
      simp [under] at this
  | cons x l ih =>
    cases m with
    | nil =>
      have := h x.1
      simp [under] at this
    | cons y m =>
      have key : x.1 = y.1 := by
        rcases Int.lt_trichotomy x.1 y.1 with h1 | h1 | h1
        · have h2 := h x.1
          rw [show under x.1 (y :: m) = none from look_none_of_lt fun z hz => by
            rcases List.mem_cons.1 hz with rfl | hz
            · exact h1
            · have := hm.head z hz; omega] at h2
          simp [under] at h2
        · exact h1
        · have h2 := h y.1
          rw [show under y.1 (x :: l) = none from look_none_of_lt fun z hz => by
            rcases List.mem_cons.1 hz with rfl | hz
            · exact h1
            · have := hl.head z hz; omega] at h2
          simp [under] at h2
      have val : x.2 = y.2 := by
        have h2 := h x.1
        simp only [under, if_true, key] at h2
        injection h2
      have hxy : x = y := by
        obtain ⟨x1, x2⟩ := x
        obtain ⟨y1, y2⟩ := y
        simp only at key val
        rw [key, val]
      subst hxy
      rw [ih hl.tail hm.tail fun k => ?_]
      by_cases e : x.1 = k
      · rw [look_none_of_lt (k := k) (l := l) fun y hy => by have := hl.head y hy; omega, look_none_of_lt (k := k) (l := m) fun y hy => by have := hm.head y hy; omega]
      · have h2 := h k
        simp only [under, if_neg e] at h2
        exact h2

/-- The loop of the law's own put: what is out, whether the row is laid, whether it is fresh. -/
def turn (k : Int) (v : α) : List (Int × α) × Bool × Bool → (Int × α) → List (Int × α) × Bool × Bool
  | (out, laid, fresh), x => if x.1 = k then (out, laid, false) else if k < x.1 ∧ laid = false then (out ++ [(k, v), x], true, fresh) else (out ++ [x], laid, fresh)
def turns (k : Int) (v : α) (l : List (Int × α)) : List (Int × α) × Bool × Bool := l.foldl (turn k v) ([], false, true)
/-- What put answers. -/
def putL (k : Int) (v : α) (l : List (Int × α)) : List (Int × α) × Bool :=
  match turns k v l with
  | (out, laid, fresh) => (if laid then out else out ++ [(k, v)], fresh)
theorem turns_snoc (k : Int) (v : α) (l : List (Int × α)) (x : Int × α) : turns k v (l ++ [x]) = turn k v (turns k v l) x := by
  unfold turns; rw [List.foldl_append]; rfl
theorem turn_length (k : Int) (v : α) (out : List (Int × α)) (laid fresh : Bool) (x : Int × α) (n : Nat) (h : out.length ≤ n + laid.toNat) :
    (turn k v (out, laid, fresh) x).1.length ≤ n + 1 + (turn k v (out, laid, fresh) x).2.1.toNat := by
  unfold turn
  simp only
  by_cases h1 : x.1 = k
  · rw [if_pos h1]; simp only; omega
  · rw [if_neg h1]
    by_cases h2 : k < x.1 ∧ laid = false
    · rw [if_pos h2]
      obtain ⟨_, rfl⟩ := h2
      simp at h ⊢; omega
    · rw [if_neg h2]
      simp; omega
theorem turns_length (k : Int) (v : α) (l : List (Int × α)) : (turns k v l).1.length ≤ l.length + (turns k v l).2.1.toNat := by
  suffices h : ∀ (r : List (Int × α)) (out : List (Int × α)) (laid fresh : Bool) (n : Nat), out.length ≤ n + laid.toNat → (r.foldl (turn k v) (out, laid, fresh)).1.length ≤ n + r.length + (r.foldl (turn k v) (out, laid, fresh)).2.1.toNat by
    have := h l [] false true 0 (by simp)
    unfold turns
    omega
  intro r
  induction r with
  | nil => intro out laid fresh n h; exact h
  | cons x r ih =>
    intro out laid fresh n h
    have h2 := turn_length k v out laid fresh x n h
    rw [List.foldl_cons]
    have : (r.foldl (turn k v) (turn k v (out, laid, fresh) x)).1.length ≤ n + 1 + r.length + (r.foldl (turn k v) (turn k v (out, laid, fresh) x)).2.1.toNat := ih (turn k v (out, laid, fresh) x).1 (turn k v (out, laid, fresh) x).2.1 (turn k v (out, laid, fresh) x).2.2 (n + 1) h2
    rw [List.length_cons]
    omega
/-- Where the numbers rise it is the row laid in its place. -/
theorem putL_eq (k : Int) (v : α) {l : List (Int × α)} (h : Rises l) : putL k v l = (ins k v l, (at_ k l).isNone) := by
  suffices hs : ∀ (r : List (Int × α)) (out : List (Int × α)), Rises r →
      (match r.foldl (turn k v) (out, false, true) with | (o, laid, fresh) => (if laid then o else o ++ [(k, v)], fresh)) = (out ++ ins k v r, (at_ k r).isNone) by
    exact hs l [] h
  have late : ∀ (r : List (Int × α)) (out : List (Int × α)) (fresh : Bool), (∀ y ∈ r, k < y.1) → r.foldl (turn k v) (out, true, fresh) = (out ++ r, true, fresh) := by
    intro r
    induction r with
    | nil => intro out fresh _; simp
    | cons x r ih =>
      intro out fresh hr
      have hx := hr x (List.mem_cons_self ..)
      rw [List.foldl_cons]
      have : turn k v (out, true, fresh) x = (out ++ [x], true, fresh) := by
        unfold turn
        simp only
        rw [if_neg (by omega), if_neg (by simp)]
      rw [this, ih _ _ fun y hy => hr y (List.mem_cons_of_mem _ hy)]
      simp
  have early : ∀ (r : List (Int × α)) (out : List (Int × α)), (∀ y ∈ r, k < y.1) → (match r.foldl (turn k v) (out, false, false) with | (o, laid, fresh) => (if laid then o else o ++ [(k, v)], fresh)) = (out ++ (k, v) :: r, false) := by
    intro r out hr
    cases r with
    | nil => simp
    | cons x r =>
      have hx := hr x (List.mem_cons_self ..)
      rw [List.foldl_cons]
      have : turn k v (out, false, false) x = (out ++ [(k, v), x], true, false) := by
        unfold turn
        simp only
        rw [if_neg (by omega), if_pos ⟨hx, trivial⟩]
      rw [this, late _ _ _ fun y hy => hr y (List.mem_cons_of_mem _ hy)]
      simp
  intro r
  induction r with
  | nil => intro out _; simp [ins, at_]
  | cons x r ih =>
    intro out hr
    rw [List.foldl_cons]
    have hh := hr.head
    rcases Int.lt_trichotomy x.1 k with h1 | h1 | h1
    · have : turn k v (out, false, true) x = (out ++ [x], false, true) := by
        unfold turn
        simp only
        rw [if_neg (by omega), if_neg (by simp; omega)]
      rw [this, ih _ hr.tail]
      rw [ins_cons, at_cons, if_pos h1, if_neg (by omega)]
      simp
    · have : turn k v (out, false, true) x = (out, false, false) := by
        unfold turn
        simp only
        rw [if_pos h1]
      rw [this, early _ _ fun y hy => by have := hh y hy; omega]
      rw [ins_cons, at_cons, if_neg (by omega), if_pos h1, if_pos h1]
      simp
    · have : turn k v (out, false, true) x = (out ++ [(k, v), x], true, true) := by
        unfold turn
        simp only
        rw [if_neg (by omega), if_pos ⟨h1, trivial⟩]
      rw [this, late _ _ _ fun y hy => by have := hh y hy; omega]
      have hn : at_ k r = none := look_at.1 (look_none_of_lt fun y hy => by have := hh y hy; omega)
      rw [ins_cons, at_cons, if_neg (by omega), if_neg (by omega), if_neg (by omega), hn]
      simp
end
end Go.Proofs.Ytcjfammfplcigaa.Tb
