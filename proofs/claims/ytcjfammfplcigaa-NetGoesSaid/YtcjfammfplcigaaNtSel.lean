/- Plain mathematics: what is left of a list by flags. -/
import Derived.Test.YtcjfammfplcigaaNtMath
namespace Go.Proofs.Ytcjfammfplcigaa.Nt
set_option linter.unusedVariables false
def sel : List Bool → Li → Li
  | b :: bs, x :: l => if b then x :: sel bs l else sel bs l
  | _, _ => []
/-- How many flags stand ahead of place k. -/
def cnt (bs : List Bool) (k : Nat) : Nat := (bs.take k).countP id
theorem cnt_zero (bs : List Bool) : cnt bs 0 = 0 := by simp [cnt]
theorem cnt_succ {bs : List Bool} {k : Nat} {b : Bool} (h : bs[k]? = some b) : cnt bs (k + 1) = cnt bs k + (if b then 1 else 0) := by
  obtain ⟨h1, h2⟩ := List.getElem?_eq_some_iff.1 h
  unfold cnt
  rw [List.take_succ_eq_append_getElem h1, h2, List.countP_append]
  cases b <;> simp
theorem cnt_cons (b : Bool) (bs : List Bool) (k : Nat) : cnt (b :: bs) (k + 1) = (if b then 1 else 0) + cnt bs k := by
  unfold cnt
  rw [List.take_succ_cons]
  cases b <;> simp; omega
theorem cnt_le (bs : List Bool) (k : Nat) : cnt bs k ≤ cnt bs bs.length := by
  unfold cnt
  rw [List.take_length]
  exact List.Sublist.countP_le (List.take_sublist k bs)
theorem cnt_mono (bs : List Bool) {i j : Nat} (h : i ≤ j) : cnt bs i ≤ cnt bs j := by
  unfold cnt
  have : bs.take i = (bs.take j).take i := by rw [List.take_take]; congr 1; omega
  rw [this]
  exact List.Sublist.countP_le (List.take_sublist i _)
theorem sel_length {bs : List Bool} {l : Li} (h : bs.length = l.length) : (sel bs l).length = cnt bs bs.length := by
  induction bs generalizing l with
  | nil => simp [sel, cnt]
  | cons b r ih =>
    cases l with
    | nil => simp at h
    | cons x l =>
      have := ih (l := l) (by simpa using h)
      rw [List.length_cons, cnt_cons, ← this]
      cases b <;> simp [sel]; omega
theorem sel_mem {bs : List Bool} {l : Li} : ∀ x ∈ sel bs l, x ∈ l := by
  induction bs generalizing l with
  | nil => intro x hx; simp [sel] at hx
  | cons b r ih =>
    cases l with
    | nil => intro x hx; simp [sel] at hx
    | cons y l =>
      intro x hx
      cases b with
      | true =>
        simp [sel] at hx
        rcases hx with rfl | hx
        · simp
        · exact List.mem_cons_of_mem _ (ih x hx)
      | false =>
        simp [sel] at hx
        exact List.mem_cons_of_mem _ (ih x hx)
theorem sel_all (l : Li) : sel (List.replicate l.length true) l = l := by
  induction l with
  | nil => simp [sel]
  | cons x l ih => simp [sel, List.replicate_succ, ih]
theorem sel_get {bs : List Bool} {l : Li} (h : bs.length = l.length) {a : Nat} (ha : bs[a]? = some true) : (sel bs l)[cnt bs a]? = l[a]? := by
  induction bs generalizing l a with
  | nil => simp at ha
  | cons b r ih =>
    cases l with
    | nil => simp at h
    | cons x l =>
      cases a with
      | zero =>
        simp at ha
        subst ha
        simp [cnt_zero, sel]
      | succ a =>
        have := ih (l := l) (by simpa using h) (a := a) (by simpa using ha)
        rw [cnt_cons]
        cases b with
        | true => simp only [sel, if_true]; rw [Nat.add_comm, List.getElem?_cons_succ, List.getElem?_cons_succ]; exact this
        | false => simpa [sel] using this
theorem sel_erase {bs : List Bool} {l : Li} (h : bs.length = l.length) {a : Nat} (ha : bs[a]? = some true) : (sel bs l).eraseIdx (cnt bs a) = sel (bs.set a false) l := by
  induction bs generalizing l a with
  | nil => simp at ha
  | cons b r ih =>
    cases l with
    | nil => simp at h
    | cons x l =>
      cases a with
      | zero =>
        simp at ha
        subst ha
        simp [cnt_zero, sel]
      | succ a =>
        have := ih (l := l) (by simpa using h) (a := a) (by simpa using ha)
        rw [cnt_cons]
        cases b with
        | true => simp only [sel, if_true, List.set_cons_succ]; rw [Nat.add_comm, List.eraseIdx_cons_succ, this]
        | false => simpa [sel] using this
/-- What has been seen of the place at which the t-th flag stands. -/
def Look (bs : List Bool) (t : Int) (j : Nat) (at_ k : Int) : Prop :=
  (at_ = -1 ∧ k = (cnt bs j : Nat) ∧ ¬ (0 ≤ t ∧ t < (cnt bs j : Nat))) ∨ ∃ a : Nat, at_ = (a : Int) ∧ a < j ∧ bs[a]? = some true ∧ ((cnt bs a : Nat) : Int) = t ∧ k = (cnt bs a : Nat) + 1
theorem Look.start (bs : List Bool) (t : Int) : Look bs t 0 (-1) 0 := .inl ⟨rfl, by simp [cnt_zero], by rw [cnt_zero]; omega⟩
theorem Look.no {bs : List Bool} {t : Int} {j : Nat} {at_ k : Int} (h : Look bs t j at_ k) (hb : bs[j]? = some false) : Look bs t (j + 1) at_ k := by
  have hc := cnt_succ hb
  simp at hc
  rcases h with ⟨rfl, rfl, h⟩ | ⟨a, rfl, h1, h2, h3, h4⟩
  · exact .inl ⟨rfl, by rw [hc], by rw [hc]; exact h⟩
  · exact .inr ⟨a, rfl, by omega, h2, h3, h4⟩
theorem Look.had {bs : List Bool} {t : Int} {j : Nat} {at_ k : Int} (h : Look bs t j at_ k) (ha : 0 ≤ at_) : Look bs t (j + 1) at_ k := by
  rcases h with ⟨rfl, rfl, h⟩ | ⟨a, rfl, h1, h2, h3, h4⟩
  · omega
  · exact .inr ⟨a, rfl, by omega, h2, h3, h4⟩
theorem Look.hit {bs : List Bool} {t : Int} {j : Nat} {at_ k : Int} (h : Look bs t j at_ k) (hb : bs[j]? = some true) (ha : at_ < 0) (hk : k = t) : Look bs t (j + 1) (j : Int) (k + 1) := by
  rcases h with ⟨rfl, rfl, h⟩ | ⟨a, rfl, h1, h2, h3, h4⟩
  · exact .inr ⟨j, rfl, by omega, hb, hk, rfl⟩
  · omega
theorem Look.miss {bs : List Bool} {t : Int} {j : Nat} {at_ k : Int} (h : Look bs t j at_ k) (hb : bs[j]? = some true) (ha : at_ < 0) (hk : k ≠ t) : Look bs t (j + 1) at_ (k + 1) := by
  have hc := cnt_succ hb
  simp at hc
  rcases h with ⟨rfl, rfl, h⟩ | ⟨a, rfl, h1, h2, h3, h4⟩
  · exact .inl ⟨rfl, by rw [hc]; omega, by rw [hc]; omega⟩
  · omega
theorem Look.bounds {bs : List Bool} {t : Int} {j : Nat} {at_ k : Int} (h : Look bs t j at_ k) : -1 ≤ at_ ∧ at_ < (j : Int) + 1 ∧ 0 ≤ k ∧ k ≤ (bs.length : Int) + 1 := by
  have hl : ∀ i, cnt bs i ≤ bs.length := fun i => by
    unfold cnt
    exact Nat.le_trans List.countP_le_length (List.length_take_le' i bs)
  rcases h with ⟨rfl, rfl, h⟩ | ⟨a, rfl, h1, h2, h3, h4⟩
  · have := hl j; omega
  · have := hl a; omega
/-- What it says at the end. -/
theorem Look.done {bs : List Bool} {l : Li} {t : Int} {at_ k : Int} (hl : bs.length = l.length) (h : Look bs t bs.length at_ k) :
    (at_ = -1 ∧ inN (sel bs l) t = false) ∨ ∃ a : Nat, at_ = (a : Int) ∧ a < l.length ∧ inN (sel bs l) t = true ∧ atN (sel bs l) t = l.getD a [] ∧ takeN (sel bs l) t = sel (bs.set a false) l := by
  rcases h with ⟨rfl, rfl, h⟩ | ⟨a, rfl, h1, h2, h3, h4⟩
  · refine .inl ⟨rfl, ?_⟩
    unfold inN
    rw [sel_length hl]
    exact decide_eq_false h
  · have h5 := sel_get hl h2
    have h6 : l[a]? = some l[a] := List.getElem?_eq_getElem (by omega)
    have h7 : cnt bs a < (sel bs l).length := by
      rcases Nat.lt_or_ge (cnt bs a) (sel bs l).length with h | h
      · exact h
      · rw [List.getElem?_eq_none h, h6] at h5; cases h5
    have hi : inN (sel bs l) t = true := inN_iff.2 ⟨_, h3.symm, h7⟩
    refine .inr ⟨a, rfl, by omega, hi, ?_, ?_⟩
    · unfold atN
      rw [if_pos hi, ← h3, Int.toNat_natCast, List.getD_eq_getElem?_getD, h5, List.getD_eq_getElem?_getD]
    · unfold takeN
      rw [if_pos hi, ← h3, Int.toNat_natCast, sel_erase hl h2]
end Go.Proofs.Ytcjfammfplcigaa.Nt
