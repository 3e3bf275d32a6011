/- From cells that can be every turn leads to cells that can be. -/
import Derived.Test.YteflefmlicamlaaChFacts
namespace Go.Proofs.Yteflefmlicamlaa.Pk
set_option linter.unusedVariables false
theorem cell_move {l L : List Ce} {me : Int} {sink sink' : Bool} {i j : Nat} (e0 : ceA L i = ceA l j) (e1 : 0 < i → 0 < j ∧ (ceA L (i - 1)).n = (ceA l (j - 1)).n) (e2 : j + 1 < l.length → i + 1 < L.length ∧ (ceA L (i + 1)).n = (ceA l (j + 1)).n)
    (hlast : (sink' = true ∧ i + 1 = L.length) ↔ (sink = true ∧ j + 1 = l.length)) (h : CellOk l me sink j) : CellOk L me sink' i := by
  obtain ⟨h1, h2, h3, h4⟩ := h
  unfold CellOk
  rw [e0]
  refine ⟨h1, fun hi => ?_, h3, ?_⟩
  · obtain ⟨q1, q2⟩ := e1 hi
    rw [q2]; exact h2 q1
  · by_cases hs : sink = true ∧ j + 1 = l.length
    · rw [if_pos (hlast.2 hs)]
      rw [if_pos hs] at h4
      exact h4
    · rw [if_neg (fun hh => hs (hlast.1 hh))]
      rw [if_neg hs] at h4
      refine ⟨h4.1, fun hd => ?_⟩
      obtain ⟨q1, q2⟩ := h4.2 hd
      obtain ⟨q3, q4⟩ := e2 q1
      exact ⟨q3, by rw [q4]; exact q2⟩
theorem ceA_app {a b : List Ce} {i : Nat} : ceA (a ++ b) i = if i < a.length then ceA a i else ceA b (i - a.length) := by
  unfold ceA
  by_cases h : i < a.length
  · rw [if_pos h, List.getD_eq_getElem?_getD, List.getElem?_append_left h, List.getD_eq_getElem?_getD]
  · rw [if_neg h, List.getD_eq_getElem?_getD, List.getElem?_append_right (by omega), List.getD_eq_getElem?_getD]
theorem succK_set {l : List Ce} {k : Nat} {d x : Int} (h : l.length = k + 1) (hs : (ceA l k).s ≠ 3) : succK l d x = (l.set k ⟨(ceA l k).n, (ceA l k).s, d, x⟩, false) := by
  rw [succK_on h hs]
  congr 1
  apply List.ext_getElem?
  intro i
  rcases Nat.lt_trichotomy i k with hi | hi | hi
  · rw [List.getElem?_append_left (by rw [List.length_take]; omega), List.getElem?_take_of_lt hi, List.getElem?_set_ne (by omega)]
  · subst hi
    rw [List.getElem?_append_right (by rw [List.length_take]; omega), List.getElem?_set_self (by omega), List.length_take, show i - min i l.length = 0 by omega]
    rfl
  · rw [List.getElem?_eq_none (by rw [List.length_append, List.length_take, List.length_singleton]; omega), List.getElem?_eq_none (by rw [List.length_set]; omega)]
theorem GoodK.first {l : List Ce} {me : Int} {sink : Bool} (h : GoodK l me sink) {i : Nat} (hi : i < l.length) (hs : (ceA l i).s ≠ 1) : i = 0 := by
  rcases Nat.eq_zero_or_pos i with h0 | h0
  · exact h0
  · exact absurd ((h.2 i hi).2.1 h0).2 hs
/-- One more request of the sink's own node. -/
theorem stay_add {l : List Ce} {me next : Int} (h : GoodK l me true) (hm : 0 ≤ me ∧ me < 32) (hx : next = (ceA l (l.length - 1)).n + 1) (hle : next ≤ 1099511627776) :
    GoodK (addK (succK l me next).1 next) me true ∧ ((succK l me next).2 = true ↔ (succK l me next).1.length + 1 = l.length) := by
  have hpos := h.1 rfl
  obtain ⟨k, hk⟩ : ∃ k, l.length = k + 1 := ⟨l.length - 1, by omega⟩
  have hc := h.2 k (by omega)
  rw [show l.length - 1 = k by omega] at hx
  have hn0 : 0 ≤ (ceA l k).n := hc.1.1
  by_cases hs : (ceA l k).s = 3
  · have hk0 : k = 0 := h.first (by omega) (by omega)
    subst hk0
    rw [succK_rest hk hs]
    refine ⟨?_, ?_⟩
    · unfold addK
      simp only [List.take_zero, List.nil_append]
      refine ⟨fun _ => by simp, fun i hi => ?_⟩
      have : i = 0 := by simpa using hi
      subst this
      exact ⟨⟨by show 0 ≤ next; omega, hle, by show (1 : Int) ≤ 1; omega, by show (1 : Int) ≤ 3; omega⟩, fun h => absurd h (by omega), fun h0 => by have h0 : next = 0 := h0; omega, by rw [if_pos ⟨rfl, rfl⟩]; exact ⟨rfl, rfl⟩⟩
    · simp [hk]
  · rw [succK_set hk hs]
    have hl2 : (l.set k ⟨(ceA l k).n, (ceA l k).s, me, next⟩).length = k + 1 := by rw [List.length_set, hk]
    refine ⟨?_, by simp [hk]⟩
    have hL : (addK (l.set k ⟨(ceA l k).n, (ceA l k).s, me, next⟩) next).length = k + 2 := by unfold addK; simp [hk]
    have hg : ∀ i, ceA (addK (l.set k ⟨(ceA l k).n, (ceA l k).s, me, next⟩) next) i = if i < k + 1 then (if i = k then ⟨(ceA l k).n, (ceA l k).s, me, next⟩ else ceA l i) else ceA [⟨next, 1, -1, 0⟩] (i - (k + 1)) := fun i => by
      unfold addK
      rw [ceA_app, hl2]
      split
      · rw [ceA_set (by omega)]
      · rfl
    show GoodK (addK (l.set k ⟨(ceA l k).n, (ceA l k).s, me, next⟩) next) me true
    refine ⟨fun _ => by rw [hL]; omega, fun i hi => ?_⟩
    rw [hL] at hi
    rcases Nat.lt_trichotomy i k with hik | hik | hik
    · refine cell_move (l := l) (j := i) (sink := true) ?_ (fun h0 => ⟨h0, ?_⟩) (fun h0 => ⟨by omega, ?_⟩) (by rw [hL, hk]; constructor <;> rintro ⟨-, b⟩ <;> omega) (h.2 i (by omega))
      · rw [hg, if_pos (by omega), if_neg (by omega)]
      · rw [hg, if_pos (by omega), if_neg (by omega)]
      · rw [hg, if_pos (by omega)]
        by_cases e : i + 1 = k
        · rw [if_pos e, e]
        · rw [if_neg e]
    · subst hik
      obtain ⟨q1, q2, q3, -⟩ := hc
      unfold CellOk
      rw [hL, hg i, if_pos (by omega), if_pos rfl, hg (i + 1), if_neg (by omega), if_neg (by omega), show i + 1 - (i + 1) = 0 by omega]
      refine ⟨q1, fun h0 => ?_, q3, ⟨hs, hm.1, hm.2, by show 1 ≤ next; omega, hle⟩, fun _ => ⟨by omega, rfl⟩⟩
      have := q2 h0
      rw [hg (i - 1), if_pos (by omega), if_neg (by omega)]
      exact this
    · have : i = k + 1 := by omega
      subst this
      unfold CellOk
      rw [hL, hg (k + 1), if_neg (by omega), show k + 1 - (k + 1) = 0 by omega, if_pos ⟨rfl, by omega⟩, hg (k + 1 - 1), if_pos (by omega), if_pos (by omega)]
      refine ⟨⟨by show 0 ≤ next; omega, hle, by show (1 : Int) ≤ 1; omega, by show (1 : Int) ≤ 3; omega⟩, fun _ => ⟨by show (ceA l k).n < next; omega, rfl⟩, fun h0 => ?_, rfl, rfl⟩
      have h0 : next = 0 := h0
      omega
/-- Another node's request behind a sink's cells. -/
theorem stay_far {l : List Ce} {me far : Int} (h : GoodK l me true) (hf : 0 ≤ far ∧ far < 32) (hne : far ≠ me) : GoodK (succK l far 7).1 me false := by
  have hpos := h.1 rfl
  obtain ⟨k, hk⟩ : ∃ k, l.length = k + 1 := ⟨l.length - 1, by omega⟩
  have hc := h.2 k (by omega)
  by_cases hs : (ceA l k).s = 3
  · have hk0 : k = 0 := h.first (by omega) (by omega)
    subst hk0
    rw [succK_rest hk hs]
    refine ⟨fun h0 => (by cases h0), fun i hi => ?_⟩
    simp at hi
  · rw [succK_set hk hs]
    have hl2 : (l.set k ⟨(ceA l k).n, (ceA l k).s, far, 7⟩).length = k + 1 := by rw [List.length_set, hk]
    have hg : ∀ i, ceA (l.set k ⟨(ceA l k).n, (ceA l k).s, far, 7⟩) i = if i = k then ⟨(ceA l k).n, (ceA l k).s, far, 7⟩ else ceA l i := fun i => ceA_set (by omega)
    refine ⟨fun h0 => (by cases h0), fun i hi => ?_⟩
    show CellOk (l.set k _) me false i
    have hi : i < k + 1 := by rw [← hl2]; exact hi
    by_cases hik : i = k
    · subst hik
      obtain ⟨q1, q2, q3, -⟩ := hc
      unfold CellOk
      rw [hg i, if_pos rfl, if_neg (by simp)]
      refine ⟨q1, fun h0 => ?_, q3, ⟨hs, hf.1, hf.2, by show (1 : Int) ≤ 7; omega, by show (7 : Int) ≤ 1099511627776; omega⟩, fun e => absurd e hne⟩
      have := q2 h0
      rw [hg (i - 1), if_neg (by omega)]
      exact this
    · refine cell_move (l := l) (j := i) (sink := true) ?_ (fun h0 => ⟨h0, ?_⟩) (fun h0 => ⟨by rw [hl2]; omega, ?_⟩) (⟨fun q => (by cases q.1), fun q => (by have q2 := q.2; omega)⟩) (h.2 i (by omega))
      · rw [hg, if_neg hik]
      · rw [hg, if_neg (by omega)]
      · rw [hg]
        by_cases e : i + 1 = k
        · rw [if_pos e, e]
        · rw [if_neg e]
theorem openK_set {l : List Ce} {k : Nat} {c : Ce} (hk : k < l.length) : openK (l.set k c) + (if (ceA l k).s = 1 ∨ (ceA l k).s = 2 then 1 else 0) = openK l + (if c.s = 1 ∨ c.s = 2 then 1 else 0) := by
  have e1 : l.set k c = l.take k ++ [c] ++ l.drop (k + 1) := by
    rw [List.set_eq_take_append_cons_drop, if_pos hk]; simp
  have e2 : l = l.take k ++ [ceA l k] ++ l.drop (k + 1) := by
    conv => lhs; rw [← List.take_append_drop (k + 1) l]
    rw [take_ce hk]
  have h1 : openK (l.set k c) = openK (l.take k) + openK [c] + openK (l.drop (k + 1)) := by
    rw [e1]; unfold openK; simp only [List.filter_append, List.length_append]
  have h2 : openK l = openK (l.take k) + openK [ceA l k] + openK (l.drop (k + 1)) := by
    conv => lhs; rw [e2]
    unfold openK; simp only [List.filter_append, List.length_append]
  have one : ∀ c : Ce, openK [c] = if c.s = 1 ∨ c.s = 2 then 1 else 0 := fun c => by
    unfold openK
    by_cases h : c.s = 1 ∨ c.s = 2
    · rw [if_pos h]; simp [h]
    · rw [if_neg h]; simp [h]
  rw [h1, h2, one, one]
  omega
/-- The first one, if it waits, is granted. -/
theorem stay_grant {l : List Ce} {me : Int} {sink : Bool} (h : GoodK l me sink) (hpos : 0 < l.length) (hs : (ceA l 0).s = 1) : (grantK l (ceA l 0).n).2 = true ∧ GoodK (grantK l (ceA l 0).n).1 me sink ∧ openK (grantK l (ceA l 0).n).1 = openK l := by
  have hg : grantAt l (ceA l 0).n = some 0 := idx_some hpos (by simp [hs]) (fun i hi => by omega)
  obtain ⟨e, -⟩ := grant_some hg
  rw [e]
  have hl2 : (l.set 0 ⟨(ceA l 0).n, 2, (ceA l 0).d, (ceA l 0).x⟩).length = l.length := by rw [List.length_set]
  have hgt : ∀ i, ceA (l.set 0 ⟨(ceA l 0).n, 2, (ceA l 0).d, (ceA l 0).x⟩) i = if i = 0 then ⟨(ceA l 0).n, 2, (ceA l 0).d, (ceA l 0).x⟩ else ceA l i := fun i => ceA_set hpos
  refine ⟨rfl, ⟨fun _ => by rw [hl2]; exact hpos, fun i hi => ?_⟩, ?_⟩
  · show CellOk (l.set 0 _) me sink i
    have hi : i < l.length := by rw [← hl2]; exact hi
    by_cases h0 : i = 0
    · subst h0
      obtain ⟨q1, q2, q3, q4⟩ := h.2 0 hpos
      unfold CellOk
      rw [hgt 0, if_pos rfl, hl2]
      refine ⟨⟨q1.1, q1.2.1, by show (1 : Int) ≤ 2; omega, by show (2 : Int) ≤ 3; omega⟩, fun h0 => absurd h0 (by omega), fun h0 => by have := q3 h0; omega, ?_⟩
      by_cases hl : sink = true ∧ 0 + 1 = l.length
      · rw [if_pos hl] at q4 ⊢; exact q4
      · rw [if_neg hl] at q4 ⊢
        refine ⟨⟨by show (2 : Int) ≠ 3; omega, q4.1.2⟩, fun hd => ?_⟩
        have := q4.2 hd
        rw [hgt (0 + 1), if_neg (by omega)]
        exact this
    · refine cell_move (l := l) (j := i) (sink := sink) ?_ (fun h1 => ⟨h1, ?_⟩) (fun h1 => ⟨by rw [hl2]; exact h1, ?_⟩) (by rw [hl2]) (h.2 i hi)
      · rw [hgt, if_neg h0]
      · rw [hgt]
        by_cases e : i - 1 = 0
        · rw [if_pos e, e]
        · rw [if_neg e]
      · rw [hgt, if_neg (by omega)]
  · have := openK_set (c := ⟨(ceA l 0).n, 2, (ceA l 0).d, (ceA l 0).x⟩) hpos
    simp [hs] at this
    exact this
/-- What a release leaves. -/
theorem stay_rel {l : List Ce} {me : Int} {sink : Bool} (h : GoodK l me sink) {k : Nat} (hh : heldAt l = some k) :
    GoodK (relK l).1 me sink ∧ openK (relK l).1 + 1 = openK l ∧ (relK l).2.2.2 = 0 ∧ ((relK l).2.1 = -1 ↔ (relK l).1.length = l.length) := by
  obtain ⟨e, hk, hks, -⟩ := held_some hh
  have hk0 : k = 0 := h.first hk (by omega)
  subst hk0
  have hc := h.2 0 hk
  rw [e]
  by_cases hd : (ceA l 0).d = -1
  · rw [if_pos hd]
    have hl2 : (l.set 0 ⟨(ceA l 0).n, 3, (ceA l 0).d, (ceA l 0).x⟩).length = l.length := by rw [List.length_set]
    have hlast : sink = true ∧ 0 + 1 = l.length := Classical.byContradiction fun hl => by
      have := hc.2.2.2
      rw [if_neg hl] at this
      omega
    refine ⟨⟨fun _ => by rw [hl2]; exact hk, fun i hi => ?_⟩, ?_, rfl, by simp⟩
    · show CellOk (l.set 0 _) me sink i
      have hi : i = 0 := by have : i < l.length := by rw [← hl2]; exact hi
                            omega
      subst hi
      obtain ⟨q1, q2, q3, q4⟩ := hc
      unfold CellOk
      rw [ceA_set hk, if_pos rfl, hl2, if_pos hlast]
      rw [if_pos hlast] at q4
      exact ⟨⟨q1.1, q1.2.1, by show (1 : Int) ≤ 3; omega, by show (3 : Int) ≤ 3; omega⟩, fun h0 => absurd h0 (by omega), fun _ => rfl, q4⟩
    · have := openK_set (c := ⟨(ceA l 0).n, 3, (ceA l 0).d, (ceA l 0).x⟩) hk
      simp [hks] at this
      exact this
  · rw [if_neg hd]
    have hl2 : (l.eraseIdx 0).length + 1 = l.length := by rw [List.length_eraseIdx, if_pos hk]; omega
    have hg : ∀ i, ceA (l.eraseIdx 0) i = ceA l (i + 1) := fun i => by rw [ceA_erase, if_neg (by omega)]
    have hnl : ¬ (sink = true ∧ 0 + 1 = l.length) := fun hl => by
      have := hc.2.2.2
      rw [if_pos hl] at this
      exact hd this.1
    refine ⟨⟨fun hs => ?_, fun i hi => ?_⟩, ?_, rfl, ?_⟩
    · show 0 < (l.eraseIdx 0).length
      have : ¬ 0 + 1 = l.length := fun h0 => hnl ⟨hs, h0⟩
      omega
    · show CellOk (l.eraseIdx 0) me sink i
      have hi : i < (l.eraseIdx 0).length := hi
      refine cell_move (l := l) (j := i + 1) (sink := sink) (hg i) (fun h1 => ⟨by omega, ?_⟩) (fun h1 => ⟨by omega, by rw [hg]⟩) (by constructor <;> rintro ⟨a, b⟩ <;> exact ⟨a, by omega⟩) (h.2 (i + 1) (by omega))
      rw [hg, show i - 1 + 1 = i + 1 - 1 by omega]
    · show openK (l.eraseIdx 0) + 1 = openK l
      cases l with
      | nil => simp at hk
      | cons c r =>
        simp only [List.eraseIdx_cons_zero]
        have e1 : ceA (c :: r) 0 = c := rfl
        rw [e1] at hks
        unfold openK
        simp [hks]
    · show (ceA l 0).d = -1 ↔ (l.eraseIdx 0).length = l.length
      constructor
      · intro h0; exact absurd h0 hd
      · intro h0; omega
/-- No one holds the object: the first one neither. -/
theorem none_first {l : List Ce} (h : heldAt l = none) (hpos : 0 < l.length) : (ceA l 0).s ≠ 2 := (held_none h).2 0 hpos
end Go.Proofs.Yteflefmlicamlaa.Pk
