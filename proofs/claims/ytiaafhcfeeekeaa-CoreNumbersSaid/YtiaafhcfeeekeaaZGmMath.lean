/- From cells that can be every turn leads to cells that can be. -/
import Derived.Test.YtiaafhcfeeekeaaZChFacts
import Derived.Test.YtiaafhcfeeekeaaZHfMath
namespace Go.Proofs.Ytiaafhcfeeekeaa.Pk
set_option linter.unusedVariables false
theorem cell_move {l L : List Ce} {me : Int} {sink sink' : Bool} {i j : Nat} (e0 : ceA L i = ceA l j) (e1 : 0 < i → 0 < j ∧ (ceA L (i - 1)).n = (ceA l (j - 1)).n) (e2 : j + 1 < l.length → i + 1 < L.length ∧ (ceA L (i + 1)).n = (ceA l (j + 1)).n)
    (hlast : (sink' = true ∧ i + 1 = L.length) ↔ (sink = true ∧ j + 1 = l.length)) (h : CellOk l me sink j) : CellOk L me sink' i := by
  obtain ⟨h1, h2, h3, h4⟩ := h
  unfold CellOk
  rw [e0]
  refine ⟨h1, fun hi => ?_, h3, ?_⟩
  · obtain ⟨q1, q2⟩ := e1 hi
    rw [q2]; exact h2 q1
  · by_cases hs : sink = true ∧ j + 1 = l.length
    · rw [if_pos (hlast.2 hs)]
      rw [if_pos hs] at h4
      exact h4
    · rw [if_neg (fun hh => hs (hlast.1 hh))]
      rw [if_neg hs] at h4
      refine ⟨h4.1, fun hd => ?_⟩
      obtain ⟨q1, q2⟩ := h4.2 hd
      obtain ⟨q3, q4⟩ := e2 q1
      exact ⟨q3, by rw [q4]; exact q2⟩
theorem ceA_app {a b : List Ce} {i : Nat} : ceA (a ++ b) i = if i < a.length then ceA a i else ceA b (i - a.length) := by
  unfold ceA
  by_cases h : i < a.length
  · rw [if_pos h, List.getD_eq_getElem?_getD, List.getElem?_append_left h, List.getD_eq_getElem?_getD]
  · rw [if_neg h, List.getD_eq_getElem?_getD, List.getElem?_append_right (by omega), List.getD_eq_getElem?_getD]
theorem succK_set {l : List Ce} {k : Nat} {d x : Int} (h : l.length = k + 1) (hs : (ceA l k).s ≠ 3) : succK l d x = (l.set k ⟨(ceA l k).n, (ceA l k).s, d, x⟩, false) := by
  rw [succK_on h hs]
  congr 1
  apply List.ext_getElem?
  intro i
  rcases Nat.lt_trichotomy i k with hi | hi | hi
  · rw [List.getElem?_append_left (by rw [List.length_take]; omega), List.getElem?_take_of_lt hi, List.getElem?_set_ne (by omega)]
  · subst hi
    rw [List.getElem?_append_right (by rw [List.length_take]; omega), List.getElem?_set_self (by omega), List.length_take, show i - min i l.length = 0 by omega]
    rfl
  · rw [List.getElem?_eq_none (by rw [List.length_append, List.length_take, List.length_singleton]; omega), List.getElem?_eq_none (by rw [List.length_set]; omega)]
theorem GoodK.first {l : List Ce} {me : Int} {sink : Bool} (h : GoodK l me sink) {i : Nat} (hi : i < l.length) (hs : (ceA l i).s ≠ 1) : i = 0 := by
  rcases Nat.eq_zero_or_pos i with h0 | h0
  · exact h0
  · exact absurd ((h.2 i hi).2.1 h0).2 hs
theorem openK_set {l : List Ce} {k : Nat} {c : Ce} (hk : k < l.length) : openK (l.set k c) + (if (ceA l k).s = 1 ∨ (ceA l k).s = 2 then 1 else 0) = openK l + (if c.s = 1 ∨ c.s = 2 then 1 else 0) := by
  have e1 : l.set k c = l.take k ++ [c] ++ l.drop (k + 1) := by
    rw [List.set_eq_take_append_cons_drop, if_pos hk]; simp
  have e2 : l = l.take k ++ [ceA l k] ++ l.drop (k + 1) := by
    conv => lhs; rw [← List.take_append_drop (k + 1) l]
    rw [take_ce hk]
  have h1 : openK (l.set k c) = openK (l.take k) + openK [c] + openK (l.drop (k + 1)) := by
    rw [e1]; unfold openK; simp only [List.filter_append, List.length_append]
  have h2 : openK l = openK (l.take k) + openK [ceA l k] + openK (l.drop (k + 1)) := by
    conv => lhs; rw [e2]
    unfold openK; simp only [List.filter_append, List.length_append]
  have one : ∀ c : Ce, openK [c] = if c.s = 1 ∨ c.s = 2 then 1 else 0 := fun c => by
    unfold openK
    by_cases h : c.s = 1 ∨ c.s = 2
    · rw [if_pos h]; simp [h]
    · rw [if_neg h]; simp [h]
  rw [h1, h2, one, one]
  omega
/-- What a release leaves. -/
theorem stay_rel {l : List Ce} {me : Int} {sink : Bool} (h : GoodK l me sink) {k : Nat} (hh : heldAt l = some k) :
    GoodK (relK l).1 me sink ∧ openK (relK l).1 + 1 = openK l ∧ (relK l).2.2.2 = 0 ∧ ((relK l).2.1 = -1 ↔ (relK l).1.length = l.length) := by
  obtain ⟨e, hk, hks, -⟩ := held_some hh
  have hk0 : k = 0 := h.first hk (by omega)
  subst hk0
  have hc := h.2 0 hk
  rw [e]
  by_cases hd : (ceA l 0).d = -1
  · rw [if_pos hd]
    have hl2 : (l.set 0 ⟨(ceA l 0).n, 3, (ceA l 0).d, (ceA l 0).x⟩).length = l.length := by rw [List.length_set]
    have hlast : sink = true ∧ 0 + 1 = l.length := Classical.byContradiction fun hl => by
      have := hc.2.2.2
      rw [if_neg hl] at this
      omega
    refine ⟨⟨fun _ => by rw [hl2]; exact hk, fun i hi => ?_⟩, ?_, rfl, by simp⟩
    · show CellOk (l.set 0 _) me sink i
      have hi : i = 0 := by have : i < l.length := by rw [← hl2]; exact hi
                            omega
      subst hi
      obtain ⟨q1, q2, q3, q4⟩ := hc
      unfold CellOk
      rw [ceA_set hk, if_pos rfl, hl2, if_pos hlast]
      rw [if_pos hlast] at q4
      exact ⟨⟨q1.1, q1.2.1, by show (1 : Int) ≤ 3; omega, by show (3 : Int) ≤ 3; omega⟩, fun h0 => absurd h0 (by omega), fun _ => rfl, q4⟩
    · have := openK_set (c := ⟨(ceA l 0).n, 3, (ceA l 0).d, (ceA l 0).x⟩) hk
      simp [hks] at this
      exact this
  · rw [if_neg hd]
    have hl2 : (l.eraseIdx 0).length + 1 = l.length := by rw [List.length_eraseIdx, if_pos hk]; omega
    have hg : ∀ i, ceA (l.eraseIdx 0) i = ceA l (i + 1) := fun i => by rw [ceA_erase, if_neg (by omega)]
    have hnl : ¬ (sink = true ∧ 0 + 1 = l.length) := fun hl => by
      have := hc.2.2.2
      rw [if_pos hl] at this
      exact hd this.1
    refine ⟨⟨fun hs => ?_, fun i hi => ?_⟩, ?_, rfl, ?_⟩
    · show 0 < (l.eraseIdx 0).length
      have : ¬ 0 + 1 = l.length := fun h0 => hnl ⟨hs, h0⟩
      omega
    · show CellOk (l.eraseIdx 0) me sink i
      have hi : i < (l.eraseIdx 0).length := hi
      refine cell_move (l := l) (j := i + 1) (sink := sink) (hg i) (fun h1 => ⟨by omega, ?_⟩) (fun h1 => ⟨by omega, by rw [hg]⟩) (by constructor <;> rintro ⟨a, b⟩ <;> exact ⟨a, by omega⟩) (h.2 (i + 1) (by omega))
      rw [hg, show i - 1 + 1 = i + 1 - 1 by omega]
    · show openK (l.eraseIdx 0) + 1 = openK l
      cases l with
      | nil => simp at hk
      | cons c r =>
        simp only [List.eraseIdx_cons_zero]
        have e1 : ceA (c :: r) 0 = c := rfl
        rw [e1] at hks
        unfold openK
        simp [hks]
    · show (ceA l 0).d = -1 ↔ (l.eraseIdx 0).length = l.length
      constructor
      · intro h0; exact absurd h0 hd
      · intro h0; omega
end Go.Proofs.Ytiaafhcfeeekeaa.Pk

/- What an event makes of a node's cells: for any number of a request. -/
namespace Go.Proofs.Ytiaafhcfeeekeaa.Pk
set_option linter.unusedVariables false
/-- One more request of the sink's own node. -/
theorem stayG_add {l : List Ce} {me next : Int} (h : GoodK l me true) (hm : 0 ≤ me ∧ me < 32) (hx : (ceA l (l.length - 1)).n < next) (hle : next ≤ 1099511627776) :
    GoodK (addK (succK l me next).1 next) me true ∧ ((succK l me next).2 = true ↔ (succK l me next).1.length + 1 = l.length) := by
  have hpos := h.1 rfl
  obtain ⟨k, hk⟩ : ∃ k, l.length = k + 1 := ⟨l.length - 1, by omega⟩
  have hc := h.2 k (by omega)
  rw [show l.length - 1 = k by omega] at hx
  have hn0 : 0 ≤ (ceA l k).n := hc.1.1
  by_cases hs : (ceA l k).s = 3
  · have hk0 : k = 0 := h.first (by omega) (by omega)
    subst hk0
    rw [succK_rest hk hs]
    refine ⟨?_, ?_⟩
    · unfold addK
      simp only [List.take_zero, List.nil_append]
      refine ⟨fun _ => by simp, fun i hi => ?_⟩
      have : i = 0 := by simpa using hi
      subst this
      exact ⟨⟨by show 0 ≤ next; omega, hle, by show (1 : Int) ≤ 1; omega, by show (1 : Int) ≤ 3; omega⟩, fun h => absurd h (by omega), fun h0 => by have h0 : next = 0 := h0; omega, by rw [if_pos ⟨rfl, rfl⟩]; exact ⟨rfl, rfl⟩⟩
    · simp [hk]
  · rw [succK_set hk hs]
    have hl2 : (l.set k ⟨(ceA l k).n, (ceA l k).s, me, next⟩).length = k + 1 := by rw [List.length_set, hk]
    refine ⟨?_, by simp [hk]⟩
    have hL : (addK (l.set k ⟨(ceA l k).n, (ceA l k).s, me, next⟩) next).length = k + 2 := by unfold addK; simp [hk]
    have hg : ∀ i, ceA (addK (l.set k ⟨(ceA l k).n, (ceA l k).s, me, next⟩) next) i = if i < k + 1 then (if i = k then ⟨(ceA l k).n, (ceA l k).s, me, next⟩ else ceA l i) else ceA [⟨next, 1, -1, 0⟩] (i - (k + 1)) := fun i => by
      unfold addK
      rw [ceA_app, hl2]
      split
      · rw [ceA_set (by omega)]
      · rfl
    show GoodK (addK (l.set k ⟨(ceA l k).n, (ceA l k).s, me, next⟩) next) me true
    refine ⟨fun _ => by rw [hL]; omega, fun i hi => ?_⟩
    rw [hL] at hi
    rcases Nat.lt_trichotomy i k with hik | hik | hik
    · refine cell_move (l := l) (j := i) (sink := true) ?_ (fun h0 => ⟨h0, ?_⟩) (fun h0 => ⟨by omega, ?_⟩) (by rw [hL, hk]; constructor <;> rintro ⟨-, b⟩ <;> omega) (h.2 i (by omega))
      · rw [hg, if_pos (by omega), if_neg (by omega)]
      · rw [hg, if_pos (by omega), if_neg (by omega)]
      · rw [hg, if_pos (by omega)]
        by_cases e : i + 1 = k
        · rw [if_pos e, e]
        · rw [if_neg e]
    · subst hik
      obtain ⟨q1, q2, q3, -⟩ := hc
      unfold CellOk
      rw [hL, hg i, if_pos (by omega), if_pos rfl, hg (i + 1), if_neg (by omega), if_neg (by omega), show i + 1 - (i + 1) = 0 by omega]
      refine ⟨q1, fun h0 => ?_, q3, ⟨hs, hm.1, hm.2, by show 1 ≤ next; omega, hle⟩, fun _ => ⟨by omega, rfl⟩⟩
      have := q2 h0
      rw [hg (i - 1), if_pos (by omega), if_neg (by omega)]
      exact this
    · have : i = k + 1 := by omega
      subst this
      unfold CellOk
      rw [hL, hg (k + 1), if_neg (by omega), show k + 1 - (k + 1) = 0 by omega, if_pos ⟨rfl, by omega⟩, hg (k + 1 - 1), if_pos (by omega), if_pos (by omega)]
      refine ⟨⟨by show 0 ≤ next; omega, hle, by show (1 : Int) ≤ 1; omega, by show (1 : Int) ≤ 3; omega⟩, fun _ => ⟨by show (ceA l k).n < next; omega, rfl⟩, fun h0 => ?_, rfl, rfl⟩
      have h0 : next = 0 := h0
      omega
/-- Another node's request behind a sink's cells. -/
theorem stayG_far {l : List Ce} {me far x : Int} (h : GoodK l me true) (hf : 0 ≤ far ∧ far < 32) (hne : far ≠ me) (hx : 1 ≤ x ∧ x ≤ 1099511627776) : GoodK (succK l far x).1 me false := by
  have hpos := h.1 rfl
  obtain ⟨k, hk⟩ : ∃ k, l.length = k + 1 := ⟨l.length - 1, by omega⟩
  have hc := h.2 k (by omega)
  by_cases hs : (ceA l k).s = 3
  · have hk0 : k = 0 := h.first (by omega) (by omega)
    subst hk0
    rw [succK_rest hk hs]
    refine ⟨fun h0 => (by cases h0), fun i hi => ?_⟩
    simp at hi
  · rw [succK_set hk hs]
    have hl2 : (l.set k ⟨(ceA l k).n, (ceA l k).s, far, x⟩).length = k + 1 := by rw [List.length_set, hk]
    have hg : ∀ i, ceA (l.set k ⟨(ceA l k).n, (ceA l k).s, far, x⟩) i = if i = k then ⟨(ceA l k).n, (ceA l k).s, far, x⟩ else ceA l i := fun i => ceA_set (by omega)
    refine ⟨fun h0 => (by cases h0), fun i hi => ?_⟩
    show CellOk (l.set k _) me false i
    have hi : i < k + 1 := by rw [← hl2]; exact hi
    by_cases hik : i = k
    · subst hik
      obtain ⟨q1, q2, q3, -⟩ := hc
      unfold CellOk
      rw [hg i, if_pos rfl, if_neg (by simp)]
      refine ⟨q1, fun h0 => ?_, q3, ⟨hs, hf.1, hf.2, hx.1, hx.2⟩, fun e => absurd e hne⟩
      have := q2 h0
      rw [hg (i - 1), if_neg (by omega)]
      exact this
    · refine cell_move (l := l) (j := i) (sink := true) ?_ (fun h0 => ⟨h0, ?_⟩) (fun h0 => ⟨by rw [hl2]; omega, ?_⟩) (⟨fun q => (by cases q.1), fun q => (by have q2 := q.2; omega)⟩) (h.2 i (by omega))
      · rw [hg, if_neg hik]
      · rw [hg, if_neg (by omega)]
      · rw [hg]
        by_cases e : i + 1 = k
        · rw [if_pos e, e]
        · rw [if_neg e]
/-- A request of a node that is no sink: it is one now. -/
theorem stay_new {l : List Ce} {me next : Int} (h : GoodK l me false) (hx : ∀ i, i < l.length → (ceA l i).n < next) (h1 : 1 ≤ next) (hle : next ≤ 1099511627776) : GoodK (addK l next) me true := by
  have hL : (addK l next).length = l.length + 1 := by unfold addK; simp
  have hg : ∀ i, ceA (addK l next) i = if i < l.length then ceA l i else ceA [⟨next, 1, -1, 0⟩] (i - l.length) := fun i => by unfold addK; rw [ceA_app]
  refine ⟨fun _ => by rw [hL]; omega, fun i hi => ?_⟩
  rw [hL] at hi
  by_cases hil : i < l.length
  · refine cell_move (l := l) (j := i) (sink := false) ?_ (fun h0 => ⟨h0, ?_⟩) (fun h0 => ⟨by omega, ?_⟩) (by rw [hL]; constructor <;> rintro ⟨a, b⟩ <;> first | omega | cases a) (h.2 i hil)
    · rw [hg, if_pos hil]
    · rw [hg, if_pos (by omega)]
    · rw [hg, if_pos (by omega)]
  · obtain rfl : i = l.length := by omega
    unfold CellOk
    rw [hL, hg, if_neg (by omega), Nat.sub_self, if_pos ⟨rfl, rfl⟩]
    refine ⟨⟨by show 0 ≤ next; omega, hle, by show (1 : Int) ≤ 1; omega, by show (1 : Int) ≤ 3; omega⟩, fun h0 => ?_, fun h0 => ?_, rfl, rfl⟩
    · rw [hg, if_pos (by omega)]
      exact ⟨hx _ (by omega), rfl⟩
    · have h0 : next = 0 := h0
      omega
/-- The first one, that waits, gets the object. -/
theorem stay_hold {l : List Ce} {me : Int} {sink : Bool} (h : GoodK l me sink) (hpos : 0 < l.length) (hs : (ceA l 0).s = 1) : GoodK (l.set 0 ⟨(ceA l 0).n, 2, (ceA l 0).d, (ceA l 0).x⟩) me sink ∧ openK (l.set 0 ⟨(ceA l 0).n, 2, (ceA l 0).d, (ceA l 0).x⟩) = openK l := by
  have hc := h.2 0 hpos
  have hg : ∀ i, ceA (l.set 0 ⟨(ceA l 0).n, 2, (ceA l 0).d, (ceA l 0).x⟩) i = if i = 0 then ⟨(ceA l 0).n, 2, (ceA l 0).d, (ceA l 0).x⟩ else ceA l i := fun i => ceA_set hpos
  have hl2 : (l.set 0 (⟨(ceA l 0).n, 2, (ceA l 0).d, (ceA l 0).x⟩ : Ce)).length = l.length := by rw [List.length_set]
  refine ⟨⟨fun q => by rw [hl2]; exact hpos, fun i hi => ?_⟩, ?_⟩
  · rw [hl2] at hi
    by_cases e : i = 0
    · subst e
      obtain ⟨q1, q2, q3, q4⟩ := hc
      unfold CellOk
      rw [hg 0, if_pos rfl, hl2]
      refine ⟨⟨q1.1, q1.2.1, by show (1 : Int) ≤ 2; omega, by show (2 : Int) ≤ 3; omega⟩, fun h0 => absurd h0 (by omega), fun h0 => ?_, ?_⟩
      · have := q3 h0; omega
      · by_cases hl : sink = true ∧ 0 + 1 = l.length
        · rw [if_pos hl] at q4 ⊢; exact q4
        · rw [if_neg hl] at q4 ⊢
          refine ⟨⟨by show (2 : Int) ≠ 3; omega, q4.1.2⟩, fun hd => ?_⟩
          have := q4.2 hd
          refine ⟨this.1, ?_⟩
          rw [hg 1, if_neg (by omega)]
          exact this.2
    · refine cell_move (l := l) (j := i) (sink := sink) ?_ (fun h0 => ⟨h0, ?_⟩) (fun h0 => ⟨by rw [hl2]; omega, ?_⟩) (by rw [hl2]) (h.2 i hi)
      · rw [hg, if_neg e]
      · rw [hg]
        by_cases e1 : i - 1 = 0
        · rw [if_pos e1, e1]
        · rw [if_neg e1]
      · rw [hg, if_neg (by omega)]
  · have := openK_set (c := ⟨(ceA l 0).n, 2, (ceA l 0).d, (ceA l 0).x⟩) hpos
    simp [hs] at this
    exact this
theorem openK_add (l : List Ce) (x : Int) : openK (addK l x) = openK l + 1 := by
  unfold openK addK
  rw [List.filter_append, List.length_append]; rfl
/-- What a successor leaves: none that was counted is gone. -/
theorem openK_succ {l : List Ce} {d x : Int} : openK (succK l d x).1 = openK l := by
  rcases Nat.eq_zero_or_pos l.length with h | h
  · rw [succK_nil h, List.length_eq_zero_iff.1 h]
  · obtain ⟨k, hk⟩ : ∃ k, l.length = k + 1 := ⟨l.length - 1, by omega⟩
    by_cases hs : (ceA l k).s = 3
    · rw [succK_rest hk hs]
      have e : l = l.take k ++ [ceA l k] := by rw [← take_ce (by omega), List.take_of_length_le (by omega)]
      conv => rhs; rw [e]
      unfold openK
      rw [List.filter_append, List.length_append]
      simp [hs]
    · rw [succK_set hk hs]
      have := openK_set (c := ⟨(ceA l k).n, (ceA l k).s, d, x⟩) (show k < l.length by omega)
      exact Nat.add_right_cancel this
/-- What is in the list behind a successor. -/
theorem mem_succ {l : List Ce} {d x : Int} {c : Ce} (h : c ∈ (succK l d x).1) : ∃ c0 ∈ l, c.n = c0.n ∧ c.s = c0.s ∧ (c.d = c0.d ∨ c.d = d) := by
  rcases Nat.eq_zero_or_pos l.length with h0 | h0
  · rw [succK_nil h0] at h; cases h
  · obtain ⟨k, hk⟩ : ∃ k, l.length = k + 1 := ⟨l.length - 1, by omega⟩
    by_cases hs : (ceA l k).s = 3
    · rw [succK_rest hk hs] at h
      exact ⟨c, List.mem_of_mem_take h, rfl, rfl, .inl rfl⟩
    · rw [succK_on hk hs] at h
      rcases List.mem_append.1 h with h | h
      · exact ⟨c, List.mem_of_mem_take h, rfl, rfl, .inl rfl⟩
      · rw [List.mem_singleton.1 h]
        exact ⟨ceA l k, List.mem_of_getElem? (ceA_get (by omega)), rfl, rfl, .inr rfl⟩
theorem mem_rel {l : List Ce} {c : Ce} (h : c ∈ (relK l).1) : ∃ c0 ∈ l, c.n = c0.n ∧ c.d = c0.d := by
  cases hh : heldAt l with
  | none => rw [(held_none hh).1] at h; cases h
  | some k =>
    obtain ⟨e, hk, -, -⟩ := held_some hh
    rw [e] at h
    split at h
    · rcases List.mem_or_eq_of_mem_set h with h | rfl
      · exact ⟨c, h, rfl, rfl⟩
      · exact ⟨ceA l k, List.mem_of_getElem? (ceA_get hk), rfl, rfl⟩
    · exact ⟨c, List.mem_of_mem_eraseIdx h, rfl, rfl⟩
/-- The successor that a release answers. -/
theorem rel_next {l : List Ce} {me : Int} {sink : Bool} (h : GoodK l me sink) {k : Nat} (hh : heldAt l = some k) (hd : (relK l).2.1 ≠ -1) : 0 ≤ (relK l).2.1 ∧ 1 ≤ (relK l).2.2.1 ∧ (relK l).2.2.1 ≤ 1099511627776 ∧ ∃ c ∈ l, c.d = (relK l).2.1 := by
  obtain ⟨e, hk, hks, -⟩ := held_some hh
  have hk0 : k = 0 := h.first hk (by omega)
  subst hk0
  by_cases hd2 : (ceA l 0).d = -1
  · rw [e, if_pos hd2] at hd
    exact absurd rfl hd
  · rw [e, if_neg hd2]
    have hc := (h.2 0 hk).2.2.2
    have hnl : ¬ (sink = true ∧ 0 + 1 = l.length) := fun hl => by
      rw [if_pos hl] at hc
      exact hd2 hc.1
    rw [if_neg hnl] at hc
    exact ⟨hc.1.2.1, hc.1.2.2.2.1, hc.1.2.2.2.2, _, List.mem_of_getElem? (ceA_get hk), rfl⟩
end Go.Proofs.Ytiaafhcfeeekeaa.Pk

/- Plain mathematics of datagrams as bytes: what can be, the fields' bytes, what bytes begin with. -/
namespace Go.Proofs.Ytiaafhcfeeekeaa.Pk
set_option linter.unusedVariables false
/-- A datagram: four numbers and a message. -/
structure Gm where
  f : Int
  t : Int
  a : Int
  s : Int
  m : Mg
deriving DecidableEq
def Gm.zero : Gm := ⟨0, 0, 0, 0, Mg.zero⟩
def Gm.Be (g : Gm) : Prop := 0 ≤ g.f ∧ g.f ≤ 31 ∧ 0 ≤ g.t ∧ g.t ≤ 31 ∧ g.f ≠ g.t ∧ 0 ≤ g.a ∧ g.a ≤ 1099511627776 ∧ 0 ≤ g.s ∧ g.s ≤ 1099511627776 ∧ (g.s = 0 → g.m = Mg.zero) ∧ (g.s ≠ 0 → g.m.Be)
instance instGmBe (g : Gm) : Decidable g.Be := by unfold Gm.Be; exact inferInstance
def Gm.nums (g : Gm) : List Int := [g.f, g.t, g.a, g.s]
def Gm.tail (g : Gm) : List Int := if g.s = 0 then [] else g.m.bytes
def Gm.bytes (g : Gm) : List Int := encs g.nums ++ g.tail
/-- What Put lays behind. -/
def Gm.put (g : Gm) : List Int := if g.Be then g.bytes else []
def gfin (g : Gm) (k : Nat) : Gm × Nat × Int := if g.Be then (g, k, 0) else (Gm.zero, 0, 31)
/-- What Take does behind the four numbers. -/
def gend (xs : List Int) (a : Nat) (l : List Int) : Gm × Nat × Int :=
  if 0 < xs.getD 3 0 then
    (if (wtake (l.drop a)).2.2 = 0 then gfin ⟨xs.getD 0 0, xs.getD 1 0, xs.getD 2 0, xs.getD 3 0, (wtake (l.drop a)).1⟩ (a + (wtake (l.drop a)).2.1) else (Gm.zero, 0, (wtake (l.drop a)).2.2))
  else gfin ⟨xs.getD 0 0, xs.getD 1 0, xs.getD 2 0, xs.getD 3 0, Mg.zero⟩ a
/-- Take's rounds (fuel first): the numbers so far, the place. -/
def ggo : Nat → List Int → Nat → List Int → Gm × Nat × Int
  | 0, xs, a, l => gend xs a l
  | f + 1, xs, a, l => if (tkv (l.drop a)).2 = 0 then (Gm.zero, 0, fault (l.drop a)) else ggo f (xs ++ [(tkv (l.drop a)).1]) (a + (tkv (l.drop a)).2) l
/-- What Take answers. -/
def gtake (l : List Int) : Gm × Nat × Int := ggo 4 [] 0 l

theorem Gm.Be.nums {g : Gm} (h : g.Be) : ∀ x ∈ g.nums, 0 ≤ x ∧ x ≤ 1099511627776 := by
  obtain ⟨h1, h2, h3, h4, h5, h6, h7, h8, h9, h10⟩ := h
  intro x hx
  simp only [Gm.nums, List.mem_cons, List.not_mem_nil, or_false] at hx
  rcases hx with rfl | rfl | rfl | rfl <;> omega
end Go.Proofs.Ytiaafhcfeeekeaa.Pk
