/- Plain mathematics of two sides with an unsafe way between them: what is under way, and what may come of it. -/
import Derived.Test.YtneijohbmphheaaHfMath
namespace Go.Proofs.Ytneijohbmphheaa.Pk
set_option linter.unusedVariables false
/-- A thing under way: a message with its number, or (number 0) a word of how many were heard. -/
structure Cr where
  q : Int
  m : Mg
  a : Int
def frm (P : List Mg) (fb : Nat) : Hf := ⟨1, fb, P.drop fb, 0⟩
def tow (ts : Nat) : Hf := ⟨0, 0, [], ts⟩
def nth (j : Nat) : Mg := ⟨1, 0, 0, 1 + (j : Int), 0⟩
theorem nth_be {j : Nat} (h : j ≤ 512) : (nth j).Be := by unfold nth Mg.Be; refine ⟨?_, ?_, ?_, ?_, ?_, ?_, ?_, ?_, ?_, ?_⟩ <;> simp <;> omega
/-- What holds at every moment: fb heard of, ts counted, P pushed, U under way. -/
structure Dv (P : List Mg) (fb ts : Nat) (U : List Cr) : Prop where
  ft : fb ≤ ts
  tp : ts ≤ P.length
  few : P.length ≤ 512
  be : allBe P
  at_ : ∀ c ∈ U, (c.q = 0 ∧ 0 ≤ c.a ∧ c.a ≤ ts) ∨ (1 ≤ c.q ∧ P[(c.q - 1).toNat]? = some c.m)
theorem Dv.begin : Dv [] 0 0 [] := ⟨Nat.le_refl _, Nat.le_refl _, by simp, fun m h => (by cases h), fun c h => (by cases h)⟩
theorem Dv.frm_be {P : List Mg} {fb ts : Nat} {U : List Cr} (h : Dv P fb ts U) : (frm P fb).Be := by
  have h1 := h.ft; have h2 := h.tp; have h3 := h.few
  have hl : (P.drop fb).length = P.length - fb := List.length_drop ..
  refine ⟨by show (0 : Int) ≤ 1; omega, by show (1 : Int) ≤ 31; omega, by show (0 : Int) ≤ fb; omega, by show (0 : Int) ≤ 0; omega, by show (0 : Int) ≤ _; omega, by show (P.drop fb).length ≤ _; omega, by show (fb : Int) + ((P.drop fb).length : Int) ≤ _; omega, fun x hx => h.be x (List.mem_of_mem_drop hx)⟩
theorem Dv.tow_be {P : List Mg} {fb ts : Nat} {U : List Cr} (h : Dv P fb ts U) : (tow ts).Be := by
  have h2 := h.tp; have h3 := h.few
  refine ⟨by show (0 : Int) ≤ 0; omega, by show (0 : Int) ≤ 31; omega, by show (0 : Int) ≤ 0; omega, by show (0 : Int) ≤ ts; omega, by show (ts : Int) ≤ _; omega, by show (0 : Nat) ≤ _; omega, by show (0 : Int) + ((0 : Nat) : Int) ≤ _; omega, fun x hx => by cases hx⟩
theorem Dv.push {P : List Mg} {fb ts : Nat} {U : List Cr} (h : Dv P fb ts U) {m : Mg} (hm : m.Be) (hl : P.length < 512) : hpush (frm P fb) m = (frm (P ++ [m]) fb, 0) ∧ Dv (P ++ [m]) fb ts U := by
  have h1 := h.ft; have h2 := h.tp
  have hd : (P.drop fb).length = P.length - fb := List.length_drop ..
  constructor
  · unfold hpush
    rw [if_pos h.frm_be, if_pos hm, if_neg (by unfold Hf.Full frm; simp only; omega)]
    unfold Hf.add frm
    rw [List.drop_append_of_le_length (by omega)]
  · refine ⟨h1, by rw [List.length_append]; omega, by rw [List.length_append]; simp; omega, fun x hx => ?_, fun c hc => ?_⟩
    · rcases List.mem_append.1 hx with hx | hx
      · exact h.be x hx
      · obtain rfl : x = m := by simpa using hx
        exact hm
    · rcases h.at_ c hc with h4 | ⟨h4, h5⟩
      · exact .inl h4
      · exact .inr ⟨h4, by rw [List.getElem?_append_left (List.getElem?_eq_some_iff.1 h5).1]; exact h5⟩
theorem Dv.heard {P : List Mg} {fb ts : Nat} {U : List Cr} (h : Dv P fb ts U) {a : Int} (h0 : 0 ≤ a) (ha : a ≤ ts) : hheard (frm P fb) a = (frm P (max fb a.toNat), 0) ∧ Dv P (max fb a.toNat) ts U := by
  have h1 := h.ft; have h2 := h.tp
  have hd : (P.drop fb).length = P.length - fb := List.length_drop ..
  refine ⟨?_, ⟨by omega, h2, h.few, h.be, h.at_⟩⟩
  unfold hheard
  rw [if_pos h.frm_be]
  by_cases hn : (fb : Int) < a
  · rw [if_pos (by unfold Hf.News frm; simp only; omega)]
    unfold Hf.cut frm
    simp only
    rw [List.drop_drop, show fb + (a - (fb : Int)).toNat = max fb a.toNat by omega]
    congr 2
    omega
  · rw [if_neg (by unfold Hf.News frm; simp only; omega), show max fb a.toNat = fb by omega]
theorem Dv.fits {P : List Mg} {fb ts : Nat} {U : List Cr} (h : Dv P fb ts U) (q : Int) : hfits (tow ts) q = decide (q = (ts : Int) + 1) := by
  have h2 := h.tp; have h3 := h.few
  unfold hfits
  by_cases e : q = (ts : Int) + 1
  · rw [decide_eq_true e, decide_eq_true ⟨h.tow_be, by show (ts : Int) < _; omega, e⟩]
  · rw [decide_eq_false e, decide_eq_false (fun h => e h.2.2)]
theorem Dv.take {P : List Mg} {fb ts : Nat} {U : List Cr} (h : Dv P fb ts U) : htake (tow ts) = (tow (ts + 1), 0) := by
  have h2 := h.tp; have h3 := h.few
  unfold htake
  rw [if_pos h.tow_be, if_neg (by show ¬ (ts : Int) = _; omega)]
  rfl
/-- One more is counted: it is the next that was pushed. -/
theorem Dv.took {P : List Mg} {fb ts : Nat} {U : List Cr} (h : Dv P fb ts U) {c : Cr} (hc : c ∈ U) (hq : c.q = (ts : Int) + 1) : P[ts]? = some c.m ∧ P.take (ts + 1) = P.take ts ++ [c.m] ∧ Dv P fb (ts + 1) U := by
  have hm : P[ts]? = some c.m := by
    rcases h.at_ c hc with h4 | ⟨h4, h5⟩
    · omega
    · rwa [show (c.q - 1).toNat = ts by omega] at h5
  have hl := (List.getElem?_eq_some_iff.1 hm).1
  refine ⟨hm, ?_, ⟨by have := h.ft; omega, hl, h.few, h.be, fun d hd => ?_⟩⟩
  · rw [List.take_add_one, hm]; rfl
  · rcases h.at_ d hd with ⟨h4, h5, h6⟩ | h4
    · exact .inl ⟨h4, h5, by omega⟩
    · exact .inr h4
theorem Dv.left {P : List Mg} {fb ts : Nat} {U : List Cr} (h : Dv P fb ts U) (q : Nat) (hq : fb ≤ q) (i : Nat) : (hleft (frm P fb) q)[i]? = (P[q + i]?).map (fun m => ((q : Int) + 1 + (i : Int), m)) := by
  rw [hleft_get h.frm_be]
  unfold frm
  simp only
  rw [List.getElem?_drop, show fb + (((q : Int) - (fb : Int)).toNat + i) = q + i by omega]
  congr 1
  funext x
  congr 1
  omega
theorem Dv.left_len {P : List Mg} {fb ts : Nat} {U : List Cr} (h : Dv P fb ts U) (q : Nat) (hq : fb ≤ q) : (hleft (frm P fb) q).length = P.length - q := by
  rw [hleft_length h.frm_be]
  unfold frm
  simp only
  rw [List.length_drop]
  omega
/-- What is told by Left goes under way. -/
theorem Dv.more {P : List Mg} {fb ts : Nat} {U : List Cr} (h : Dv P fb ts U) {i : Nat} {x : Int × Mg} (hx : (hleft (frm P fb) (fb : Int))[i]? = some x) (a : Int) : Dv P fb ts (U ++ [⟨x.1, x.2, a⟩]) := by
  rw [h.left fb (Nat.le_refl _)] at hx
  obtain ⟨m, hm, rfl⟩ := Option.map_eq_some_iff.1 hx
  refine ⟨h.ft, h.tp, h.few, h.be, fun c hc => ?_⟩
  rcases List.mem_append.1 hc with hc | hc
  · exact h.at_ c hc
  · simp only [List.mem_singleton] at hc
    subst hc
    refine .inr ⟨by show 1 ≤ (fb : Int) + 1 + i; omega, ?_⟩
    show P[((fb : Int) + 1 + (i : Int) - 1).toNat]? = some m
    rw [show ((fb : Int) + 1 + (i : Int) - 1).toNat = fb + i by omega]
    exact hm
theorem Dv.word {P : List Mg} {fb ts : Nat} {U : List Cr} (h : Dv P fb ts U) (m : Mg) : Dv P fb ts (U ++ [⟨0, m, ts⟩]) := by
  refine ⟨h.ft, h.tp, h.few, h.be, fun c hc => ?_⟩
  rcases List.mem_append.1 hc with hc | hc
  · exact h.at_ c hc
  · simp only [List.mem_singleton] at hc
    subst hc
    exact .inl ⟨rfl, by show (0 : Int) ≤ ts; omega, Int.le_refl _⟩
theorem Dv.lose {P : List Mg} {fb ts : Nat} {U : List Cr} (h : Dv P fb ts U) (i : Nat) : Dv P fb ts (U.take i ++ U.drop (i + 1)) := by
  refine ⟨h.ft, h.tp, h.few, h.be, fun c hc => ?_⟩
  rcases List.mem_append.1 hc with hc | hc
  · exact h.at_ c (List.mem_of_mem_take hc)
  · exact h.at_ c (List.mem_of_mem_drop hc)
end Go.Proofs.Ytneijohbmphheaa.Pk
