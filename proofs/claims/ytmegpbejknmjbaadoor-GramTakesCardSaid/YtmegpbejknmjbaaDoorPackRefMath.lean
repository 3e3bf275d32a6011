/- Plain mathematics: what bytes begin with, as the document's answer reckons it. -/
import Derived.Test.YtmegpbejknmjbaaDoorPackMath
namespace Go.Proofs.YtmegpbejknmjbaaDoor.Pk

/-- How many bytes from the front on are 128 or more. -/
def lead : List Int → Nat
  | [] => 0
  | c :: r => if 128 ≤ c then lead r + 1 else 0
/-- Seven bits of each byte, the lowest first. -/
def val : List Int → Int
  | [] => 0
  | c :: r => c % 128 + 128 * val r

theorem val_nonneg (l : List Int) : 0 ≤ val l := by
  induction l with
  | nil => simp [val]
  | cons c r ih => simp only [val]; omega
theorem val_lt (l : List Int) : val l < 128 ^ l.length := by
  induction l with
  | nil => simp [val]
  | cons c r ih => simp only [val, List.length_cons, Int.pow_succ]; omega
theorem lead_le (l : List Int) : lead l ≤ l.length := by
  induction l with
  | nil => simp [lead]
  | cons c r ih => simp only [lead, List.length_cons]; split <;> omega

theorem val_pos (l : List Int) (h : lead l < l.length) (hn : l.getD (lead l) 0 ≠ 0) (hb : isB l) : 0 < val (l.take (lead l + 1)) := by
  induction l with
  | nil => simp at h
  | cons c r ih =>
    have hc := hb c (by simp)
    by_cases h1 : 128 ≤ c
    · simp only [lead, if_pos h1, List.length_cons] at h hn ⊢
      have := ih (by omega) (by simpa using hn) (fun d hd => hb d (by simp [hd]))
      simp only [List.take_succ_cons, val]
      omega
    · simp only [lead, if_neg h1] at hn ⊢
      simp at hn
      simp [val]
      omega

theorem tk_lead (n : Nat) : ∀ l : List Int, isB l → tk n l = if l.length ≤ lead l ∨ n ≤ lead l ∨ (0 < lead l ∧ l.getD (lead l) 0 = 0) then none else some (val (l.take (lead l + 1)), lead l + 1) := by
  induction n with
  | zero => intro l hb; rw [if_pos (by omega)]; rfl
  | succ n ih =>
    intro l hb
    cases l with
    | nil => rw [if_pos (by simp)]; rfl
    | cons c r =>
      have hc := hb c (by simp)
      have hr : isB r := fun d hd => hb d (by simp [hd])
      by_cases h : c < 128
      · have e : lead (c :: r) = 0 := by simp only [lead]; rw [if_neg (by omega)]
        rw [e, tk, if_pos h, if_neg (by simp)]
        simp [val]; omega
      · have e : lead (c :: r) = lead r + 1 := by simp only [lead]; rw [if_pos (by omega)]
        rw [tk, if_neg h, ih r hr, e]
        have e2 : (c :: r).getD (lead r + 1) 0 = r.getD (lead r) 0 := by simp
        rw [e2]
        by_cases h1 : r.length ≤ lead r
        · rw [if_pos (by omega), if_pos (by simp; omega)]
        · by_cases h2 : n ≤ lead r
          · rw [if_pos (by omega), if_pos (by omega)]
          · by_cases h3 : r.getD (lead r) 0 = 0
            · rw [if_pos (c := (c :: r).length ≤ lead r + 1 ∨ n + 1 ≤ lead r + 1 ∨ 0 < lead r + 1 ∧ r.getD (lead r) 0 = 0) (by omega)]
              by_cases h4 : 0 < lead r
              · rw [if_pos (by omega)]
              · rw [if_neg (by omega)]
                have h5 : lead r = 0 := by omega
                rw [h5] at h3 ⊢
                cases r with
                | nil => simp at h1
                | cons d t => simp at h3; subst h3; simp [val]
            · rw [if_neg (by omega)]
              have hp := val_pos r (by omega) h3 hr
              simp only []
              rw [if_neg (by omega)]
              rw [if_neg (by simp only [List.length_cons]; omega)]
              simp only [List.take_succ_cons, val]
              have : c % 128 = c - 128 := by omega
              rw [this]

theorem tkv_none (l : List Int) (hb : isB l) (h : l.length ≤ lead l ∨ 9 ≤ lead l ∨ (0 < lead l ∧ l.getD (lead l) 0 = 0)) : tkv l = (0, 0) := by
  unfold tkv; rw [tk_lead 9 l hb, if_pos h]; rfl
theorem tkv_some (l : List Int) (hb : isB l) (h : ¬ (l.length ≤ lead l ∨ 9 ≤ lead l ∨ (0 < lead l ∧ l.getD (lead l) 0 = 0))) : tkv l = (val (l.take (lead l + 1)), lead l + 1) := by
  unfold tkv; rw [tk_lead 9 l hb, if_neg h]; rfl

/-- The first k bytes are 128 or more. -/
def High (l : List Int) (k : Nat) : Prop := k ≤ l.length ∧ ∀ j, j < k → 128 ≤ l.getD j 0
theorem high_zero (l : List Int) : High l 0 := ⟨by omega, fun j h => by omega⟩
theorem high_succ {l : List Int} {k : Nat} (h : High l k) (hk : k < l.length) (hc : 128 ≤ l.getD k 0) : High l (k + 1) :=
  ⟨by omega, fun j hj => by
    rcases Nat.lt_or_ge j k with h1 | h1
    · exact h.2 j h1
    · obtain rfl : j = k := by omega
      exact hc⟩
theorem lead_of (l : List Int) : ∀ k : Nat, High l k → (l.length ≤ k ∨ l.getD k 0 < 128) → lead l = k := by
  induction l with
  | nil => intro k h _; have := h.1; simp at this; subst this; rfl
  | cons c r ih =>
    intro k h he
    cases k with
    | zero =>
      simp at he
      simp only [lead]; rw [if_neg (by omega)]
    | succ k =>
      have h0 := h.2 0 (by omega)
      simp at h0
      simp only [lead]; rw [if_pos h0]
      have := h.1
      simp at this
      rw [ih k ⟨this, fun j hj => by have := h.2 (j + 1) (by omega); simpa using this⟩ (by simpa using he)]

/-- Gathered from the last byte down to place i (not with it). -/
def gat (l : List Int) (n i : Nat) : Int := val ((l.take (n + 1)).drop i)
theorem gat_start (l : List Int) (n : Nat) : gat l n (n + 1) = 0 := by
  unfold gat
  rw [List.drop_eq_nil_iff.2 (by simp; omega)]; rfl
theorem gat_step (l : List Int) (n i : Nat) (hn : n < l.length) (hi : i ≤ n) : gat l n i = l.getD i 0 % 128 + 128 * gat l n (i + 1) := by
  unfold gat
  rw [List.drop_eq_getElem_cons (by simp; omega), val]
  congr 2
  rw [List.getElem_take, List.getD_eq_getElem?_getD, List.getElem?_eq_getElem (by omega)]; rfl
theorem gat_end (l : List Int) (n : Nat) : gat l n 0 = val (l.take (n + 1)) := by simp [gat]
theorem gat_bd (l : List Int) (n i : Nat) (hn : n ≤ 8) (hi : 1 ≤ i) : 0 ≤ gat l n i ∧ gat l n i ≤ 72057594037927935 := by
  refine ⟨val_nonneg _, ?_⟩
  have h := val_lt ((l.take (n + 1)).drop i)
  have hl : ((l.take (n + 1)).drop i).length ≤ 8 := by rw [List.length_drop, List.length_take]; omega
  have hp : (128 : Int) ^ ((l.take (n + 1)).drop i).length ≤ 128 ^ 8 := by
    have := Nat.pow_le_pow_right (n := 128) (by omega) hl
    exact_mod_cast this
  unfold gat
  have e : (128 : Int) ^ 8 = 72057594037927936 := by decide
  omega
end Go.Proofs.YtmegpbejknmjbaaDoor.Pk
