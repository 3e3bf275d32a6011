/- Request by request of one node: what the list is. -/
import Derived.Test.YteflefmlicamlaaChUse
namespace Go.Proofs.Yteflefmlicamlaa.Pk
set_option linter.unusedVariables false
structure Run (L : List Ce) (me : Int) (a m : Nat) (r : Bool) : Prop where
  len : L.length + a = m + 1
  le : a ≤ m
  num : ∀ i, i < L.length → (ceA L i).n = (a : Int) + (i : Int)
  s0 : (ceA L 0).s = if r = true then 3 else 2
  wait : ∀ i, 0 < i → i < L.length → (ceA L i).s = 1
  next : ∀ i, i + 1 < L.length → (ceA L i).d = me ∧ (ceA L i).x = (a : Int) + (i : Int) + 1
  last : ∀ i, i + 1 = L.length → (ceA L i).d = -1 ∧ (ceA L i).x = 0
  rest : r = true → a = m
  zero : a = 0 → r = true
namespace Run
variable {L : List Ce} {me : Int} {a m : Nat} {r : Bool}
theorem pos (h : Run L me a m r) : 0 < L.length := by have := h.len; have := h.le; omega
theorem start (me : Int) : Run [⟨0, 3, -1, 0⟩] me 0 0 true := by
  refine ⟨rfl, Nat.le_refl _, fun i hi => ?_, rfl, fun i h0 hi => ?_, fun i hi => ?_, fun i hi => ?_, fun _ => rfl, fun _ => rfl⟩
  · have : i = 0 := by simpa using hi
    subst this; rfl
  · have : i = 0 := by simpa using hi
    omega
  · simp at hi
  · have : i = 0 := by simpa using hi
    subst this; exact ⟨rfl, rfl⟩
theorem good (h : Run L me a m r) (h1 : 0 ≤ me) (h2 : me < 32) (hm : m ≤ 1099511627776) : GoodK L me true := by
  refine ⟨fun _ => h.pos, fun i hi => ?_⟩
  have hl := h.len
  have hle := h.le
  have hn := h.num i hi
  unfold CellOk
  have hs : 1 ≤ (ceA L i).s ∧ (ceA L i).s ≤ 3 ∧ ((ceA L i).s = 3 → i = 0 ∧ r = true) := by
    rcases Nat.eq_zero_or_pos i with h0 | h0
    · subst h0
      have := h.s0
      cases r with
      | true => simp at this; exact ⟨by omega, by omega, fun _ => ⟨rfl, rfl⟩⟩
      | false => simp at this; exact ⟨by omega, by omega, fun e => by omega⟩
    · have := h.wait i h0 hi
      exact ⟨by omega, by omega, fun e => by omega⟩
  refine ⟨⟨by omega, by omega, hs.1, hs.2.1⟩, fun h0 => ⟨?_, h.wait i h0 hi⟩, fun h0 => ?_, ?_⟩
  · rw [hn, h.num (i - 1) (by omega)]; omega
  · have i0 : i = 0 := by omega
    have a0 : a = 0 := by omega
    subst i0
    have := h.s0
    rw [if_pos (h.zero a0)] at this
    exact this
  · by_cases hx : i + 1 = L.length
    · rw [if_pos ⟨rfl, hx⟩]; exact h.last i hx
    · rw [if_neg (fun e => hx e.2)]
      obtain ⟨q1, q2⟩ := h.next i (by omega)
      refine ⟨⟨fun e => ?_, by omega, by omega, by omega, by omega⟩, fun _ => ⟨by omega, ?_⟩⟩
      · obtain ⟨e1, e2⟩ := hs.2.2 e
        have := h.rest e2
        omega
      · rw [h.num (i + 1) (by omega), q2]; simp; omega
theorem one (h : Run L me a m true) : L = [ceA L 0] ∧ a = m ∧ L.length = 1 ∧ (ceA L 0).s = 3 := by
  have ha := h.rest rfl
  have hl := h.len
  have h1 : L.length = 1 := by omega
  refine ⟨?_, ha, h1, by have := h.s0; simpa using this⟩
  obtain ⟨c, rfl⟩ := List.length_eq_one_iff.1 h1
  rfl
theorem open_rest (h : Run L me a m true) : openK L = 0 := by
  obtain ⟨e, _, _, hs⟩ := h.one
  rw [e]
  unfold openK
  simp [hs]
theorem open_held (h : Run L me a m false) : 0 < openK L := by
  have hs := h.s0
  simp at hs
  unfold openK
  exact List.length_pos_of_mem (a := ceA L 0) (List.mem_filter.2 ⟨List.mem_of_getElem? (ceA_get h.pos), by simp [hs]⟩)
theorem single (me : Int) {s : Int} {r : Bool} {k : Nat} (hk : 0 < k) (hs : s = if r = true then 3 else 2) : Run [⟨(k : Int), s, -1, 0⟩] me k k r := by
  refine ⟨by simp; omega, Nat.le_refl _, fun i hi => ?_, hs, fun i h0 hi => ?_, fun i hi => ?_, fun i hi => ?_, fun _ => rfl, fun h => by omega⟩
  · have : i = 0 := by simpa using hi
    subst this; simp [ceA]
  · have : i = 0 := by simpa using hi
    omega
  · simp at hi
  · have : i = 0 := by simpa using hi
    subst this; exact ⟨rfl, rfl⟩
theorem ask_rest (h : Run L me a m true) : succK L me ((m : Int) + 1) = ([], true) ∧ addK [] ((m : Int) + 1) = [⟨(m : Int) + 1, 1, -1, 0⟩] ∧ grantK [⟨(m : Int) + 1, 1, -1, 0⟩] ((m : Int) + 1) = ([⟨(m : Int) + 1, 2, -1, 0⟩], true) ∧ Run [⟨(m : Int) + 1, 2, -1, 0⟩] me (m + 1) (m + 1) false := by
  obtain ⟨e, _, h1, hs⟩ := h.one
  refine ⟨by rw [succK_rest (k := 0) h1 hs]; rfl, rfl, ?_, ?_⟩
  · have hg : grantAt [⟨(m : Int) + 1, 1, -1, 0⟩] ((m : Int) + 1) = some 0 := idx_some (by simp) (by simp [ceA]) (fun i hi => by omega)
    rw [(grant_some hg).1]
    rfl
  · have := single (s := 2) (r := false) (k := m + 1) me (by omega) (by simp)
    simpa using this
theorem ask_held (h : Run L me a m false) : ∃ L', succK L me ((m : Int) + 1) = (L', false) ∧ Run (addK L' ((m : Int) + 1)) me a (m + 1) false := by
  have hl := h.len
  have hle := h.le
  obtain ⟨k, hk⟩ : ∃ k, L.length = k + 1 := ⟨L.length - 1, by have := h.pos; omega⟩
  have hsk : (ceA L k).s ≠ 3 := by
    rcases Nat.eq_zero_or_pos k with h0 | h0
    · subst h0
      have := h.s0
      simp at this
      omega
    · have := h.wait k h0 (by omega)
      omega
  refine ⟨_, succK_set hk hsk, ?_⟩
  have hl2 : (L.set k ⟨(ceA L k).n, (ceA L k).s, me, (m : Int) + 1⟩).length = k + 1 := by rw [List.length_set, hk]
  have hL : (addK (L.set k ⟨(ceA L k).n, (ceA L k).s, me, (m : Int) + 1⟩) ((m : Int) + 1)).length = k + 2 := by unfold addK; simp [hk]
  have hg : ∀ i, ceA (addK (L.set k ⟨(ceA L k).n, (ceA L k).s, me, (m : Int) + 1⟩) ((m : Int) + 1)) i = if i < k + 1 then (if i = k then ⟨(ceA L k).n, (ceA L k).s, me, (m : Int) + 1⟩ else ceA L i) else ceA [⟨(m : Int) + 1, 1, -1, 0⟩] (i - (k + 1)) := fun i => by
    unfold addK
    rw [ceA_app, hl2]
    split
    · rw [ceA_set (by omega)]
    · rfl
  have hlow : ∀ i, i < k → ceA (addK (L.set k ⟨(ceA L k).n, (ceA L k).s, me, (m : Int) + 1⟩) ((m : Int) + 1)) i = ceA L i := fun i hi => by rw [hg, if_pos (by omega), if_neg (by omega)]
  have hmid : ceA (addK (L.set k ⟨(ceA L k).n, (ceA L k).s, me, (m : Int) + 1⟩) ((m : Int) + 1)) k = ⟨(ceA L k).n, (ceA L k).s, me, (m : Int) + 1⟩ := by rw [hg, if_pos (by omega), if_pos rfl]
  have hhi : ceA (addK (L.set k ⟨(ceA L k).n, (ceA L k).s, me, (m : Int) + 1⟩) ((m : Int) + 1)) (k + 1) = ⟨(m : Int) + 1, 1, -1, 0⟩ := by rw [hg, if_neg (by omega), Nat.sub_self]; rfl
  generalize hLL : addK (L.set k ⟨(ceA L k).n, (ceA L k).s, me, (m : Int) + 1⟩) ((m : Int) + 1) = LL at hL hg hlow hmid hhi ⊢
  clear hg
  refine ⟨by omega, by omega, fun i hi => ?_, ?_, fun i h0 hi => ?_, fun i hi => ?_, fun i hi => ?_, fun h => (by cases h), h.zero⟩
  · rcases Nat.lt_trichotomy i k with hik | hik | hik
    · rw [hlow i hik]; exact h.num i (by omega)
    · subst hik; rw [hmid]; exact h.num i (by omega)
    · have : i = k + 1 := by omega
      subst this
      rw [hhi]; show (m : Int) + 1 = _; omega
  · have hs := h.s0
    rcases Nat.eq_zero_or_pos k with h0 | h0
    · subst h0; rw [hmid]; exact hs
    · rw [hlow 0 h0]; exact hs
  · rcases Nat.lt_trichotomy i k with hik | hik | hik
    · rw [hlow i hik]; exact h.wait i h0 (by omega)
    · subst hik; rw [hmid]; exact h.wait i h0 (by omega)
    · have : i = k + 1 := by omega
      subst this
      rw [hhi]
  · rcases Nat.lt_or_ge i k with hik | hik
    · rw [hlow i hik]; exact h.next i (by omega)
    · have : i = k := by omega
      subst this
      rw [hmid]
      exact ⟨rfl, by show (m : Int) + 1 = _; omega⟩
  · have : i = k + 1 := by omega
    subst this
    rw [hhi]; exact ⟨rfl, rfl⟩
theorem rel_rest (h : Run L me a m true) : relK L = ([], 0, 0, 22) := by
  obtain ⟨e, _, h1, hs⟩ := h.one
  have hh : heldAt L = none := idx_none (fun i hi => by
    have : i = 0 := by omega
    subst this; simp [hs])
  exact (held_none hh).1
theorem held0 (h : Run L me a m false) : heldAt L = some 0 := by
  have hs := h.s0
  simp at hs
  exact idx_some h.pos (by simp [hs]) (fun i hi => by omega)
theorem rel_last (h : Run L me a a false) : ∃ L', relK L = (L', -1, 0, 0) ∧ Run L' me a a true := by
  have hl := h.len
  have h1 : L.length = 1 := by omega
  have hd := (h.last 0 (by omega))
  have hn := h.num 0 (by omega)
  have ha : a ≠ 0 := fun e => by have := h.zero e; cases this
  refine ⟨_, by rw [(held_some h.held0).1, if_pos hd.1], ?_⟩
  obtain ⟨c, rfl⟩ := List.length_eq_one_iff.1 h1
  obtain ⟨cn, cs, cd, cx⟩ := c
  simp [ceA] at hd hn
  obtain ⟨rfl, rfl⟩ := hd
  subst hn
  have := single (s := 3) (r := true) (k := a) me (by omega) (by simp)
  simpa [ceA] using this
theorem rel_next (h : Run L me a m false) (ham : a < m) (hme : 0 ≤ me) : ∃ L' L'', relK L = (L', me, (a : Int) + 1, 0) ∧ grantK L' ((a : Int) + 1) = (L'', true) ∧ Run L'' me (a + 1) m false := by
  have hl := h.len
  obtain ⟨q1, q2⟩ := h.next 0 (by omega)
  have hpos := h.pos
  have e1 : relK L = (L.eraseIdx 0, me, (a : Int) + 1, 0) := by
    rw [(held_some h.held0).1, if_neg (by rw [q1]; omega), q1, q2]
    simp
  have hl2 : (L.eraseIdx 0).length + 1 = L.length := by rw [List.length_eraseIdx, if_pos hpos]; omega
  have hg : ∀ i, ceA (L.eraseIdx 0) i = ceA L (i + 1) := fun i => by rw [ceA_erase, if_neg (by omega)]
  have hn1 := h.num 1 (by omega)
  have hs1 := h.wait 1 (by omega) (by omega)
  have hga : grantAt (L.eraseIdx 0) ((a : Int) + 1) = some 0 := by
    refine idx_some (by omega) ?_ (fun i hi => by omega)
    rw [hg]
    simp [hs1, hn1]
  have e2 := (grant_some hga).1
  refine ⟨_, _, e1, e2, ?_⟩
  have hl3 : ((L.eraseIdx 0).set 0 ⟨(ceA (L.eraseIdx 0) 0).n, 2, (ceA (L.eraseIdx 0) 0).d, (ceA (L.eraseIdx 0) 0).x⟩).length + 1 = L.length := by rw [List.length_set]; exact hl2
  have hgt : ∀ i, ceA ((L.eraseIdx 0).set 0 ⟨(ceA (L.eraseIdx 0) 0).n, 2, (ceA (L.eraseIdx 0) 0).d, (ceA (L.eraseIdx 0) 0).x⟩) i = if i = 0 then ⟨(ceA L 1).n, 2, (ceA L 1).d, (ceA L 1).x⟩ else ceA L (i + 1) := fun i => by
    rw [ceA_set (by omega), hg, hg]
  generalize (L.eraseIdx 0).set 0 ⟨(ceA (L.eraseIdx 0) 0).n, 2, (ceA (L.eraseIdx 0) 0).d, (ceA (L.eraseIdx 0) 0).x⟩ = LL at hl3 hgt ⊢
  have hz : ceA LL 0 = ⟨(ceA L 1).n, 2, (ceA L 1).d, (ceA L 1).x⟩ := by rw [hgt, if_pos rfl]
  have hp : ∀ i, 0 < i → ceA LL i = ceA L (i + 1) := fun i hi => by rw [hgt, if_neg (by omega)]
  clear hgt hg
  refine ⟨by omega, by omega, fun i hi => ?_, ?_, fun i h0 hi => ?_, fun i hi => ?_, fun i hi => ?_, fun h => (by cases h), fun h => by omega⟩
  · rcases Nat.eq_zero_or_pos i with h0 | h0
    · subst h0; rw [hz]; show (ceA L 1).n = _; rw [hn1]; simp
    · rw [hp i h0, h.num (i + 1) (by omega)]; simp; omega
  · rw [hz]; rfl
  · rw [hp i h0]; exact h.wait (i + 1) (by omega) (by omega)
  · have := h.next (i + 1) (by omega)
    rcases Nat.eq_zero_or_pos i with h0 | h0
    · subst h0; rw [hz]
      exact ⟨this.1, by show (ceA L 1).x = _; have h2 := this.2; simp at h2 ⊢; omega⟩
    · rw [hp i h0]
      exact ⟨this.1, by rw [this.2]; simp; omega⟩
  · have := h.last (i + 1) (by omega)
    rcases Nat.eq_zero_or_pos i with h0 | h0
    · subst h0; rw [hz]; exact this
    · rw [hp i h0]; exact this
end Run
end Go.Proofs.Yteflefmlicamlaa.Pk
