/- Plain mathematics: the numbers that stand one behind the other from the front of bytes on. -/
import Derived.Test.YtcicpgiljceioaaZPackMath
namespace Go.Proofs.Ytcicpgiljceioaa.Pk

/-- From place o on (fuel first): the place of each number, and itself. -/
def numsF : Nat → Nat → List Int → List (Nat × Int)
  | 0, _, _ => []
  | f + 1, o, l => if (tkv l).2 = 0 then [] else (o, (tkv l).1) :: numsF f (o + (tkv l).2) (l.drop (tkv l).2)
def nums (l : List Int) : List (Nat × Int) := numsF (l.length + 1) 0 l

theorem tkv_bd {l : List Int} (hb : isB l) : (tkv l).2 ≤ l.length ∧ 0 ≤ (tkv l).1 ∧ (tkv l).1 ≤ 9223372036854775807 := by
  rcases tkv_cases l hb with h | ⟨y, k, h, h1, h2, h3, h4, _⟩ <;> rw [h]
  · simp
  · exact ⟨h4, h1, h2⟩

/-- What is still to come at place o, whatever the fuel. -/
def Ahead (l : List Int) (pre : List (Nat × Int)) (o : Nat) : Prop := ∃ f, (l.drop o).length < f ∧ nums l = pre ++ numsF f o (l.drop o)
theorem ahead_start (l : List Int) : Ahead l [] 0 := ⟨l.length + 1, by simp, rfl⟩
theorem ahead_more {l : List Int} {pre : List (Nat × Int)} {o : Nat} (h : Ahead l pre o) (hk : (tkv (l.drop o)).2 ≠ 0) (hle : (tkv (l.drop o)).2 ≤ (l.drop o).length) :
    Ahead l (pre ++ [(o, (tkv (l.drop o)).1)]) (o + (tkv (l.drop o)).2) := by
  obtain ⟨f, hf, e⟩ := h
  cases f with
  | zero => omega
  | succ f =>
    rw [numsF, if_neg hk] at e
    refine ⟨f, ?_, ?_⟩
    · rw [← List.drop_drop, List.length_drop]; omega
    · rw [e, List.drop_drop]; simp
theorem ahead_end {l : List Int} {pre : List (Nat × Int)} {o : Nat} (h : Ahead l pre o) (hk : (tkv (l.drop o)).2 = 0) : pre = nums l := by
  obtain ⟨f, hf, e⟩ := h
  cases f with
  | zero => omega
  | succ f => rw [numsF, if_pos hk] at e; rw [e]; simp
theorem ahead_prefix {l : List Int} {pre : List (Nat × Int)} {o : Nat} (h : Ahead l pre o) : pre <+: nums l := by
  obtain ⟨f, hf, e⟩ := h
  exact ⟨_, e.symm⟩
end Go.Proofs.Ytcicpgiljceioaa.Pk

/- Plain mathematics: numbers that are put one behind the other are gone over in their order. -/
namespace Go.Proofs.Ytcicpgiljceioaa.Pk

/-- How many bytes the first k numbers have. -/
def tot (xs : List Int) (k : Nat) : Nat := (encs (xs.take k)).length
def chain (xs : List Int) (k : Nat) : List (Nat × Int) := (List.range k).map fun i => (tot xs i, max (xs.getD i 0) 0)
theorem chain_len (xs : List Int) (k : Nat) : (chain xs k).length = k := by simp [chain]
theorem chain_succ (xs : List Int) (k : Nat) : chain xs (k + 1) = chain xs k ++ [(tot xs k, max (xs.getD k 0) 0)] := by simp [chain, List.range_succ]
theorem tot_zero (xs : List Int) : tot xs 0 = 0 := by simp [tot, encs]
theorem tot_succ (xs : List Int) (k : Nat) (h : k < xs.length) : tot xs (k + 1) = tot xs k + (enc 8 (max (xs.getD k 0) 0)).length := by
  unfold tot; rw [encs_snoc xs k h, List.length_append]
theorem tot_le (xs : List Int) (k : Nat) : tot xs k ≤ 9 * k := by
  unfold tot
  have h1 := encs_len (xs.take k)
  have h2 := List.length_take_le k xs
  omega

theorem encs_drop (xs : List Int) (r : List Int) (k : Nat) (h : k < xs.length) : (encs xs ++ r).drop (tot xs k) = enc 8 (max (xs.getD k 0) 0) ++ (encs (xs.drop (k + 1)) ++ r) := by
  have e : encs xs = encs (xs.take k) ++ encs (xs.drop k) := by
    unfold encs; rw [← List.flatMap_append, List.take_append_drop]
  have e2 : encs (xs.drop k) = enc 8 (max (xs.getD k 0) 0) ++ encs (xs.drop (k + 1)) := by
    rw [List.drop_eq_getElem_cons h, List.getD_eq_getElem?_getD, List.getElem?_eq_getElem h]; rfl
  rw [e, List.append_assoc]
  unfold tot
  rw [List.drop_left, e2, List.append_assoc]

theorem chain_ahead (xs r : List Int) (hx : ∀ x ∈ xs, x ≤ 9223372036854775807) : ∀ k, k ≤ xs.length → Ahead (encs xs ++ r) (chain xs k) (tot xs k) := by
  intro k
  induction k with
  | zero => intro _; rw [tot_zero]; exact ahead_start _
  | succ k ih =>
    intro hk
    have h := ih (by omega)
    have hd := encs_drop xs r k (by omega)
    have hm : xs.getD k 0 ∈ xs := by rw [List.getD_eq_getElem?_getD, List.getElem?_eq_getElem (by omega)]; exact List.getElem_mem _
    have ht : tkv ((encs xs ++ r).drop (tot xs k)) = (max (xs.getD k 0) 0, (enc 8 (max (xs.getD k 0) 0)).length) := by
      rw [hd]
      unfold tkv
      rw [tk_enc 8 _ _ (by omega) (fits_top _ (by have := hx _ hm; omega))]; rfl
    have hp := enc_len_pos 8 (max (xs.getD k 0) 0)
    have := ahead_more h (by rw [ht]; show (enc 8 (max (xs.getD k 0) 0)).length ≠ 0; omega) (by rw [ht, hd]; simp)
    rw [ht] at this
    rw [chain_succ, tot_succ xs k (by omega)]
    exact this
theorem chain_prefix (xs r : List Int) (hx : ∀ x ∈ xs, x ≤ 9223372036854775807) (k : Nat) (hk : k ≤ xs.length) : chain xs k <+: nums (encs xs ++ r) := ahead_prefix (chain_ahead xs r hx k hk)

theorem prefix_same {α : Type} {a b c : List α} (h : a <+: c) (k : b <+: c) (e : a.length = b.length) : a = b := by
  rw [List.prefix_iff_eq_take] at h k
  rw [h, k, e]
/-- What comes other than it should can't have come. -/
theorem chain_wrong {xs r : List Int} {k : Nat} {x : Nat × Int} (hx : ∀ x ∈ xs, x ≤ 9223372036854775807) (hk : k < xs.length) (hp : chain xs k ++ [x] <+: nums (encs xs ++ r)) : x = (tot xs k, max (xs.getD k 0) 0) := by
  have h := chain_prefix xs r hx (k + 1) (by omega)
  have e := prefix_same hp h (by simp [chain_len])
  rw [chain_succ] at e
  have := List.append_cancel_left e
  simpa using this
theorem chain_all {xs r : List Int} {k : Nat} (hx : ∀ x ∈ xs, x ≤ 9223372036854775807) (hk : k ≤ xs.length) (e : chain xs k = nums (encs xs ++ r)) : k = xs.length := by
  have h := (chain_prefix xs r hx xs.length (Nat.le_refl _)).length_le
  rw [← e, chain_len, chain_len] at h
  omega
theorem isB_app {l r : List Int} (h : isB l) (k : isB r) : isB (l ++ r) := fun c hc => by
  rcases List.mem_append.1 hc with h1 | h1
  · exact h c h1
  · exact k c h1
theorem isB_encs {xs : List Int} (hx : ∀ x ∈ xs, x ≤ 9223372036854775807) : isB (encs xs) := by
  intro c hc
  unfold encs at hc
  obtain ⟨x, hm, hc⟩ := List.mem_flatMap.1 hc
  exact enc_isB 8 _ (by omega) (fits_top _ (by have := hx x hm; omega)) c hc
theorem tot_all (xs : List Int) : tot xs xs.length = (encs xs).length := by unfold tot; rw [List.take_length]
end Go.Proofs.Ytcicpgiljceioaa.Pk

/- Plain mathematics of messages as bytes: what can be, a message's bytes, what bytes begin with. -/
namespace Go.Proofs.Ytcicpgiljceioaa.Pk

/-- A message's five numbers. -/
structure Mg where
  k : Int
  o : Int
  n : Int
  u : Int
  v : Int
deriving DecidableEq
def Mg.zero : Mg := ⟨0, 0, 0, 0, 0⟩
def Mg.Be (m : Mg) : Prop := 1 ≤ m.k ∧ m.k ≤ 4 ∧ 0 ≤ m.o ∧ m.o ≤ 7 ∧ 0 ≤ m.n ∧ m.n ≤ 31 ∧ 1 ≤ m.u ∧ m.u ≤ 1099511627776 ∧ (m.k = 4 → 0 ≤ m.v ∧ m.v ≤ 31) ∧ (m.k ≠ 4 → m.v = 0)
instance (m : Mg) : Decidable m.Be := by unfold Mg.Be; exact inferInstance
def Mg.nums (m : Mg) : List Int := if m.k = 4 then [m.k, m.o, m.n, m.u, m.v] else [m.k, m.o, m.n, m.u]
def Mg.bytes (m : Mg) : List Int := encs m.nums
/-- What Put lays behind. -/
def Mg.put (m : Mg) : List Int := if m.Be then m.bytes else []
def Mg.of (xs : List Int) : Mg := ⟨xs.getD 0 0, xs.getD 1 0, xs.getD 2 0, xs.getD 3 0, xs.getD 4 0⟩
/-- Why bytes begin with no number: 30 too short, 31 another form. -/
def fault (l : List Int) : Int := if l.length ≤ 8 ∧ ∀ c ∈ l, 128 ≤ c then 30 else 31
/-- Are more numbers read? -/
def more (xs : List Int) : Prop := xs.length < 4 ∨ (xs.length = 4 ∧ xs.getD 0 0 = 4)
instance (xs : List Int) : Decidable (more xs) := by unfold more; exact inferInstance
/-- Take's rounds (fuel first): the numbers so far, the place. -/
def wgo : Nat → List Int → Nat → List Int → Mg × Nat × Int
  | 0, _, _, _ => (Mg.zero, 0, 0)
  | f + 1, xs, at_, l => if more xs then (if (tkv (l.drop at_)).2 = 0 then (Mg.zero, 0, fault (l.drop at_)) else wgo f (xs ++ [(tkv (l.drop at_)).1]) (at_ + (tkv (l.drop at_)).2) l)
    else if (Mg.of xs).Be then (Mg.of xs, at_, 0) else (Mg.zero, 0, 31)
/-- What Take answers. -/
def wtake (l : List Int) : Mg × Nat × Int := wgo 6 [] 0 l

theorem Mg.nums_len (m : Mg) : m.nums.length = if m.k = 4 then 5 else 4 := by unfold Mg.nums; split <;> rfl
theorem Mg.nums_lo {m : Mg} (h : m.Be) : ∀ x ∈ m.nums, 0 ≤ x ∧ x ≤ 1099511627776 := by
  obtain ⟨h1, h2, h3, h4, h5, h6, h7, h8, h9, h10⟩ := h
  intro x hx
  unfold Mg.nums at hx
  split at hx <;> rename_i hk
  · have := h9 hk
    simp only [List.mem_cons, List.not_mem_nil, or_false] at hx
    rcases hx with rfl | rfl | rfl | rfl | rfl <;> omega
  · simp only [List.mem_cons, List.not_mem_nil, or_false] at hx
    rcases hx with rfl | rfl | rfl | rfl <;> omega
theorem Mg.nums_of {m : Mg} (h : m.Be) : Mg.of m.nums = m := by
  obtain ⟨h1, h2, h3, h4, h5, h6, h7, h8, h9, h10⟩ := h
  unfold Mg.nums Mg.of
  split <;> rename_i hk
  · rfl
  · have := h10 hk
    cases m
    simp_all
theorem Mg.bytes_len (m : Mg) : m.bytes.length ≤ 45 := by
  have h1 := encs_len m.nums
  have h2 := m.nums_len
  unfold Mg.bytes
  split at h2 <;> omega
theorem Mg.put_len (m : Mg) : m.put.length ≤ 45 := by
  have := m.bytes_len
  unfold Mg.put
  split
  · exact this
  · simp
theorem isB_bytes {m : Mg} (h : m.Be) : isB m.bytes := isB_encs (fun x hx => by have := m.nums_lo h x hx; omega)
theorem isB_put (m : Mg) : isB m.put := by
  unfold Mg.put
  split <;> rename_i h
  · exact isB_bytes h
  · intro c hc; cases hc
/-- A round of Take over a message's numbers. -/
theorem more_nums {m : Mg} (k : Nat) (hk : k < m.nums.length) : more (m.nums.take k) := by
  unfold more
  have h := m.nums_len
  rw [List.length_take, Nat.min_eq_left (by omega)]
  by_cases h4 : m.k = 4
  · rw [if_pos h4] at h
    by_cases h5 : k < 4
    · exact .inl h5
    · obtain rfl : k = 4 := by omega
      refine .inr ⟨rfl, ?_⟩
      unfold Mg.nums
      rw [if_pos h4]
      exact h4
  · rw [if_neg h4] at h
    exact .inl (by omega)
theorem not_more {m : Mg} : ¬ more m.nums := by
  unfold more
  have h := m.nums_len
  by_cases h4 : m.k = 4
  · rw [if_pos h4] at h; omega
  · rw [if_neg h4] at h
    rw [h]
    rintro (h1 | ⟨_, h1⟩)
    · omega
    · unfold Mg.nums at h1
      rw [if_neg h4] at h1
      exact h4 h1
theorem wgo_put {m : Mg} (h : m.Be) (r : List Int) : ∀ k f, k ≤ m.nums.length → m.nums.length < f + k → wgo f (m.nums.take k) (tot m.nums k) (m.bytes ++ r) = (m, m.bytes.length, 0) := by
  intro k f
  induction f generalizing k with
  | zero => intro h1 h2; omega
  | succ f ih =>
    intro h1 h2
    by_cases hk : k < m.nums.length
    · have hd := encs_drop m.nums r k hk
      have hx := m.nums_lo h (m.nums.getD k 0) (by rw [List.getD_eq_getElem?_getD, List.getElem?_eq_getElem hk]; exact List.getElem_mem _)
      have hmx : max (m.nums.getD k 0) 0 = m.nums.getD k 0 := Int.max_eq_left hx.1
      rw [hmx] at hd
      have ht : tkv ((m.bytes ++ r).drop (tot m.nums k)) = (m.nums.getD k 0, (enc 8 (m.nums.getD k 0)).length) := by
        unfold Mg.bytes
        rw [hd]
        unfold tkv
        rw [tk_enc 8 _ _ hx.1 (fits_top _ (by omega))]; rfl
      have hp := enc_len_pos 8 (m.nums.getD k 0)
      rw [wgo, if_pos (more_nums k hk), ht, if_neg (show ¬ (enc 8 (m.nums.getD k 0)).length = 0 by omega)]
      have e1 : m.nums.take k ++ [m.nums.getD k 0] = m.nums.take (k + 1) := by
        rw [List.take_succ_eq_append_getElem hk, List.getD_eq_getElem?_getD, List.getElem?_eq_getElem hk]; rfl
      have e2 : tot m.nums k + (enc 8 (m.nums.getD k 0)).length = tot m.nums (k + 1) := by rw [tot_succ _ _ hk, hmx]
      show wgo f (m.nums.take k ++ [m.nums.getD k 0]) (tot m.nums k + (enc 8 (m.nums.getD k 0)).length) (m.bytes ++ r) = _
      rw [e1, e2]
      exact ih (k + 1) (by omega) (by omega)
    · obtain rfl : k = m.nums.length := by omega
      rw [List.take_length, wgo, if_neg not_more, m.nums_of h, if_pos h, tot_all]
      rfl
/-- There and back. -/
theorem wtake_put {m : Mg} (h : m.Be) (r : List Int) : wtake (m.bytes ++ r) = (m, m.bytes.length, 0) := by
  have h1 := m.nums_len
  have := wgo_put h r 0 6 (by omega) (by split at h1 <;> omega)
  rw [tot_zero] at this
  exact this
/-- A proper beginning of a number's bytes: all 128 or above. -/
theorem enc_high (n : Nat) : ∀ (x : Int) (k : Nat), k < (enc n x).length → 0 ≤ x → ∀ c ∈ (enc n x).take k, 128 ≤ c := by
  induction n with
  | zero =>
    intro x k hk h0 c hc
    simp [enc] at hk
    subst hk
    simp at hc
  | succ n ih =>
    intro x k hk h0 c hc
    by_cases hx : x < 128
    · rw [enc_lo _ hx] at hk hc
      simp at hk
      subst hk
      simp at hc
    · rw [enc_hi _ hx] at hk hc
      cases k with
      | zero => simp at hc
      | succ k =>
        simp only [List.take_succ_cons, List.mem_cons] at hc
        rcases hc with rfl | hc
        · omega
        · exact ih (x / 128) k (by simpa using hk) (by omega) c hc
theorem lead_high (l : List Int) (h : ∀ c ∈ l, 128 ≤ c) : ∀ n, tk n l = none := by
  induction l with
  | nil => intro n; cases n <;> rfl
  | cons c r ih =>
    intro n
    cases n with
    | zero => rfl
    | succ n =>
      rw [tk, if_neg (by have := h c (by simp); omega), ih (fun d hd => h d (by simp [hd])) n]
theorem fault_high {l : List Int} (h : ∀ c ∈ l, 128 ≤ c) (hl : l.length ≤ 8) : fault l = 30 := if_pos ⟨hl, h⟩
theorem fault_any (l : List Int) : fault l = 30 ∨ fault l = 31 := by unfold fault; split; exact .inl rfl; exact .inr rfl
/-- A beginning of a message's bytes is too short. -/
theorem wgo_short {m : Mg} (h : m.Be) (i : Nat) (hi : i < m.bytes.length) : ∀ k f, k < m.nums.length → tot m.nums k ≤ i → m.nums.length < f + k → wgo f (m.nums.take k) (tot m.nums k) (m.bytes.take i) = (Mg.zero, 0, 30) := by
  intro k f
  induction f generalizing k with
  | zero => intro h1 _ h2; omega
  | succ f ih =>
    intro hk hti h2
    have hd := encs_drop m.nums [] k hk
    rw [List.append_nil, List.append_nil] at hd
    have hx := m.nums_lo h (m.nums.getD k 0) (by rw [List.getD_eq_getElem?_getD, List.getElem?_eq_getElem hk]; exact List.getElem_mem _)
    have hmx : max (m.nums.getD k 0) 0 = m.nums.getD k 0 := Int.max_eq_left hx.1
    rw [hmx] at hd
    have e2 : tot m.nums k + (enc 8 (m.nums.getD k 0)).length = tot m.nums (k + 1) := by rw [tot_succ _ _ hk, hmx]
    have hdt : (m.bytes.take i).drop (tot m.nums k) = (enc 8 (m.nums.getD k 0) ++ encs (m.nums.drop (k + 1))).take (i - tot m.nums k) := by
      rw [List.drop_take]; unfold Mg.bytes; rw [hd]
    rw [wgo, if_pos (more_nums k hk), hdt]
    by_cases hc : i < tot m.nums (k + 1)
    · have hlt : i - tot m.nums k < (enc 8 (m.nums.getD k 0)).length := by omega
      rw [List.take_append_of_le_length (by omega)]
      have hh := enc_high 8 (m.nums.getD k 0) (i - tot m.nums k) hlt hx.1
      have ht : tkv ((enc 8 (m.nums.getD k 0)).take (i - tot m.nums k)) = (0, 0) := by unfold tkv; rw [lead_high _ hh]; rfl
      have h9 := enc_len_le 8 (m.nums.getD k 0)
      rw [ht, if_pos rfl, fault_high hh (by rw [List.length_take]; omega)]
    · have ht : tkv ((enc 8 (m.nums.getD k 0) ++ encs (m.nums.drop (k + 1))).take (i - tot m.nums k)) = (m.nums.getD k 0, (enc 8 (m.nums.getD k 0)).length) := by
        rw [List.take_append, List.take_of_length_le (by omega)]
        unfold tkv
        rw [tk_enc 8 _ _ hx.1 (fits_top _ (by omega))]; rfl
      have hp := enc_len_pos 8 (m.nums.getD k 0)
      rw [ht, if_neg (show ¬ (enc 8 (m.nums.getD k 0)).length = 0 by omega)]
      have e1 : m.nums.take k ++ [m.nums.getD k 0] = m.nums.take (k + 1) := by
        rw [List.take_succ_eq_append_getElem hk, List.getD_eq_getElem?_getD, List.getElem?_eq_getElem hk]; rfl
      show wgo f (m.nums.take k ++ [m.nums.getD k 0]) (tot m.nums k + (enc 8 (m.nums.getD k 0)).length) (m.bytes.take i) = _
      rw [e1, e2]
      have hk2 : k + 1 < m.nums.length := by
        rcases Nat.lt_or_ge (k + 1) m.nums.length with h3 | h3
        · exact h3
        · have e3 : tot m.nums (k + 1) = m.bytes.length := by
            obtain h4 : k + 1 = m.nums.length := by omega
            rw [h4, tot_all]; rfl
          omega
      exact ih (k + 1) hk2 (by omega) (by omega)
theorem wtake_short {m : Mg} (h : m.Be) (i : Nat) (hi : i < m.bytes.length) : wtake (m.bytes.take i) = (Mg.zero, 0, 30) := by
  have h1 := m.nums_len
  have := wgo_short h i hi 0 6 (by split at h1 <;> omega) (by rw [tot_zero]; omega) (by split at h1 <;> omega)
  rw [tot_zero] at this
  exact this
/-- What Take's rounds have read are the bytes of the numbers so far. -/
theorem wgo_back {l : List Int} (hb : isB l) : ∀ f xs at_ m k, (∀ x ∈ xs, 0 ≤ x ∧ x ≤ 9223372036854775807) → xs.length ≤ 5 → (xs.length = 5 → xs.getD 0 0 = 4) → at_ ≤ l.length → encs xs = l.take at_ → wgo f xs at_ l = (m, k, 0) → 0 < f + xs.length →
    5 < f + xs.length → m.Be ∧ k ≤ l.length ∧ m.bytes = l.take k := by
  intro f
  induction f with
  | zero => intro xs at_ m k _ h1 _ _ _ _ _ h2; omega
  | succ f ih =>
    intro xs at_ m k hxs h1 h5 hat he hw _ hf
    rw [wgo] at hw
    by_cases hm : more xs
    · rw [if_pos hm] at hw
      have hbd : isB (l.drop at_) := fun c hc => hb c (List.mem_of_mem_drop hc)
      rcases tkv_cases (l.drop at_) hbd with h | ⟨y, j, h, y0, y1, j1, j2, j3, hy⟩
      · rw [h, if_pos rfl] at hw
        injection hw with _ hw
        injection hw with _ hw
        rcases fault_any (l.drop at_) with h6 | h6 <;> rw [h6] at hw <;> cases hw
      · rw [h] at hw
        rw [if_neg (show ¬ j = 0 by omega)] at hw
        rw [List.length_drop] at j2
        refine ih (xs ++ [y]) (at_ + j) m k (fun x hx => ?_) ?_ ?_ (by omega) ?_ hw (by simp; omega) (by simp; omega)
        · rcases List.mem_append.1 hx with hx | hx
          · exact hxs x hx
          · obtain rfl : x = y := by simpa using hx
            exact ⟨y0, y1⟩
        · rcases hm with h6 | ⟨h6, _⟩ <;> simp <;> omega
        · intro h6
          simp at h6
          rcases hm with h7 | ⟨h7, h8⟩
          · omega
          · cases xs with
            | nil => simp at h7
            | cons a r => simpa using h8
        · have e : encs (xs ++ [y]) = encs xs ++ enc 8 y := by unfold encs; rw [List.flatMap_append]; simp [Int.max_eq_left y0]
          rw [e, he, hy, List.take_add]
    · rw [if_neg hm] at hw
      by_cases hB : (Mg.of xs).Be
      · rw [if_pos hB] at hw
        injection hw with hw1 hw
        injection hw with hw2 hw
        subst hw1; subst hw2
        refine ⟨hB, hat, ?_⟩
        have hn : (Mg.of xs).nums = xs := by
          unfold more at hm
          have hl : xs.length = 4 ∨ xs.length = 5 := by omega
          rcases hl with hl | hl
          · match xs, hl with
            | [a, b, c, d], _ =>
              have h6 : ¬ a = 4 := fun e => hm (.inr ⟨rfl, e⟩)
              show (if a = 4 then _ else [a, b, c, d]) = _
              rw [if_neg h6]
          · match xs, hl with
            | [a, b, c, d, e], hl =>
              have h6 : a = 4 := h5 hl
              show (if a = 4 then [a, b, c, d, e] else _) = _
              rw [if_pos h6]
        unfold Mg.bytes
        rw [hn, he]
      · rw [if_neg hB] at hw
        injection hw with _ hw
        injection hw with _ hw
        cases hw
theorem wgo_bad {l : List Int} : ∀ f xs at_ m k e, wgo f xs at_ l = (m, k, e) → 5 < f + xs.length → xs.length ≤ 5 → e = 0 ∨ (m = Mg.zero ∧ k = 0 ∧ (e = 30 ∨ e = 31)) := by
  intro f
  induction f with
  | zero => intro xs at_ m k e _ h1 h2; omega
  | succ f ih =>
    intro xs at_ m k e hw h1 h2
    rw [wgo] at hw
    by_cases hm : more xs
    · rw [if_pos hm] at hw
      by_cases h : (tkv (l.drop at_)).2 = 0
      · rw [if_pos h] at hw
        injection hw with a1 hw
        injection hw with a2 hw
        subst a1; subst a2; subst hw
        exact .inr ⟨rfl, rfl, fault_any _⟩
      · rw [if_neg h] at hw
        exact ih _ _ m k e hw (by simp; omega) (by rcases hm with h6 | ⟨h6, _⟩ <;> simp <;> omega)
    · rw [if_neg hm] at hw
      by_cases hB : (Mg.of xs).Be
      · rw [if_pos hB] at hw
        injection hw with _ hw
        injection hw with _ hw
        exact .inl hw.symm
      · rw [if_neg hB] at hw
        injection hw with a1 hw
        injection hw with a2 hw
        subst a1; subst a2; subst hw
        exact .inr ⟨rfl, rfl, .inr rfl⟩
/-- What Take answers: a message with its very bytes, or an error alone. -/
theorem wtake_cases (l : List Int) (hb : isB l) : (∃ m, m.Be ∧ wtake l = (m, m.bytes.length, 0) ∧ m.bytes.length ≤ l.length ∧ m.bytes = l.take m.bytes.length) ∨ ∃ e, wtake l = (Mg.zero, 0, e) ∧ (e = 30 ∨ e = 31) := by
  obtain ⟨⟨m, k, x⟩, e⟩ : ∃ r, wtake l = r := ⟨_, rfl⟩
  rcases wgo_bad 6 [] 0 m k x e (by simp) (by simp) with rfl | ⟨rfl, rfl, h⟩
  · obtain ⟨h1, h2, h3⟩ := wgo_back hb 6 [] 0 m k (fun x hx => by cases hx) (by simp) (by simp) (by omega) rfl e (by simp) (by simp)
    have h4 : m.bytes.length = k := by rw [h3, List.length_take]; omega
    exact .inl ⟨m, h1, by rw [h4]; exact e, by omega, by rw [h4]; exact h3⟩
  · exact .inr ⟨x, e, h⟩
end Go.Proofs.Ytcicpgiljceioaa.Pk
