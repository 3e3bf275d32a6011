/- Plain mathematics of datagrams as bytes: what can be, the fields' bytes, what bytes begin with. -/
import Derived.Test.YtmegpbejknmjbaaDoorWiMath
namespace Go.Proofs.YtmegpbejknmjbaaDoor.Pk
set_option linter.unusedVariables false
/-- A datagram: four numbers and a message. -/
structure Gm where
  f : Int
  t : Int
  a : Int
  s : Int
  m : Mg
deriving DecidableEq
def Gm.zero : Gm := ⟨0, 0, 0, 0, Mg.zero⟩
def Gm.Be (g : Gm) : Prop := 0 ≤ g.f ∧ g.f ≤ 31 ∧ 0 ≤ g.t ∧ g.t ≤ 31 ∧ g.f ≠ g.t ∧ 0 ≤ g.a ∧ g.a ≤ 1099511627776 ∧ 0 ≤ g.s ∧ g.s ≤ 1099511627776 ∧ (g.s = 0 → g.m = Mg.zero) ∧ (g.s ≠ 0 → g.m.Be)
instance (g : Gm) : Decidable g.Be := by unfold Gm.Be; exact inferInstance
def Gm.nums (g : Gm) : List Int := [g.f, g.t, g.a, g.s]
def Gm.tail (g : Gm) : List Int := if g.s = 0 then [] else g.m.bytes
def Gm.bytes (g : Gm) : List Int := encs g.nums ++ g.tail
/-- What Put lays behind. -/
def Gm.put (g : Gm) : List Int := if g.Be then g.bytes else []
def gfin (g : Gm) (k : Nat) : Gm × Nat × Int := if g.Be then (g, k, 0) else (Gm.zero, 0, 31)
/-- What Take does behind the four numbers. -/
def gend (xs : List Int) (a : Nat) (l : List Int) : Gm × Nat × Int :=
  if 0 < xs.getD 3 0 then
    (if (wtake (l.drop a)).2.2 = 0 then gfin ⟨xs.getD 0 0, xs.getD 1 0, xs.getD 2 0, xs.getD 3 0, (wtake (l.drop a)).1⟩ (a + (wtake (l.drop a)).2.1) else (Gm.zero, 0, (wtake (l.drop a)).2.2))
  else gfin ⟨xs.getD 0 0, xs.getD 1 0, xs.getD 2 0, xs.getD 3 0, Mg.zero⟩ a
/-- Take's rounds (fuel first): the numbers so far, the place. -/
def ggo : Nat → List Int → Nat → List Int → Gm × Nat × Int
  | 0, xs, a, l => gend xs a l
  | f + 1, xs, a, l => if (tkv (l.drop a)).2 = 0 then (Gm.zero, 0, fault (l.drop a)) else ggo f (xs ++ [(tkv (l.drop a)).1]) (a + (tkv (l.drop a)).2) l
/-- What Take answers. -/
def gtake (l : List Int) : Gm × Nat × Int := ggo 4 [] 0 l

theorem Gm.Be.nums {g : Gm} (h : g.Be) : ∀ x ∈ g.nums, 0 ≤ x ∧ x ≤ 1099511627776 := by
  obtain ⟨h1, h2, h3, h4, h5, h6, h7, h8, h9, h10⟩ := h
  intro x hx
  simp only [Gm.nums, List.mem_cons, List.not_mem_nil, or_false] at hx
  rcases hx with rfl | rfl | rfl | rfl <;> omega
theorem Gm.bytes_len (g : Gm) : g.bytes.length ≤ 81 := by
  have h1 := encs_len g.nums
  have h2 := g.m.bytes_len
  have h3 : g.nums.length = 4 := rfl
  unfold Gm.bytes Gm.tail
  rw [List.length_append]
  split
  · simp; omega
  · omega
theorem Gm.put_len (g : Gm) : g.put.length ≤ 81 := by
  have := g.bytes_len
  unfold Gm.put
  split
  · exact this
  · simp
theorem isB_gbytes {g : Gm} (h : g.Be) : isB g.bytes := by
  refine isB_app (isB_encs (fun x hx => by have := h.nums x hx; omega)) ?_
  unfold Gm.tail
  split <;> rename_i h0
  · intro c hc; cases hc
  · exact isB_bytes (h.2.2.2.2.2.2.2.2.2.2 h0)
theorem isB_gput (g : Gm) : isB g.put := by
  unfold Gm.put
  split <;> rename_i h
  · exact isB_gbytes h
  · intro c hc; cases hc
theorem gput_be {g : Gm} (h : g.Be) : g.put = g.bytes := if_pos h
theorem gput_not {g : Gm} (h : ¬ g.Be) : g.put = [] := if_neg h
theorem gend_put {g : Gm} (h : g.Be) (r : List Int) : gend g.nums (encs g.nums).length (g.bytes ++ r) = (g, g.bytes.length, 0) := by
  have hd : (g.bytes ++ r).drop (encs g.nums).length = g.tail ++ r := by unfold Gm.bytes; rw [List.append_assoc, List.drop_left]
  unfold gend
  rw [hd]
  have e3 : g.nums.getD 3 0 = g.s := rfl
  rw [e3]
  by_cases h0 : g.s = 0
  · rw [if_neg (by omega)]
    have hm := h.2.2.2.2.2.2.2.2.2.1 h0
    have e : (⟨g.nums.getD 0 0, g.nums.getD 1 0, g.nums.getD 2 0, g.s, Mg.zero⟩ : Gm) = g := by rw [← hm]; rfl
    rw [e]
    unfold gfin
    rw [if_pos h]
    unfold Gm.bytes Gm.tail
    rw [if_pos h0, List.append_nil]
  · have hs : 0 < g.s := by have := h.2.2.2.2.2.2.2.1; omega
    rw [if_pos hs]
    have ht : g.tail = g.m.bytes := if_neg h0
    rw [ht, wtake_put (h.2.2.2.2.2.2.2.2.2.2 h0) r, if_pos rfl]
    have e : (⟨g.nums.getD 0 0, g.nums.getD 1 0, g.nums.getD 2 0, g.s, g.m⟩ : Gm) = g := rfl
    show gfin (⟨g.nums.getD 0 0, g.nums.getD 1 0, g.nums.getD 2 0, g.s, g.m⟩ : Gm) _ = _
    rw [e]
    unfold gfin
    rw [if_pos h]
    unfold Gm.bytes
    rw [ht, List.length_append]
theorem ggo_put {g : Gm} (h : g.Be) (r : List Int) : ∀ k f, k + f = 4 → ggo f (g.nums.take k) (tot g.nums k) (g.bytes ++ r) = (g, g.bytes.length, 0) := by
  intro k f
  induction f generalizing k with
  | zero =>
    intro hk
    obtain rfl : k = 4 := by omega
    have := gend_put h r
    rw [← tot_all] at this
    exact this
  | succ f ih =>
    intro hk
    have hkl : k < g.nums.length := by show k < 4; omega
    have hd := encs_drop g.nums (g.tail ++ r) k hkl
    have hx := h.nums (g.nums.getD k 0) (by rw [List.getD_eq_getElem?_getD, List.getElem?_eq_getElem hkl]; exact List.getElem_mem _)
    have hmx : max (g.nums.getD k 0) 0 = g.nums.getD k 0 := Int.max_eq_left hx.1
    rw [hmx] at hd
    have ht : tkv ((g.bytes ++ r).drop (tot g.nums k)) = (g.nums.getD k 0, (Pk.enc 8 (g.nums.getD k 0)).length) := by
      unfold Gm.bytes
      rw [List.append_assoc, hd]
      unfold tkv
      rw [tk_enc 8 _ _ hx.1 (fits_top _ (by omega))]; rfl
    have hp := enc_len_pos 8 (g.nums.getD k 0)
    rw [ggo, ht, if_neg (show ¬ (Pk.enc 8 (g.nums.getD k 0)).length = 0 by omega)]
    have e1 : g.nums.take k ++ [g.nums.getD k 0] = g.nums.take (k + 1) := by
      rw [List.take_succ_eq_append_getElem hkl, List.getD_eq_getElem?_getD, List.getElem?_eq_getElem hkl]; rfl
    have e2 : tot g.nums k + (Pk.enc 8 (g.nums.getD k 0)).length = tot g.nums (k + 1) := by rw [tot_succ _ _ hkl, hmx]
    show ggo f (g.nums.take k ++ [g.nums.getD k 0]) (tot g.nums k + (Pk.enc 8 (g.nums.getD k 0)).length) (g.bytes ++ r) = _
    rw [e1, e2]
    exact ih (k + 1) (by omega)
/-- There and back. -/
theorem gtake_put {g : Gm} (h : g.Be) (r : List Int) : gtake (g.bytes ++ r) = (g, g.bytes.length, 0) := by
  have := ggo_put h r 0 4 rfl
  rw [tot_zero] at this
  exact this
theorem gend_short {g : Gm} (h : g.Be) (i : Nat) (hi : i < g.bytes.length) (hl : (encs g.nums).length ≤ i) : gend g.nums (encs g.nums).length (g.bytes.take i) = (Gm.zero, 0, 30) := by
  have hd : (g.bytes.take i).drop (encs g.nums).length = g.tail.take (i - (encs g.nums).length) := by unfold Gm.bytes; rw [List.drop_take, List.drop_left]
  unfold Gm.bytes at hi
  rw [List.length_append] at hi
  unfold gend
  rw [hd]
  have e3 : g.nums.getD 3 0 = g.s := rfl
  rw [e3]
  by_cases h0 : g.s = 0
  · unfold Gm.tail at hi
    rw [if_pos h0] at hi
    simp at hi
    omega
  · have hs : 0 < g.s := by have := h.2.2.2.2.2.2.2.1; omega
    rw [if_pos hs]
    have ht : g.tail = g.m.bytes := if_neg h0
    rw [ht] at hi ⊢
    rw [wtake_short (h.2.2.2.2.2.2.2.2.2.2 h0) _ (by omega)]
    rfl
theorem ggo_short {g : Gm} (h : g.Be) (i : Nat) (hi : i < g.bytes.length) : ∀ k f, k + f = 4 → tot g.nums k ≤ i → ggo f (g.nums.take k) (tot g.nums k) (g.bytes.take i) = (Gm.zero, 0, 30) := by
  intro k f
  induction f generalizing k with
  | zero =>
    intro hk hti
    obtain rfl : k = 4 := by omega
    rw [show (4 : Nat) = g.nums.length from rfl, tot_all] at hti
    have := gend_short h i hi hti
    rw [← tot_all] at this
    exact this
  | succ f ih =>
    intro hk hti
    have hkl : k < g.nums.length := by show k < 4; omega
    have hd := encs_drop g.nums g.tail k hkl
    have hx := h.nums (g.nums.getD k 0) (by rw [List.getD_eq_getElem?_getD, List.getElem?_eq_getElem hkl]; exact List.getElem_mem _)
    have hmx : max (g.nums.getD k 0) 0 = g.nums.getD k 0 := Int.max_eq_left hx.1
    rw [hmx] at hd
    obtain ⟨z, hz⟩ : ∃ z, z = encs (g.nums.drop (k + 1)) ++ g.tail := ⟨_, rfl⟩
    rw [← hz] at hd
    have e2 : tot g.nums k + (Pk.enc 8 (g.nums.getD k 0)).length = tot g.nums (k + 1) := by rw [tot_succ _ _ hkl, hmx]
    have hdt : (g.bytes.take i).drop (tot g.nums k) = (Pk.enc 8 (g.nums.getD k 0) ++ z).take (i - tot g.nums k) := by
      rw [List.drop_take]; unfold Gm.bytes; rw [hd]
    rw [ggo, hdt]
    by_cases hc : i < tot g.nums (k + 1)
    · have hlt : i - tot g.nums k < (Pk.enc 8 (g.nums.getD k 0)).length := by omega
      rw [List.take_append_of_le_length (by omega)]
      have hh := enc_high 8 (g.nums.getD k 0) (i - tot g.nums k) hlt hx.1
      have ht : tkv ((Pk.enc 8 (g.nums.getD k 0)).take (i - tot g.nums k)) = (0, 0) := by unfold tkv; rw [lead_high _ hh]; rfl
      have h9 := enc_len_le 8 (g.nums.getD k 0)
      rw [ht, if_pos rfl, fault_high hh (by rw [List.length_take]; omega)]
    · have ht : tkv ((Pk.enc 8 (g.nums.getD k 0) ++ z).take (i - tot g.nums k)) = (g.nums.getD k 0, (Pk.enc 8 (g.nums.getD k 0)).length) := by
        rw [List.take_append, List.take_of_length_le (by omega)]
        unfold tkv
        rw [tk_enc 8 _ _ hx.1 (fits_top _ (by omega))]; rfl
      have hp := enc_len_pos 8 (g.nums.getD k 0)
      rw [ht, if_neg (show ¬ (Pk.enc 8 (g.nums.getD k 0)).length = 0 by omega)]
      have e1 : g.nums.take k ++ [g.nums.getD k 0] = g.nums.take (k + 1) := by
        rw [List.take_succ_eq_append_getElem hkl, List.getD_eq_getElem?_getD, List.getElem?_eq_getElem hkl]; rfl
      show ggo f (g.nums.take k ++ [g.nums.getD k 0]) (tot g.nums k + (Pk.enc 8 (g.nums.getD k 0)).length) (g.bytes.take i) = _
      rw [e1, e2]
      exact ih (k + 1) (by omega) (by omega)
/-- A proper beginning of the fields' bytes is too short. -/
theorem gtake_short {g : Gm} (h : g.Be) (i : Nat) (hi : i < g.bytes.length) : gtake (g.bytes.take i) = (Gm.zero, 0, 30) := by
  have := ggo_short h i hi 0 4 rfl (by rw [tot_zero]; omega)
  rw [tot_zero] at this
  exact this
theorem gfin_cases (g : Gm) (k : Nat) : (g.Be ∧ gfin g k = (g, k, 0)) ∨ gfin g k = (Gm.zero, 0, 31) := by
  unfold gfin
  by_cases h : g.Be
  · exact .inl ⟨h, if_pos h⟩
  · exact .inr (if_neg h)
/-- Of a list of bytes: what Take says it begins with it begins with. -/
theorem gend_cases {l : List Int} (hb : isB l) {x0 x1 x2 x3 : Int} (hx : ∀ x ∈ [x0, x1, x2, x3], 0 ≤ x ∧ x ≤ 9223372036854775807) {a : Nat} (ha : a ≤ l.length) (he : encs [x0, x1, x2, x3] = l.take a) :
    (∃ g : Gm, g.Be ∧ gend [x0, x1, x2, x3] a l = (g, g.bytes.length, 0) ∧ g.bytes.length ≤ l.length ∧ g.bytes = l.take g.bytes.length) ∨ ∃ e, gend [x0, x1, x2, x3] a l = (Gm.zero, 0, e) ∧ (e = 30 ∨ e = 31) := by
  have hea : (encs [x0, x1, x2, x3]).length = a := by rw [he, List.length_take]; omega
  have h3 := hx x3 (by simp)
  unfold gend
  simp only [List.getD_cons_zero, List.getD_cons_succ]
  by_cases h0 : 0 < x3
  · rw [if_pos h0]
    have hbd : isB (l.drop a) := fun c hc => hb c (List.mem_of_mem_drop hc)
    rcases wtake_cases (l.drop a) hbd with ⟨m, hm, hw, hl, hbm⟩ | ⟨e, hw, hee⟩
    · rw [hw, if_pos rfl]
      rcases gfin_cases ⟨x0, x1, x2, x3, m⟩ (a + m.bytes.length) with ⟨hg, hf⟩ | hf
      · have hby : (⟨x0, x1, x2, x3, m⟩ : Gm).bytes = l.take (a + m.bytes.length) := by
          show encs [x0, x1, x2, x3] ++ (if x3 = 0 then [] else m.bytes) = _
          rw [if_neg (by omega), he, List.take_add, ← hbm]
        rw [List.length_drop] at hl
        have hlen : (⟨x0, x1, x2, x3, m⟩ : Gm).bytes.length = a + m.bytes.length := by rw [hby, List.length_take]; omega
        exact .inl ⟨_, hg, by rw [hlen]; exact hf, by omega, by rw [hlen]; exact hby⟩
      · exact .inr ⟨31, hf, .inr rfl⟩
    · rw [hw, if_neg (by show ¬ e = 0; omega)]
      exact .inr ⟨e, rfl, hee⟩
  · rw [if_neg h0]
    rcases gfin_cases ⟨x0, x1, x2, x3, Mg.zero⟩ a with ⟨hg, hf⟩ | hf
    · have hby : (⟨x0, x1, x2, x3, Mg.zero⟩ : Gm).bytes = l.take a := by
        show encs [x0, x1, x2, x3] ++ (if x3 = 0 then [] else _) = _
        rw [if_pos (by omega), he, List.append_nil]
      have hlen : (⟨x0, x1, x2, x3, Mg.zero⟩ : Gm).bytes.length = a := by rw [hby, List.length_take]; omega
      exact .inl ⟨_, hg, by rw [hlen]; exact hf, by omega, by rw [hlen]; exact hby⟩
    · exact .inr ⟨31, hf, .inr rfl⟩
theorem ggo_cases {l : List Int} (hb : isB l) : ∀ f xs a, f + xs.length = 4 → (∀ x ∈ xs, 0 ≤ x ∧ x ≤ 9223372036854775807) → a ≤ l.length → encs xs = l.take a →
    (∃ g : Gm, g.Be ∧ ggo f xs a l = (g, g.bytes.length, 0) ∧ g.bytes.length ≤ l.length ∧ g.bytes = l.take g.bytes.length) ∨ ∃ e, ggo f xs a l = (Gm.zero, 0, e) ∧ (e = 30 ∨ e = 31) := by
  intro f
  induction f with
  | zero =>
    intro xs a hf hx ha he
    match xs, hf with
    | [x0, x1, x2, x3], _ => exact gend_cases hb hx ha he
  | succ f ih =>
    intro xs a hf hx ha he
    have hbd : isB (l.drop a) := fun c hc => hb c (List.mem_of_mem_drop hc)
    rw [ggo]
    rcases tkv_cases (l.drop a) hbd with h | ⟨y, j, h, y0, y1, j1, j2, j3, hy⟩
    · rw [h, if_pos rfl]
      exact .inr ⟨_, rfl, fault_any _⟩
    · rw [h, if_neg (show ¬ j = 0 by omega)]
      rw [List.length_drop] at j2
      refine ih (xs ++ [y]) (a + j) (by simp; omega) (fun x hx' => ?_) (by omega) ?_
      · rcases List.mem_append.1 hx' with hx' | hx'
        · exact hx x hx'
        · obtain rfl : x = y := by simpa using hx'
          exact ⟨y0, y1⟩
      · have e : encs (xs ++ [y]) = encs xs ++ Pk.enc 8 y := by unfold encs; rw [List.flatMap_append]; simp [Int.max_eq_left y0]
        rw [e, he, hy, List.take_add]
/-- What Take answers: a datagram with its very bytes, or an error alone. -/
theorem gtake_cases (l : List Int) (hb : isB l) : (∃ g : Gm, g.Be ∧ gtake l = (g, g.bytes.length, 0) ∧ g.bytes.length ≤ l.length ∧ g.bytes = l.take g.bytes.length) ∨ ∃ e, gtake l = (Gm.zero, 0, e) ∧ (e = 30 ∨ e = 31) :=
  ggo_cases hb 4 [] 0 rfl (fun x hx => by cases hx) (by omega) rfl
theorem gbytes_pos {g : Gm} : 4 ≤ g.bytes.length := by
  have h1 := enc_len_pos 8 (max g.f 0)
  have h2 := enc_len_pos 8 (max g.t 0)
  have h3 := enc_len_pos 8 (max g.a 0)
  have h4 := enc_len_pos 8 (max g.s 0)
  have e : g.bytes.length = (Pk.enc 8 (max g.f 0)).length + ((Pk.enc 8 (max g.t 0)).length + ((Pk.enc 8 (max g.a 0)).length + ((Pk.enc 8 (max g.s 0)).length + g.tail.length))) := by
    unfold Gm.bytes Gm.nums encs
    simp only [List.flatMap_cons, List.flatMap_nil, List.length_append, List.length_nil]
    omega
  omega
/-- Unlike datagrams: neither's fields' bytes are the beginning of the other's. -/
theorem gbytes_apart {g h : Gm} (hg : g.Be) (hh : h.Be) (n : Nat) (hn : n = min g.bytes.length h.bytes.length) : g.bytes.take n = h.bytes.take n ↔ g = h := by
  refine ⟨fun e => ?_, fun e => by rw [e]⟩
  rcases Nat.le_total g.bytes.length h.bytes.length with hle | hle
  · have h1 : h.bytes = g.bytes ++ h.bytes.drop g.bytes.length := by
      rw [Nat.min_eq_left hle] at hn
      rw [hn, List.take_length] at e
      conv => rhs; arg 1; rw [e]
      rw [List.take_append_drop]
    have h2 := gtake_put hg (h.bytes.drop g.bytes.length)
    have h3 := gtake_put hh []
    rw [List.append_nil] at h3
    rw [← h1, h3] at h2
    exact (Prod.mk.inj h2).1.symm
  · have h1 : g.bytes = h.bytes ++ g.bytes.drop h.bytes.length := by
      rw [Nat.min_eq_right hle] at hn
      rw [hn, List.take_length] at e
      conv => rhs; arg 1; rw [← e]
      rw [List.take_append_drop]
    have h2 := gtake_put hh (g.bytes.drop h.bytes.length)
    have h3 := gtake_put hg []
    rw [List.append_nil] at h3
    rw [← h1, h3] at h2
    exact (Prod.mk.inj h2).1
theorem gbytes_inj {g h : Gm} (hg : g.Be) (hh : h.Be) (e : g.bytes = h.bytes) : g = h := (gbytes_apart hg hh _ rfl).1 (by rw [e])
end Go.Proofs.YtmegpbejknmjbaaDoor.Pk
