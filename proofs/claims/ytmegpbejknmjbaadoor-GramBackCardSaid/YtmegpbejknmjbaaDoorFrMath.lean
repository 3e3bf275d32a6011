/- Frames: a payload's bytes, what bytes begin with, the good frames of bytes; plain mathematics. -/
import Derived.Test.YtmegpbejknmjbaaDoorCrcMath
namespace Go.Proofs.YtmegpbejknmjbaaDoor.Fr
open Go.Proofs.YtmegpbejknmjbaaDoor.Crc
set_option linter.unusedVariables false

/-- A number in four bytes, the lowest first. -/
def le4 (n : Nat) : List Int := [((n % 256 : Nat) : Int), ((n / 256 % 256 : Nat) : Int), ((n / 65536 % 256 : Nat) : Int), ((n / 16777216 % 256 : Nat) : Int)]
/-- The number of the first four bytes. -/
def num4 (b : List Int) : Nat := (b.getD 0 0).toNat + 256 * ((b.getD 1 0).toNat + 256 * ((b.getD 2 0).toNat + 256 * (b.getD 3 0).toNat))
@[simp] theorem le4_length (n : Nat) : (le4 n).length = 4 := rfl
theorem num4_le4 {n : Nat} (h : n < 4294967296) (r : List Int) : num4 (le4 n ++ r) = n := by
  unfold num4 le4
  simp
  omega
theorem le4_bytes (n : Nat) : Bytes (le4 n) := by
  intro x hx
  unfold le4 at hx
  simp at hx
  rcases hx with rfl | rfl | rfl | rfl <;> omega
theorem le4_inj {a b : Nat} (ha : a < 4294967296) (hb : b < 4294967296) (h : le4 a = le4 b) : a = b := by
  have h1 := num4_le4 ha []
  have h2 := num4_le4 hb []
  rw [h] at h1
  omega
theorem bytes_app {a b : List Int} : Bytes (a ++ b) ↔ Bytes a ∧ Bytes b :=
  ⟨fun h => ⟨fun x hx => h x (List.mem_append_left _ hx), fun x hx => h x (List.mem_append_right _ hx)⟩, fun h => h.1.app h.2⟩

/-- A frame's sum; the frame. -/
def fsum (p : List Int) : Nat := crc 0 (le4 p.length ++ p)
def enc (p : List Int) : List Int := le4 p.length ++ (le4 (fsum p) ++ p)
@[simp] theorem enc_length (p : List Int) : (enc p).length = 8 + p.length := by simp [enc]; omega
theorem enc_bytes {p : List Int} (h : Bytes p) : Bytes (enc p) := (le4_bytes _).app ((le4_bytes _).app h)
theorem fsum_lt {p : List Int} (h : Bytes p) : fsum p < 4294967296 := crc_lt ((le4_bytes _).app h) (by omega)
theorem enc_drop (p : List Int) : (enc p).drop 8 = p := rfl
theorem num4_enc {p r : List Int} (h : p.length ≤ 1048576) : num4 (enc p ++ r) = p.length := by
  unfold enc
  rw [List.append_assoc]
  exact num4_le4 (by omega) _
theorem num4_pre {p b : List Int} (h : p.length ≤ 1048576) (hp : enc p <+: b) : num4 b = p.length := by
  obtain ⟨r, rfl⟩ := hp
  exact num4_enc h
/-- Two frames with which the same bytes begin. -/
theorem enc_one {p q b : List Int} (hp : p.length ≤ 1048576) (hq : q.length ≤ 1048576) (h1 : enc p <+: b) (h2 : enc q <+: b) : p = q := by
  have e : p.length = q.length := (num4_pre hp h1).symm.trans (num4_pre hq h2)
  have h3 : enc p = enc q := (List.prefix_of_prefix_length_le h1 h2 (by simp; omega)).eq_of_length (by simp; omega)
  rw [← enc_drop p, h3, enc_drop]

/-- The payload of the frame with which bytes begin. -/
def fst (b : List Int) : Option (List Int) :=
  if 8 ≤ b.length ∧ num4 b ≤ 1048576 ∧ num4 b + 8 ≤ b.length ∧ b.take (8 + num4 b) = enc ((b.drop 8).take (num4 b)) then some ((b.drop 8).take (num4 b)) else none
theorem fst_some {b p : List Int} : fst b = some p ↔ p.length ≤ 1048576 ∧ enc p <+: b := by
  constructor
  · intro h
    unfold fst at h
    split at h
    · rename_i hc
      obtain ⟨h1, h2, h3, h4⟩ := hc
      injection h with h
      subst h
      refine ⟨by rw [List.length_take, List.length_drop]; omega, ?_⟩
      rw [← h4]
      exact List.take_prefix _ _
    · cases h
  · rintro ⟨h1, h2⟩
    have hn := num4_pre h1 h2
    obtain ⟨r, rfl⟩ := h2
    unfold fst
    rw [hn]
    have e1 : ((enc p ++ r).drop 8).take p.length = p := by
      have : (enc p ++ r).drop 8 = p ++ r := rfl
      rw [this, List.take_left]
    have e2 : (enc p ++ r).take (8 + p.length) = enc p := by
      rw [← enc_length p, List.take_left]
    rw [e1, e2, if_pos ⟨by simp; omega, h1, by simp; omega, rfl⟩]
theorem fst_none {b : List Int} (h : ∀ p : List Int, p.length ≤ 1048576 → ¬ enc p <+: b) : fst b = none := by
  cases e : fst b with
  | none => rfl
  | some p =>
    have := fst_some.1 e
    exact absurd this.2 (h p this.1)
theorem fst_len {b p : List Int} (h : fst b = some p) : 8 + p.length ≤ b.length := by
  have := (fst_some.1 h).2.length_le
  simpa using this

/-- Frames one behind the other. -/
def encs (ps : List (List Int)) : List Int := ps.flatMap enc
def Fit (ps : List (List Int)) : Prop := ∀ p ∈ ps, p.length ≤ 1048576
@[simp] theorem encs_nil : encs [] = [] := rfl
theorem encs_cons (p : List Int) (ps : List (List Int)) : encs (p :: ps) = enc p ++ encs ps := rfl
theorem encs_app (ps qs : List (List Int)) : encs (ps ++ qs) = encs ps ++ encs qs := List.flatMap_append ..
theorem encs_snoc (ps : List (List Int)) (p : List Int) : encs (ps ++ [p]) = encs ps ++ enc p := by rw [encs_app, encs_cons, encs_nil, List.append_nil]
theorem encs_bytes {ps : List (List Int)} (h : ∀ p ∈ ps, Bytes p) : Bytes (encs ps) := by
  intro x hx
  obtain ⟨p, hp, hx⟩ := List.mem_flatMap.1 hx
  exact enc_bytes (h p hp) x hx

/-- The good frames of bytes. -/
def frN : Nat → List Int → List (List Int)
  | 0, _ => []
  | k + 1, b => match fst b with
    | none => []
    | some p => p :: frN k (b.drop (8 + p.length))
def frames (b : List Int) : List (List Int) := frN b.length b
def fend (b : List Int) : Nat := (encs (frames b)).length
theorem frN_more : ∀ (k m : Nat) (b : List Int), b.length ≤ k → b.length ≤ m → frN k b = frN m b
  | 0, 0, b, _, _ => rfl
  | 0, m + 1, b, h, _ => by
    obtain rfl : b = [] := List.length_eq_zero_iff.1 (by omega)
    have : fst [] = none := by unfold fst; rw [if_neg (fun h => by have := h.1; simp at this)]
    simp [frN, this]
  | k + 1, 0, b, _, h => by
    obtain rfl : b = [] := List.length_eq_zero_iff.1 (by omega)
    have : fst [] = none := by unfold fst; rw [if_neg (fun h => by have := h.1; simp at this)]
    simp [frN, this]
  | k + 1, m + 1, b, h1, h2 => by
    unfold frN
    cases e : fst b with
    | none => rfl
    | some p =>
      have := fst_len e
      show p :: frN k _ = p :: frN m _
      rw [frN_more k m (b.drop (8 + p.length)) (by rw [List.length_drop]; omega) (by rw [List.length_drop]; omega)]
theorem frames_stop {b : List Int} (h : fst b = none) : frames b = [] := by
  unfold frames
  cases e : b.length with
  | zero => rfl
  | succ k => unfold frN; rw [h]
theorem frames_step {b p : List Int} (h : fst b = some p) : frames b = p :: frames (b.drop (8 + p.length)) := by
  have hl := fst_len h
  unfold frames
  cases e : b.length with
  | zero => omega
  | succ k =>
    rw [frN, h]
    show p :: frN k _ = p :: frN _ _
    rw [frN_more k _ _ (by rw [List.length_drop]; omega) (Nat.le_refl _)]
theorem frames_app {ps : List (List Int)} (h : Fit ps) (t : List Int) : frames (encs ps ++ t) = ps ++ frames t := by
  induction ps with
  | nil => rfl
  | cons p ps ih =>
    have hp := h p (by simp)
    have h1 : fst (encs (p :: ps) ++ t) = some p := fst_some.2 ⟨hp, by rw [encs_cons, List.append_assoc]; exact List.prefix_append _ _⟩
    rw [frames_step h1, encs_cons, List.append_assoc, ← enc_length p, List.drop_left, ih (fun q hq => h q (by simp [hq]))]
    rfl
theorem frames_all {ps : List (List Int)} (h : Fit ps) : frames (encs ps) = ps := by
  have h1 := frames_app h []
  have : fst [] = none := by unfold fst; rw [if_neg (fun h => by have := h.1; simp at this)]
  rw [List.append_nil, frames_stop this, List.append_nil] at h1
  exact h1
/-- Bytes are their good frames, and something with which no frame begins. -/
theorem frames_spec : ∀ (k : Nat) (b : List Int), b.length ≤ k → ∃ t, b = encs (frames b) ++ t ∧ Fit (frames b) ∧ fst t = none
  | 0, b, h => by
    obtain rfl : b = [] := List.length_eq_zero_iff.1 (by omega)
    have : fst [] = none := by unfold fst; rw [if_neg (fun h => by have := h.1; simp at this)]
    exact ⟨[], by rw [frames_stop this]; rfl, by rw [frames_stop this]; exact (fun p hp => by simp at hp), this⟩
  | k + 1, b, h => by
    cases e : fst b with
    | none => exact ⟨b, by rw [frames_stop e]; rfl, by rw [frames_stop e]; exact (fun p hp => by simp at hp), e⟩
    | some p =>
      have hl := fst_len e
      obtain ⟨h1, r, h2⟩ := fst_some.1 e
      obtain ⟨t, ht, hf, hn⟩ := frames_spec k (b.drop (8 + p.length)) (by rw [List.length_drop]; omega)
      refine ⟨t, ?_, ?_, hn⟩
      · rw [frames_step e, encs_cons, List.append_assoc, ← ht, ← h2, ← enc_length p, List.drop_left]
      · rw [frames_step e]
        intro q hq
        rcases List.mem_cons.1 hq with rfl | hq
        · exact h1
        · exact hf q hq
theorem frames_fit (b : List Int) : Fit (frames b) := by
  obtain ⟨t, _, h, _⟩ := frames_spec b.length b (Nat.le_refl _)
  exact h
theorem fend_le (b : List Int) : fend b ≤ b.length := by
  obtain ⟨t, h, _, _⟩ := frames_spec b.length b (Nat.le_refl _)
  have := congrArg List.length h
  unfold fend
  rw [List.length_append] at this
  omega
/-- Where the frame at a place begins. -/
def atN (b : List Int) (i : Nat) : Nat := (encs ((frames b).take i)).length
theorem atN_le (b : List Int) (i : Nat) : atN b i ≤ b.length := by
  obtain ⟨t, h, _, _⟩ := frames_spec b.length b (Nat.le_refl _)
  have h1 := congrArg List.length h
  have h2 := congrArg List.length (congrArg encs (List.take_append_drop i (frames b)))
  rw [encs_app, List.length_append] at h2
  unfold atN
  rw [List.length_append] at h1
  omega
theorem atN_zero (b : List Int) : atN b 0 = 0 := rfl
theorem atN_all (b : List Int) : atN b (frames b).length = fend b := by unfold atN fend; rw [List.take_length]
theorem atN_drop (b : List Int) (i : Nat) : ∃ t, b.drop (atN b i) = encs ((frames b).drop i) ++ t ∧ fst t = none := by
  obtain ⟨t, h, _, hn⟩ := frames_spec b.length b (Nat.le_refl _)
  refine ⟨t, ?_, hn⟩
  have h2 : encs (frames b) = encs ((frames b).take i) ++ encs ((frames b).drop i) := by rw [← encs_app, List.take_append_drop]
  have h3 : b = encs ((frames b).take i) ++ (encs ((frames b).drop i) ++ t) := by rw [← List.append_assoc, ← h2]; exact h
  unfold atN
  conv => lhs; rw [h3]
  rw [List.drop_append_of_le_length (by rw [← h3]; exact Nat.le_refl _), List.drop_of_length_le (by rw [← h3]; exact Nat.le_refl _), List.nil_append]
theorem at_more {b p : List Int} {i : Nat} (h : (frames b)[i]? = some p) : fst (b.drop (atN b i)) = some p ∧ atN b (i + 1) = atN b i + (8 + p.length) := by
  have hi : i < (frames b).length := by
    rcases Nat.lt_or_ge i (frames b).length with h1 | h1
    · exact h1
    · rw [List.getElem?_eq_none h1] at h; cases h
  have hg : (frames b)[i] = p := by rw [List.getElem?_eq_getElem hi] at h; injection h
  obtain ⟨t, h1, _⟩ := atN_drop b i
  refine ⟨fst_some.2 ⟨frames_fit b p (List.mem_of_getElem? h), ?_⟩, ?_⟩
  · rw [h1, List.drop_eq_getElem_cons hi, hg, encs_cons, List.append_assoc]
    exact List.prefix_append _ _
  · unfold atN
    rw [List.take_succ_eq_append_getElem hi, hg, encs_snoc, List.length_append, enc_length]
theorem at_end (b : List Int) : fst (b.drop (fend b)) = none := by
  obtain ⟨t, h1, h2⟩ := atN_drop b (frames b).length
  rw [atN_all, List.drop_length] at h1
  rw [h1]
  exact h2

/-- A frame cut short is none. -/
theorem cut_none {p : List Int} {k : Nat} (hp : p.length ≤ 1048576) (hk : k < (enc p).length) : fst ((enc p).take k) = none := by
  refine fst_none fun q hq h => ?_
  have h1 := h.trans (List.take_prefix k (enc p))
  have e := enc_one hq hp h1 (List.prefix_refl _)
  subst e
  have := h.length_le
  rw [List.length_take] at this
  omega
/-- One byte that is turned turns the sum. -/
theorem crc_byte {a z : List Int} {c c' : Int} (ha : Bytes a) (hz : Bytes z) (hc : 0 ≤ c ∧ c ≤ 255) (hc' : 0 ≤ c' ∧ c' ≤ 255) (h : crc 0 (a ++ c :: z) = crc 0 (a ++ c' :: z)) : c = c' := by
  have h1 := inv_inj h
  rw [run_append, run_append] at h1
  have hr := run_lt ha (inv_lt (show 0 < 4294967296 by omega))
  have h2 : sh8 (run (inv 0) a ^^^ c.toNat) = sh8 (run (inv 0) a ^^^ c'.toNat) := run_apart z (sh8_lt (xor_lt hr (by omega))) (sh8_lt (xor_lt hr (by omega))) hz h1
  have h3 : sh8 ((run (inv 0) a ^^^ c.toNat) ^^^ (run (inv 0) a ^^^ c'.toNat)) = 0 := by rw [sh8_xor, h2, Nat.xor_self]
  have h4 := sh8_none (xor_lt (xor_lt hr (by omega)) (xor_lt hr (by omega))) h3
  have h5 := xor_zero_eq h4
  have h6 : c.toNat = c'.toNat := by
    have := congrArg (fun x => run (inv 0) a ^^^ x) h5
    simp only [xor_back] at this
    exact this
  omega
/-- A frame one of whose bytes behind the length is turned is none. -/
theorem spoilt_none {p r : List Int} {k : Nat} {c : Int} (hp : p.length ≤ 1048576) (hb : Bytes p) (hk : k < 4 + p.length) (hc : 0 ≤ c ∧ c ≤ 255) (hne : (enc p).getD (4 + k) 0 ≠ c) : fst ((enc p).set (4 + k) c ++ r) = none := by
  refine fst_none fun q hq h => ?_
  have e0 : (enc p).set (4 + k) c = le4 p.length ++ (le4 (fsum p) ++ p).set k c := by
    unfold enc
    rw [List.set_append_right _ _ (by simp)]
    simp
  have hn : num4 ((enc p).set (4 + k) c ++ r) = p.length := by rw [e0, List.append_assoc]; exact num4_le4 (by omega) _
  have hl : q.length = p.length := (num4_pre hq h).symm.trans hn
  have he : enc q = (enc p).set (4 + k) c := by
    have h1 := (List.prefix_of_prefix_length_le h (List.prefix_append _ _) (by simp; omega)).eq_of_length (by simp; omega)
    exact h1
  rw [e0] at he
  unfold enc at he
  rw [hl] at he
  have h1 := List.append_cancel_left he
  have hg : (le4 (fsum p) ++ p).getD k 0 ≠ c := by
    unfold enc at hne
    rw [List.getD_eq_getElem?_getD, List.getElem?_append_right (by simp)] at hne
    rw [List.getD_eq_getElem?_getD]
    simpa using hne
  by_cases h4 : k < 4
  · rw [List.set_append_left _ _ (by simpa using h4)] at h1
    have h2 := List.append_inj h1 (by simp)
    have hqp : q = p := h2.2
    subst hqp
    have h3 := h2.1
    apply hg
    rw [List.getD_eq_getElem?_getD, List.getElem?_append_left (by simpa using h4)]
    rw [h3, List.getElem?_set_self (by simpa using h4)]
    rfl
  · rw [List.set_append_right _ _ (by simp; omega)] at h1
    have h2 := List.append_inj h1 (by simp)
    rw [le4_length] at h2
    obtain ⟨j, rfl⟩ : ∃ j, k = 4 + j := ⟨k - 4, by omega⟩
    rw [show 4 + j - 4 = j by omega] at h2
    have hj : j < p.length := by omega
    have hqb : Bytes q := by
      rw [h2.2]
      intro x hx
      rcases List.mem_or_eq_of_mem_set hx with h5 | rfl
      · exact hb x h5
      · exact hc
    have hs := le4_inj (fsum_lt hqb) (fsum_lt hb) h2.1
    unfold fsum at hs
    rw [hl] at hs
    have ep : p = p.take j ++ p[j] :: p.drop (j + 1) := by
      rw [← List.drop_eq_getElem_cons hj, List.take_append_drop]
    have eq' : q = p.take j ++ c :: p.drop (j + 1) := by
      rw [h2.2, List.set_eq_take_append_cons_drop, if_pos hj]
    have hpj : 0 ≤ p[j] ∧ p[j] ≤ 255 := hb _ (List.getElem_mem hj)
    have hs2 : crc 0 ((le4 p.length ++ p.take j) ++ c :: p.drop (j + 1)) = crc 0 ((le4 p.length ++ p.take j) ++ p[j] :: p.drop (j + 1)) := by
      rw [List.append_assoc, List.append_assoc, ← ep, ← eq']
      exact hs
    have := crc_byte ((le4_bytes _).app (hb.take j)) (hb.drop (j + 1)) hc hpj hs2
    apply hg
    rw [List.getD_eq_getElem?_getD, List.getElem?_append_right (by simp), le4_length, show 4 + j - 4 = j by omega, List.getElem?_eq_getElem hj]
    exact this.symm
end Go.Proofs.YtmegpbejknmjbaaDoor.Fr
