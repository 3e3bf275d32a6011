/- A datagram's bytes with their sum: there and back; bytes turned in up to four neighbouring places are told. -/
import Derived.Test.YtmegpbejknmjbaaDoorGmMath
import Derived.Test.YtmegpbejknmjbaaDoorFrMath
namespace Go.Proofs.YtmegpbejknmjbaaDoor.Pk
open Go.Proofs.YtmegpbejknmjbaaDoor.Crc
set_option linter.unusedVariables false
def Gm.all (g : Gm) : List Int := g.bytes ++ Fr.le4 (crc 0 g.bytes)
/-- What Encode answers: the bytes, the error. -/
def genc (g : Gm) : List Int × Int := if g.Be then (g.all, 0) else ([], 1)
/-- What Decode answers. -/
def gdec (l : List Int) : Gm × Int :=
  if l.length < 4 then (Gm.zero, 30) else if Fr.le4 (crc 0 (l.take (l.length - 4))) = l.drop (l.length - 4) then
    (if (gtake (l.take (l.length - 4))).2.2 = 0 ∧ (gtake (l.take (l.length - 4))).2.1 = l.length - 4 then ((gtake (l.take (l.length - 4))).1, 0) else (Gm.zero, 31))
  else (Gm.zero, 32)
theorem gall_len (g : Gm) : g.all.length = g.bytes.length + 4 := by unfold Gm.all; rw [List.length_append]; rfl
theorem isB_of (l : List Int) : Bytes l ↔ isB l := Iff.rfl
theorem isB_gall {g : Gm} (h : g.Be) : isB g.all := isB_app (isB_gbytes h) (Fr.le4_bytes _)
theorem gdec_all {g : Gm} (h : g.Be) : gdec g.all = (g, 0) := by
  have e : g.all.length - 4 = g.bytes.length := by rw [gall_len]; omega
  have e1 : g.all.take g.bytes.length = g.bytes := by unfold Gm.all; rw [List.take_left]
  have e2 : g.all.drop g.bytes.length = Fr.le4 (crc 0 g.bytes) := by unfold Gm.all; rw [List.drop_left]
  have e3 := gtake_put h []
  rw [List.append_nil] at e3
  unfold gdec
  rw [if_neg (by rw [gall_len]; omega), e, e1, e2, if_pos rfl, e3, if_pos ⟨rfl, rfl⟩]
/-- What Decode answers: a datagram with its very bytes, or an error alone. -/
theorem gdec_cases (l : List Int) (hb : isB l) : (∃ g : Gm, g.Be ∧ gdec l = (g, 0) ∧ l = g.all) ∨ ∃ e, gdec l = (Gm.zero, e) ∧ (e = 30 ∨ e = 31 ∨ e = 32) := by
  unfold gdec
  by_cases h4 : l.length < 4
  · rw [if_pos h4]; exact .inr ⟨_, rfl, .inl rfl⟩
  rw [if_neg h4]
  by_cases hs : Fr.le4 (crc 0 (l.take (l.length - 4))) = l.drop (l.length - 4)
  · rw [if_pos hs]
    have hbt : isB (l.take (l.length - 4)) := fun c hc => hb c (List.mem_of_mem_take hc)
    rcases gtake_cases _ hbt with ⟨g, hg, ht, hl, he⟩ | ⟨e, ht, he⟩
    · rw [ht]
      by_cases hk : g.bytes.length = l.length - 4
      · rw [if_pos ⟨rfl, hk⟩]
        refine .inl ⟨g, hg, rfl, ?_⟩
        rw [hk, List.take_take, Nat.min_self] at he
        unfold Gm.all
        rw [he, hs, List.take_append_drop]
      · rw [if_neg (fun h => hk h.2)]
        exact .inr ⟨_, rfl, .inr (.inl rfl)⟩
    · rw [ht, if_neg (fun h => by have h1 : e = 0 := h.1; omega)]
      exact .inr ⟨_, rfl, .inr (.inl rfl)⟩
  · rw [if_neg hs]; exact .inr ⟨_, rfl, .inr (.inr rfl)⟩
theorem gall_inj {g h : Gm} (hg : g.Be) (hh : h.Be) (e : g.all = h.all) : g = h := by
  have h1 := gdec_all hg
  have h2 := gdec_all hh
  rw [e, h2] at h1
  exact (Prod.mk.inj h1).1.symm

theorem xor_add (c x : Nat) (hc : c < 256) : c ^^^ 256 * x = c + 256 * x := by
  have h1 : (c ^^^ 256 * x) / 256 = x := by
    have := Nat.xor_div_two_pow (a := c) (b := 256 * x) (n := 8)
    rw [show 2 ^ 8 = 256 from rfl] at this
    rw [this, show 256 * x / 256 = x by omega, show c / 256 = 0 by omega, Nat.zero_xor]
  have h2 : (c ^^^ 256 * x) % 256 = c := by
    have := Nat.xor_mod_two_pow (a := c) (b := 256 * x) (n := 8)
    rw [show 2 ^ 8 = 256 from rfl] at this
    rw [this, show 256 * x % 256 = 0 by omega, show c % 256 = c by omega, Nat.xor_zero]
  omega
theorem le_le4 {n : Nat} (h : n < 4294967296) : le (Fr.le4 n) = n := by
  unfold Fr.le4
  simp only [le, Int.toNat_natCast]
  rw [Nat.mul_zero, Nat.xor_zero, xor_add _ _ (by omega), xor_add _ _ (by omega), xor_add _ _ (by omega)]
  omega
theorem mul_xor (a b : Nat) : 256 * (a ^^^ b) = 256 * a ^^^ 256 * b := by
  have := Nat.shiftLeft_xor_distrib (a := a) (b := b) (i := 8)
  simp only [Nat.shiftLeft_eq] at this
  rw [show 2 ^ 8 = 256 from rfl] at this
  rw [Nat.mul_comm 256, Nat.mul_comm 256 a, Nat.mul_comm 256 b]
  exact this
theorem le_mix {l r : List Int} (h : l.length = r.length) : le (mix l r) = le l ^^^ le r := by
  induction l generalizing r with
  | nil =>
    cases r with
    | nil => rfl
    | cons y r => cases h
  | cons x l ih =>
    cases r with
    | nil => cases h
    | cons y r =>
      show (((x.toNat ^^^ y.toNat : Nat) : Int)).toNat ^^^ 256 * le (mix l r) = (x.toNat ^^^ 256 * le l) ^^^ (y.toNat ^^^ 256 * le r)
      rw [Int.toNat_natCast, ih (by simpa using h), mul_xor, xor_ac]
theorem mix_take (l r : List Int) (k : Nat) : (mix l r).take k = mix (l.take k) (r.take k) := List.take_zipWith
theorem mix_drop (l r : List Int) (k : Nat) : (mix l r).drop k = mix (l.drop k) (r.drop k) := List.drop_zipWith
theorem mix_none {l : List Int} (h : Bytes l) {r : List Int} (hr : Clear r) (e : r.length = l.length) : mix l r = l := by
  have : r = List.replicate l.length 0 := List.eq_replicate_iff.2 ⟨e, hr⟩
  rw [this]; exact mix_zero h
/-- Bytes turned in up to four neighbouring places are told. -/
theorem gdec_turned {g : Gm} (h : g.Be) {p : Nat} {ms : List Int} (hp : p ≤ g.all.length) (hm : Bytes ms) (h4 : ms.length ≤ 4) :
    gdec (mix g.all (turns g.all.length p ms)) = if some1 (turns g.all.length p ms) = true then (Gm.zero, 32) else (g, 0) := by
  obtain ⟨T, hT⟩ : ∃ T, T = turns g.all.length p ms := ⟨_, rfl⟩
  have hTl : T.length = g.all.length := by rw [hT, turns_length]
  have hTt : run 0 T = 0 ↔ Clear T := by rw [hT]; exact turns_tells hp hm h4
  have hTb : Bytes T := by
    rw [hT, turns_split hp]
    have hz : ∀ n, Bytes (List.replicate n 0) := fun n x hx => by have := clear_zeros _ x hx; omega
    exact (hz _).app ((hm.take _).app (hz _))
  rw [← hT]
  have hbb := isB_gbytes h
  have hba := isB_gall h
  by_cases hs : some1 T = true
  · rw [if_pos hs]
    have hnc : ¬ Clear T := fun hc => by rw [(some1_clear T).2 hc] at hs; cases hs
    have hml : (mix g.all T).length = g.bytes.length + 4 := by rw [mix_length hTl.symm, gall_len]
    unfold gdec
    rw [if_neg (by omega), show (mix g.all T).length - 4 = g.bytes.length by omega, if_neg]
    intro e
    apply hnc
    rw [← hTt]
    rw [mix_take, mix_drop] at e
    have e1 : g.all.take g.bytes.length = g.bytes := by unfold Gm.all; rw [List.take_left]
    have e2 : g.all.drop g.bytes.length = Fr.le4 (crc 0 g.bytes) := by unfold Gm.all; rw [List.drop_left]
    rw [e1, e2] at e
    have hUl : g.bytes.length = (T.take g.bytes.length).length := by rw [List.length_take, hTl, gall_len]; omega
    have hVl : (Fr.le4 (crc 0 g.bytes)).length = (T.drop g.bytes.length).length := by rw [List.length_drop, hTl, gall_len]; show 4 = _; omega
    have hc1 : crc 0 (mix g.bytes (T.take g.bytes.length)) = crc 0 g.bytes ^^^ run 0 (T.take g.bytes.length) := by
      have := run_mix hUl (inv 0) 0
      rw [Nat.xor_zero] at this
      unfold crc
      rw [this, inv_eq (run (inv 0) g.bytes ^^^ _), inv_eq (run (inv 0) g.bytes), Nat.xor_assoc]
    have hlt : crc 0 g.bytes < 4294967296 := crc_lt hbb (by omega)
    have hlt2 : crc 0 (mix g.bytes (T.take g.bytes.length)) < 4294967296 := crc_lt (bytes_mix hbb (hTb.take _)) (by omega)
    have e3 := congrArg le e
    rw [le_mix hVl, le_le4 hlt2, le_le4 hlt, hc1] at e3
    have e4 : run 0 (T.take g.bytes.length) = le (T.drop g.bytes.length) := by
      have := congrArg (fun x => crc 0 g.bytes ^^^ x) e3
      simp only [xor_back] at this
      exact this
    have e5 : run 0 T = run (run 0 (T.take g.bytes.length)) (T.drop g.bytes.length) := by rw [← run_append, List.take_append_drop]
    rw [e5, run_le _ (hTb.drop _), e4, Nat.xor_self]
    generalize (T.drop g.bytes.length).length = n
    induction n with
    | zero => rfl
    | succ n ih => exact ih
  · rw [if_neg hs]
    have hc : Clear T := (some1_clear T).1 (by cases h1 : some1 T; rfl; exact absurd h1 hs)
    rw [mix_none hba hc hTl, gdec_all h]
end Go.Proofs.YtmegpbejknmjbaaDoor.Pk
