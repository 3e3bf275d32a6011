/- Plain mathematics: numbers that are put one behind the other are gone over in their order. -/
import Derived.Test.YtneijohbmphheaaPackNumsMath
namespace Go.Proofs.Ytneijohbmphheaa.Pk

/-- How many bytes the first k numbers have. -/
def tot (xs : List Int) (k : Nat) : Nat := (encs (xs.take k)).length
def chain (xs : List Int) (k : Nat) : List (Nat × Int) := (List.range k).map fun i => (tot xs i, max (xs.getD i 0) 0)
theorem chain_len (xs : List Int) (k : Nat) : (chain xs k).length = k := by simp [chain]
theorem chain_succ (xs : List Int) (k : Nat) : chain xs (k + 1) = chain xs k ++ [(tot xs k, max (xs.getD k 0) 0)] := by simp [chain, List.range_succ]
theorem tot_zero (xs : List Int) : tot xs 0 = 0 := by simp [tot, encs]
theorem tot_succ (xs : List Int) (k : Nat) (h : k < xs.length) : tot xs (k + 1) = tot xs k + (enc 8 (max (xs.getD k 0) 0)).length := by
  unfold tot; rw [encs_snoc xs k h, List.length_append]
theorem tot_le (xs : List Int) (k : Nat) : tot xs k ≤ 9 * k := by
  unfold tot
  have h1 := encs_len (xs.take k)
  have h2 := List.length_take_le k xs
  omega

theorem encs_drop (xs : List Int) (r : List Int) (k : Nat) (h : k < xs.length) : (encs xs ++ r).drop (tot xs k) = enc 8 (max (xs.getD k 0) 0) ++ (encs (xs.drop (k + 1)) ++ r) := by
  have e : encs xs = encs (xs.take k) ++ encs (xs.drop k) := by
    unfold encs; rw [← List.flatMap_append, List.take_append_drop]
  have e2 : encs (xs.drop k) = enc 8 (max (xs.getD k 0) 0) ++ encs (xs.drop (k + 1)) := by
    rw [List.drop_eq_getElem_cons h, List.getD_eq_getElem?_getD, List.getElem?_eq_getElem h]; rfl
  rw [e, List.append_assoc]
  unfold tot
  rw [List.drop_left, e2, List.append_assoc]

theorem chain_ahead (xs r : List Int) (hx : ∀ x ∈ xs, x ≤ 9223372036854775807) : ∀ k, k ≤ xs.length → Ahead (encs xs ++ r) (chain xs k) (tot xs k) := by
  intro k
  induction k with
  | zero => intro _; rw [tot_zero]; exact ahead_start _
  | succ k ih =>
    intro hk
    have h := ih (by omega)
    have hd := encs_drop xs r k (by omega)
    have hm : xs.getD k 0 ∈ xs := by rw [List.getD_eq_getElem?_getD, List.getElem?_eq_getElem (by omega)]; exact List.getElem_mem _
    have ht : tkv ((encs xs ++ r).drop (tot xs k)) = (max (xs.getD k 0) 0, (enc 8 (max (xs.getD k 0) 0)).length) := by
      rw [hd]
      unfold tkv
      rw [tk_enc 8 _ _ (by omega) (fits_top _ (by have := hx _ hm; omega))]; rfl
    have hp := enc_len_pos 8 (max (xs.getD k 0) 0)
    have := ahead_more h (by rw [ht]; show (enc 8 (max (xs.getD k 0) 0)).length ≠ 0; omega) (by rw [ht, hd]; simp)
    rw [ht] at this
    rw [chain_succ, tot_succ xs k (by omega)]
    exact this
theorem chain_prefix (xs r : List Int) (hx : ∀ x ∈ xs, x ≤ 9223372036854775807) (k : Nat) (hk : k ≤ xs.length) : chain xs k <+: nums (encs xs ++ r) := ahead_prefix (chain_ahead xs r hx k hk)

theorem prefix_same {α : Type} {a b c : List α} (h : a <+: c) (k : b <+: c) (e : a.length = b.length) : a = b := by
  rw [List.prefix_iff_eq_take] at h k
  rw [h, k, e]
/-- What comes other than it should can't have come. -/
theorem chain_wrong {xs r : List Int} {k : Nat} {x : Nat × Int} (hx : ∀ x ∈ xs, x ≤ 9223372036854775807) (hk : k < xs.length) (hp : chain xs k ++ [x] <+: nums (encs xs ++ r)) : x = (tot xs k, max (xs.getD k 0) 0) := by
  have h := chain_prefix xs r hx (k + 1) (by omega)
  have e := prefix_same hp h (by simp [chain_len])
  rw [chain_succ] at e
  have := List.append_cancel_left e
  simpa using this
theorem chain_all {xs r : List Int} {k : Nat} (hx : ∀ x ∈ xs, x ≤ 9223372036854775807) (hk : k ≤ xs.length) (e : chain xs k = nums (encs xs ++ r)) : k = xs.length := by
  have h := (chain_prefix xs r hx xs.length (Nat.le_refl _)).length_le
  rw [← e, chain_len, chain_len] at h
  omega
theorem isB_app {l r : List Int} (h : isB l) (k : isB r) : isB (l ++ r) := fun c hc => by
  rcases List.mem_append.1 hc with h1 | h1
  · exact h c h1
  · exact k c h1
theorem isB_encs {xs : List Int} (hx : ∀ x ∈ xs, x ≤ 9223372036854775807) : isB (encs xs) := by
  intro c hc
  unfold encs at hc
  obtain ⟨x, hm, hc⟩ := List.mem_flatMap.1 hc
  exact enc_isB 8 _ (by omega) (fits_top _ (by have := hx x hm; omega)) c hc
theorem tot_all (xs : List Int) : tot xs xs.length = (encs xs).length := by unfold tot; rw [List.take_length]
end Go.Proofs.Ytneijohbmphheaa.Pk
