/- What the law TreeWays asks of the way: its ends, its neighbours, the way back, the distances. -/
import Derived.Test.YtohlgimbohkepaaTrWays
namespace Go.Proofs.Ytohlgimbohkepaa.Gr
set_option linter.unusedVariables false
theorem ints_get {l : List Nat} {i : Nat} (h : i < l.length) : (ints l).getD i 0 = ((l[i] : Nat) : Int) := by
  rw [List.getD_eq_getElem?_getD]; simp [ints, h]
end Go.Proofs.Ytohlgimbohkepaa.Gr
namespace Go.Proofs.Ytohlgimbohkepaa.Pk
open Go.RowKit Go.Shelf Go.Proofs.Ytohlgimbohkepaa.Gr
set_option linter.unusedVariables false
/-- The way of the law. -/
structure WayI (ps : List Int) (p q : Nat) (k : Nat) : Prop where
  len : (pathI ps (p : Int) (q : Int)).length = k + 1
  lenb : (pathI ps (q : Int) (p : Int)).length = k + 1
  fst : (pathI ps (p : Int) (q : Int)).getD 0 0 = (p : Int)
  lst : (pathI ps (p : Int) (q : Int)).getD k 0 = (q : Int)
  at_ : ∀ i, i < k + 1 → ∃ v : Nat, v < ps.length ∧ (pathI ps (p : Int) (q : Int)).getD i 0 = (v : Int) ∧ (pathI ps (q : Int) (p : Int)).getD (k - i) 0 = (v : Int) ∧ distI ps (v : Int) (q : Int) = (k : Int) - i
  nxt : ∀ i, i < k → ∃ v x : Nat, v < ps.length ∧ x < ps.length ∧ (pathI ps (p : Int) (q : Int)).getD i 0 = (v : Int) ∧ (pathI ps (p : Int) (q : Int)).getD (i + 1) 0 = (x : Int) ∧ (pa ps x = (v : Int) ∨ pa ps v = (x : Int)) ∧ nextI ps (v : Int) (q : Int) = (x : Int)
theorem distI_nat {ps : List Int} (G : Gr.Good ps) {a b : Nat} (ha : a < ps.length) (hb : b < ps.length) : distI ps (a : Int) (b : Int) = (distL ps a b : Nat) := by
  unfold distI
  rw [pathI_nat ha hb]
  have := G.pathN_len ha hb
  simp only [ints, List.length_map]
  omega
theorem wayI_of {ps : List Int} (G : Gr.Good ps) {p q : Nat} (hp : p < ps.length) (hq : q < ps.length) : ∃ k, WayI ps p q k ∧ distI ps (p : Int) (q : Int) = (k : Int) := by
  have W := G.way_path hp hq
  have hl := W.len
  obtain ⟨k, hk⟩ : ∃ k, k = distL ps p q := ⟨_, rfl⟩
  have hk' : dist (par ps) (dep ps) p q = k := hk.symm
  rw [hk'] at hl
  have hb : (pathN ps q p).length = k + 1 := by rw [G.path_back hp hq, List.length_reverse, hl]
  have gt : ∀ i (h : i < k + 1), (pathN ps p q)[i]? = some ((pathN ps p q)[i]'(by omega)) := fun i h => List.getElem?_eq_getElem (by omega)
  refine ⟨k, ⟨?_, ?_, ?_, ?_, ?_, ?_⟩, by rw [distI_nat G hp hq, hk]⟩
  · rw [pathI_nat hp hq]; simp [ints, hl]
  · rw [pathI_nat hq hp]; simp [ints, hb]
  · rw [pathI_nat hp hq, ints_get (by omega)]
    have h1 := W.head
    rw [gt 0 (by omega)] at h1
    injection h1 with h1
    rw [h1]
  · rw [pathI_nat hp hq, ints_get (by omega)]
    have h1 := W.last G.rt hq
    rw [hk', gt k (by omega)] at h1
    injection h1 with h1
    rw [h1]
  · intro i hi
    have g := W.get i _ (gt i hi)
    refine ⟨(pathN ps p q)[i]'(by omega), g.1, ?_, ?_, ?_⟩
    · rw [pathI_nat hp hq, ints_get (by omega)]
    · rw [pathI_nat hq hp, ints_get (by omega)]
      congr 1
      simp only [G.path_back hp hq, List.getElem_reverse]
      congr 1
      omega
    · rw [distI_nat G g.1 hq]
      have := g.2
      unfold distL
      omega
  · intro i hi
    have g := W.get i _ (gt i (by omega))
    have g2 := W.get (i + 1) _ (gt (i + 1) (by omega))
    have hn := W.next i _ _ (gt i (by omega)) (gt (i + 1) (by omega))
    have hL := (G.near_iff g2.1 g.1).2 hn
    refine ⟨_, _, g.1, g2.1, by rw [pathI_nat hp hq, ints_get (by omega)], by rw [pathI_nat hp hq, ints_get (by omega)], ?_, ?_⟩
    · unfold nearL at hL
      simpa using hL
    · obtain ⟨v, hv⟩ : ∃ v, v = (pathN ps p q)[i]'(by omega) := ⟨_, rfl⟩
      obtain ⟨x, hx⟩ : ∃ x, x = (pathN ps p q)[i + 1]'(by omega) := ⟨_, rfl⟩
      rw [← hv] at g hL ⊢
      rw [← hx] at g2 hL ⊢
      have hne : v ≠ q := by
        intro e
        have h1 := g.2
        have h2 := g2.2
        rw [e, dist_self] at h1
        omega
      have e := G.nextN_only g.1 hq hne g2.1 hL (by have := g.2; have := g2.2; unfold distL; omega)
      unfold nextI
      rw [if_pos (by omega), if_neg (by omega), Int.toNat_natCast, Int.toNat_natCast, ← e]
theorem dist_facts {ps : List Int} (G : Gr.Good ps) {a b c : Nat} (ha : a < ps.length) (hb : b < ps.length) (hc : c < ps.length) :
    distI ps (a : Int) (b : Int) = distI ps (b : Int) (a : Int) ∧ distI ps (a : Int) (b : Int) ≤ distI ps (a : Int) (c : Int) + distI ps (c : Int) (b : Int) ∧ ∀ x y : Nat, x < ps.length → y < ps.length → 0 ≤ distI ps (x : Int) (y : Int) ∧ distI ps (x : Int) (y : Int) < 32 := by
  have h1 := G.rt.dist_symm ha hb
  have h2 := G.rt.triangle _ a c b ha hc hb (Nat.le_refl _)
  refine ⟨?_, ?_, ?_⟩
  · rw [distI_nat G ha hb, distI_nat G hb ha]; unfold distL; omega
  · rw [distI_nat G ha hb, distI_nat G ha hc, distI_nat G hc hb]; unfold distL; omega
  · intro x y hx hy
    have h3 := Nat.le_trans (G.path_le (x : Int) (y : Int)) G.few
    rw [distI_nat G hx hy]
    rw [pathI_nat hx hy] at h3
    have := G.pathN_len hx hy
    simp only [ints, List.length_map] at h3
    omega
end Go.Proofs.Ytohlgimbohkepaa.Pk
