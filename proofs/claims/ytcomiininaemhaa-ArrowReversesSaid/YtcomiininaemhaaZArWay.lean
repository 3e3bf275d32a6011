/- The way along arrows that lead to one node is the path to it; what a find turns lies on the path. -/
import Derived.Test.YtcomiininaemhaaZArSpec
import Derived.Test.YtcomiininaemhaaZArMet
namespace Go.Proofs.Ytcomiininaemhaa.Gr
set_option linter.unusedVariables false
variable {ps : List Int}
theorem Good.folF_way (G : Good ps) {s : Nat} (hs : s < ps.length) : ∀ (d v k : Nat) (met : List Int), v < ps.length → distL ps v s = d → (∀ u : Nat, (u : Int) ∈ met → u < ps.length → d < distL ps u s) → (∀ x ∈ met, ∃ u : Nat, x = (u : Int) ∧ u < ps.length) → d + 1 ≤ k →
    folF (towardN ps s) k met (v : Int) = ints (pathN ps v s) := by
  intro d
  induction d with
  | zero =>
    intro v k met hv hd hm hx hk
    have e : v = s := G.rt.dist_zero hv hs hd
    subst e
    obtain ⟨k, rfl⟩ : ∃ j, k = j + 1 := ⟨k - 1, by omega⟩
    rw [folF, towardN_len, if_pos ⟨by omega, by omega, fun h => by have := hm v h hv; rw [hd] at this; omega⟩, pathN_self, Int.toNat_natCast, towardN_at hv]
    have e2 : nx ps v v = v := if_pos rfl
    rw [e2]
    cases k with
    | zero => rfl
    | succ k =>
      rw [folF, if_neg (by rintro ⟨_, _, h⟩; exact h (by simp))]
      rfl
  | succ d ih =>
    intro v k met hv hd hm hx hk
    have hvs : v ≠ s := fun e => by
      subst e
      rw [show distL ps v v = 0 from dist_self v] at hd
      omega
    obtain ⟨k, rfl⟩ : ∃ j, k = j + 1 := ⟨k - 1, by omega⟩
    obtain ⟨h1, h2, h3⟩ := G.nextN_is hv hs hvs
    have en : nx ps v s = nextN ps v s := if_neg hvs
    have hd2 : distL ps (nextN ps v s) s = d := by
      have : distL ps (nextN ps v s) s + 1 = distL ps v s := h3
      omega
    rw [folF, towardN_len, if_pos ⟨by omega, by omega, fun h => by have := hm v h hv; omega⟩, G.pathN_step hv hs hvs, Int.toNat_natCast, towardN_at hv, en]
    rw [ih (nextN ps v s) k ((v : Int) :: met) h1 hd2 (fun u hu hul => ?_) (fun x h => ?_) (by omega)]
    · rfl
    · rcases List.mem_cons.1 hu with h | h
      · have : u = v := by omega
        rw [this]; omega
      · have := hm u h hul; omega
    · rcases List.mem_cons.1 h with h | h
      · exact ⟨v, h, hv⟩
      · exact hx x h
theorem Good.follow_way (G : Good ps) {s v : Nat} (hs : s < ps.length) (hv : v < ps.length) : followI (towardN ps s) (v : Int) = pathI ps (v : Int) (s : Int) := by
  unfold followI pathI
  rw [if_pos ⟨⟨by omega, by omega⟩, by omega, by omega⟩, towardN_len]
  exact G.folF_way hs _ v _ [] hv rfl (fun u h => by cases h) (fun x h => by cases h) (by have := G.rt.dist_lt hv hs; unfold distL; omega)
theorem Good.path_in (G : Good ps) {a b : Nat} (ha : a < ps.length) (hb : b < ps.length) : pathI ps (a : Int) (b : Int) = ints (pathN ps a b) := by
  unfold pathI
  rw [if_pos ⟨⟨by omega, by omega⟩, by omega, by omega⟩]
  rfl
theorem Good.path_len32 (G : Good ps) {a b : Nat} (ha : a < ps.length) (hb : b < ps.length) : (ints (pathN ps a b)).length ≤ 32 := by
  have h1 := G.rt.dist_lt ha hb
  have h2 := G.few
  unfold ints
  rw [List.length_map, G.pathN_len ha hb]
  unfold distL
  omega
/-- Which nodes stand in a list. -/
def onL (n : Nat) (P : List Nat) : List Bool := (List.range n).map fun v => decide (v ∈ P)
theorem onL_nil (n : Nat) : onL n [] = List.replicate n false := by
  apply List.ext_getElem (by simp [onL])
  intro i h1 h2
  simp [onL]
theorem onL_get {n : Nat} {P : List Nat} {v : Nat} (hv : v < n) : (onL n P)[v]? = some (decide (v ∈ P)) := by
  unfold onL
  rw [List.getElem?_map, List.getElem?_range hv]
  rfl
theorem onL_set {n : Nat} {P : List Nat} {u : Nat} (hu : u < n) : (onL n P).set u true = onL n (P ++ [u]) := by
  apply List.ext_getElem?
  intro i
  rcases Nat.lt_or_ge i n with hi | hi
  · rw [onL_get hi]
    by_cases e : u = i
    · subst e
      rw [List.getElem?_set_self (by simp [onL]; exact hu)]
      simp
    · rw [List.getElem?_set_ne e, onL_get hi]
      have : (i ∈ P) = (i ∈ P ++ [u]) := by simp [Ne.symm e]
      rw [decide_eq_decide.2 (by rw [this])]
  · rw [List.getElem?_eq_none (by simp [onL]; omega), List.getElem?_eq_none (by simp [onL]; omega)]
/-- What a find turns. -/
theorem Good.turn_iff (G : Good ps) {f s v : Nat} (hf : f < ps.length) (hs : s < ps.length) (hv : v < ps.length) : nx ps v f ≠ nx ps v s ↔ (v ∈ pathN ps f s ∧ f ≠ s) := by
  have hm := (G.way_path hf hs).mem G.rt hf hs v
  by_cases e : f = s
  · subst e
    simp
  · rw [hm]
    constructor
    · intro h
      refine ⟨⟨hv, Classical.byContradiction fun h2 => h (G.nx_is.off G.rt hf hs hv h2)⟩, e⟩
    · rintro ⟨⟨_, h⟩, _⟩
      exact G.nx_is.on G.rt hf hs e hv h
end Go.Proofs.Ytcomiininaemhaa.Gr
