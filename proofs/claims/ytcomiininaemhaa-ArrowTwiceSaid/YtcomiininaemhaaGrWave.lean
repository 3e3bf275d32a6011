/- Distances that are found round by round. -/
import Derived.Test.YtcomiininaemhaaGrMeet
import Derived.Test.YtcomiininaemhaaGrList
namespace Go.Proofs.Ytcomiininaemhaa.Gr
set_option linter.unusedVariables false

/-- What the rounds need to know of the distances from one node. -/
structure Far (n f : Nat) (d : Nat → Nat) (nr : Nat → Nat → Bool) : Prop where
  step : ∀ u v, u < n → v < n → nr u v = true → d u = d v + 1 ∨ d v = d u + 1
  nearer : ∀ x, x < n → d x ≠ 0 → ∃ y, y < n ∧ nr x y = true ∧ d y + 1 = d x
  zero : ∀ x, x < n → (d x = 0 ↔ x = f)
  lt : ∀ x, x < n → d x < n
/-- In round r, at the nodes v and u. -/
structure Wave (d : Nat → Nat) (nr : Nat → Nat → Bool) (n r v u : Nat) (ds : List Int) : Prop where
  len : ds.length = n
  low : ∀ x, x < n → d x ≤ r → ds.getD x 0 = (d x : Int)
  high : ∀ x, x < n → r + 1 < d x → ds.getD x 0 = -1
  mid : ∀ x, x < n → d x = r + 1 → ds.getD x 0 = -1 ∨ ds.getD x 0 = (r : Int) + 1
  past : ∀ x y, x < n → d x = r + 1 → y < v → d y = r → nr x y = true → ds.getD x 0 = (r : Int) + 1
  here : ∀ x, x < n → d x = r + 1 → d v = r → nr x v = true → x < u → ds.getD x 0 = (r : Int) + 1

variable {n f r v u : Nat} {d : Nat → Nat} {nr : Nat → Nat → Bool} {ds : List Int}
theorem Wave.at_ (W : Wave d nr n r v u ds) {y : Nat} (hy : y < n) : ds.getD y 0 = (r : Int) ↔ d y = r := by
  constructor
  · intro h
    rcases Nat.lt_trichotomy (d y) (r + 1) with h1 | h1 | h1
    · have := W.low y hy (by omega); omega
    · rcases W.mid y hy h1 with h2 | h2 <;> omega
    · have := W.high y hy h1; omega
  · intro h
    have := W.low y hy (by omega); omega
theorem Wave.low_iff (W : Wave d nr n r v u ds) {y : Nat} (hy : y < n) (h : ds.getD y 0 < 0) : r < d y := by
  rcases Nat.lt_or_ge r (d y) with h1 | h1
  · exact h1
  · have := W.low y hy h1; omega
theorem Wave.step_no (W : Wave d nr n r v u ds) (hv : v < n) (hu : u < n) (h : ¬ (ds.getD v 0 = (r : Int) ∧ ds.getD u 0 < 0 ∧ nr u v = true)) : Wave d nr n r v (u + 1) ds where
  len := W.len
  low := W.low
  high := W.high
  mid := W.mid
  past := W.past
  here := by
    intro x hx h1 h2 h3 h4
    rcases Nat.lt_or_ge x u with h5 | h5
    · exact W.here x hx h1 h2 h3 h5
    · obtain rfl : x = u := by omega
      rcases W.mid x hx h1 with h6 | h6
      · exact absurd ⟨(W.at_ hv).2 h2, by omega, h3⟩ h
      · exact h6
theorem getD_set_self {ds : List Int} {u : Nat} {x : Int} (h : u < ds.length) : (ds.set u x).getD u 0 = x := by
  simp [List.getD, h]
theorem getD_set_ne {ds : List Int} {u y : Nat} {x : Int} (h : u ≠ y) : (ds.set u x).getD y 0 = ds.getD y 0 := by
  simp [List.getD, List.getElem?_set_ne h]
theorem Wave.step_yes (H : Far n f d nr) (W : Wave d nr n r v u ds) (hv : v < n) (hu : u < n) (h1 : ds.getD v 0 = (r : Int)) (h2 : ds.getD u 0 < 0) (h3 : nr u v = true) : Wave d nr n r v (u + 1) (ds.set u ((r : Int) + 1)) := by
  have hl := W.len
  have dv := (W.at_ hv).1 h1
  have du0 := W.low_iff hu h2
  have du : d u = r + 1 := by rcases H.step u v hu hv h3 with h | h <;> omega
  have key : ∀ x, x < n → d x = r + 1 → ds.getD x 0 = (r : Int) + 1 → (ds.set u ((r : Int) + 1)).getD x 0 = (r : Int) + 1 := by
    intro x hx hx1 hx2
    by_cases e : u = x
    · subst e; exact getD_set_self (by omega)
    · rw [getD_set_ne e]; exact hx2
  refine ⟨by simp [hl], fun x hx h => ?_, fun x hx h => ?_, fun x hx h => ?_, fun x y hx h hy hy2 hn => key x hx h (W.past x y hx h hy hy2 hn), fun x hx h hd hn hlt => ?_⟩
  · rw [getD_set_ne (by intro e; subst e; omega)]; exact W.low x hx h
  · rw [getD_set_ne (by intro e; subst e; omega)]; exact W.high x hx h
  · by_cases e : u = x
    · subst e; exact .inr (getD_set_self (by omega))
    · rw [getD_set_ne e]; exact W.mid x hx h
  · by_cases e : u = x
    · subst e; exact getD_set_self (by omega)
    · rw [getD_set_ne e]; exact W.here x hx h hd hn (by omega)
theorem Wave.next_v (W : Wave d nr n r v n ds) : Wave d nr n r (v + 1) 0 ds where
  len := W.len
  low := W.low
  high := W.high
  mid := W.mid
  past := by
    intro x y hx h1 hy h2 h3
    rcases Nat.lt_or_ge y v with h5 | h5
    · exact W.past x y hx h1 h5 h2 h3
    · obtain rfl : y = v := by omega
      exact W.here x hx h1 h2 h3 hx
  here := fun x hx h1 h2 h3 h4 => by omega
theorem Wave.next_r (H : Far n f d nr) (W : Wave d nr n r n 0 ds) : Wave d nr n (r + 1) 0 0 ds where
  len := W.len
  low := by
    intro x hx h
    rcases Nat.lt_or_ge r (d x) with h1 | h1
    · have hx1 : d x = r + 1 := by omega
      obtain ⟨y, hy, hn, hd⟩ := H.nearer x hx (by omega)
      rw [W.past x y hx hx1 hy (by omega) hn, hx1]; omega
    · exact W.low x hx h1
  high := fun x hx h => W.high x hx (by omega)
  mid := fun x hx h => .inl (W.high x hx (by omega))
  past := fun x y hx h1 hy h2 h3 => by omega
  here := fun x hx h1 h2 h3 h4 => by omega
theorem Wave.start (H : Far n f d nr) (hf : f < n) : Wave d nr n 0 0 0 ((List.replicate n (-1 : Int)).set f 0) := by
  have key : ∀ x, x < n → d x ≠ 0 → ((List.replicate n (-1 : Int)).set f 0).getD x 0 = -1 := by
    intro x hx h
    have hne : f ≠ x := fun e => h ((H.zero x hx).2 e.symm)
    rw [getD_set_ne hne]
    simp [List.getD, hx]
  refine ⟨by simp, fun x hx h => ?_, fun x hx h => key x hx (by omega), fun x hx h => .inl (key x hx (by omega)), fun x y hx h1 hy h2 h3 => by omega, fun x hx h1 h2 h3 h4 => by omega⟩
  have : x = f := (H.zero x hx).1 (by omega)
  subst this
  rw [getD_set_self (by simpa using hx)]
  have : d x = 0 := by omega
  omega
theorem Wave.done (H : Far n f d nr) (W : Wave d nr n n 0 0 ds) : ds = (List.range n).map fun x => (d x : Int) := by
  have hl := W.len
  apply List.ext_getElem (by simp [hl])
  intro i h1 h2
  have := W.low i (by omega) (by have := H.lt i (by omega); omega)
  rw [List.getD_eq_getElem?_getD, List.getElem?_eq_getElem h1] at this
  simpa using this

variable {ps : List Int}
/-- The distance in a good list. -/
def distL (ps : List Int) (a b : Nat) : Nat := dist (par ps) (dep ps) a b
theorem Good.far (G : Good ps) {f : Nat} (hf : f < ps.length) : Far ps.length f (fun x => distL ps x f) (nearL ps) where
  step := fun u v hu hv h => G.rt.step hu hv hf ((G.near_iff hu hv).1 h)
  nearer := by
    intro x hx h
    have hne : x ≠ f := fun e => h (by subst e; exact dist_self x)
    obtain ⟨y, hy, hn, hd⟩ := G.rt.nearer _ x f hx hf hne (Nat.le_refl _)
    exact ⟨y, hy, (G.near_iff hx hy).2 (near_symm hn), hd⟩
  zero := by
    intro x hx
    constructor
    · exact fun h => G.rt.dist_zero hx hf h
    · rintro rfl; exact dist_self x
  lt := fun x hx => G.rt.dist_lt hx hf
end Go.Proofs.Ytcomiininaemhaa.Gr
