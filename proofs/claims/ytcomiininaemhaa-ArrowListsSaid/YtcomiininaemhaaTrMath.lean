/- Trees by their list of parents: where Next leads. -/
import Derived.Test.YtcomiininaemhaaGrNext
namespace Go.Proofs.Ytcomiininaemhaa.Gr
set_option linter.unusedVariables false
variable {ps : List Int}
theorem Good.pa_par (G : Good ps) {v : Nat} (hv : v < ps.length) (h : pa ps v ≠ -1) : pa ps v = (par ps v : Nat) ∧ par ps v < ps.length ∧ v ≠ root ps := by
  have h1 := G.rng v hv
  unfold par
  exact ⟨by omega, by omega, fun e => h ((G.root_iff hv).2 e)⟩
theorem Good.anc (G : Good ps) : ∀ (k a b : Nat), b < ps.length → climb ps k (b : Int) = (a : Int) → a < ps.length ∧ dep ps b = dep ps a + k ∧ distL ps a b = k := by
  intro k
  induction k with
  | zero =>
    intro a b hb h
    have : a = b := by simp only [climb] at h; omega
    subst this
    exact ⟨hb, rfl, dist_self a⟩
  | succ k ih =>
    intro a b hb h
    rw [climb_succ] at h
    have hp : pa ps b ≠ -1 := fun e => by rw [e, climb_neg] at h; omega
    obtain ⟨h1, h2, h3⟩ := G.pa_par hb hp
    rw [h1] at h
    obtain ⟨i1, i2, i3⟩ := ih a (par ps b) h2 h
    obtain ⟨_, u2⟩ := G.rt.up b hb h3
    refine ⟨i1, by omega, ?_⟩
    obtain ⟨_, e2⟩ := G.rt.e2' i1 hb (by omega)
    have i3' : dist (par ps) (dep ps) a (par ps b) = k := i3
    show dist (par ps) (dep ps) a b = k + 1
    rw [e2, i3']; omega
theorem Good.next_down (G : Good ps) {k a b v : Nat} (hb : b < ps.length) (hc : climb ps k (b : Int) = (v : Int)) (hp : pa ps v = (a : Int)) (hab : a ≠ b) : v = nextN ps a b := by
  obtain ⟨v1, v2, v3⟩ := G.anc k v b hb hc
  have hc2 : climb ps (k + 1) (b : Int) = (a : Int) := by
    have : ∀ (k : Nat) (x : Int), climb ps (k + 1) x = if climb ps k x = -1 then -1 else pa ps (climb ps k x).toNat := by
      intro k
      induction k with
      | zero => intro x; rfl
      | succ k ih =>
        intro x
        show (if x = -1 then -1 else climb ps (k + 1) (pa ps x.toNat)) = _
        by_cases hx : x = -1
        · rw [if_pos hx]
          have : climb ps (k + 1) x = -1 := by rw [hx]; rfl
          rw [if_pos this]
        · rw [if_neg hx, ih]
          have : climb ps (k + 1) x = climb ps k (pa ps x.toNat) := by
            show (if x = -1 then -1 else _) = _
            rw [if_neg hx]
          rw [this]
    rw [this, hc, if_neg (by omega), Int.toNat_natCast, hp]
  obtain ⟨a1, a2, a3⟩ := G.anc (k + 1) a b hb hc2
  exact G.nextN_only a1 hb hab v1 (by unfold nearL; rw [hp]; simp) (by rw [v3, a3])
theorem Good.off (G : Good ps) {a : Nat} (ha : a < ps.length) : ∀ (f b : Nat), b < ps.length → dep ps b ≤ f → (∀ j, climb ps j (b : Int) ≠ -1 → pa ps (climb ps j (b : Int)).toNat ≠ (a : Int)) → a ≠ b → a ≠ root ps ∧ distL ps a b = 1 + distL ps (par ps a) b := by
  intro f
  induction f with
  | zero =>
    intro b hb hf h hab
    exact G.rt.e1 ha hb hab (by omega)
  | succ f ih =>
    intro b hb hf h hab
    rcases Nat.lt_or_ge (dep ps a) (dep ps b) with hd | hd
    · obtain ⟨b1, b2⟩ := G.rt.e2' ha hb hd
      have hp : pa ps b ≠ -1 := fun e => b1 ((G.root_iff hb).1 e)
      obtain ⟨h1, h2, h3⟩ := G.pa_par hb hp
      obtain ⟨_, u2⟩ := G.rt.up b hb b1
      have h0 := h 0 (by show (b : Int) ≠ -1; omega)
      have h0' : pa ps b ≠ (a : Int) := h0
      obtain ⟨i1, i2⟩ := ih (par ps b) h2 (by omega) (fun j => by
        have := h (j + 1)
        rw [climb_succ, h1] at this
        exact this) (by omega)
      obtain ⟨p1, p2⟩ := G.rt.up a ha i1
      obtain ⟨_, c2⟩ := G.rt.e2' p1 hb (by omega)
      refine ⟨i1, ?_⟩
      have i2' : dist (par ps) (dep ps) a (par ps b) = 1 + dist (par ps) (dep ps) (par ps a) (par ps b) := i2
      show dist (par ps) (dep ps) a b = 1 + dist (par ps) (dep ps) (par ps a) b
      rw [b2, c2, i2']
    · exact G.rt.e1 ha hb hab hd
theorem Good.next_up (G : Good ps) {a b : Nat} (ha : a < ps.length) (hb : b < ps.length) (h : ∀ j, climb ps j (b : Int) ≠ -1 → pa ps (climb ps j (b : Int)).toNat ≠ (a : Int)) (hab : a ≠ b) : pa ps a = (nextN ps a b : Nat) := by
  obtain ⟨h1, h2⟩ := G.off ha _ b hb (Nat.le_refl _) h hab
  obtain ⟨p1, p2, p3⟩ := G.pa_par ha (fun e => h1 ((G.root_iff ha).1 e))
  rw [p1, G.nextN_only ha hb hab p2 (by unfold nearL; rw [p1]; simp) (by omega)]
theorem climb_one (k : Nat) : ∀ (x : Int), climb ps (k + 1) x = if climb ps k x = -1 then -1 else pa ps (climb ps k x).toNat := by
  induction k with
  | zero => intro x; rfl
  | succ k ih =>
    intro x
    show (if x = -1 then -1 else climb ps (k + 1) (pa ps x.toNat)) = _
    by_cases hx : x = -1
    · rw [if_pos hx]
      have : climb ps (k + 1) x = -1 := by rw [hx]; rfl
      rw [if_pos this]
    · rw [if_neg hx, ih]
      have : climb ps (k + 1) x = climb ps k (pa ps x.toNat) := by
        show (if x = -1 then -1 else _) = _
        rw [if_neg hx]
      rw [this]
theorem climb_stays {k : Nat} {x : Int} (h : climb ps k x = -1) : ∀ d, climb ps (k + d) x = -1
  | 0 => h
  | d + 1 => by rw [show k + (d + 1) = (k + d) + 1 by omega, climb_one, climb_stays h d, if_pos rfl]
end Go.Proofs.Ytcomiininaemhaa.Gr
