/- A list of parents that makes a tree. -/
import Derived.Test.YtcomiininaemhaaGrMeet
namespace Go.Proofs.Ytcomiininaemhaa.Gr
set_option linter.unusedVariables false

/-- A node's parent; -1: none. -/
def pa (ps : List Int) (v : Nat) : Int := ps.getD v (-1)
/-- Where k steps from parent to parent lead. -/
def climb (ps : List Int) : Nat → Int → Int
  | 0, x => x
  | k + 1, x => if x = -1 then -1 else climb ps k (pa ps x.toNat)
/-- What a tree's list must be. -/
structure Good (ps : List Int) : Prop where
  pos : 0 < ps.length
  few : ps.length ≤ 32
  rng : ∀ v, v < ps.length → -1 ≤ pa ps v ∧ pa ps v < (ps.length : Int) ∧ pa ps v ≠ (v : Int)
  one : ∀ u v, u < ps.length → v < ps.length → pa ps u = -1 → pa ps v = -1 → u = v
  all : ∀ v, v < ps.length → climb ps ps.length (v : Int) = -1
def depF (ps : List Int) : Nat → Nat → Nat
  | 0, _ => 0
  | k + 1, v => if pa ps v = -1 then 0 else 1 + depF ps k (pa ps v).toNat
def par (ps : List Int) (v : Nat) : Nat := (pa ps v).toNat
def dep (ps : List Int) (v : Nat) : Nat := depF ps ps.length v
/-- The root's place. -/
def rootF (ps : List Int) : Nat → Nat → Nat
  | 0, v => v
  | k + 1, v => if pa ps v = -1 then v else rootF ps k (pa ps v).toNat
def root (ps : List Int) : Nat := rootF ps ps.length 0

theorem climb_neg (ps : List Int) : ∀ k, climb ps k (-1) = -1
  | 0 => rfl
  | k + 1 => rfl
theorem climb_succ (ps : List Int) (k v : Nat) : climb ps (k + 1) (v : Int) = climb ps k (pa ps v) := by
  unfold climb
  rw [if_neg (by omega), Int.toNat_natCast]
  cases k <;> rfl
theorem nat_of {ps : List Int} {x : Int} (h1 : -1 ≤ x) (h2 : x ≠ -1) : ((x.toNat : Nat) : Int) = x := by omega
section
variable {ps : List Int}
theorem depF_more (h : ∀ v, v < ps.length → -1 ≤ pa ps v ∧ pa ps v < (ps.length : Int)) : ∀ (k f v : Nat), v < ps.length → climb ps k (v : Int) = -1 → k ≤ f → depF ps f v = depF ps k v := by
  intro k
  induction k with
  | zero => intro f v hv hc; simp only [climb] at hc; omega
  | succ k ih =>
    intro f v hv hc hf
    cases f with
    | zero => omega
    | succ f =>
      rw [climb_succ] at hc
      unfold depF
      by_cases hp : pa ps v = -1
      · rw [if_pos hp, if_pos hp]
      · rw [if_neg hp, if_neg hp]
        have hr := h v hv
        have e := nat_of (ps := ps) hr.1 hp
        rw [ih f (pa ps v).toNat (by omega) (by rw [e]; exact hc) (by omega)]
theorem rootF_root (h : ∀ v, v < ps.length → -1 ≤ pa ps v ∧ pa ps v < (ps.length : Int)) : ∀ (k v : Nat), v < ps.length → climb ps k (v : Int) = -1 → rootF ps k v < ps.length ∧ pa ps (rootF ps k v) = -1 := by
  intro k
  induction k with
  | zero => intro v hv hc; simp only [climb] at hc; omega
  | succ k ih =>
    intro v hv hc
    rw [climb_succ] at hc
    unfold rootF
    by_cases hp : pa ps v = -1
    · rw [if_pos hp]; exact ⟨hv, hp⟩
    · rw [if_neg hp]
      have hr := h v hv
      have e := nat_of (ps := ps) hr.1 hp
      exact ih (pa ps v).toNat (by omega) (by rw [e]; exact hc)
theorem Good.root_ok (G : Good ps) : root ps < ps.length ∧ pa ps (root ps) = -1 := rootF_root (fun v hv => ⟨(G.rng v hv).1, (G.rng v hv).2.1⟩) _ 0 G.pos (G.all 0 G.pos)
theorem Good.root_iff (G : Good ps) {v : Nat} (hv : v < ps.length) : pa ps v = -1 ↔ v = root ps :=
  ⟨fun h => G.one v _ hv G.root_ok.1 h G.root_ok.2, fun h => by rw [h]; exact G.root_ok.2⟩
theorem Good.rt (G : Good ps) : RT ps.length (root ps) (par ps) (dep ps) where
  hr := G.root_ok.1
  d0 := by
    unfold dep
    cases hn : ps.length with
    | zero => rfl
    | succ m => unfold depF; rw [if_pos G.root_ok.2]
  up := by
    intro v hv hne
    have hp : pa ps v ≠ -1 := fun e => hne ((G.root_iff hv).1 e)
    have hr := G.rng v hv
    have e := nat_of (ps := ps) hr.1 hp
    have hlt : par ps v < ps.length := by unfold par; omega
    refine ⟨hlt, ?_⟩
    obtain ⟨m, hm⟩ : ∃ m, ps.length = m + 1 := ⟨ps.length - 1, by omega⟩
    have hc := G.all v hv
    rw [hm, climb_succ] at hc
    have h1 : dep ps v = 1 + depF ps m (par ps v) := by
      unfold dep
      rw [hm]
      show (if pa ps v = -1 then 0 else 1 + depF ps m (pa ps v).toNat) = _
      rw [if_neg hp]; rfl
    have h2 : dep ps (par ps v) = depF ps m (par ps v) := depF_more (fun v hv => ⟨(G.rng v hv).1, (G.rng v hv).2.1⟩) m ps.length (par ps v) hlt (by unfold par; rw [e]; exact hc) (by omega)
    omega
/-- The document's neighbours, by the list. -/
def nearL (ps : List Int) (a b : Nat) : Bool := pa ps a == (b : Int) || pa ps b == (a : Int)
theorem Good.near_iff (G : Good ps) {a b : Nat} (ha : a < ps.length) (hb : b < ps.length) : nearL ps a b = true ↔ near (root ps) (par ps) a b := by
  have key : ∀ (x y : Nat), x < ps.length → (pa ps x = (y : Int) ↔ x ≠ root ps ∧ par ps x = y) := by
    intro x y hx
    have hr := G.rng x hx
    constructor
    · intro h
      refine ⟨fun e => ?_, by unfold par; omega⟩
      have := (G.root_iff hx).2 e
      omega
    · rintro ⟨h1, h2⟩
      have hp : pa ps x ≠ -1 := fun e => h1 ((G.root_iff hx).1 e)
      unfold par at h2
      omega
  unfold nearL near
  rw [Bool.or_eq_true, beq_iff_eq, beq_iff_eq, key a b ha, key b a hb]
/-- A list of good numbers in which a node climbs for ever is none of a tree. -/
theorem climb_more : ∀ (k j : Nat) (x : Int), climb ps k x = -1 → k ≤ j → climb ps j x = -1 := by
  intro k
  induction k with
  | zero => intro j x h _; simp [climb] at h; rw [h]; exact climb_neg ps j
  | succ k ih =>
    intro j x h hj
    cases j with
    | zero => omega
    | succ j =>
      unfold climb at h ⊢
      by_cases hx : x = -1
      · rw [if_pos hx]
      · rw [if_neg hx] at h ⊢
        exact ih j _ h (by omega)
end
end Go.Proofs.Ytcomiininaemhaa.Gr
