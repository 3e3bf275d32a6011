/- A list of parents that makes a tree. -/
import Derived.Test.YtcomiininaemhaaZGra
import Derived.Test.YtcomiininaemhaaZMem
import Derived.Test.YtcomiininaemhaaProg
import Derived.Lib.Hide
import Derived.LoopTactic
namespace Go.Proofs.Ytcomiininaemhaa.Gr
set_option linter.unusedVariables false

/-- A node's parent; -1: none. -/
def pa (ps : List Int) (v : Nat) : Int := ps.getD v (-1)
/-- Where k steps from parent to parent lead. -/
def climb (ps : List Int) : Nat → Int → Int
  | 0, x => x
  | k + 1, x => if x = -1 then -1 else climb ps k (pa ps x.toNat)
/-- What a tree's list must be. -/
structure Good (ps : List Int) : Prop where
  pos : 0 < ps.length
  few : ps.length ≤ 32
  rng : ∀ v, v < ps.length → -1 ≤ pa ps v ∧ pa ps v < (ps.length : Int) ∧ pa ps v ≠ (v : Int)
  one : ∀ u v, u < ps.length → v < ps.length → pa ps u = -1 → pa ps v = -1 → u = v
  all : ∀ v, v < ps.length → climb ps ps.length (v : Int) = -1
def depF (ps : List Int) : Nat → Nat → Nat
  | 0, _ => 0
  | k + 1, v => if pa ps v = -1 then 0 else 1 + depF ps k (pa ps v).toNat
def par (ps : List Int) (v : Nat) : Nat := (pa ps v).toNat
def dep (ps : List Int) (v : Nat) : Nat := depF ps ps.length v
/-- The root's place. -/
def rootF (ps : List Int) : Nat → Nat → Nat
  | 0, v => v
  | k + 1, v => if pa ps v = -1 then v else rootF ps k (pa ps v).toNat
def root (ps : List Int) : Nat := rootF ps ps.length 0

theorem climb_neg (ps : List Int) : ∀ k, climb ps k (-1) = -1
  | 0 => rfl
  | k + 1 => rfl
theorem climb_succ (ps : List Int) (k v : Nat) : climb ps (k + 1) (v : Int) = climb ps k (pa ps v) := by
  unfold climb
  rw [if_neg (by omega), Int.toNat_natCast]
  cases k <;> rfl
theorem nat_of {ps : List Int} {x : Int} (h1 : -1 ≤ x) (h2 : x ≠ -1) : ((x.toNat : Nat) : Int) = x := by omega
section
variable {ps : List Int}
theorem depF_more (h : ∀ v, v < ps.length → -1 ≤ pa ps v ∧ pa ps v < (ps.length : Int)) : ∀ (k f v : Nat), v < ps.length → climb ps k (v : Int) = -1 → k ≤ f → depF ps f v = depF ps k v := by
  intro k
  induction k with
  | zero => intro f v hv hc; simp only [climb] at hc; omega
  | succ k ih =>
    intro f v hv hc hf
    cases f with
    | zero => omega
    | succ f =>
      rw [climb_succ] at hc
      unfold depF
      by_cases hp : pa ps v = -1
      · rw [if_pos hp, if_pos hp]
      · rw [if_neg hp, if_neg hp]
        have hr := h v hv
        have e := nat_of (ps := ps) hr.1 hp
        rw [ih f (pa ps v).toNat (by omega) (by rw [e]; exact hc) (by omega)]
theorem rootF_root (h : ∀ v, v < ps.length → -1 ≤ pa ps v ∧ pa ps v < (ps.length : Int)) : ∀ (k v : Nat), v < ps.length → climb ps k (v : Int) = -1 → rootF ps k v < ps.length ∧ pa ps (rootF ps k v) = -1 := by
  intro k
  induction k with
  | zero => intro v hv hc; simp only [climb] at hc; omega
  | succ k ih =>
    intro v hv hc
    rw [climb_succ] at hc
    unfold rootF
    by_cases hp : pa ps v = -1
    · rw [if_pos hp]; exact ⟨hv, hp⟩
    · rw [if_neg hp]
      have hr := h v hv
      have e := nat_of (ps := ps) hr.1 hp
      exact ih (pa ps v).toNat (by omega) (by rw [e]; exact hc)
theorem Good.root_ok (G : Good ps) : root ps < ps.length ∧ pa ps (root ps) = -1 := rootF_root (fun v hv => ⟨(G.rng v hv).1, (G.rng v hv).2.1⟩) _ 0 G.pos (G.all 0 G.pos)
theorem Good.root_iff (G : Good ps) {v : Nat} (hv : v < ps.length) : pa ps v = -1 ↔ v = root ps :=
  ⟨fun h => G.one v _ hv G.root_ok.1 h G.root_ok.2, fun h => by rw [h]; exact G.root_ok.2⟩
theorem Good.rt (G : Good ps) : RT ps.length (root ps) (par ps) (dep ps) where
  hr := G.root_ok.1
  d0 := by
    unfold dep
    cases hn : ps.length with
    | zero => rfl
    | succ m => unfold depF; rw [if_pos G.root_ok.2]
  up := by
    intro v hv hne
    have hp : pa ps v ≠ -1 := fun e => hne ((G.root_iff hv).1 e)
    have hr := G.rng v hv
    have e := nat_of (ps := ps) hr.1 hp
    have hlt : par ps v < ps.length := by unfold par; omega
    refine ⟨hlt, ?_⟩
    obtain ⟨m, hm⟩ : ∃ m, ps.length = m + 1 := ⟨ps.length - 1, by omega⟩
    have hc := G.all v hv
    rw [hm, climb_succ] at hc
    have h1 : dep ps v = 1 + depF ps m (par ps v) := by
      unfold dep
      rw [hm]
      show (if pa ps v = -1 then 0 else 1 + depF ps m (pa ps v).toNat) = _
      rw [if_neg hp]; rfl
    have h2 : dep ps (par ps v) = depF ps m (par ps v) := depF_more (fun v hv => ⟨(G.rng v hv).1, (G.rng v hv).2.1⟩) m ps.length (par ps v) hlt (by unfold par; rw [e]; exact hc) (by omega)
    omega
/-- The document's neighbours, by the list. -/
def nearL (ps : List Int) (a b : Nat) : Bool := pa ps a == (b : Int) || pa ps b == (a : Int)
theorem Good.near_iff (G : Good ps) {a b : Nat} (ha : a < ps.length) (hb : b < ps.length) : nearL ps a b = true ↔ near (root ps) (par ps) a b := by
  have key : ∀ (x y : Nat), x < ps.length → (pa ps x = (y : Int) ↔ x ≠ root ps ∧ par ps x = y) := by
    intro x y hx
    have hr := G.rng x hx
    constructor
    · intro h
      refine ⟨fun e => ?_, by unfold par; omega⟩
      have := (G.root_iff hx).2 e
      omega
    · rintro ⟨h1, h2⟩
      have hp : pa ps x ≠ -1 := fun e => h1 ((G.root_iff hx).1 e)
      unfold par at h2
      omega
  unfold nearL near
  rw [Bool.or_eq_true, beq_iff_eq, beq_iff_eq, key a b ha, key b a hb]
/-- A list of good numbers in which a node climbs for ever is none of a tree. -/
theorem climb_more : ∀ (k j : Nat) (x : Int), climb ps k x = -1 → k ≤ j → climb ps j x = -1 := by
  intro k
  induction k with
  | zero => intro j x h _; simp [climb] at h; rw [h]; exact climb_neg ps j
  | succ k ih =>
    intro j x h hj
    cases j with
    | zero => omega
    | succ j =>
      unfold climb at h ⊢
      by_cases hx : x = -1
      · rw [if_pos hx]
      · rw [if_neg hx] at h ⊢
        exact ih j _ h (by omega)
end
end Go.Proofs.Ytcomiininaemhaa.Gr

/- The document's answer for trees (fletchref04): Near; what a list's fault is. -/
namespace Go.Proofs.Ytcomiininaemhaa.Pk
open Go.RowKit Go.Proofs.Ytcomiininaemhaa.Gr
set_option linter.unusedVariables false

theorem pa_get {ps : List Int} {v : Nat} (h : v < ps.length) : ps.getD v 0 = pa ps v := by
  unfold pa
  simp [List.getD, h]
theorem Reads.pa {w : World} {B : Nat} {A : Option Addr} {n : Nat} {ps : List Int} (h : Reads w B 1 A n (nms ps)) (hn : 0 < n) :
    ∃ b off, A = some ⟨b, off, none⟩ ∧ b < B ∧ ∀ v, v < n → w.cell? ⟨b, off + v, none⟩ = some (.int .i64 (pa ps v)) := by
  obtain ⟨b, off, e, hb, hc⟩ := h.i64 hn
  have hl : ps.length = n := by have := h.1; simpa [nms] using this
  exact ⟨b, off, e, hb, fun v hv => by rw [hc v hv, pa_get (by omega)]⟩
theorem Reads.plen {w : World} {B : Nat} {A : Option Addr} {n : Nat} {ps : List Int} (h : Reads w B 1 A n (nms ps)) : ps.length = n := by have := h.1; simpa [nms] using this

theorem near_any (A : Option Addr) (n c : Nat) (ps : List Int) (a b : Nat) (w : World) (B : Nat) (hr : Reads w B 1 A n (nms ps)) (ha : a < n) (hb : b < n) :
    Calls Try.prog 36 #[.slice A n c, .int .i64 (a : Int), .int .i64 (b : Int)] w fun e w' => e = .returned (.bool (nearL ps a b)) ∧ w' = w := by
  obtain ⟨bl, off, rfl, hbb, hc⟩ := hr.pa (by omega)
  have c1 := hc a ha
  have c2 := hc b hb
  clear hc hr
  go_enter Try.func36, Try.ntmps36
  by_cases h1 : pa ps a = (b : Int)
  · have t1 : (pa ps a == (b : Int)) = true := by simp [h1]
    have HE : Hid (nearL ps a b = true) := Lib.hid (by unfold nearL; rw [t1]; rfl)
    clear h1
    go_wp2_with fail
    go_ret
    exact ⟨by rw [HE.out]; rfl, rfl⟩
  · have t1 : (pa ps a == (b : Int)) = false := by simp [h1]
    have HE : Hid (nearL ps a b = (pa ps b == (a : Int))) := Lib.hid (by unfold nearL; rw [t1]; rfl)
    clear h1
    go_wp2_with fail
    go_ret
    exact ⟨by rw [HE.out]; rfl, rfl⟩

/-- The first kind of fault. -/
def faultA (ps : List Int) (v : Nat) : Prop := pa ps v < -1 ∨ (ps.length : Int) ≤ pa ps v ∨ pa ps v = (v : Int) ∨ (pa ps v = -1 ∧ ∃ u, u < v ∧ pa ps u = -1)
/-- What Check must answer. -/
def ChkIs (ps : List Int) (p e : Int) : Prop :=
  (ps.length = 0 ∧ p = 0 ∧ e = 1) ∨ (32 < ps.length ∧ p = 0 ∧ e = 3) ∨
  ((0 < ps.length ∧ ps.length ≤ 32) ∧ ((∃ v, v < ps.length ∧ p = (v : Int) ∧ e = 10 ∧ faultA ps v ∧ ∀ u, u < v → ¬ faultA ps u) ∨
    ((∀ u, u < ps.length → ¬ faultA ps u) ∧ ((∃ v, v < ps.length ∧ p = (v : Int) ∧ e = 10 ∧ climb ps ps.length (v : Int) ≠ -1 ∧ ∀ u, u < v → climb ps ps.length (u : Int) = -1) ∨
      ((∀ u, u < ps.length → climb ps ps.length (u : Int) = -1) ∧ p = 0 ∧ e = 0)))))
theorem least_one {P : Nat → Prop} {v v' : Nat} (h : P v) (h' : P v') (k : ∀ u, u < v → ¬ P u) (k' : ∀ u, u < v' → ¬ P u) : v = v' := by
  rcases Nat.lt_trichotomy v v' with h1 | h1 | h1
  · exact absurd h (k' v h1)
  · exact h1
  · exact absurd h' (k v' h1)
theorem ChkIs.only {ps : List Int} {p e p' e' : Int} (h : ChkIs ps p e) (h' : ChkIs ps p' e') : p = p' ∧ e = e' := by
  rcases h with ⟨a, b, c⟩ | ⟨a, b, c⟩ | ⟨a, h⟩ <;> rcases h' with ⟨a', b', c'⟩ | ⟨a', b', c'⟩ | ⟨a', h'⟩ <;> first | omega | skip
  rcases h with ⟨v, v1, v2, v3, v4, v5⟩ | ⟨n1, h⟩ <;> rcases h' with ⟨u, u1, u2, u3, u4, u5⟩ | ⟨n1', h'⟩
  · have := least_one v4 u4 v5 u5
    subst this
    exact ⟨by omega, by omega⟩
  · exact absurd v4 (n1' v v1)
  · exact absurd u4 (n1 u u1)
  · rcases h with ⟨v, v1, v2, v3, v4, v5⟩ | ⟨n2, v2, v3⟩ <;> rcases h' with ⟨u, u1, u2, u3, u4, u5⟩ | ⟨n2', u2, u3⟩
    · have := least_one (P := fun x => climb ps ps.length (x : Int) ≠ -1) v4 u4 (fun x hx hn => hn (v5 x hx)) (fun x hx hn => hn (u5 x hx))
      subst this
      exact ⟨by omega, by omega⟩
    · exact absurd (n2' v v1) v4
    · exact absurd (n2 u u1) u4
    · exact ⟨by omega, by omega⟩
theorem ChkIs.good {ps : List Int} {p : Int} (h : ChkIs ps p 0) : Gr.Good ps ∧ p = 0 := by
  rcases h with ⟨a, b, c⟩ | ⟨a, b, c⟩ | ⟨a, h⟩
  · omega
  · omega
  · rcases h with ⟨v, v1, v2, v3, v4, v5⟩ | ⟨n1, h⟩
    · omega
    · rcases h with ⟨v, v1, v2, v3, v4, v5⟩ | ⟨n2, v2, v3⟩
      · omega
      · refine ⟨⟨a.1, a.2, fun v hv => ?_, fun u v hu hv h1 h2 => ?_, n2⟩, v2⟩
        · have hf := n1 v hv
          have f1 : ¬ pa ps v < -1 := fun h => hf (.inl h)
          have f2 : ¬ (ps.length : Int) ≤ pa ps v := fun h => hf (.inr (.inl h))
          have f3 : ¬ pa ps v = (v : Int) := fun h => hf (.inr (.inr (.inl h)))
          exact ⟨by omega, by omega, f3⟩
        · rcases Nat.lt_trichotomy u v with h3 | h3 | h3
          · exact absurd (show faultA ps v from .inr (.inr (.inr ⟨h2, u, h3, h1⟩))) (n1 v hv)
          · exact h3
          · exact absurd (show faultA ps u from .inr (.inr (.inr ⟨h1, v, h3, h2⟩))) (n1 u hu)
theorem good_chk {ps : List Int} (G : Gr.Good ps) : ChkIs ps 0 0 := by
  refine .inr (.inr ⟨⟨G.pos, G.few⟩, .inr ⟨fun u hu h => ?_, .inr ⟨G.all, rfl, rfl⟩⟩⟩)
  have hr := G.rng u hu
  rcases h with h | h | h | ⟨h, x, hx, hx2⟩
  · omega
  · omega
  · omega
  · have := G.one u x hu (by omega) h hx2
    omega
theorem climb_step (ps : List Int) (k v : Nat) : ∀ (x : Int), climb ps (k + 1) x = if climb ps k x = -1 then -1 else pa ps (climb ps k x).toNat := by
  induction k with
  | zero => intro x; rfl
  | succ k ih =>
    intro x
    show (if x = -1 then -1 else climb ps (k + 1) (pa ps x.toNat)) = _
    by_cases hx : x = -1
    · rw [if_pos hx]
      have : climb ps (k + 1) x = -1 := by rw [hx]; rfl
      rw [if_pos this]
    · rw [if_neg hx, ih]
      have : climb ps (k + 1) x = climb ps k (pa ps x.toNat) := by
        show (if x = -1 then -1 else _) = _
        rw [if_neg hx]
      rw [this]

theorem climb_rng {ps : List Int} (h : ∀ v, v < ps.length → -1 ≤ pa ps v ∧ pa ps v < (ps.length : Int)) (v : Nat) (hv : v < ps.length) : ∀ k, -1 ≤ climb ps k (v : Int) ∧ climb ps k (v : Int) < (ps.length : Int) := by
  intro k
  induction k with
  | zero => exact ⟨by show -1 ≤ (v : Int); omega, by show (v : Int) < _; omega⟩
  | succ k ih =>
    rw [climb_step ps k 0]
    by_cases hc : climb ps k (v : Int) = -1
    · rw [if_pos hc]; omega
    · rw [if_neg hc]
      exact h _ (by omega)
theorem rng_of {ps : List Int} (h : ∀ u, u < ps.length → ¬ faultA ps u) : ∀ v, v < ps.length → -1 ≤ pa ps v ∧ pa ps v < (ps.length : Int) := by
  intro v hv
  have hf := h v hv
  have f1 : ¬ pa ps v < -1 := fun h => hf (.inl h)
  have f2 : ¬ (ps.length : Int) ≤ pa ps v := fun h => hf (.inr (.inl h))
  omega

/-- What the first loop knows of the nodes that it has seen. -/
def RootsAt (ps : List Int) (v rt : Nat) : Prop := (∀ u, u < v → ¬ faultA ps u) ∧ ((rt = 0 ∧ ∀ u, u < v → pa ps u ≠ -1) ∨ (rt = 1 ∧ ∃ u, u < v ∧ pa ps u = -1))
end Go.Proofs.Ytcomiininaemhaa.Pk
