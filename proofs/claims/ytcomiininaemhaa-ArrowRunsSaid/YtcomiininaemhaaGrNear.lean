/- The document's answer for trees (fletchref04): Near; what a list's fault is. -/
import Derived.Test.YtcomiininaemhaaWords
import Derived.Test.YtcomiininaemhaaProg
import Derived.Test.YtcomiininaemhaaGrList
import Derived.Lib.Hide
import Derived.LoopTactic
namespace Go.Proofs.Ytcomiininaemhaa.Pk
open Go.RowKit Go.Proofs.Ytcomiininaemhaa.Gr
set_option linter.unusedVariables false

theorem pa_get {ps : List Int} {v : Nat} (h : v < ps.length) : ps.getD v 0 = pa ps v := by
  unfold pa
  simp [List.getD, h]
theorem Reads.pa {w : World} {B : Nat} {A : Option Addr} {n : Nat} {ps : List Int} (h : Reads w B 1 A n (nms ps)) (hn : 0 < n) :
    ∃ b off, A = some ⟨b, off, none⟩ ∧ b < B ∧ ∀ v, v < n → w.cell? ⟨b, off + v, none⟩ = some (.int .i64 (pa ps v)) := by
  obtain ⟨b, off, e, hb, hc⟩ := h.i64 hn
  have hl : ps.length = n := by have := h.1; simpa [nms] using this
  exact ⟨b, off, e, hb, fun v hv => by rw [hc v hv, pa_get (by omega)]⟩
theorem Reads.plen {w : World} {B : Nat} {A : Option Addr} {n : Nat} {ps : List Int} (h : Reads w B 1 A n (nms ps)) : ps.length = n := by have := h.1; simpa [nms] using this

theorem near_any (A : Option Addr) (n c : Nat) (ps : List Int) (a b : Nat) (w : World) (B : Nat) (hr : Reads w B 1 A n (nms ps)) (ha : a < n) (hb : b < n) :
    Calls Try.prog 36 #[.slice A n c, .int .i64 (a : Int), .int .i64 (b : Int)] w fun e w' => e = .returned (.bool (nearL ps a b)) ∧ w' = w := by
  obtain ⟨bl, off, rfl, hbb, hc⟩ := hr.pa (by omega)
  have c1 := hc a ha
  have c2 := hc b hb
  clear hc hr
  go_enter Try.func36, Try.ntmps36
  by_cases h1 : pa ps a = (b : Int)
  · have t1 : (pa ps a == (b : Int)) = true := by simp [h1]
    have HE : Hid (nearL ps a b = true) := Lib.hid (by unfold nearL; rw [t1]; rfl)
    clear h1
    go_wp2_with fail
    go_ret
    exact ⟨by rw [HE.out]; rfl, rfl⟩
  · have t1 : (pa ps a == (b : Int)) = false := by simp [h1]
    have HE : Hid (nearL ps a b = (pa ps b == (a : Int))) := Lib.hid (by unfold nearL; rw [t1]; rfl)
    clear h1
    go_wp2_with fail
    go_ret
    exact ⟨by rw [HE.out]; rfl, rfl⟩

/-- The first kind of fault. -/
def faultA (ps : List Int) (v : Nat) : Prop := pa ps v < -1 ∨ (ps.length : Int) ≤ pa ps v ∨ pa ps v = (v : Int) ∨ (pa ps v = -1 ∧ ∃ u, u < v ∧ pa ps u = -1)
/-- What Check must answer. -/
def ChkIs (ps : List Int) (p e : Int) : Prop :=
  (ps.length = 0 ∧ p = 0 ∧ e = 1) ∨ (32 < ps.length ∧ p = 0 ∧ e = 3) ∨
  ((0 < ps.length ∧ ps.length ≤ 32) ∧ ((∃ v, v < ps.length ∧ p = (v : Int) ∧ e = 10 ∧ faultA ps v ∧ ∀ u, u < v → ¬ faultA ps u) ∨
    ((∀ u, u < ps.length → ¬ faultA ps u) ∧ ((∃ v, v < ps.length ∧ p = (v : Int) ∧ e = 10 ∧ climb ps ps.length (v : Int) ≠ -1 ∧ ∀ u, u < v → climb ps ps.length (u : Int) = -1) ∨
      ((∀ u, u < ps.length → climb ps ps.length (u : Int) = -1) ∧ p = 0 ∧ e = 0)))))
theorem least_one {P : Nat → Prop} {v v' : Nat} (h : P v) (h' : P v') (k : ∀ u, u < v → ¬ P u) (k' : ∀ u, u < v' → ¬ P u) : v = v' := by
  rcases Nat.lt_trichotomy v v' with h1 | h1 | h1
  · exact absurd h (k' v h1)
  · exact h1
  · exact absurd h' (k v' h1)
theorem ChkIs.only {ps : List Int} {p e p' e' : Int} (h : ChkIs ps p e) (h' : ChkIs ps p' e') : p = p' ∧ e = e' := by
  rcases h with ⟨a, b, c⟩ | ⟨a, b, c⟩ | ⟨a, h⟩ <;> rcases h' with ⟨a', b', c'⟩ | ⟨a', b', c'⟩ | ⟨a', h'⟩ <;> first | omega | skip
  rcases h with ⟨v, v1, v2, v3, v4, v5⟩ | ⟨n1, h⟩ <;> rcases h' with ⟨u, u1, u2, u3, u4, u5⟩ | ⟨n1', h'⟩
  · have := least_one v4 u4 v5 u5
    subst this
    exact ⟨by omega, by omega⟩
  · exact absurd v4 (n1' v v1)
  · exact absurd u4 (n1 u u1)
  · rcases h with ⟨v, v1, v2, v3, v4, v5⟩ | ⟨n2, v2, v3⟩ <;> rcases h' with ⟨u, u1, u2, u3, u4, u5⟩ | ⟨n2', u2, u3⟩
    · have := least_one (P := fun x => climb ps ps.length (x : Int) ≠ -1) v4 u4 (fun x hx hn => hn (v5 x hx)) (fun x hx hn => hn (u5 x hx))
      subst this
      exact ⟨by omega, by omega⟩
    · exact absurd (n2' v v1) v4
    · exact absurd (n2 u u1) u4
    · exact ⟨by omega, by omega⟩
theorem ChkIs.good {ps : List Int} {p : Int} (h : ChkIs ps p 0) : Gr.Good ps ∧ p = 0 := by
  rcases h with ⟨a, b, c⟩ | ⟨a, b, c⟩ | ⟨a, h⟩
  · omega
  · omega
  · rcases h with ⟨v, v1, v2, v3, v4, v5⟩ | ⟨n1, h⟩
    · omega
    · rcases h with ⟨v, v1, v2, v3, v4, v5⟩ | ⟨n2, v2, v3⟩
      · omega
      · refine ⟨⟨a.1, a.2, fun v hv => ?_, fun u v hu hv h1 h2 => ?_, n2⟩, v2⟩
        · have hf := n1 v hv
          have f1 : ¬ pa ps v < -1 := fun h => hf (.inl h)
          have f2 : ¬ (ps.length : Int) ≤ pa ps v := fun h => hf (.inr (.inl h))
          have f3 : ¬ pa ps v = (v : Int) := fun h => hf (.inr (.inr (.inl h)))
          exact ⟨by omega, by omega, f3⟩
        · rcases Nat.lt_trichotomy u v with h3 | h3 | h3
          · exact absurd (show faultA ps v from .inr (.inr (.inr ⟨h2, u, h3, h1⟩))) (n1 v hv)
          · exact h3
          · exact absurd (show faultA ps u from .inr (.inr (.inr ⟨h1, v, h3, h2⟩))) (n1 u hu)
theorem good_chk {ps : List Int} (G : Gr.Good ps) : ChkIs ps 0 0 := by
  refine .inr (.inr ⟨⟨G.pos, G.few⟩, .inr ⟨fun u hu h => ?_, .inr ⟨G.all, rfl, rfl⟩⟩⟩)
  have hr := G.rng u hu
  rcases h with h | h | h | ⟨h, x, hx, hx2⟩
  · omega
  · omega
  · omega
  · have := G.one u x hu (by omega) h hx2
    omega
theorem climb_step (ps : List Int) (k v : Nat) : ∀ (x : Int), climb ps (k + 1) x = if climb ps k x = -1 then -1 else pa ps (climb ps k x).toNat := by
  induction k with
  | zero => intro x; rfl
  | succ k ih =>
    intro x
    show (if x = -1 then -1 else climb ps (k + 1) (pa ps x.toNat)) = _
    by_cases hx : x = -1
    · rw [if_pos hx]
      have : climb ps (k + 1) x = -1 := by rw [hx]; rfl
      rw [if_pos this]
    · rw [if_neg hx, ih]
      have : climb ps (k + 1) x = climb ps k (pa ps x.toNat) := by
        show (if x = -1 then -1 else _) = _
        rw [if_neg hx]
      rw [this]

theorem climb_rng {ps : List Int} (h : ∀ v, v < ps.length → -1 ≤ pa ps v ∧ pa ps v < (ps.length : Int)) (v : Nat) (hv : v < ps.length) : ∀ k, -1 ≤ climb ps k (v : Int) ∧ climb ps k (v : Int) < (ps.length : Int) := by
  intro k
  induction k with
  | zero => exact ⟨by show -1 ≤ (v : Int); omega, by show (v : Int) < _; omega⟩
  | succ k ih =>
    rw [climb_step ps k 0]
    by_cases hc : climb ps k (v : Int) = -1
    · rw [if_pos hc]; omega
    · rw [if_neg hc]
      exact h _ (by omega)
theorem rng_of {ps : List Int} (h : ∀ u, u < ps.length → ¬ faultA ps u) : ∀ v, v < ps.length → -1 ≤ pa ps v ∧ pa ps v < (ps.length : Int) := by
  intro v hv
  have hf := h v hv
  have f1 : ¬ pa ps v < -1 := fun h => hf (.inl h)
  have f2 : ¬ (ps.length : Int) ≤ pa ps v := fun h => hf (.inr (.inl h))
  omega

/-- What the first loop knows of the nodes that it has seen. -/
def RootsAt (ps : List Int) (v rt : Nat) : Prop := (∀ u, u < v → ¬ faultA ps u) ∧ ((rt = 0 ∧ ∀ u, u < v → pa ps u ≠ -1) ∨ (rt = 1 ∧ ∃ u, u < v ∧ pa ps u = -1))
end Go.Proofs.Ytcomiininaemhaa.Pk
