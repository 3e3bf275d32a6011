/- Package tree: slices.Index, fits and Check by the list of parents. -/
import Derived.Test.YtcomiininaemhaaGrNear
import Derived.Lib.Hide
import Derived.Outline
import Derived.Scope
import Derived.Deep.QuietTactic
import Derived.BigQuiet
import Derived.Deep.DeepMust
import Derived.LoopTactic
namespace Go.Proofs.Ytcomiininaemhaa.Pk
open Go.RowKit Go.Proofs.Ytcomiininaemhaa.Gr
set_option linter.unusedVariables false

/-- The first place of a number; -1: none. -/
def IdxIs (ps : List Int) (x i : Int) : Prop := (∃ u, u < ps.length ∧ i = (u : Int) ∧ pa ps u = x ∧ ∀ u', u' < u → pa ps u' ≠ x) ∨ (i = -1 ∧ ∀ u, u < ps.length → pa ps u ≠ x)
set_option maxHeartbeats 1000000 in
theorem idx_any (A : Option Addr) (n c : Nat) (ps : List Int) (x : Int) (w : World) (B : Nat) (hr : Reads w B 1 A n (nms ps)) (hbig : n ≤ 4611686018427387904) :
    Calls Try.prog 40 #[.slice A n c, .int .i64 x] w fun e w' => ∃ i, e = .returned (.int .i64 i) ∧ IdxIs ps x i ∧ w' = w := by
  have HL := Lib.hid hr.plen
  have HR := Lib.hid hr
  clear hr
  go_enter Try.func40, Try.ntmps40
  go_wp2
  go_loop [8] (fun y => ∃ v : Nat, y = .int .i64 v ∧ v ≤ n ∧ ∀ u, u < v → pa ps u ≠ x) (fun y => n - (intOf y).toNat)
  case atStart => exact ⟨0, rfl, by omega, fun u hu => by omega⟩
  case round =>
    obtain ⟨v, rfl, hv, hno⟩ := hrel
    have HN := Lib.hid hno
    clear hno
    by_cases hlt : v < n
    · obtain ⟨b, off, rfl, hbb, hc⟩ := HR.out.pa (by omega)
      have cv := hc v hlt
      clear hc
      obtain ⟨p, hp⟩ : ∃ p, p = pa ps v := ⟨_, rfl⟩
      have HP := Lib.hid hp
      rw [← hp] at cv
      clear hp
      by_cases h1 : x = p
      · have HF : Hid (IdxIs ps x (v : Int)) := Lib.hid (.inl ⟨v, by rw [HL.out]; exact hlt, rfl, by rw [← HP.out]; exact h1.symm, HN.out⟩)
        have t1 : (x == p) = true := by simp [h1]
        clear h1
        go_wp2
        go_ret
        exact ⟨_, rfl, HF.out, rfl⟩
      · have HS : Hid (∀ u, u < v + 1 → pa ps u ≠ x) := Lib.hid (fun u hu => by
          rcases Nat.lt_or_ge u v with h | h
          · exact HN.out u h
          · have : u = v := by omega
            subst this
            rw [← HP.out]; exact fun e => h1 e.symm)
        have t1 : (x == p) = false := by simp [h1]
        clear h1
        go_wp2
        go_round
        case rel => exact ⟨v + 1, by go_num, by omega, HS.out⟩
        case measure => simp [intOf]; omega
    · have HF : Hid (IdxIs ps x (-1)) := Lib.hid (.inr ⟨rfl, fun u hu => HN.out u (by rw [HL.out] at hu; omega)⟩)
      go_wp2
      go_ret
      exact ⟨_, rfl, HF.out, rfl⟩

theorem idx_first {ps : List Int} {v : Nat} {i : Int} (h : IdxIs ps (-1) i) (hv : v < ps.length) (hp : pa ps v = -1) : i = (v : Int) ↔ ¬ ∃ u, u < v ∧ pa ps u = -1 := by
  rcases h with ⟨u, hu, rfl, h1, h2⟩ | ⟨rfl, h2⟩
  · constructor
    · rintro e ⟨x, hx, hx2⟩
      have : u = v := by omega
      subst this
      exact h2 x hx hx2
    · intro hno
      rcases Nat.lt_trichotomy u v with h3 | h3 | h3
      · exact absurd ⟨u, h3, h1⟩ hno
      · rw [h3]
      · exact absurd hp (h2 v h3)
  · exact absurd hp (h2 v hv)
theorem fault_root {ps : List Int} {v : Nat} {i : Int} (h : IdxIs ps (-1) i) (hv : v < ps.length) (hp : pa ps v = -1) : i = (v : Int) ↔ ¬ faultA ps v := by
  rw [idx_first h hv hp]
  unfold faultA
  constructor
  · rintro h1 (h2 | h2 | h2 | ⟨_, h2⟩)
    · omega
    · omega
    · omega
    · exact h1 h2
  · intro h1 h2
    exact h1 (.inr (.inr (.inr ⟨hp, h2⟩)))
theorem fault_else {ps : List Int} {v : Nat} (hp : pa ps v ≠ -1) : ¬ faultA ps v ↔ 0 ≤ pa ps v ∧ pa ps v < (ps.length : Int) ∧ pa ps v ≠ (v : Int) := by
  unfold faultA
  constructor
  · intro h
    refine ⟨?_, ?_, fun e => h (.inr (.inr (.inl e)))⟩
    · rcases Int.lt_or_le (pa ps v) 0 with h1 | h1
      · exact absurd (.inl (by omega)) h
      · exact h1
    · rcases Int.lt_or_le (pa ps v) (ps.length : Int) with h1 | h1
      · exact h1
      · exact absurd (.inr (.inl h1)) h
  · rintro ⟨h1, h2, h3⟩ (h | h | h | ⟨h, _⟩)
    · omega
    · omega
    · exact h3 h
    · exact hp h

/-- What fits leaves. -/
def FitsR (ps : List Int) (v : Nat) (w : World) (e : Ending) (w' : World) : Prop := ∃ ok, e = .returned (.bool ok) ∧ (ok = true ↔ ¬ faultA ps v) ∧ w' = w
set_option maxHeartbeats 1000000 in
theorem fits_any (A : Option Addr) (n c : Nat) (ps : List Int) (v : Nat) (w : World) (B : Nat) (hr : Reads w B 1 A n (nms ps)) (hv : v < n) (hn : n ≤ 32) :
    Calls Try.prog 42 #[.slice A n c, .int .i64 (v : Int)] w (FitsR ps v w) := by
  have HL := Lib.hid hr.plen
  have HR := Lib.hid hr
  obtain ⟨b, off, rfl, hbb, hc⟩ := hr.pa (by omega)
  have cv := hc v hv
  clear hr hc
  obtain ⟨p, hp⟩ : ∃ p, p = pa ps v := ⟨_, rfl⟩
  have HP := Lib.hid hp
  rw [← hp] at cv
  clear hp
  go_enter Try.func42, Try.ntmps42
  by_cases h1 : p = -1
  · subst h1
    have HI := Lib.hid (fun (W : World) (h : Reads W B 1 (some ⟨b, off, none⟩) n (nms ps)) => idx_any (some ⟨b, off, none⟩) n c ps (-1) W B h (by omega))
    go_wp2_with fail
    refine (HI.out _ HR.out).mono ?_
    rintro e w1 ⟨i, rfl, hi, rfl⟩
    have HF := Lib.hid (fault_root hi (by rw [HL.out]; exact hv) HP.out.symm)
    by_cases h2 : i = (v : Int)
    · have t1 : (i == (v : Int)) = true := by simp [h2]
      have HG : Hid (¬ faultA ps v) := Lib.hid (HF.out.1 h2)
      clear h2 hi
      go_wp2
      go_ret
      exact ⟨_, rfl, ⟨fun _ => HG.out, fun _ => rfl⟩, rfl⟩
    · have t1 : (i == (v : Int)) = false := by simp [h2]
      have HG : Hid (¬ ¬ faultA ps v) := Lib.hid (fun h => h2 (HF.out.2 h))
      clear h2 hi
      go_wp2
      go_ret
      exact ⟨_, rfl, ⟨fun h => (by cases h), fun h => absurd h HG.out⟩, rfl⟩
  · have HF := Lib.hid (fault_else (ps := ps) (v := v) (by rw [← HP.out]; exact h1))
    have t1 : (p == -1) = false := by simp [h1]
    rw [← HP.out, HL.out] at HF
    by_cases h2 : p < 0
    · have HG : Hid (¬ ¬ faultA ps v) := Lib.hid (fun h => by have := (HF.out.1 h).1; omega)
      clear h1
      go_wp2
      go_ret
      exact ⟨_, rfl, ⟨fun h => (by cases h), fun h => absurd h HG.out⟩, rfl⟩
    · by_cases h3 : (n : Int) ≤ p
      · have HG : Hid (¬ ¬ faultA ps v) := Lib.hid (fun h => by have := (HF.out.1 h).2.1; omega)
        have h2' : 0 ≤ p := by omega
        clear h1 h2
        go_wp2
        go_ret
        exact ⟨_, rfl, ⟨fun h => (by cases h), fun h => absurd h HG.out⟩, rfl⟩
      · have h2' : 0 ≤ p := by omega
        have h3' : p < (n : Int) := by omega
        by_cases h4 : p = (v : Int)
        · have HG : Hid (¬ ¬ faultA ps v) := Lib.hid (fun h => (HF.out.1 h).2.2 h4)
          have t4 : (p != (v : Int)) = false := by simp [h4]
          clear h1 h2 h3 h4
          go_wp2
          go_ret
          exact ⟨_, rfl, ⟨fun h => (by cases h), fun h => absurd h HG.out⟩, rfl⟩
        · have HG : Hid (¬ faultA ps v) := Lib.hid (HF.out.2 ⟨h2', h3', h4⟩)
          have t4 : (p != (v : Int)) = true := by simp [h4]
          clear h1 h2 h3 h4
          go_wp2
          go_ret
          exact ⟨_, rfl, ⟨fun _ => HG.out, fun _ => rfl⟩, rfl⟩
end Go.Proofs.Ytcomiininaemhaa.Pk
