/- Plain mathematics: the numbers that stand one behind the other from the front of bytes on. -/
import Derived.Test.YtneijohbmphheaaPackMath
namespace Go.Proofs.Ytneijohbmphheaa.Pk

/-- From place o on (fuel first): the place of each number, and itself. -/
def numsF : Nat → Nat → List Int → List (Nat × Int)
  | 0, _, _ => []
  | f + 1, o, l => if (tkv l).2 = 0 then [] else (o, (tkv l).1) :: numsF f (o + (tkv l).2) (l.drop (tkv l).2)
def nums (l : List Int) : List (Nat × Int) := numsF (l.length + 1) 0 l

theorem tkv_bd {l : List Int} (hb : isB l) : (tkv l).2 ≤ l.length ∧ 0 ≤ (tkv l).1 ∧ (tkv l).1 ≤ 9223372036854775807 := by
  rcases tkv_cases l hb with h | ⟨y, k, h, h1, h2, h3, h4, _⟩ <;> rw [h]
  · simp
  · exact ⟨h4, h1, h2⟩

/-- What is still to come at place o, whatever the fuel. -/
def Ahead (l : List Int) (pre : List (Nat × Int)) (o : Nat) : Prop := ∃ f, (l.drop o).length < f ∧ nums l = pre ++ numsF f o (l.drop o)
theorem ahead_start (l : List Int) : Ahead l [] 0 := ⟨l.length + 1, by simp, rfl⟩
theorem ahead_more {l : List Int} {pre : List (Nat × Int)} {o : Nat} (h : Ahead l pre o) (hk : (tkv (l.drop o)).2 ≠ 0) (hle : (tkv (l.drop o)).2 ≤ (l.drop o).length) :
    Ahead l (pre ++ [(o, (tkv (l.drop o)).1)]) (o + (tkv (l.drop o)).2) := by
  obtain ⟨f, hf, e⟩ := h
  cases f with
  | zero => omega
  | succ f =>
    rw [numsF, if_neg hk] at e
    refine ⟨f, ?_, ?_⟩
    · rw [← List.drop_drop, List.length_drop]; omega
    · rw [e, List.drop_drop]; simp
theorem ahead_end {l : List Int} {pre : List (Nat × Int)} {o : Nat} (h : Ahead l pre o) (hk : (tkv (l.drop o)).2 = 0) : pre = nums l := by
  obtain ⟨f, hf, e⟩ := h
  cases f with
  | zero => omega
  | succ f => rw [numsF, if_pos hk] at e; rw [e]; simp
theorem ahead_prefix {l : List Int} {pre : List (Nat × Int)} {o : Nat} (h : Ahead l pre o) : pre <+: nums l := by
  obtain ⟨f, hf, e⟩ := h
  exact ⟨_, e.symm⟩
end Go.Proofs.Ytneijohbmphheaa.Pk
