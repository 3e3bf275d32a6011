/- What a count of raw writes is told: plain mathematics. -/
import Derived.Test.YtgocfkjibcokjaaDkWakes
namespace Go.Proofs.Ytgocfkjibcokjaa.Dk
open Go.RowKit Go.Proofs.Ytgocfkjibcokjaa.Pk
set_option linter.unusedVariables false

theorem no_on {d : DK} {f : Int} (ho : d.on = true) (hf : f = 0 ∨ f = 1) : d.no f = 0 := by unfold DK.no; rw [if_pos hf, if_pos ho]
theorem no_off {d : DK} {f : Int} (ho : d.on = false) (hf : f = 0 ∨ f = 1) : d.no f = 40 := by unfold DK.no; rw [if_pos hf, if_neg (by simp [ho])]
theorem put_on (d : DK) (f : Int) (x : FL) : (d.put f x).on = d.on := by unfold DK.put; split <;> rfl
theorem put_cnt (d : DK) (f : Int) (x : FL) : (d.put f x).cnt = d.cnt := by unfold DK.put; split <;> rfl
theorem put_left (d : DK) (f : Int) (x : FL) : (d.put f x).left = d.left := by unfold DK.put; split <;> rfl
theorem put_keep (d : DK) (f : Int) (x : FL) : (d.put f x).keep = d.keep := by unfold DK.put; split <;> rfl
/-- A raw write in which the power stays. -/
theorem app_stays {d : DK} {f : Int} (b : List Int) (ho : d.on = true) (hf : f = 0 ∨ f = 1) (hl : d.left ≠ 1) : (d.app f b).on = true ∧ (d.app f b).cnt = d.cnt + 1 ∧ (d.app f b).left = d.left - 1 ∧ d.appE f = 0 := by
  have h1 := no_on ho hf
  unfold DK.app DK.appE DK.raw DK.rawE DK.count
  rw [if_pos h1, if_pos h1, put_left, if_neg hl, if_neg hl, put_on, put_cnt]
  exact ⟨ho, rfl, rfl, rfl⟩
/-- The one in which it goes. -/
theorem app_goes {d : DK} {f : Int} (b : List Int) (ho : d.on = true) (hf : f = 0 ∨ f = 1) (hl : d.left = 1) : (d.app f b).on = false ∧ (d.app f b).cnt = d.cnt + 1 ∧ (d.app f b).left = 0 ∧ d.appE f = 40 := by
  have h1 := no_on ho hf
  unfold DK.app DK.appE DK.raw DK.rawE DK.count DK.offs
  rw [if_pos h1, if_pos h1, put_left, if_pos hl, if_pos hl]
  simp [put_on, put_cnt, ho]
theorem off_app {d : DK} {f : Int} (b : List Int) (ho : d.on = false) (hf : f = 0 ∨ f = 1) : d.app f b = d ∧ d.appE f = 40 := by
  have h1 := no_off ho hf
  unfold DK.app DK.appE
  rw [h1]
  exact ⟨rfl, rfl⟩
theorem off_syn {d : DK} {f : Int} (ho : d.on = false) (hf : f = 0 ∨ f = 1) : d.syn f = d := by
  have h1 := no_off ho hf
  unfold DK.syn
  rw [h1]
  rfl
theorem off_tru {d : DK} (ho : d.on = false) : d.tru 0 0 = d ∧ d.truE 0 0 = 40 := by
  have h1 := no_off (f := 0) ho (.inl rfl)
  have h2 : d.noT 0 0 = 40 := by unfold DK.noT; rw [if_neg (by omega), h1]
  unfold DK.tru DK.truE
  rw [h2]
  exact ⟨rfl, rfl⟩

theorem and63 (n : Int) : ∃ k : Nat, k ≤ 63 ∧ bits .and .i64 n 63 = (k : Int) := by
  unfold bits
  have h : (BitVec.ofInt 64 n &&& BitVec.ofInt 64 63).toNat ≤ 63 := by
    rw [BitVec.toNat_and]
    exact Nat.le_trans Nat.and_le_right (by decide)
  refine ⟨(BitVec.ofInt 64 n &&& BitVec.ofInt 64 63).toNat, h, ?_⟩
  show IntKind.i64.wrap ((BitVec.ofInt 64 n &&& BitVec.ofInt 64 63).toNat : Int) = _
  generalize (BitVec.ofInt 64 n &&& BitVec.ofInt 64 63).toNat = k at h ⊢
  unfold IntKind.wrap
  simp [IntKind.bits, IntKind.signed]
  omega
theorem and1 (n : Int) : bits .and .i64 n 1 = 0 ∨ bits .and .i64 n 1 = 1 := by
  unfold bits
  have h : (BitVec.ofInt 64 n &&& BitVec.ofInt 64 1).toNat ≤ 1 := by
    rw [BitVec.toNat_and]
    exact Nat.le_trans Nat.and_le_right (by decide)
  show IntKind.i64.wrap ((BitVec.ofInt 64 n &&& BitVec.ofInt 64 1).toNat : Int) = 0 ∨ IntKind.i64.wrap ((BitVec.ofInt 64 n &&& BitVec.ofInt 64 1).toNat : Int) = 1
  generalize (BitVec.ofInt 64 n &&& BitVec.ofInt 64 1).toNat = k at h ⊢
  have : k = 0 ∨ k = 1 := by omega
  rcases this with rfl | rfl
  · exact .inl rfl
  · exact .inr rfl
end Go.Proofs.Ytgocfkjibcokjaa.Dk
