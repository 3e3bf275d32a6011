/- How an argument that is an array of four bytes is opened. -/
import Derived.Test.YtmegpbejknmjbaaDoorArgs
namespace Go.Proofs.YtmegpbejknmjbaaDoor.Ar
open Go.ChangeShapes Go.WideShapes Go.ChangeAt Go.RowKit Go.Proofs.YtmegpbejknmjbaaDoor.Pk
set_option linter.unusedVariables false

/-- An array of four bytes that came in. -/
def ArgM (v : Value) (ms : List Int) : Prop := ∃ a b c d : Int, ms = [a, b, c, d] ∧ v = .agg #[.int .u8 a, .int .u8 b, .int .u8 c, .int .u8 d] ∧ ∀ x ∈ ms, 0 ≤ x ∧ x ≤ 255

theorem cellsM : Tryd.prog.cellsOf 41 = 4 := by kernel_rfl
theorem cellsB : Tryd.prog.cellsOf 5 = 1 := by kernel_rfl
theorem open_m {H : Type} {enc : TypeId × Value → H} {W : World} {r : Reach} {b0 : Nat} {v : Value} {d : DataW H} {ps : List MemPlace} (hval : Value.okWide Tryd.prog W r b0 41 v)
    (h : DataW.Trod enc Tryd.prog W 0 (fun _ => true) true 41 v d ps) : ∃ ms, ArgM v ms := by
  simp only [Value.okWide, Tryd.underlying41] at hval
  obtain ⟨cs, rfl, hs, _⟩ := hval
  rw [cellsM] at hs
  obtain ⟨fuel, hf⟩ := h
  obtain ⟨xs, m, rfl, hx, hl, hn, hall⟩ := DataW.trod_array Tryd.underlying41 hf
  have hone : ∀ i, i < 4 → ∃ z, ((Value.agg cs).cells.toList.drop i).take 1 = [.int .u8 z] ∧ 0 ≤ z ∧ z ≤ 255 := by
    intro i hi
    have h1 := hall i hi
    rw [cellsB, Nat.mul_one, List.getElem?_eq_getElem (by omega)] at h1
    obtain ⟨z, hz, _, hw⟩ := DataW.trod_int Tryd.underlying5 h1
    exact ⟨z, hz, u8_rng hw⟩
  obtain ⟨⟨l⟩⟩ : Nonempty (Array Value) := ⟨cs⟩
  obtain ⟨a, ha, ha1⟩ := hone 0 (by omega)
  obtain ⟨b, hb, hb1⟩ := hone 1 (by omega)
  obtain ⟨c, hc, hc1⟩ := hone 2 (by omega)
  obtain ⟨d, hd, hd1⟩ := hone 3 (by omega)
  clear hone hall hl
  obtain ⟨q⟩ := cs
  simp only [Value.cells] at ha hb hc hd
  match q, hs with
  | [x0, x1, x2, x3], _ =>
    simp at ha hb hc hd
    subst ha; subst hb; subst hc; subst hd
    refine ⟨[a, b, c, d], a, b, c, d, rfl, rfl, fun x hx => ?_⟩
    simp at hx
    rcases hx with rfl | rfl | rfl | rfl <;> assumption
end Go.Proofs.YtmegpbejknmjbaaDoor.Ar
