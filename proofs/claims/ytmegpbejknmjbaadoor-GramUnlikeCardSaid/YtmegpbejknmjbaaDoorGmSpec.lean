/- What package gram promises (to be proved of the code that lands), and datagrams as they lie. -/
import Derived.Test.YtmegpbejknmjbaaDoorGmSum
import Derived.Test.YtmegpbejknmjbaaDoorWiSpec
import Derived.Test.YtmegpbejknmjbaaDoorCrcAdd
namespace Go.Proofs.YtmegpbejknmjbaaDoor.Pk
open Go.RowKit Go.Proofs.YtmegpbejknmjbaaDoor.Crc
set_option linter.unusedVariables false
def Gm.val (g : Gm) : Value := .agg #[.int .i64 g.f, .int .i64 g.t, .int .i64 g.a, .int .i64 g.s, .int .i64 g.m.k, .int .i64 g.m.o, .int .i64 g.m.n, .int .i64 g.m.u, .int .i64 g.m.v]
/-- Nine ints. -/
structure Gm.I (g : Gm) : Prop where
  f : -9223372036854775808 ≤ g.f ∧ g.f ≤ 9223372036854775807
  t : -9223372036854775808 ≤ g.t ∧ g.t ≤ 9223372036854775807
  a : -9223372036854775808 ≤ g.a ∧ g.a ≤ 9223372036854775807
  s : -9223372036854775808 ≤ g.s ∧ g.s ≤ 9223372036854775807
  m : g.m.I
theorem mg_zero_i : Mg.zero.I := by
  refine ⟨?_, ?_, ?_, ?_, ?_⟩ <;> (constructor <;> (show _ ≤ _; decide))
theorem Gm.Be.i {g : Gm} (h : g.Be) : g.I := by
  obtain ⟨h1, h2, h3, h4, h5, h6, h7, h8, h9, h10, h11⟩ := h
  have hm : g.m.I := by
    by_cases h0 : g.s = 0
    · rw [h10 h0]; exact mg_zero_i
    · exact (h11 h0).i
  exact ⟨by omega, by omega, by omega, by omega, hm⟩
def ValidG : Prop := ∀ (g : Gm) (w : World), g.I → Calls Tryd.prog 12 #[g.val] w fun e w' => e = .returned (.bool (decide g.Be)) ∧ Below w.heap.size w w'
def PutG : Prop := ∀ (A : Option Addr) (n c : Nat) (l : List Int) (g : Gm) (w : World), Reads w w.heap.size 1 A n (bts l) → n ≤ c → isB l → n + 81 ≤ 140737488355328 → g.I →
  Calls Tryd.prog 15 #[.slice A n c, g.val] w fun e w' => ∃ v, e = .returned v ∧ OwnB w' w.heap.size v (l ++ g.put) ∧ Below w.heap.size w w'
def TakeG : Prop := ∀ (A : Option Addr) (n c : Nat) (l : List Int) (w : World) (B : Nat), Reads w B 1 A n (bts l) → n ≤ c → isB l → n ≤ 4611686018427387904 →
  Calls Tryd.prog 17 #[.slice A n c] w fun e w' => e = .returned (.tuple #[(gtake l).1.val, .int .i64 ((gtake l).2.1 : Int), .int .i64 (gtake l).2.2]) ∧ Below w.heap.size w w'
def EncG : Prop := ∀ (g : Gm) (w : World), Tab w → g.I →
  Calls Tryd.prog 10 #[g.val] w fun e w' => ∃ v, e = .returned (.tuple #[v, .int .i64 (genc g).2]) ∧ OwnB w' w.heap.size v (genc g).1 ∧ Below w.heap.size w w'
def DecG : Prop := ∀ (A : Option Addr) (n c : Nat) (l : List Int) (w : World) (B : Nat), Tab w → Reads w B 1 A n (bts l) → n ≤ c → isB l → n ≤ 4611686018427387904 →
  Calls Tryd.prog 19 #[.slice A n c] w fun e w' => e = .returned (.tuple #[(gdec l).1.val, .int .i64 (gdec l).2]) ∧ Below w.heap.size w w'
end Go.Proofs.YtmegpbejknmjbaaDoor.Pk
