/- Two datagrams compared. -/
import Derived.Test.YtmegpbejknmjbaaDoorGmSpec
import Derived.Test.YtmegpbejknmjbaaDoorWiEq
import Derived.Outline
namespace Go.Proofs.YtmegpbejknmjbaaDoor.Pk
open Go.RowKit
set_option linter.unusedVariables false
theorem below_by {w w' : World} {i : Nat} (h : Below w.heap.size (w.drewN i) w') : Below w.heap.size w w' := ⟨h.os, h.tape, h.output, h.size, h.block⟩
theorem cells9 {w : World} {p : Nat} {t : TypeId} {f a b c k o d u v : Int} (h : Blk w p t #[.int .i64 f, .int .i64 a, .int .i64 b, .int .i64 c, .int .i64 k, .int .i64 o, .int .i64 d, .int .i64 u, .int .i64 v]) : w.cell? ⟨p, 0, none⟩ = some (.int .i64 f) ∧ w.cell? ⟨p, 1, none⟩ = some (.int .i64 a) ∧ w.cell? ⟨p, 2, none⟩ = some (.int .i64 b) ∧ w.cell? ⟨p, 3, none⟩ = some (.int .i64 c) ∧ w.cell? ⟨p, 4, none⟩ = some (.int .i64 k) ∧ w.cell? ⟨p, 5, none⟩ = some (.int .i64 o) ∧ w.cell? ⟨p, 6, none⟩ = some (.int .i64 d) ∧ w.cell? ⟨p, 7, none⟩ = some (.int .i64 u) ∧ w.cell? ⟨p, 8, none⟩ = some (.int .i64 v) := ⟨h.cell 0, h.cell 1, h.cell 2, h.cell 3, h.cell 4, h.cell 5, h.cell 6, h.cell 7, h.cell 8⟩
section
attribute [local go_sem] Oper.semAt_some
set_option maxRecDepth 100000 in
set_option maxHeartbeats 8000000 in
theorem eq_gram (f a b c k o d u v f' a' b' c' k' o' d' u' v' : Int) (w : World) : (Op.equalIn 10000 26 (.agg #[.int .i64 f, .int .i64 a, .int .i64 b, .int .i64 c, .int .i64 k, .int .i64 o, .int .i64 d, .int .i64 u, .int .i64 v]) (.agg #[.int .i64 f', .int .i64 a', .int .i64 b', .int .i64 c', .int .i64 k', .int .i64 o', .int .i64 d', .int .i64 u', .int .i64 v'])).run Tryd.prog w = .ok (decide ((⟨f, a, b, c, ⟨k, o, d, u, v⟩⟩ : Gm) = ⟨f', a', b', c', ⟨k', o', d', u', v'⟩⟩)) w := by
  have u3 := Tryd.underlying3
  have a3 := Tryd.isAgg3
  have z3 := Tryd.sizeOf3
  have hst : Tryd.prog.stoodInHeld 26 = false := by kernel_rfl
  have hst2 : Tryd.prog.stoodInHeld 24 = false := by kernel_rfl
  have a4 := Tryd.isAgg24
  have z4 := Tryd.sizeOf24
  rw [show (10000 : Nat) = 9999 + 1 from rfl, Op.equalIn]
  simp only [Sem.run_bind, run_underlying Tryd.underlying26, Result.andThen_ok]
  go_simp
  (repeat' split) <;> simp_all
end
end Go.Proofs.YtmegpbejknmjbaaDoor.Pk
