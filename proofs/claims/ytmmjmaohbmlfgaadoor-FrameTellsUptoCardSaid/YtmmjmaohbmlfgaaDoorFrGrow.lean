/- The library's slices.Grow of nothing: room for n bytes. -/
import Derived.Test.YtmmjmaohbmlfgaaDoorFrRef
import Derived.Lib.AppendZeros
namespace Go.Proofs.YtmmjmaohbmlfgaaDoor.Pk
open Go.RowKit Go.Proofs.YtmmjmaohbmlfgaaDoor.Crc Go.Proofs.YtmmjmaohbmlfgaaDoor.Fr
set_option linter.unusedVariables false
theorem run_appZ (w : World) (ty : TypeId) (n : Nat) (h0 : 0 < n) (hn : n ≤ 281474976710656) : ∃ c cur, n ≤ c ∧ c ≤ maxLen ∧ cur.size = c ∧
    (Builtin.append_ #[22, 3] ty #[.slice none 0 0, .int .i64 (n : Int)]).run Tryd.prog w = .ok (.slice (some ⟨w.heap.size, 0, none⟩) n c) (w.drew.alloc (.cells cur 5)) := by
  obtain ⟨i0, hi0, hz0, hz1, hz2⟩ := info_parts u8_info
  have h := Lib.run_append_nil_zeros (P := Tryd.prog) w 22 3 ty 5 i0 (.int .u8 0) .i64 .i64 Tryd.underlying22 Tryd.underlying3 hi0 hz0 n h0 (by omega) (by omega) (by rw [hz2]; omega)
  have hle := grownCap_ge w n 0 5
  have hmx := grownCap_le_maxLen w n 0 5 (by unfold maxLen; omega)
  refine ⟨_, _, hle, hmx, ?_, h⟩
  have hzc : (Value.int .u8 0).cells.size = 1 := rfl
  simp [Builtin.zeroCells, hzc]
  omega
theorem run_headN {P : Program} {t e : TypeId} (ht : P.underlying t = some (.slice e)) (hi : (P.info? e).map (·.size) = some 1) (a : Option Addr) (n c : Nat) (w : World) :
    (Instr.slice t (.slice a n c) none (some (.int .i64 0)) none).run P w = .ok (.slice a 0 c) w := by
  obtain ⟨f, hi1, hi2⟩ := Option.map_eq_some_iff.1 hi
  cases a <;> simp [Instr.slice, run_underlying ht, go_sem, Instr.sliceBounds, sizeOf, typeInfo, hi1, Addr.add]

set_option maxHeartbeats 800000 in
theorem grow_any (n : Nat) (hn : n ≤ 281474976710656) (w : World) :
    Calls Tryd.prog 28 #[.slice none 0 0, .int .i64 (n : Int)] w fun e w' => ∃ v, e = .returned v ∧ OwnB w' w.heap.size v [] ∧ Below w.heap.size w w' := by
  have kz : ∀ u : World, (Instr.slice 22 (.slice none 0 0) none (some (.int .i64 0)) none).run Tryd.prog u = .ok (.slice none 0 0) u := fun u => run_headN Tryd.underlying22 (by kernel_rfl) none 0 0 u
  by_cases h0 : 0 < n
  · obtain ⟨c, cur, h1, h2, h3, h4⟩ := run_appZ w 22 n h0 hn
    have kc : ∀ u : World, (Instr.slice 22 (.slice (some ⟨w.heap.size, 0, none⟩) n c) none (some (.int .i64 0)) none).run Tryd.prog u = .ok (.slice (some ⟨w.heap.size, 0, none⟩) 0 c) u := fun u => run_headN Tryd.underlying22 (by kernel_rfl) _ n c u
    have H1 := Lib.hid h1
    have H2 := Lib.hid h2
    have H3 := Lib.hid h3
    clear h1 h2 h3
    go_enter Tryd.func28, Tryd.ntmps28
    go_wp2_with (at_builtin; refine Lib.wpList_append_run _ rfl _ _ _ _ rfl _ _ rfl rfl _ _ h4 ?_)
    go_ret
    refine ⟨_, rfl, ⟨rfl, .inr ⟨w.heap.size, c, cur, rfl, Nat.le_refl _, heap_alloc_new w.drew _, Nat.zero_le _, H2.out, by rw [H3.out]; omega, rfl⟩⟩, ?_⟩
    exact (⟨rfl, rfl, rfl, Nat.le_refl _, fun _ _ => rfl⟩ : Below w.heap.size w w.drew).alloc (Nat.le_refl _) _
  · obtain rfl : n = 0 := by omega
    go_enter Tryd.func28, Tryd.ntmps28
    go_wp2
    go_ret
    exact ⟨_, rfl, OwnB.nil_ _ _, Below.refl _ _⟩
end Go.Proofs.YtmmjmaohbmlfgaaDoor.Pk
