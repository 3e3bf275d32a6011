/- The law's own: what a chain must do. -/
import Derived.Test.YteflefmlicamlaaChSpec
import Derived.Deep.QuietTactic
import Derived.BigQuiet
namespace Go.Proofs.Yteflefmlicamlaa.Pk
open Go.RowKit
set_option linter.unusedVariables false
attribute [local go_sem] Oper.semAt_some
theorem lit_inK (w : World) (m : Ce) (hm : m.I) : InK (w.alloc (.cells #[.int .i64 m.n, .int .i64 m.s, .int .i64 m.d, .int .i64 m.x] 36)) [m] (some ⟨w.heap.size, 0, none⟩) 1 1 :=
  ⟨by have := reads_cell w 36 m; rw [World.size_alloc]; exact this, Nat.le_refl _, by omega, fun x hx => by rw [List.mem_singleton.1 hx]; exact hm⟩
set_option maxHeartbeats 4000000 in
theorem wakesC (HSu : SuccP) (HRe : RelP) (w : World) : Calls Try.prog 8 #[] w fun e w' => e = .returned (.bool true) ∧ Below w.heap.size w w' := by
  have HR := Lib.hid (HRe (some ⟨w.heap.size, 0, none⟩) 1 1 [⟨3, 2, 2, 5⟩] _ (lit_inK w ⟨3, 2, 2, 5⟩ (by constructor <;> simp)))
  have HE : Hid (relK [⟨3, 2, 2, 5⟩] = ([], 2, 5, 0)) := Lib.hid (by decide)
  rw [HE.out] at HR
  have HS := Lib.hid (fun w1 : World => HSu (some ⟨w1.heap.size, 0, none⟩) 1 1 [⟨3, 2, -1, 0⟩] 2 5 _ (lit_inK w1 ⟨3, 2, -1, 0⟩ (by constructor <;> simp)) (by unfold J64; omega) (by unfold J64; omega))
  have HF : Hid (succK [⟨3, 2, -1, 0⟩] 2 5 = ([⟨3, 2, 2, 5⟩], false)) := Lib.hid (by decide)
  rw [HF.out] at HS
  clear HE HF HSu HRe
  have hb0 : Below w.heap.size w (w.alloc (.cells #[.int .i64 3, .int .i64 2, .int .i64 2, .int .i64 5] 36)) := (Below.refl _ _).alloc (Nat.le_refl _) _
  have HB0 := Lib.hid hb0
  clear hb0
  go_enter Try.func8, Try.ntmps8
  go_wp2_with fail
  refine HR.out.mono ?_
  rintro e w1 ⟨v1, rfl, ho1, hb1⟩
  obtain ⟨A1, c1, rfl⟩ := ho1.sl
  have HB1 := Lib.hid (HB0.out.trans (hb1.mono HB0.out.size))
  clear ho1 hb1
  go_wp2_with fail
  refine (HS.out w1).mono ?_
  rintro e w2 ⟨v2, rfl, ho2, hb2⟩
  obtain ⟨A2, c2, rfl⟩ := ho2.sl
  obtain ⟨b, off, e9, _, hc⟩ := (ownK_reads ho2).ces_ (by simp)
  subst e9
  obtain ⟨-, -, m2, -⟩ := hc 0 _ rfl
  have hb3 : Below w1.heap.size w1 (w1.alloc (.cells #[.int .i64 3, .int .i64 2, .int .i64 (-1), .int .i64 0] 36)) := (Below.refl _ _).alloc (Nat.le_refl _) _
  have HB2 := Lib.hid (HB1.out.trans ((hb3.trans (hb2.mono hb3.size)).mono HB1.out.size))
  clear ho2 hb2 hc hb3
  go_wp2
  go_ret
  exact ⟨rfl, HB2.out⟩
end Go.Proofs.Yteflefmlicamlaa.Pk
