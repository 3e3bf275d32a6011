/- The walk of the law's 'many'. -/
import Derived.Test.YtcjfammfplcigaaNtAll
import Derived.Test.YtcjfammfplcigaaNtOp
namespace Go.Proofs.Ytcjfammfplcigaa.Pk
open Go.RowKit Go.Proofs.Ytcjfammfplcigaa.Nt Go.Proofs.Ytcjfammfplcigaa.Ar
set_option linter.unusedVariables false
set_option maxRecDepth 100000 in
set_option maxHeartbeats 4000000 in
theorem many_any (a : Option Addr) (n c : Nat) (l : List OpT) (u w : World) (hr : Reads u u.heap.size 3 a n (ops l)) (hw : Below u.heap.size u w) (hn : n ≤ 140737488351232) :
    Calls Try.prog 8 #[.slice a n c] w fun e w' => ∃ b, e = .returned (.bool b) ∧ Below w.heap.size w w' := by
  have HR := Lib.hid hr
  have HW := Lib.hid hw
  have HL : Hid (l.length = n) := Lib.hid hr.olen
  clear hr hw
  go_enter Try.func8, Try.ntmps8
  go_wp2
  go_loopw [3, 5, 8] (fun z _ j wr => ∃ (k : Nat) (y : Int), j = .int .i64 k ∧ k ≤ n ∧ z = .int .i64 y ∧ 0 ≤ y ∧ y ≤ 4096 ∧ Below w.heap.size w wr) (fun _ _ j _ => n - (intOf j).toNat)
  case atStart => exact ⟨0, 0, rfl, by omega, rfl, by omega, by omega, Below.refl _ _⟩
  case round =>
    obtain ⟨k, y, rfl, hk, rfl, hy1, hy2, hb⟩ := hrel
    obtain ⟨w2, rfl⟩ : ∃ w2 : World, w2 = wr := ⟨_, rfl⟩
    have HB := Lib.hid hb
    clear hb
    by_cases hlt : k < n
    · obtain ⟨b, off, rfl, hbb, hc⟩ := (HR.out.below (HW.out.trans (HB.out.mono HW.out.size))).ops_ (by omega)
      obtain ⟨r, hr⟩ : ∃ r, l[k]? = some r := ⟨_, List.getElem?_eq_getElem (by have := HL.out; omega)⟩
      obtain ⟨c0, c1, c2⟩ := hc k r hr
      clear hc hr
      have HF : Hid (∀ cs, Below w.heap.size w (w2.alloc cs)) := Lib.hid (fun cs => HB.out.alloc HB.out.size cs)
      obtain ⟨x, hx⟩ : ∃ x, x = r.kind := ⟨_, rfl⟩
      rw [← hx] at c0
      clear hx
      by_cases h4 : x = 4
      · subst h4
        by_cases hbig : y + 601 ≤ 4096
        · go_wp2
          go_roundw
          case rel => exact ⟨k + 1, y + 601, by go_num, by omega, by go_num, by omega, by omega, HF.out _⟩
          case measure => simp [intOf]; omega
        · go_wp2
          go_ret
          exact ⟨.inr rfl, HF.out _⟩
      · by_cases hbig : y + 1 ≤ 4096
        · go_wp2
          go_roundw
          case rel => exact ⟨k + 1, y + 1, by go_num, by omega, by go_num, by omega, by omega, HF.out _⟩
          case measure => simp [intOf]; omega
        · go_wp2
          go_ret
          exact ⟨.inr rfl, HF.out _⟩
    · go_wp2
      go_ret
      exact ⟨_, rfl, HB.out⟩
end Go.Proofs.Ytcjfammfplcigaa.Pk
