/- The library's slices.IndexFunc, of cells; the predicates of package chain. -/
import Derived.Test.YteflefmlicamlaaChUse
import Derived.Shelf.Abstract
import Derived.BigQuiet
import Derived.Deep.QuietTactic
namespace Go.Proofs.Yteflefmlicamlaa.Pk
open Go.RowKit
set_option linter.unusedVariables false
def PredK (g : Nat) (lb : Array Value) (p : Ce → Bool) (w : World) : Prop :=
  ∀ (W : World) (x : Ce), Below w.heap.size w W → Calls Try.prog g (#[.agg #[.int .i64 x.n, .int .i64 x.s, .int .i64 x.d, .int .i64 x.x]] ++ lb) W fun e w' => e = .returned (.bool (p x)) ∧ Below w.heap.size w w'
def atI (o : Option Nat) : Int := match o with
  | some k => (k : Int)
  | none => -1
set_option maxRecDepth 100000 in
set_option maxHeartbeats 2000000 in
theorem idxFuncK (A : Option Addr) (n c : Nat) (l : List Ce) (p : Ce → Bool) (g : Nat) (lb : Array Value) (eg : ∀ args w, (callFunc g args).run Try.prog w = .ok (.enter g args) w) (w : World) (hr : Reads w w.heap.size 4 A n (ces l)) (hbig : n ≤ 4398046511104)
    (hp : PredK g lb p w) : Calls Try.prog 27 #[.slice A n c, .func (.func g) #[] lb] w fun e w' => e = .returned (.int .i64 (atI (l.findIdx? p))) ∧ Below w.heap.size w w' := by
  have HR := Lib.hid hr
  have HP := Lib.hid hp
  have HLn : Hid (l.length = n) := Lib.hid hr.klen
  clear hr hp
  go_enter Try.func27, Try.ntmps27
  go_wp2
  go_loopw [5, 8] (fun _ i wr => ∃ k : Nat, i = .int .i64 k ∧ k ≤ n ∧ (Below w.heap.size w wr ∧ ∀ j, j < k → p (ceA l j) = false)) (fun _ i _ => n - (intOf i).toNat)
  case atStart => exact ⟨0, rfl, by omega, Below.refl _ w, fun j hj => absurd hj (Nat.not_lt_zero _)⟩
  case round =>
    obtain ⟨k, rfl, hk, hbel, hno⟩ := hrel
    have HB := Lib.hid hbel
    have HN := Lib.hid hno
    clear hbel hno
    by_cases hlt : k < n
    · obtain ⟨b, off, rfl, hb, hcs⟩ := HR.out.ces_ (by omega)
      have hgk : l[k]? = some (ceA l k) := ceA_get (by rw [HLn.out]; exact hlt)
      obtain ⟨c0, c1, c2, c3⟩ := hcs k _ hgk
      obtain ⟨z, hz⟩ : ∃ z, z = ceA l k := ⟨_, rfl⟩
      rw [← hz] at c0 c1 c2 c3
      have HZ := Lib.hid hz
      clear hz hcs hgk
      rw [← HB.out.cell (p := ⟨b, off + k * 4, none⟩) hb] at c0
      rw [← HB.out.cell (p := ⟨b, off + k * 4 + 1, none⟩) hb] at c1
      rw [← HB.out.cell (p := ⟨b, off + k * 4 + 2, none⟩) hb] at c2
      rw [← HB.out.cell (p := ⟨b, off + k * 4 + 3, none⟩) hb] at c3
      have HC := Lib.hid (HP.out wr z HB.out)
      obtain ⟨z0, z1, z2, z3⟩ := z
      simp only at c0 c1 c2 c3 HC
      cases hq : p ⟨z0, z1, z2, z3⟩ with
      | true =>
        rw [hq] at HC
        have HQ := Lib.hid hq
        clear hq
        go_wp2_with (go_at_fn g; refine HC.out.mono ?_; rintro e w' ⟨rfl, hb'⟩)
        go_ret
        refine ⟨?_, hb'⟩
        have : l.findIdx? p = some k := idx_some (by rw [HLn.out]; exact hlt) (by rw [← HZ.out]; exact HQ.out) HN.out
        rw [this]
        rfl
      | false =>
        rw [hq] at HC
        have HQ := Lib.hid hq
        clear hq
        go_wp2_with (go_at_fn g; refine HC.out.mono ?_; rintro e w' ⟨rfl, hb'⟩)
        go_roundw
        case rel =>
          refine ⟨k + 1, by go_num, by omega, hb', fun j hj => ?_⟩
          by_cases e : j = k
          · subst e
            rw [← HZ.out]; exact HQ.out
          · exact HN.out j (by omega)
        case measure => simp [intOf]; omega
    · have hkn : k = n := by omega
      subst hkn
      go_wp2
      go_ret
      refine ⟨?_, HB.out⟩
      have : l.findIdx? p = none := idx_none (fun i hi => HN.out i (by rw [← HLn.out]; exact hi))
      rw [this]
      rfl
/-- The predicate of Grant: the number lies in a box of the caller's. -/
theorem predG (num : Int) (B : Nat) (w : World) (hB : B < w.heap.size) (hcell : w.cell? ⟨B, 0, none⟩ = some (.int .i64 num)) :
    PredK 28 #[.pointer (some ⟨B, 0, none⟩)] (fun c => decide (c.n = num ∧ c.s = 1)) w := fun W x hb => by
  have hc : W.cell? ⟨B, 0, none⟩ = some (.int .i64 num) := (hb.cell (p := ⟨B, 0, none⟩) hB).trans hcell
  have HB := Lib.hid hb
  clear hb hcell
  obtain ⟨x0, x1, x2, x3⟩ := x
  show Calls Try.prog 28 #[.agg #[.int .i64 x0, .int .i64 x1, .int .i64 x2, .int .i64 x3], .pointer (some ⟨B, 0, none⟩)] W _
  have hBW : B < W.heap.size := by have := HB.out.size; omega
  have hne : B ≠ W.heap.size := by omega
  clear hB
  by_cases h1 : x0 = num
  · by_cases h2 : x1 = 1
    · have HG : Hid (decide (x0 = num ∧ x1 = 1) = true) := Lib.hid (by simp [*])
      have b1 : (x0 == num) = true := by simpa using h1
      have b2 : (x1 == 1) = true := by simpa using h2
      clear h1 h2
      simp only [HG.out]
      go_enter Try.func28, Try.ntmps28
      go_wp2
      go_ret
      exact ⟨rfl, HB.out.alloc HB.out.size _⟩
    · have HG : Hid (decide (x0 = num ∧ x1 = 1) = false) := Lib.hid (by simp [*])
      have b1 : (x0 == num) = true := by simpa using h1
      have b2 : (x1 == 1) = false := by simpa using h2
      clear h1 h2
      simp only [HG.out]
      go_enter Try.func28, Try.ntmps28
      go_wp2
      go_ret
      exact ⟨rfl, HB.out.alloc HB.out.size _⟩
  · have HG : Hid (decide (x0 = num ∧ x1 = 1) = false) := Lib.hid (by simp [*])
    have b1 : (x0 == num) = false := by simpa using h1
    clear h1
    simp only [HG.out]
    go_enter Try.func28, Try.ntmps28
    go_wp2
    go_ret
    exact ⟨rfl, HB.out.alloc HB.out.size _⟩
theorem predR (w : World) : PredK 29 #[] (fun c => decide (c.s = 2)) w := fun W x hb => by
  have HB := Lib.hid hb
  clear hb
  obtain ⟨x0, x1, x2, x3⟩ := x
  show Calls Try.prog 29 #[.agg #[.int .i64 x0, .int .i64 x1, .int .i64 x2, .int .i64 x3]] W _
  go_enter Try.func29, Try.ntmps29
  go_wp2
  go_ret
  exact ⟨by simp [Bool.beq_eq_decide_eq], HB.out.alloc HB.out.size _⟩
end Go.Proofs.Yteflefmlicamlaa.Pk
