/- The landed within, room, last, apart and Good of package half. -/
import Derived.Test.YtneijohbmphheaaHfCat
import Derived.Test.YtneijohbmphheaaWiValidP
namespace Go.Proofs.Ytneijohbmphheaa.Pk
open Go.RowKit
set_option linter.unusedVariables false
theorem run_minI (P : Program) (ts : Array TypeId) (t : TypeId) (a b M : Int) (hM : M = min a b) (w : World) :
    (Builtin.min_ ts t #[.int .i64 a, .int .i64 b]).run P w = .ok (.int .i64 M) w := by
  subst hM
  have e1 : (if b < a then b else a) = min a b := by split <;> omega
  simp only [Builtin.min_, List.foldlM, Builtin.min2, e1, pure_bind]
  rfl
theorem withinH_t {x h : Int} (w : World) (hx : -9223372036854775808 ≤ x ∧ x ≤ 9223372036854775807) (h0 : 0 ≤ x) (h1 : x ≤ h) : Calls Try.prog 27 #[.int .i64 x, .int .i64 h] w fun e w' => e = .returned (.bool true) ∧ w' = w := by
  have b1 : decide (0 ≤ x) = true := decide_eq_true h0
  have b2 : decide (x ≤ h) = true := decide_eq_true h1
  go_enter Try.func27, Try.ntmps27
  go_wp2
  go_ret
  exact ⟨rfl, rfl⟩
theorem withinH_f {x h : Int} (w : World) (hx : -9223372036854775808 ≤ x ∧ x ≤ 9223372036854775807) (hn : x < 0 ∨ h < x) : Calls Try.prog 27 #[.int .i64 x, .int .i64 h] w fun e w' => e = .returned (.bool false) ∧ w' = w := by
  by_cases h0 : 0 ≤ x
  · have b1 : decide (0 ≤ x) = true := decide_eq_true h0
    have b2 : decide (x ≤ h) = false := decide_eq_false (by omega)
    clear hn
    go_enter Try.func27, Try.ntmps27
    go_wp2
    go_ret
    exact ⟨rfl, rfl⟩
  · have b1 : decide (0 ≤ x) = false := decide_eq_false h0
    clear hn
    go_enter Try.func27, Try.ntmps27
    go_wp2
    go_ret
    exact ⟨rfl, rfl⟩
theorem room_any {p b s : Int} (A : Option Addr) (n c : Nat) (w : World) (hb : 0 ≤ b ∧ b ≤ 1099511627776) (hn : n ≤ 3518437208883) (hnc : n ≤ c) :
    Calls Try.prog 24 #[.agg #[.int .i64 p, .int .i64 b, .slice A n c, .int .i64 s]] w fun e w' => e = .returned (.int .i64 (min 1024 (1099511627776 - b) - (n : Int))) ∧ Below w.heap.size w w' := by
  obtain ⟨M, hM⟩ : ∃ M, M = min 1024 (1099511627776 - b) := ⟨_, rfl⟩
  have kn := fun (w : World) => run_minI Try.prog #[3, 3] 3 1024 (1099511627776 - b) M hM w
  have hM2 : 0 ≤ M ∧ M ≤ 1024 := by omega
  rw [← hM]
  clear hM
  go_enter Try.func24, Try.ntmps24
  go_wp2
  go_ret
  exact ⟨rfl, (Below.refl _ w).alloc (Nat.le_refl _) _⟩
theorem last_any {p b s : Int} (A : Option Addr) (n c : Nat) (w : World) (hb : -9223372036854775808 ≤ b ∧ b ≤ 9223372036854775807) (hn : n ≤ 3518437208883) (hnc : n ≤ c) :
    Calls Try.prog 28 #[.agg #[.int .i64 p, .int .i64 b, .slice A n c, .int .i64 s]] w fun e w' => e = .returned (.int .i64 (IntKind.i64.wrap (b + (n : Int)))) ∧ Below w.heap.size w w' := by
  obtain ⟨q, hq⟩ : ∃ q, IntKind.i64.wrap (b + (n : Int)) = q := ⟨_, rfl⟩
  rw [hq]
  go_enter Try.func28, Try.ntmps28
  go_wp2
  go_ret
  exact ⟨rfl, (Below.refl _ w).alloc (Nat.le_refl _) _⟩
theorem OwnG.lower {w : World} {B B' : Nat} {v : Value} {l : List Mg} (h : OwnG w B v l) (hB : B' ≤ B) : OwnG w B' v l := by
  obtain ⟨h1, h2⟩ := h
  refine ⟨h1, ?_⟩
  rcases h2 with h2 | ⟨g, cap, cur, rfl, hb, hr⟩
  · exact .inl h2
  · exact .inr ⟨g, cap, cur, rfl, by omega, hr⟩
theorem pair_reads (w : World) (T : TypeId) (a b : Value) : Reads (w.alloc (.cells #[a, b] T)) (w.heap.size + 1) 1 (some ⟨w.heap.size, 0, none⟩) 2 [a, b] := by
  refine ⟨rfl, fun _ => ⟨_, rfl, by simp, fun j u hj => ?_⟩⟩
  match j, hj with
  | 0, hj => simp at hj; subst hj; simp [Addr.add]
  | 1, hj => simp at hj; subst hj; simp [Addr.add]
  | j + 2, hj => simp at hj
set_option maxHeartbeats 1600000 in
theorem apart_any (A1 : Option Addr) (n1 c1 : Nat) (l1 : List Mg) (A2 : Option Addr) (n2 c2 : Nat) (l2 : List Mg) (w : World) (h1 : Reads w w.heap.size 5 A1 n1 (mgs l1)) (h2 : Reads w w.heap.size 5 A2 n2 (mgs l2)) (k1 : n1 ≤ c1) (k2 : n2 ≤ c2)
    (ht : (l1.length + l2.length) * 40 ≤ 140737488355328) :
    Calls Try.prog 25 #[.slice A1 n1 c1, .slice A2 n2 c2] w fun e w' => ∃ v, e = .returned v ∧ OwnG w' w.heap.size v (l1 ++ l2) ∧ Below w.heap.size w w' := by
  have HL : Hid (MLists (w.alloc (.cells #[.slice A1 n1 c1, .slice A2 n2 c2] 22)) (w.alloc (.cells #[.slice A1 n1 c1, .slice A2 n2 c2] 22)).heap.size (some ⟨w.heap.size, 0, none⟩) 2 [⟨A1, n1, c1, l1⟩, ⟨A2, n2, c2, l2⟩]) := Lib.hid (by
    refine ⟨by rw [World.size_alloc]; exact pair_reads w _ _ _, fun p hp => ?_⟩
    rcases List.mem_cons.1 hp with rfl | hp
    · exact ⟨(h1.alloc (Nat.le_refl _) _).more (by simp), k1⟩
    · obtain rfl := List.mem_singleton.1 hp
      exact ⟨(h2.alloc (Nat.le_refl _) _).more (by simp), k2⟩)
  have HA : Hid (allM [⟨A1, n1, c1, l1⟩, ⟨A2, n2, c2, l2⟩] = l1 ++ l2) := Lib.hid (by simp [allM])
  have HT := Lib.hid ht
  clear h1 h2 ht
  go_enter Try.func25, Try.ntmps25
  go_wp2_with fail
  refine (concatM _ 2 2 _ _ HL.out (by omega) (by rw [HA.out, List.length_append]; exact HT.out)).mono ?_
  rintro e w2 ⟨v, rfl, ho, hb⟩
  obtain ⟨A3, n3, c3, rfl⟩ := ownG_slice ho
  have HO : Hid (OwnG w2 w.heap.size (.slice A3 n3 c3) (l1 ++ l2)) := Lib.hid (by rw [HA.out] at ho; exact ho.lower (by simp))
  have HB : Hid (Below w.heap.size w w2) := Lib.hid (((Below.refl _ w).alloc (Nat.le_refl _) _).trans (hb.mono (by simp)))
  clear ho hb
  go_wp2
  go_ret
  exact ⟨_, rfl, HO.out, HB.out⟩
end Go.Proofs.Ytneijohbmphheaa.Pk
