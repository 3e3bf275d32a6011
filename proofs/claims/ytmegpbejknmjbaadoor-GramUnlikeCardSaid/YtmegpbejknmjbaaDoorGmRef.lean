/- The document's Valid of a datagram. -/
import Derived.Test.YtmegpbejknmjbaaDoorGmSpec
import Derived.Test.YtmegpbejknmjbaaDoorWiRef
namespace Go.Proofs.YtmegpbejknmjbaaDoor.Pk
open Go.RowKit
set_option linter.unusedVariables false
/-- The ways through Valid. -/
theorem gbe_ways (f t a s : Int) : (f < 0 ∨ 31 < f ∨ t < 0 ∨ 31 < t ∨ f = t ∨ a < 0 ∨ 1099511627776 < a ∨ s < 0 ∨ 1099511627776 < s) ∨ (0 ≤ f ∧ f ≤ 31 ∧ 0 ≤ t ∧ t ≤ 31 ∧ f ≠ t ∧ 0 ≤ a ∧ a ≤ 1099511627776 ∧ 0 ≤ s ∧ s ≤ 1099511627776) := by omega
set_option maxHeartbeats 4000000 in
theorem refvalid9_any (g : Gm) (w : World) (hg : g.I) : Calls Tryd.prog 13 #[g.val] w fun e w' => e = .returned (.bool (decide g.Be)) ∧ Below w.heap.size w w' := by
  obtain ⟨f, t, a, s, ⟨k, o, n, u, v⟩⟩ := g
  obtain ⟨⟨if_, jf⟩, ⟨it, jt⟩, ⟨ia, ja⟩, ⟨is_, js⟩, im⟩ := hg
  have HV := Lib.hid (fun w => refvalid_any _ w im)
  have HIm := Lib.hid im
  obtain ⟨⟨ik, jk⟩, ⟨io, jo⟩, ⟨in_, jn⟩, ⟨iu, ju⟩, ⟨iv, jv⟩⟩ := im
  simp only at if_ jf it jt ia ja is_ js ik jk io jo in_ jn iu ju iv jv
  obtain ⟨r, hr⟩ : ∃ r, r = decide (Gm.Be ⟨f, t, a, s, ⟨k, o, n, u, v⟩⟩) := ⟨_, rfl⟩
  rw [← hr]
  have HR := Lib.hid hr
  clear hr
  unfold Mg.val at HV
  unfold Gm.val
  simp only at HV ⊢
  have HF : Hid ((f < 0 ∨ 31 < f ∨ t < 0 ∨ 31 < t ∨ f = t ∨ a < 0 ∨ 1099511627776 < a ∨ s < 0 ∨ 1099511627776 < s) → r = false) := Lib.hid (fun h => by
    rw [HR.out]
    refine decide_eq_false (fun hb => ?_)
    obtain ⟨g1, g2, g3, g4, g5, g6, g7, g8, g9, _⟩ := hb
    simp only at g1 g2 g3 g4 g5 g6 g7 g8 g9
    omega)
  rcases gbe_ways f t a s with h | ⟨h1, h2, h3, h4, h5, h6, h7, h8, h9⟩
  · obtain rfl := HF.out h
    have hno : (decide (f < 0) || decide (32 ≤ f) || decide (t < 0) || decide (32 ≤ t) || f == t || decide (a < 0) || decide (1099511627776 < a) || decide (s < 0) || decide (1099511627776 < s)) = true := by
      simp only [Bool.or_eq_true, decide_eq_true_eq, beq_iff_eq]
      omega
    clear h
    go_enter Tryd.func13, Tryd.ntmps13
    go_wp2
    all_goals
      go_ret
      exact ⟨rfl, (Below.refl _ w).alloc (Nat.le_refl _) _⟩
  · have b1 : decide (f < 0) = false := by simp; omega
    have b2 : decide (32 ≤ f) = false := by simp; omega
    have b3 : decide (t < 0) = false := by simp; omega
    have b4 : decide (32 ≤ t) = false := by simp; omega
    have b5 : (f == t) = false := by simp; omega
    have b6 : decide (a < 0) = false := by simp; omega
    have b7 : decide (1099511627776 < a) = false := by simp; omega
    have b8 : decide (s < 0) = false := by simp; omega
    have b9 : decide (1099511627776 < s) = false := by simp; omega
    by_cases h0 : s = 0
    case pos =>
      have c0 : (s == 0) = true := by simpa using h0
      have HS := Lib.hid h0
      have HA : Hid ((k = 0 ∧ o = 0 ∧ n = 0 ∧ u = 0 ∧ v = 0) ↔ r = true) := Lib.hid (by
        rw [HR.out]
        have hs0 := HS.out
        constructor
        · rintro ⟨rfl, rfl, rfl, rfl, rfl⟩
          exact decide_eq_true ⟨h1, h2, h3, h4, h5, h6, h7, h8, h9, fun _ => rfl, fun h => absurd hs0 h⟩
        · intro hd
          have hb := of_decide_eq_true hd
          have hm := hb.2.2.2.2.2.2.2.2.2.1 hs0
          simp only [Mg.zero, Mg.mk.injEq] at hm
          exact hm)
      clear h0
      go_enter Tryd.func13, Tryd.ntmps13
      go_wp2
      all_goals
        go_ret
        refine ⟨congrArg (fun b => Ending.returned (Value.bool b)) (Bool.eq_iff_iff.2 (Iff.trans ?_ HA.out)), (Below.refl _ w).alloc (Nat.le_refl _) _⟩
        simp
        try omega
    case neg =>
      have c0 : (s == 0) = false := by simpa using h0
      have hd : decide (Mg.Be ⟨k, o, n, u, v⟩) = r := by
        rw [HR.out]
        refine decide_eq_decide.2 ⟨fun hm => ⟨h1, h2, h3, h4, h5, h6, h7, h8, h9, fun h => absurd h h0, fun _ => hm⟩, fun hb => hb.2.2.2.2.2.2.2.2.2.2 h0⟩
      rw [hd] at HV
      clear hd h0
      go_enter Tryd.func13, Tryd.ntmps13
      go_wp2_with fail
      refine (HV.out _).mono ?_
      rintro e w2 ⟨rfl, hb2⟩
      go_wp2
      go_ret
      exact ⟨rfl, ((Below.refl _ w).alloc (Nat.le_refl _) _).trans (hb2.mono (by simp))⟩
end Go.Proofs.YtmegpbejknmjbaaDoor.Pk
