/- The landed Valid of a datagram. -/
import Derived.Test.YtmegpbejknmjbaaDoorGmRef
import Derived.Test.YtmegpbejknmjbaaDoorWiValidP
namespace Go.Proofs.YtmegpbejknmjbaaDoor.Pk
open Go.RowKit
set_option linter.unusedVariables false
/-- A field within its bounds, or beyond them. -/
theorem within_t {x h : Int} (w : World) (hx : -9223372036854775808 ≤ x ∧ x ≤ 9223372036854775807) (h0 : 0 ≤ x) (h1 : x ≤ h) : Calls Tryd.prog 23 #[.int .i64 x, .int .i64 h] w fun e w' => e = .returned (.bool true) ∧ w' = w := by
  have b1 : decide (0 ≤ x) = true := decide_eq_true h0
  have b2 : decide (x ≤ h) = true := decide_eq_true h1
  go_enter Tryd.func23, Tryd.ntmps23
  go_wp2
  go_ret
  exact ⟨rfl, rfl⟩
theorem within_f {x h : Int} (w : World) (hx : -9223372036854775808 ≤ x ∧ x ≤ 9223372036854775807) (hn : x < 0 ∨ h < x) : Calls Tryd.prog 23 #[.int .i64 x, .int .i64 h] w fun e w' => e = .returned (.bool false) ∧ w' = w := by
  by_cases h0 : 0 ≤ x
  · have b1 : decide (0 ≤ x) = true := decide_eq_true h0
    have b2 : decide (x ≤ h) = false := decide_eq_false (by omega)
    clear hn
    go_enter Tryd.func23, Tryd.ntmps23
    go_wp2
    go_ret
    exact ⟨rfl, rfl⟩
  · have b1 : decide (0 ≤ x) = false := decide_eq_false h0
    clear hn
    go_enter Tryd.func23, Tryd.ntmps23
    go_wp2
    go_ret
    exact ⟨rfl, rfl⟩
theorem carries_z (f t a s k o n u v : Int) (w : World) (h0 : s = 0) : Calls Tryd.prog 24 #[.agg #[.int .i64 f, .int .i64 t, .int .i64 a, .int .i64 s, .int .i64 k, .int .i64 o, .int .i64 n, .int .i64 u, .int .i64 v]] w fun e w' => (∃ b, e = .returned (.bool b) ∧ ((k = 0 ∧ o = 0 ∧ n = 0 ∧ u = 0 ∧ v = 0) ↔ b = true)) ∧ Below w.heap.size w w' := by
  have c0 : (s == 0) = true := by simpa using h0
  clear h0
  go_enter Tryd.func24, Tryd.ntmps24
  go_wp2
  all_goals
    go_ret
    refine ⟨⟨_, rfl, ?_⟩, (Below.refl _ w).alloc (Nat.le_refl _) _⟩
    simp
    try omega
theorem carries_m (f t a s k o n u v : Int) (w : World) (h0 : s ≠ 0) (r : Bool)
    (HV : Hid (∀ w, Calls Tryd.prog 39 #[.agg #[.int .i64 k, .int .i64 o, .int .i64 n, .int .i64 u, .int .i64 v]] w fun e w' => e = .returned (.bool r) ∧ Below w.heap.size w w')) :
    Calls Tryd.prog 24 #[.agg #[.int .i64 f, .int .i64 t, .int .i64 a, .int .i64 s, .int .i64 k, .int .i64 o, .int .i64 n, .int .i64 u, .int .i64 v]] w fun e w' => e = .returned (.bool r) ∧ Below w.heap.size w w' := by
  have c0 : (s == 0) = false := by simpa using h0
  clear h0
  go_enter Tryd.func24, Tryd.ntmps24
  go_wp2_with fail
  refine (HV.out _).mono ?_
  rintro e w2 ⟨rfl, hb2⟩
  go_wp2
  go_ret
  exact ⟨rfl, ((Below.refl _ w).alloc (Nat.le_refl _) _).trans (hb2.mono (by simp))⟩
set_option maxHeartbeats 4000000 in
theorem validG : ValidG := by
  intro g w hg
  obtain ⟨f, t, a, s, ⟨k, o, n, u, v⟩⟩ := g
  obtain ⟨⟨if_, jf⟩, ⟨it, jt⟩, ⟨ia, ja⟩, ⟨is_, js⟩, im⟩ := hg
  have HV := Lib.hid (fun w => validC _ w im)
  have HIm := Lib.hid im
  obtain ⟨⟨ik, jk⟩, ⟨io, jo⟩, ⟨in_, jn⟩, ⟨iu, ju⟩, ⟨iv, jv⟩⟩ := im
  simp only at if_ jf it jt ia ja is_ js ik jk io jo in_ jn iu ju iv jv
  have If := Lib.hid (And.intro if_ jf)
  have It := Lib.hid (And.intro it jt)
  have Ia := Lib.hid (And.intro ia ja)
  have Is := Lib.hid (And.intro is_ js)
  obtain ⟨r, hr⟩ : ∃ r, r = decide (Gm.Be ⟨f, t, a, s, ⟨k, o, n, u, v⟩⟩) := ⟨_, rfl⟩
  rw [← hr]
  have HR := Lib.hid hr
  clear hr
  unfold Mg.val at HV
  unfold Gm.val
  simp only at HV ⊢
  have HF : Hid ((f < 0 ∨ 31 < f ∨ t < 0 ∨ 31 < t ∨ f = t ∨ a < 0 ∨ 1099511627776 < a ∨ s < 0 ∨ 1099511627776 < s) → r = false) := Lib.hid (fun h => by
    rw [HR.out]
    refine decide_eq_false (fun hb => ?_)
    obtain ⟨g1, g2, g3, g4, g5, g6, g7, g8, g9, _⟩ := hb
    simp only at g1 g2 g3 g4 g5 g6 g7 g8 g9
    omega)
  rcases gbe_ways f t a s with h | ⟨h1, h2, h3, h4, h5, h6, h7, h8, h9⟩
  · obtain rfl := HF.out h
    clear HV HF HR
    by_cases hft : f = t
    · have b5 : (f != t) = false := by simp [hft]
      go_enter Tryd.func12, Tryd.ntmps12
      go_wp2
      go_ret
      exact ⟨rfl, (Below.refl _ w).alloc (Nat.le_refl _) _⟩
    have b5 : (f != t) = true := by simp [hft]
    by_cases hf : 0 ≤ f ∧ f ≤ 31
    case neg =>
      have hbf : f < 0 ∨ 31 < f := by omega
      clear h hft
      go_enter Tryd.func12, Tryd.ntmps12
      go_wp2_with fail
      refine (within_f _ If.out hbf).mono ?_
      rintro e w2 ⟨rfl, rfl⟩
      go_wp2
      go_ret
      exact ⟨rfl, (Below.refl _ w).alloc (Nat.le_refl _) _⟩
    by_cases ht : 0 ≤ t ∧ t ≤ 31
    case neg =>
      have hbt : t < 0 ∨ 31 < t := by omega
      clear h hft
      go_enter Tryd.func12, Tryd.ntmps12
      go_wp2_with fail
      refine (within_t _ If.out hf.1 hf.2).mono ?_
      rintro e w2 ⟨rfl, rfl⟩
      go_wp2_with fail
      refine (within_f _ It.out hbt).mono ?_
      rintro e w2 ⟨rfl, rfl⟩
      go_wp2
      go_ret
      exact ⟨rfl, (Below.refl _ w).alloc (Nat.le_refl _) _⟩
    by_cases ha : 0 ≤ a ∧ a ≤ 1099511627776
    case neg =>
      have hba : a < 0 ∨ 1099511627776 < a := by omega
      clear h hft
      go_enter Tryd.func12, Tryd.ntmps12
      go_wp2_with fail
      refine (within_t _ If.out hf.1 hf.2).mono ?_
      rintro e w2 ⟨rfl, rfl⟩
      go_wp2_with fail
      refine (within_t _ It.out ht.1 ht.2).mono ?_
      rintro e w2 ⟨rfl, rfl⟩
      go_wp2_with fail
      refine (within_f _ Ia.out hba).mono ?_
      rintro e w2 ⟨rfl, rfl⟩
      go_wp2
      go_ret
      exact ⟨rfl, (Below.refl _ w).alloc (Nat.le_refl _) _⟩
    by_cases hs : 0 ≤ s ∧ s ≤ 1099511627776
    case neg =>
      have hbs : s < 0 ∨ 1099511627776 < s := by omega
      clear h hft
      go_enter Tryd.func12, Tryd.ntmps12
      go_wp2_with fail
      refine (within_t _ If.out hf.1 hf.2).mono ?_
      rintro e w2 ⟨rfl, rfl⟩
      go_wp2_with fail
      refine (within_t _ It.out ht.1 ht.2).mono ?_
      rintro e w2 ⟨rfl, rfl⟩
      go_wp2_with fail
      refine (within_t _ Ia.out ha.1 ha.2).mono ?_
      rintro e w2 ⟨rfl, rfl⟩
      go_wp2_with fail
      refine (within_f _ Is.out hbs).mono ?_
      rintro e w2 ⟨rfl, rfl⟩
      go_wp2
      go_ret
      exact ⟨rfl, (Below.refl _ w).alloc (Nat.le_refl _) _⟩
    exact absurd h (by omega)
  · have b1 : decide (0 ≤ f) = true := by simp; omega
    have b2 : decide (f ≤ 31) = true := by simp; omega
    have b3 : decide (0 ≤ t) = true := by simp; omega
    have b4 : decide (t ≤ 31) = true := by simp; omega
    have b5 : (f != t) = true := by simp; omega
    have b6 : decide (0 ≤ a) = true := by simp; omega
    have b7 : decide (a ≤ 1099511627776) = true := by simp; omega
    have b8 : decide (0 ≤ s) = true := by simp; omega
    have b9 : decide (s ≤ 1099511627776) = true := by simp; omega
    by_cases h0 : s = 0
    case pos =>
      have c0 : (s == 0) = true := by simpa using h0
      have HS := Lib.hid h0
      have HA : Hid ((k = 0 ∧ o = 0 ∧ n = 0 ∧ u = 0 ∧ v = 0) ↔ r = true) := Lib.hid (by
        rw [HR.out]
        have hs0 := HS.out
        constructor
        · rintro ⟨rfl, rfl, rfl, rfl, rfl⟩
          exact decide_eq_true ⟨h1, h2, h3, h4, h5, h6, h7, h8, h9, fun _ => rfl, fun h => absurd hs0 h⟩
        · intro hd
          have hb := of_decide_eq_true hd
          have hm := hb.2.2.2.2.2.2.2.2.2.1 hs0
          simp only [Mg.zero, Mg.mk.injEq] at hm
          exact hm)
      clear h0
      go_enter Tryd.func12, Tryd.ntmps12
      go_wp2_with fail
      refine (within_t _ If.out (by omega) (by omega)).mono ?_
      rintro e w2 ⟨rfl, rfl⟩
      go_wp2_with fail
      refine (within_t _ It.out (by omega) (by omega)).mono ?_
      rintro e w2 ⟨rfl, rfl⟩
      go_wp2_with fail
      refine (within_t _ Ia.out (by omega) (by omega)).mono ?_
      rintro e w2 ⟨rfl, rfl⟩
      go_wp2_with fail
      refine (within_t _ Is.out (by omega) (by omega)).mono ?_
      rintro e w2 ⟨rfl, rfl⟩
      go_wp2_with fail
      refine (carries_z f t a s k o n u v _ HS.out).mono ?_
      rintro e w2 ⟨⟨b, rfl, hb⟩, hb2⟩
      obtain rfl : r = b := Bool.eq_iff_iff.2 (HA.out.symm.trans hb)
      clear hb
      go_wp2
      go_ret
      exact ⟨rfl, ((Below.refl _ w).alloc (Nat.le_refl _) _).trans (hb2.mono (by simp))⟩
    case neg =>
      have c0 : (s == 0) = false := by simpa using h0
      have hd : decide (Mg.Be ⟨k, o, n, u, v⟩) = r := by
        rw [HR.out]
        refine decide_eq_decide.2 ⟨fun hm => ⟨h1, h2, h3, h4, h5, h6, h7, h8, h9, fun h => absurd h h0, fun _ => hm⟩, fun hb => hb.2.2.2.2.2.2.2.2.2.2 h0⟩
      rw [hd] at HV
      have H0 := Lib.hid h0
      clear hd h0
      go_enter Tryd.func12, Tryd.ntmps12
      go_wp2_with fail
      refine (within_t _ If.out (by omega) (by omega)).mono ?_
      rintro e w2 ⟨rfl, rfl⟩
      go_wp2_with fail
      refine (within_t _ It.out (by omega) (by omega)).mono ?_
      rintro e w2 ⟨rfl, rfl⟩
      go_wp2_with fail
      refine (within_t _ Ia.out (by omega) (by omega)).mono ?_
      rintro e w2 ⟨rfl, rfl⟩
      go_wp2_with fail
      refine (within_t _ Is.out (by omega) (by omega)).mono ?_
      rintro e w2 ⟨rfl, rfl⟩
      go_wp2_with fail
      refine (carries_m f t a s k o n u v _ H0.out r HV).mono ?_
      rintro e w2 ⟨rfl, hb2⟩
      go_wp2
      go_ret
      exact ⟨rfl, ((Below.refl _ w).alloc (Nat.le_refl _) _).trans (hb2.mono (by simp))⟩
end Go.Proofs.YtmegpbejknmjbaaDoor.Pk
