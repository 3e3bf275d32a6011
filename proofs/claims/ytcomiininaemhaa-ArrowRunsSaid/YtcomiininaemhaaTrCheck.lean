/- Package tree: Check by the list of parents. -/
import Derived.Test.YtcomiininaemhaaTrBase
namespace Go.Proofs.Ytcomiininaemhaa.Pk
open Go.RowKit Go.Proofs.Ytcomiininaemhaa.Gr
set_option linter.unusedVariables false

/-- What Check leaves. -/
def ChkR (ps : List Int) (w : World) (e : Ending) (w' : World) : Prop := ∃ p er, e = .returned (.tuple #[.int .i64 p, .int .i64 er]) ∧ ChkIs ps p er ∧ w' = w
set_option maxHeartbeats 4000000 in
theorem chk_any (A : Option Addr) (n c : Nat) (ps : List Int) (w : World) (B : Nat) (hr : Reads w B 1 A n (nms ps)) (hbig : n ≤ 4611686018427387904) :
    Calls Try.prog 33 #[.slice A n c] w (ChkR ps w) := by
  have HL := Lib.hid hr.plen
  have HR := Lib.hid hr
  clear hr
  go_enter Try.func33, Try.ntmps33
  go_wp2
  refine wp_scope_straight ?_
  by_cases h0 : n = 0
  · subst h0
    go_wp2
    try rw [Exit.noGoto_ret]
    go_ret2
    exact ⟨_, _, rfl, .inl ⟨HL.out, rfl, rfl⟩, rfl⟩
  · have hz : ((n : Int) == 0) = false := by simp; omega
    by_cases h32 : 32 < n
    · have h32' : (32 : Int) < (n : Int) := by omega
      go_wp2
      try rw [Exit.noGoto_ret]
      go_ret2
      exact ⟨_, _, rfl, .inr (.inl ⟨by rw [HL.out]; exact h32, rfl, rfl⟩), rfl⟩
    · have h32' : (n : Int) ≤ 32 := by omega
      have hn32 : n ≤ 32 := by omega
      obtain ⟨b, off, rfl, hbb, hc⟩ := HR.out.pa (by omega)
      have HC := Lib.hid hc
      clear hc
      go_wp2
      go_loop [17] (fun y => ∃ v : Nat, y = .int .i64 v ∧ v ≤ n ∧ ∀ u, u < v → ¬ faultA ps u) (fun y => n - (intOf y).toNat)
      case atStart => exact ⟨0, rfl, by omega, fun u hu => by omega⟩
      case round =>
        obtain ⟨v, rfl, hv, hno⟩ := hrel
        have HN := Lib.hid hno
        clear hno
        by_cases hlt : v < n
        · rcases Classical.em (faultA ps v) with hfa | hfa
          · have HF := Lib.hid ((fits_any (some ⟨b, off, none⟩) n c ps v w B HR.out hlt hn32).mono (R' := fun e w' => e = .returned (.bool false) ∧ w' = w) (fun e w' ⟨ok, h1, h2, h3⟩ => ⟨by rw [h1]; cases ok with
              | true => exact absurd hfa (h2.1 rfl)
              | false => rfl, h3⟩))
            have HFi : Hid (ChkIs ps (v : Int) 10) := Lib.hid (.inr (.inr ⟨⟨by rw [HL.out]; omega, by rw [HL.out]; omega⟩, .inl ⟨v, by rw [HL.out]; exact hlt, rfl, rfl, hfa, HN.out⟩⟩))
            clear hfa
            go_wp2_with (go_at_call 42; go_must (refine HF.out.mono ?_); rintro e w1 ⟨rfl, rfl⟩)
            try rw [Exit.noGoto_ret]
            go_ret2
            exact ⟨_, _, rfl, HFi.out, rfl⟩
          · have HF := Lib.hid ((fits_any (some ⟨b, off, none⟩) n c ps v w B HR.out hlt hn32).mono (R' := fun e w' => e = .returned (.bool true) ∧ w' = w) (fun e w' ⟨ok, h1, h2, h3⟩ => ⟨by rw [h1, h2.2 hfa], h3⟩))
            have HS : Hid (∀ u, u < v + 1 → ¬ faultA ps u) := Lib.hid (fun u hu => by
              rcases Nat.lt_or_ge u v with h | h
              · exact HN.out u h
              · have : u = v := by omega
                subst this
                exact hfa)
            clear hfa
            go_wp2_with (go_at_call 42; go_must (refine HF.out.mono ?_); rintro e w1 ⟨rfl, rfl⟩)
            go_round
            case rel => exact ⟨v + 1, by go_num, by omega, HS.out⟩
            case measure => simp [intOf]; omega
        · have HNo : Hid (∀ u, u < n → ¬ faultA ps u) := Lib.hid (fun u hu => HN.out u (by omega))
          clear HN
          have HG : Hid (∀ v, v < n → ∀ k, -1 ≤ climb ps k (v : Int) ∧ climb ps k (v : Int) < (n : Int)) := Lib.hid (fun v hv k => by
            have hl := HL.out
            have := climb_rng (rng_of (fun u hu => HNo.out u (by omega))) v (by omega) k
            rw [hl] at this; exact this)
          go_wp2
          refine wp_label ?_
          go_wp2
          go_loop [28] (fun x => ∃ v : Nat, x = .int .i64 v ∧ v ≤ n ∧ ∀ u, u < v → climb ps n (u : Int) = -1) (fun x => n - (intOf x).toNat)
          case atStart => exact ⟨0, rfl, by omega, fun u hu => by omega⟩
          case round =>
            obtain ⟨v, rfl, hv, hall⟩ := hrel
            have HA := Lib.hid hall
            clear hall
            by_cases hlt : v < n
            · go_wp2
              go_loop [6, 34] (fun x y => ∃ (k m : Nat), x = .int .i64 m ∧ (m : Int) = climb ps k (v : Int) ∧ m < n ∧ y = .int .i64 k ∧ k ≤ n) (fun _ y => n - (intOf y).toNat)
              case atStart => exact ⟨0, v, rfl, rfl, hlt, rfl, by omega⟩
              case round =>
                obtain ⟨k, m, rfl, hm, hmn, rfl, hk⟩ := hrel
                have HM := Lib.hid hm
                clear hm
                have HST : Hid (climb ps (k + 1) (v : Int) = pa ps m) := Lib.hid (by
                  rw [climb_step ps k 0, if_neg (by rw [← HM.out]; omega), ← HM.out]; rfl)
                have cm := HC.out m hmn
                obtain ⟨x, hx⟩ : ∃ x, x = pa ps m := ⟨_, rfl⟩
                rw [← hx] at cm
                have HXE := Lib.hid hx
                clear hx
                by_cases hkn : k < n
                · by_cases hx1 : x = -1
                  · have HN : Hid (∀ u, u < v + 1 → climb ps n (u : Int) = -1) := Lib.hid (fun u hu => by
                      rcases Nat.lt_or_ge u v with h | h
                      · exact HA.out u h
                      · have : u = v := by omega
                        subst this
                        exact climb_more (k + 1) n _ (by rw [HST.out, ← HXE.out]; exact hx1) (by omega))
                    have HB := Lib.hid hlt
                    subst hx1
                    go_wp2
                    go_round
                    case rel => exact ⟨v + 1, by go_num, by have := HB.out; omega, HN.out⟩
                    case measure => have := HB.out; simp [intOf]; omega
                  · have hcl : -1 ≤ x ∧ x < (n : Int) := by
                      have := HG.out v hlt (k + 1)
                      rw [HST.out, ← HXE.out] at this; exact this
                    have t1 : (x == -1) = false := by simp [hx1]
                    obtain ⟨q, rfl⟩ : ∃ q : Nat, x = (q : Int) := ⟨x.toNat, by omega⟩
                    have hq : q < n := by omega
                    have HN : Hid ((q : Int) = climb ps (k + 1) (v : Int)) := Lib.hid (by rw [HST.out]; exact HXE.out)
                    clear hx1 hcl
                    go_wp2
                    go_round
                    case rel => exact ⟨k + 1, q, rfl, HN.out, hq, by go_num, by omega⟩
                    case measure => simp [intOf]; omega
                · have HF : Hid (ChkIs ps (v : Int) 10) := Lib.hid (.inr (.inr ⟨⟨by rw [HL.out]; omega, by rw [HL.out]; omega⟩, .inr ⟨fun u hu => HNo.out u (by rw [← HL.out]; exact hu), .inl ⟨v, by rw [HL.out]; exact hlt, rfl, rfl, by
                    have : k = n := by omega
                    rw [HL.out, ← this, ← HM.out]; omega, fun u hu => by rw [HL.out]; exact HA.out u hu⟩⟩⟩))
                  clear cm
                  go_wp2
                  try rw [Exit.noGoto_ret]
                  go_ret2
                  exact ⟨_, _, rfl, HF.out, rfl⟩
            · have HF : Hid (ChkIs ps 0 0) := Lib.hid (.inr (.inr ⟨⟨by rw [HL.out]; omega, by rw [HL.out]; omega⟩, .inr ⟨fun u hu => HNo.out u (by rw [← HL.out]; exact hu), .inr ⟨fun u hu => by rw [HL.out]; exact HA.out u (by rw [HL.out] at hu; omega), rfl, rfl⟩⟩⟩))
              go_wp2
              try rw [Exit.noGoto_ret]
              go_ret2
              exact ⟨_, _, rfl, HF.out, rfl⟩
end Go.Proofs.Ytcomiininaemhaa.Pk
