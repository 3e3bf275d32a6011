/- The walk of the law DiskCounts. -/
import Derived.Test.YtinailbjfembfaaDkCount
import Derived.Test.YtinailbjfembfaaArgD
namespace Go.Proofs.Ytinailbjfembfaa.Pk
open Go.RowKit Go.Proofs.Ytinailbjfembfaa.Dk Go.Proofs.Ytinailbjfembfaa.Ar
set_option linter.unusedVariables false

/-- Ahead of round i of the count. -/
def CntAt (w : World) (R N i K : Nat) (wr : World) : Prop := ∃ d S, AtD w R d S wr ∧ d.on = true ∧ d.cnt = i - 1 ∧ d.left = N + 1 - i ∧ d.fit ((i - 1) * K) (i - 1)

set_option maxHeartbeats 8000000 in
theorem law_DiskCounts (x y : Int) (a : Option Addr) (n c : Nat) (l : List Int) (w : World) (hx : -9223372036854775808 ≤ x ∧ x ≤ 9223372036854775807) (hy : -9223372036854775808 ≤ y ∧ y ≤ 9223372036854775807) (h : ArgB w a n c l) (hu : n ≤ 1048576) :
    Calls Try.prog 9 #[.int .i64 x, .int .i64 y, .slice a n c] w fun e w' => e = .returned (.bool true) ∧ Below w.heap.size w w' := by
  obtain ⟨hr, hnc, hc, hB⟩ := h
  have HR := Lib.hid hr
  have HY := Lib.hid hy
  obtain ⟨N, hN, hand⟩ := and63 x
  clear hr hB hc hx hy
  go_enter Try.func9, Try.ntmps9
  go_wp2_with fail
  refine (wakes_any w).mono ?_
  rintro e w1 ⟨rfl, hb1⟩
  go_wp2_with fail
  refine (new_any w1).mono ?_
  rintro e w2 ⟨R, S, rfl, h2, hS2, hb2⟩
  have H2 : Hid (AtD w R (DK.new [] []) S w2) := Lib.hid ⟨h2, fun b hb => Nat.le_trans hb1.size (hS2 b hb), hb1.trans (hb2.mono hb1.size)⟩
  clear h2 hS2 hb1 hb2
  go_wp2_with fail
  refine (arm_any R N y _ S w2 H2.out.1).mono ?_
  intro e w3 ha
  obtain ⟨rfl, S3, h3⟩ := AtD.aft H2.out ha
  have H3 := Lib.hid h3
  clear ha h3
  go_wp2
  go_loopw [8, 9] (fun j _ wr => ∃ i : Nat, j = .int .i64 i ∧ 1 ≤ i ∧ i ≤ 71 ∧ CntAt w R N i n wr) (fun j _ _ => 71 - (intOf j).toNat)
  case atStart => exact ⟨1, rfl, by omega, by omega, _, S3, H3.out, rfl, rfl, by show (N : Int).toNat = N + 1 - 1; omega, ⟨by simp [DK.arm, DK.new, FL.all], by simp [DK.arm, DK.new, FL.all], Nat.le_refl _, by show (N : Int).toNat ≤ _; omega, HY.out.1, HY.out.2⟩⟩
  case round =>
    obtain ⟨i, rfl, hi1, hi2, d, S4, h4, hon, hcnt, hleft, hfit⟩ := hrel
    obtain ⟨w4, rfl⟩ : ∃ w4 : World, w4 = wr := ⟨_, rfl⟩
    have H4 := Lib.hid h4
    have HF := Lib.hid hfit
    have HO := Lib.hid hon
    clear h4 hfit hon
    by_cases hlt : i ≤ 70
    · obtain ⟨q, hq⟩ : ∃ q, bits .and .i64 (i : Int) 1 = q := ⟨_, rfl⟩
      have HQ : Hid (q = 0 ∨ q = 1) := Lib.hid (hq ▸ and1 _)
      have hM : (i - 1) * n ≤ 70 * 1048576 := Nat.mul_le_mul (by omega) hu
      have hMn : (i - 1) * n + n = i * n := by
        obtain ⟨k, rfl⟩ : ∃ k, i = k + 1 := ⟨i - 1, by omega⟩
        rw [Nat.succ_mul]; rfl
      have HM := Lib.hid hM
      have HMn := Lib.hid hMn
      have HL := Lib.hid hleft
      have HCn := Lib.hid hcnt
      clear hM hMn hleft hcnt
      by_cases hN : i = N
      · have heq : ((i : Int) == (N : Int)) = true := by subst hN; simp
        have HN := Lib.hid hN
        clear hN
        go_wp2_with fail
        refine (append_any R q a n c l d S4 w4 H4.out.1 ((HR.out.below H4.out.2.2).more H4.out.2.2.size) _ _ HF.out (by have := HM.out; omega) (by omega)).mono ?_
        obtain ⟨o1, o2, o3, o4⟩ := app_goes (d := d) (f := q) l HO.out HQ.out (by rw [HL.out, HN.out]; omega)
        rw [o4]
        intro e w5 ha
        obtain ⟨rfl, S5, h5⟩ := AtD.aft H4.out ha
        have hf5 := HF.out.app (K := n) q l (by have := HR.out.1; simp at this; omega)
        rw [HMn.out] at hf5
        obtain ⟨d5, hd5⟩ : ∃ d5, d5 = d.app q l := ⟨_, rfl⟩
        rw [← hd5] at h5 o1 o2 o3 hf5
        have H5 := Lib.hid h5
        have HF5 := Lib.hid hf5
        have HO5 := Lib.hid o1
        have HC5 : Hid (d5.cnt = N) := Lib.hid (by rw [o2, HCn.out]; have := HN.out; omega)
        have HL5 := Lib.hid o3
        clear ha h5 hf5 o1 o2 o3 o4 hd5
        go_wp2_with fail
        refine (down_any R d5 S5 w5 H5.out.1).mono ?_
        rw [HO5.out]
        rintro e w6 ⟨rfl, rfl⟩
        go_wp2_with fail
        refine (writes_any R d5 S5 w5 H5.out.1).mono ?_
        rw [HC5.out]
        rintro e w6 ⟨rfl, rfl⟩
        go_wp2_with fail
        refine (append_any R 0 a n c l d5 S5 w5 H5.out.1 ((HR.out.below H5.out.2.2).more H5.out.2.2.size) _ _ HF5.out (by have := HM.out; have := HMn.out; omega) (by omega)).mono ?_
        rw [(off_app (f := 0) l HO5.out (.inl rfl)).1, (off_app (f := 0) l HO5.out (.inl rfl)).2]
        intro e w6 ha
        obtain ⟨rfl, S6, h6⟩ := AtD.aft H5.out ha
        have H6 := Lib.hid h6
        clear ha h6
        go_wp2_with fail
        refine (sync_any R 1 d5 S6 w6 H6.out.1 _ _ HF5.out (by have := HM.out; have := HMn.out; omega) (by omega)).mono ?_
        rw [off_syn (f := 1) HO5.out (.inr rfl), (off_app (f := 1) l HO5.out (.inr rfl)).2]
        intro e w7 ha
        obtain ⟨rfl, S7, h7⟩ := AtD.aft H6.out ha
        have H7 := Lib.hid h7
        clear ha h7
        go_wp2_with fail
        refine (trunc_any R 0 0 d5 S7 w7 H7.out.1 _ _ HF5.out (by have := HM.out; have := HMn.out; omega) (by omega)).mono ?_
        rw [(off_tru HO5.out).1, (off_tru HO5.out).2]
        intro e w8 ha
        obtain ⟨rfl, S8, h8⟩ := AtD.aft H7.out ha
        have H8 := Lib.hid h8
        clear ha h8
        go_wp2_with fail
        refine (writes_any R d5 S8 w8 H8.out.1).mono ?_
        rw [HC5.out]
        rintro e w9 ⟨rfl, rfl⟩
        go_wp2_with fail
        refine (on_any R d5 S8 w8 H8.out.1).mono ?_
        intro e w9 ha
        obtain ⟨rfl, S9, h9⟩ := AtD.aft H8.out ha
        have H9 := Lib.hid h9
        clear ha h9
        go_wp2
        go_roundw
        case rel => exact ⟨i + 1, by go_num, by omega, by omega, d5.ons, S9, H9.out, rfl, by show d5.cnt = i; rw [HC5.out, HN.out], by show d5.left = _; rw [HL5.out, HN.out]; omega, ⟨HF5.out.l0, HF5.out.l1, by show d5.cnt ≤ _; rw [HC5.out, HN.out]; omega, HF5.out.a, HF5.out.k0, HF5.out.k1⟩⟩
        case measure => simp [intOf]; omega
      · have heq : ((i : Int) == (N : Int)) = false := beq_eq_false_iff_ne.2 (by omega)
        have HN := Lib.hid hN
        clear hN
        go_wp2_with fail
        refine (append_any R q a n c l d S4 w4 H4.out.1 ((HR.out.below H4.out.2.2).more H4.out.2.2.size) _ _ HF.out (by have := HM.out; omega) (by omega)).mono ?_
        obtain ⟨o1, o2, o3, o4⟩ := app_stays (d := d) (f := q) l HO.out HQ.out (by rw [HL.out]; have := HN.out; omega)
        rw [o4]
        intro e w5 ha
        obtain ⟨rfl, S5, h5⟩ := AtD.aft H4.out ha
        have hf5 := HF.out.app (K := n) q l (by have := HR.out.1; simp at this; omega)
        rw [HMn.out] at hf5
        obtain ⟨d5, hd5⟩ : ∃ d5, d5 = d.app q l := ⟨_, rfl⟩
        rw [← hd5] at h5 o1 o2 o3 hf5
        have H5 := Lib.hid h5
        have HF5 := Lib.hid hf5
        have HO5 := Lib.hid o1
        have HC5 : Hid (d5.cnt = i) := Lib.hid (by rw [o2, HCn.out]; omega)
        have HL5 : Hid (d5.left = N + 1 - (i + 1)) := Lib.hid (by rw [o3, HL.out]; omega)
        clear ha h5 hf5 o1 o2 o3 o4 hd5
        go_wp2_with fail
        refine (down_any R d5 S5 w5 H5.out.1).mono ?_
        rw [HO5.out]
        rintro e w6 ⟨rfl, rfl⟩
        go_wp2_with fail
        refine (writes_any R d5 S5 w5 H5.out.1).mono ?_
        rw [HC5.out]
        rintro e w6 ⟨rfl, rfl⟩
        go_wp2
        go_roundw
        case rel => exact ⟨i + 1, by go_num, by omega, by omega, d5, S5, H5.out, HO5.out, HC5.out, HL5.out, HF5.out.mono (Nat.le_refl _) (by omega)⟩
        case measure => simp [intOf]; omega
    · go_wp2
      go_ret
      exact ⟨rfl, H4.out.2.2⟩
end Go.Proofs.Ytinailbjfembfaa.Pk
