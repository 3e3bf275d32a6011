/- The walk of the law FrameHeads. -/
import Derived.Test.YtmmjmaohbmlfgaaDoorFrChain
namespace Go.Proofs.YtmmjmaohbmlfgaaDoor.Fr
set_option linter.unusedVariables false
/-- The good frames of a beginning are the first ones of the whole's. -/
theorem heads {b : List Int} {k : Nat} (hk : k ≤ b.length) : frames (b.take k) = (frames b).take (frames (b.take k)).length ∧ (frames (b.take k)).length ≤ (frames b).length ∧ fend (b.take k) ≤ k ∧ fend (b.take k) ≤ fend b := by
  obtain ⟨t, h1, h2, _⟩ := frames_spec _ (b.take k) (Nat.le_refl _)
  obtain ⟨ps, hps⟩ : ∃ ps, ps = frames (b.take k) := ⟨_, rfl⟩
  rw [← hps] at h1 h2
  have h3 : b = encs ps ++ (t ++ b.drop k) := by rw [← List.append_assoc, ← h1, List.take_append_drop]
  have h4 : frames b = ps ++ frames (t ++ b.drop k) := by
    have := frames_app h2 (t ++ b.drop k)
    rw [← h3] at this
    exact this
  have h5 := fend_le (b.take k)
  rw [List.length_take] at h5
  refine ⟨?_, ?_, by omega, ?_⟩
  · rw [← hps, h4, List.take_left]
  · rw [← hps, h4, List.length_append]; omega
  · unfold fend
    rw [← hps, h4, encs_app, List.length_append]; omega
end Go.Proofs.YtmmjmaohbmlfgaaDoor.Fr
namespace Go.Proofs.YtmmjmaohbmlfgaaDoor.Pk
open Go.RowKit Go.Proofs.YtmmjmaohbmlfgaaDoor.Ar Go.Proofs.YtmmjmaohbmlfgaaDoor.Crc Go.Proofs.YtmmjmaohbmlfgaaDoor.Fr
set_option linter.unusedVariables false
set_option maxHeartbeats 3200000 in
theorem law_FrameHeads (encC : EncC) (endC : EndC) (allC : AllC) (a : Option Addr) (n c : Nat) (l : List Int) (x : Int) (w : World) (ht : Tab w) (h : ArgB w a n c l) (hx : -9223372036854775808 ≤ x ∧ x ≤ 9223372036854775807) (hu : n ≤ 1048576) :
    Calls Tryd.prog 7 #[.slice a n c, .int .i64 x] w fun e w' => e = .returned (.bool true) ∧ Below w.heap.size w w' := by
  obtain ⟨hr, hnc, hc, hB⟩ := h
  have HE := Lib.hid encC
  have HD := Lib.hid endC
  have HA := Lib.hid allC
  have HT := Lib.hid ht
  have HR := Lib.hid hr
  have HB : Hid (Bytes l) := Lib.hid hB
  have HL : Hid (l.length = n) := Lib.hid (by have := hr.1; simpa using this)
  have HNC := Lib.hid hnc
  have HAt : Hid (∀ w', Below w.heap.size w w' → Reads w' w'.heap.size 1 a n (bts l)) := Lib.hid (fun w' hb => (hr.below hb).more hb.size)
  clear encC endC allC ht hr hB
  go_enter Tryd.func7, Tryd.ntmps7
  go_wp2_with fail
  refine (wakes_any HE.out HD.out w HT.out).mono ?_
  rintro e w1 ⟨rfl, hb1⟩
  have HB1 := Lib.hid hb1
  clear hb1
  have HQ : Hid (∀ w', Below w.heap.size w w' → Calls Tryd.prog 17 #[.slice a n c] w' (EndP l w')) := Lib.hid (fun w' hb => HD.out a n c l w' (HT.out.next hb) (HAt.out w' hb) HNC.out HB.out (by omega))
  have hfl : fend l ≤ n := by rw [← HL.out]; exact fend_le l
  obtain ⟨f, hf⟩ : ∃ f, f = fend l := ⟨_, rfl⟩
  rw [← hf] at hfl
  have HF := Lib.hid hf
  clear hf
  by_cases hcut : 0 ≤ x ∧ x ≤ (n : Int)
  rotate_left
  · have way : x < 0 ∨ (n : Int) < x := by omega
    have t0 : (x < 0 → decide (x < 0) = true) := fun h => decide_eq_true h
    rcases way with hx0 | hx0
    case' inr =>
      have hx9 : ¬ x < 0 := by omega
    all_goals
      clear hcut t0
      go_wp2_with fail
      refine (HQ.out w1 HB1.out).mono ?_
      unfold EndP
      rw [← HF.out]
      rintro e w2 ⟨rfl, hb2⟩
      have HB2 := Lib.hid (HB1.out.trans (hb2.mono HB1.out.size))
      clear hb2
      go_wp2_with fail
      refine (HQ.out w2 HB2.out).mono ?_
      unfold EndP
      rw [← HF.out]
      rintro e w3 ⟨rfl, hb3⟩
      have HB3 := Lib.hid (HB2.out.trans (hb3.mono HB2.out.size))
      clear hb3
      go_wp2
      go_ret
      exact ⟨rfl, HB3.out⟩
  obtain ⟨k, rfl⟩ : ∃ k : Nat, x = (k : Int) := ⟨x.toNat, by omega⟩
  have hk : k ≤ n := by omega
  have HH := Lib.hid (heads (b := l) (k := k) (by rw [HL.out]; exact hk))
  have kc : ∀ u : World, (Instr.slice 22 (.slice a n c) none (some (.int .i64 (k : Int))) none).run Tryd.prog u = .ok (.slice a k c) u := fun u => run_head Tryd.underlying22 (by kernel_rfl) a n c k (by omega) u
  have HC : Hid (∀ w', Below w.heap.size w w' → Calls Tryd.prog 17 #[.slice a k c] w' (EndP (l.take k) w')) := Lib.hid (fun w' hb => HD.out a k c (l.take k) w' (HT.out.next hb) ((HAt.out w' hb).take hk) (by omega) (HB.out.take k) (by omega))
  obtain ⟨g, hg⟩ : ∃ g, g = fend (l.take k) := ⟨_, rfl⟩
  have hgk : g ≤ k ∧ g ≤ f := by rw [hg, HF.out]; exact HH.out.2.2
  obtain ⟨hgk, hgf⟩ := hgk
  have HG := Lib.hid hg
  have H1 := Lib.hid (fun q => HA.out a n c l (w1.drewN q) ((HT.out.next HB1.out).drewN q) (HAt.out _ (below_drewN HB1.out q)) HNC.out HB.out (by omega))
  have H2 : Hid (∀ w', Below w.heap.size w w' → Calls Tryd.prog 16 #[.slice a k c] w' (AllP (l.take k) w')) := Lib.hid (fun w' hb => HA.out a k c (l.take k) w' (HT.out.next hb) ((HAt.out w' hb).take hk) (by omega) (HB.out.take k) (by omega))
  clear hcut hg
  go_wp2_with fail
  go_region_held3 (fun w' => True) (trivial) (first
    | (go_at_call_of 16 (Value.slice a n c); go_must (refine (H1.out 1).mono ?_; rintro e w2 ⟨hb2, A2, n2, c2, ps, rfl, ho2, hp2⟩; have HB2 := Lib.hid ((below_drewN HB1.out 1).trans (hb2.mono HB1.out.size)); have HO2 := Lib.hid ho2; have HP2 := Lib.hid hp2; clear hb2 ho2 hp2))
    | (go_at_call_of 16 (Value.slice a k c); go_must (refine (H2.out _ HB2.out).mono ?_; rintro e w3 ⟨hb3, A3, n3, c3, qs, rfl, ho3, hp3⟩; have HB3 := Lib.hid (HB2.out.trans (hb3.mono HB2.out.size)); have HO3 := Lib.hid ho3; have HP3 := Lib.hid hp3; have HK3 := Lib.hid (HO2.out.next hb3); clear hb3 ho3 hp3)))
  have hps : ps.length = n2 ∧ n2 ≤ c2 := by
    obtain ⟨A', c', e, hc', _⟩ := reads_own HO2.out.row
    injection e with e1 e2 e3
    omega
  have hqs : qs.length = n3 ∧ n3 ≤ c3 := by
    obtain ⟨A', c', e, hc', _⟩ := reads_own HO3.out.row
    injection e with e1 e2 e3
    omega
  obtain ⟨hps, hc2⟩ := hps
  obtain ⟨hqs, hc3⟩ := hqs
  have h32 : n3 ≤ n2 := by
    have h1 := congrArg List.length HP2.out
    have h2 := congrArg List.length HP3.out
    simp only [Piece.bytes, List.length_map] at h1 h2
    have := HH.out.2.1
    omega
  have hn3 : n3 ≤ 1048576 := by
    have h2 := congrArg List.length HP3.out
    simp only [Piece.bytes, List.length_map] at h2
    have h3 := frames_count (l.take k)
    rw [List.length_take] at h3
    omega
  have HPl := Lib.hid hps
  have HQl := Lib.hid hqs
  have kd : ∀ u : World, (Instr.slice 29 (.slice A2 n2 c2) none (some (.int .i64 (n3 : Int))) none).run Tryd.prog u = .ok (.slice A2 n3 c2) u := fun u => run_head Tryd.underlying29 (by kernel_rfl) A2 n2 c2 n3 (by omega) u
  have u1 : decide (n2 < n3) = false := decide_eq_false (by omega)
  have u2 : decide (k < g) = false := decide_eq_false (by omega)
  have u3 : decide (f < g) = false := decide_eq_false (by omega)
  clear hps hqs H1 H2
  unfold EndP at HC HQ
  rw [← HG.out] at HC
  rw [← HF.out] at HQ
  go_wp2_with fail
  go_region_held3 (fun w' => True) (trivial) (first
    | (go_at_call_of 17 (Value.slice a k c); go_must (refine (HC.out _ (by first | exact HB5.out | exact below_drewN HB3.out 1)).mono ?_; rintro e w4 ⟨rfl, hb4⟩; have HB4 : Hid (Below w.heap.size w w4) := Lib.hid (by first | exact HB5.out.trans (hb4.mono HB5.out.size) | exact (below_drewN HB3.out 1).trans (hb4.mono HB3.out.size)); have HM4 : Hid (Below w3.heap.size w3 w4) := Lib.hid (by first | exact HM5.out.trans (hb4.mono HM5.out.size) | exact (below_drewN (Below.refl _ w3) 1).trans hb4); clear hb4))
    | (go_at_call_of 17 (Value.slice a n c); go_must (refine (HQ.out _ HB4.out).mono ?_; rintro e w5 ⟨rfl, hb5⟩; have HB5 : Hid (Below w.heap.size w w5) := Lib.hid (HB4.out.trans (hb5.mono HB4.out.size)); have HM5 : Hid (Below w3.heap.size w3 w5) := Lib.hid (HM4.out.trans (hb5.mono HM4.out.size)); clear hb5)))
  have hfits : ∀ (rs : List Piece) (b : List Int), Piece.bytes rs = frames b → ∀ p ∈ rs, p.l.length ≤ 4611686018427387904 := fun rs b e p hp => by
    have h1 : p.l ∈ frames b := by rw [← e]; exact List.mem_map.2 ⟨p, hp, rfl⟩
    have := frames_fit b p.l h1
    omega
  have HK4 := HK3.out.next HM4.out
  have HL4 := HO3.out.next HM4.out
  obtain ⟨A', c', e', _, hr2⟩ := HK4.reads (hfits ps l HP2.out)
  obtain ⟨A'', c'', e'', _, hr3⟩ := HL4.reads (hfits qs _ HP3.out)
  injection e' with e1 e2 e3
  injection e'' with e4 e5 e6
  subst e1; subst e4
  have HZ := Lib.hid (alike_any A2 A3 n3 c2 n3 c3 (ps.take n3) qs _ _ _ ((by rw [HPl.out] at hr2; exact hr2.take h32)) (by rw [HQl.out] at hr3; exact hr3) (by omega))
  have HEq : Hid (decide (Piece.bytes (ps.take n3) = Piece.bytes qs) = true) := Lib.hid (decide_eq_true (by
    rw [bytes_take, HP2.out, HP3.out, HH.out.1]
    congr 1
    have h2 := congrArg List.length HP3.out
    simp only [Piece.bytes, List.length_map] at h2
    rw [← h2, HQl.out]))
  rw [HEq.out] at HZ
  clear hr2 hr3 HK4 HL4 hfits e2 e3 e5 e6
  go_wp2_with fail
  refine HZ.out.mono ?_
  rintro e w7 ⟨rfl, z, rfl⟩
  go_wp2
  go_ret
  exact ⟨rfl, below_drewN HB4.out z⟩
end Go.Proofs.YtmmjmaohbmlfgaaDoor.Pk
