/- The program's disk: Truncate. -/
import Derived.Test.YtnpmccekkjadhaaDoorZDsk
import Derived.Test.YtnpmccekkjadhaaDoorZMath
namespace Go.Proofs.YtnpmccekkjadhaaDoor.Pk
open Go.RowKit Go.Proofs.YtnpmccekkjadhaaDoor.Dk
set_option linter.unusedVariables false

theorem cut_list (f : FL) (n k : Nat) (hn : f.all.length = n) (hk : k ≤ n) : (FL.all ⟨f.s.take k, f.w.take (k - f.s.length)⟩) = f.all.take k ∧ (f.s.take k).length = min f.s.length k := by
  refine ⟨?_, by rw [List.length_take]; omega⟩
  unfold FL.all
  rw [List.take_append]
theorem DkP.trunc0 {w : World} {R : Nat} {d : DK} {A0 A1 : Option Addr} {n0 n1 c0 c1 : Nat} (hbk : Blk w R 62 (dcs (.slice A0 n0 c0) (.slice A1 n1 c1) d)) (h0 : OwnB w 0 (.slice A0 n0 c0) d.f0.all) (h1 : OwnB w 0 (.slice A1 n1 c1) d.f1.all)
    (hd : ∀ g, (Value.slice A0 n0 c0).ownBlock = some g → (Value.slice A1 n1 c1).ownBlock = some g → False) (k m p q : Nat) (hk : k ≤ n0) (hm : m = min d.f0.s.length k) :
    DkP ((((w.drewN p).setCell ⟨R, 0, none⟩ (.slice A0 k c0)).drewN q).setCell ⟨R, 1, none⟩ (.int .i64 (m : Int))) R (d.put 0 ⟨d.f0.s.take k, d.f0.w.take (k - d.f0.s.length)⟩) (dbl R (.slice A0 n0 c0) (.slice A1 n1 c1)) := by
  have hn := (own_len h0).1
  obtain ⟨e1, e2⟩ := cut_list d.f0 n0 k hn hk
  refine ⟨.slice A0 k c0, .slice A1 n1 c1, ?_, ?_, ?_, by rw [own_any A0 k c0 n0 c0]; exact hd, dbl_any0 _ _ _ _ _ _ _⟩
  · have := (((hbk.drewN p).set_ 0 (.slice A0 k c0)).drewN q).set_ 1 (.int .i64 (m : Int))
    subst hm
    rw [← e2]
    rw [← e2] at this
    simpa [dcs, DK.put] using this
  · show OwnB _ 0 _ (FL.all ⟨d.f0.s.take k, d.f0.w.take (k - d.f0.s.length)⟩)
    rw [e1]
    refine (h0.cut hk).stay fun g e => ?_
    have hg : g ≠ R := fun e5 => DkP.own_ne hbk h0 (by rw [← e5, own_any A0 n0 c0 k c0]; exact e)
    exact (dk_far _ _ _ _ _ hg).trans (dk_far (w.drewN p) _ _ _ _ hg)
  · refine h1.stay fun g e => ?_
    have hg : g ≠ R := fun e5 => DkP.own_ne hbk h1 (by rw [← e5]; exact e)
    exact (dk_far _ _ _ _ _ hg).trans (dk_far (w.drewN p) _ _ _ _ hg)
theorem DkP.trunc1 {w : World} {R : Nat} {d : DK} {A0 A1 : Option Addr} {n0 n1 c0 c1 : Nat} (hbk : Blk w R 62 (dcs (.slice A0 n0 c0) (.slice A1 n1 c1) d)) (h0 : OwnB w 0 (.slice A0 n0 c0) d.f0.all) (h1 : OwnB w 0 (.slice A1 n1 c1) d.f1.all)
    (hd : ∀ g, (Value.slice A0 n0 c0).ownBlock = some g → (Value.slice A1 n1 c1).ownBlock = some g → False) (k m p q : Nat) (hk : k ≤ n1) (hm : m = min d.f1.s.length k) :
    DkP ((((w.drewN p).setCell ⟨R, 2, none⟩ (.slice A1 k c1)).drewN q).setCell ⟨R, 3, none⟩ (.int .i64 (m : Int))) R (d.put 1 ⟨d.f1.s.take k, d.f1.w.take (k - d.f1.s.length)⟩) (dbl R (.slice A0 n0 c0) (.slice A1 n1 c1)) := by
  have hn := (own_len h1).1
  obtain ⟨e1, e2⟩ := cut_list d.f1 n1 k hn hk
  refine ⟨.slice A0 n0 c0, .slice A1 k c1, ?_, ?_, ?_, by rw [own_any A1 k c1 n1 c1]; exact hd, dbl_any1 _ _ _ _ _ _ _⟩
  · have := (((hbk.drewN p).set_ 2 (.slice A1 k c1)).drewN q).set_ 3 (.int .i64 (m : Int))
    subst hm
    rw [← e2]
    rw [← e2] at this
    simpa [dcs, DK.put] using this
  · refine h0.stay fun g e => ?_
    have hg : g ≠ R := fun e5 => DkP.own_ne hbk h0 (by rw [← e5]; exact e)
    exact (dk_far _ _ _ _ _ hg).trans (dk_far (w.drewN p) _ _ _ _ hg)
  · show OwnB _ 0 _ (FL.all ⟨d.f1.s.take k, d.f1.w.take (k - d.f1.s.length)⟩)
    rw [e1]
    refine (h1.cut hk).stay fun g e => ?_
    have hg : g ≠ R := fun e5 => DkP.own_ne hbk h1 (by rw [← e5, own_any A1 n1 c1 k c1]; exact e)
    exact (dk_far _ _ _ _ _ hg).trans (dk_far (w.drewN p) _ _ _ _ hg)

theorem noT_of {d : DK} {f n : Int} (h : d.noT f n = 0) : d.no f = 0 ∧ 0 ≤ n ∧ n ≤ ((d.get f).all.length : Int) := by
  unfold DK.noT at h
  split at h
  · cases h
  · rename_i h1
    have h2 := no_file h
    refine ⟨h, ?_, ?_⟩
    · rcases Int.lt_or_le n 0 with h3 | h3
      · exact absurd ⟨h2, .inl h3⟩ h1
      · exact h3
    · rcases Int.lt_or_le ((d.get f).all.length : Int) n with h3 | h3
      · exact absurd ⟨h2, .inr h3⟩ h1
      · exact h3

set_option maxHeartbeats 3200000 in
/-- A Truncate that is refused. -/
theorem trunc_no (R : Nat) (f n : Int) (d : DK) (S : Nat → Prop) (w : World) (h : DkP w R d S) (hno : d.noT f n ≠ 0) :
    Calls Tryd.prog 59 #[.pointer (some ⟨R, 0, none⟩), .int .i64 f, .int .i64 n] w (Aft R d S w (.int .i64 (d.noT f n))) := by
  have H := Lib.hid h
  by_cases hf : f = 0 ∨ f = 1
  · have HI : Hid (isF f = true) := Lib.hid (by unfold isF; simp [hf])
    by_cases hlow : n < 0
    · have HD : Hid (d.noT f n = 1) := Lib.hid (by unfold DK.noT; rw [if_pos ⟨hf, .inl hlow⟩])
      clear hf hno h
      go_enter Tryd.func59, Tryd.ntmps59
      go_wp2_with fail
      refine (refusal_any R f d _ w H.out).mono ?_
      rintro e w1 ⟨rfl, rfl⟩
      go_wp2_with fail
      refine (has_any _ f w).mono ?_
      rw [HI.out]
      rintro e w1 ⟨rfl, rfl⟩
      go_wp2
      go_ret
      rw [HD.out]
      exact Aft.same H.out
    · obtain ⟨k, rfl⟩ := Int.eq_ofNat_of_zero_le (show 0 ≤ n by omega)
      by_cases hhi : (d.get f).all.length < k
      · have HD : Hid (d.noT f (k : Int) = 1) := Lib.hid (by unfold DK.noT; rw [if_pos ⟨hf, .inr (by omega)⟩])
        obtain ⟨A0, c0, A1, c1, _, _, x0, x2, _⟩ := h.vals
        clear hno h hlow
        rcases hf with rfl | rfl
        · obtain ⟨z, hz⟩ : ∃ z, z = d.f0.all.length := ⟨_, rfl⟩
          rw [← hz] at x0
          have hhi' : z < k := by rw [hz]; exact hhi
          clear hhi hz
          go_enter Tryd.func59, Tryd.ntmps59
          go_wp2_with fail
          refine (refusal_any R 0 d _ w H.out).mono ?_
          rintro e w1 ⟨rfl, rfl⟩
          go_wp2_with fail
          refine (has_any _ 0 w).mono ?_
          rw [HI.out]
          rintro e w1 ⟨rfl, rfl⟩
          go_wp2
          go_ret
          rw [HD.out]
          exact Aft.same H.out
        · obtain ⟨z, hz⟩ : ∃ z, z = d.f1.all.length := ⟨_, rfl⟩
          rw [← hz] at x2
          have hhi' : z < k := by rw [hz]; exact hhi
          clear hhi hz
          go_enter Tryd.func59, Tryd.ntmps59
          go_wp2_with fail
          refine (refusal_any R 1 d _ w H.out).mono ?_
          rintro e w1 ⟨rfl, rfl⟩
          go_wp2_with fail
          refine (has_any _ 1 w).mono ?_
          rw [HI.out]
          rintro e w1 ⟨rfl, rfl⟩
          go_wp2
          go_ret
          rw [HD.out]
          exact Aft.same H.out
      · have HD : Hid (d.noT f (k : Int) = d.no f) := Lib.hid (by unfold DK.noT; rw [if_neg (by omega)])
        have hne : d.no f ≠ 0 := by rw [← HD.out]; exact hno
        have hne' : (d.no f == 0) = false := beq_eq_false_iff_ne.2 hne
        obtain ⟨A0, c0, A1, c1, _, _, x0, x2, _⟩ := h.vals
        clear hno h hlow hne
        rcases hf with rfl | rfl
        · obtain ⟨z, hz⟩ : ∃ z, z = d.f0.all.length := ⟨_, rfl⟩
          rw [← hz] at x0
          have hhi' : ¬ z < k := by rw [hz]; exact hhi
          clear hhi hz
          go_enter Tryd.func59, Tryd.ntmps59
          go_wp2_with fail
          refine (refusal_any R 0 d _ w H.out).mono ?_
          rintro e w1 ⟨rfl, rfl⟩
          go_wp2_with fail
          refine (has_any _ 0 w).mono ?_
          rw [HI.out]
          rintro e w1 ⟨rfl, rfl⟩
          go_wp2
          go_ret
          rw [HD.out]
          exact Aft.same H.out
        · obtain ⟨z, hz⟩ : ∃ z, z = d.f1.all.length := ⟨_, rfl⟩
          rw [← hz] at x2
          have hhi' : ¬ z < k := by rw [hz]; exact hhi
          clear hhi hz
          go_enter Tryd.func59, Tryd.ntmps59
          go_wp2_with fail
          refine (refusal_any R 1 d _ w H.out).mono ?_
          rintro e w1 ⟨rfl, rfl⟩
          go_wp2_with fail
          refine (has_any _ 1 w).mono ?_
          rw [HI.out]
          rintro e w1 ⟨rfl, rfl⟩
          go_wp2
          go_ret
          rw [HD.out]
          exact Aft.same H.out
  · have HI : Hid (isF f = false) := Lib.hid (by unfold isF; simp [hf])
    have HD : Hid (d.noT f n = d.no f) := Lib.hid (by unfold DK.noT; rw [if_neg (fun h => hf h.1)])
    have hne : d.no f ≠ 0 := by rw [← HD.out]; exact hno
    have hne' : (d.no f == 0) = false := beq_eq_false_iff_ne.2 hne
    clear hf hno h hne
    go_enter Tryd.func59, Tryd.ntmps59
    go_wp2_with fail
    refine (refusal_any R f d _ w H.out).mono ?_
    rintro e w1 ⟨rfl, rfl⟩
    go_wp2_with fail
    refine (has_any _ f w).mono ?_
    rw [HI.out]
    rintro e w1 ⟨rfl, rfl⟩
    go_wp2
    go_ret
    rw [HD.out]
    exact Aft.same H.out

set_option maxHeartbeats 3200000 in
theorem trunc_any (R : Nat) (f n : Int) (d : DK) (S : Nat → Prop) (w : World) (h : DkP w R d S) (M m : Nat) (hfit : d.fit M m) (hM : M ≤ 140737488355328) (hm : m ≤ 4611686018427387904) :
    Calls Tryd.prog 59 #[.pointer (some ⟨R, 0, none⟩), .int .i64 f, .int .i64 n] w (Aft R (d.tru f n) S w (.int .i64 (d.truE f n))) := by
  by_cases hno : d.noT f n = 0
  · have H := Lib.hid h
    have HF := Lib.hid hfit
    obtain ⟨hnf, hn0, hn1⟩ := noT_of hno
    have hf := no_file hnf
    have HI : Hid (isF f = true) := Lib.hid (by unfold isF; simp [hf])
    have HN := Lib.hid hnf
    obtain ⟨k, rfl⟩ := Int.eq_ofNat_of_zero_le hn0
    have hk : ¬ (d.get f).all.length < k := by omega
    obtain ⟨A0, c0, A1, c1, _, _, x0, x2, _⟩ := h.vals
    have hM0 := hfit.l0
    have hM1 := hfit.l1
    by_cases hlf : d.left = 1
    · have HD : Hid (d.tru f (k : Int) = d.raw ∧ d.truE f (k : Int) = 40 ∧ d.rawE = 40) := Lib.hid (by unfold DK.tru DK.truE; rw [if_pos hno, if_pos hno, if_pos hlf]; exact ⟨rfl, raw_off hlf, raw_off hlf⟩)
      clear hno hlf h hfit hn0 hn1 hnf
      rcases hf with rfl | rfl
      · obtain ⟨z, hz⟩ : ∃ z, z = d.f0.all.length := ⟨_, rfl⟩
        rw [← hz] at x0
        have hk' : ¬ z < k := by rw [hz]; exact hk
        clear hk hz hM0 hM1
        go_enter Tryd.func59, Tryd.ntmps59
        go_wp2_with fail
        refine (refusal_any R 0 d _ w H.out).mono ?_
        rw [HN.out]
        rintro e w1 ⟨rfl, rfl⟩
        go_wp2_with fail
        refine (has_any _ 0 w).mono ?_
        rw [HI.out]
        rintro e w1 ⟨rfl, rfl⟩
        go_wp2_with fail
        refine (write_any R d _ _ H.out (Nat.le_trans HF.out.l0 (by omega)) (Nat.le_trans HF.out.l1 (by omega)) (Nat.le_trans HF.out.c hm) HF.out.a).mono ?_
        rw [HD.out.2.2]
        rintro e w3 ⟨rfl, S3, h3, t3, g3⟩
        have HE := Lib.hid (And.intro h3 (And.intro t3 g3))
        clear h3 t3 g3
        go_wp2
        go_ret
        rw [HD.out.1, HD.out.2.1]
        exact ⟨rfl, S3, HE.out.1, HE.out.2.1, HE.out.2.2⟩
      · obtain ⟨z, hz⟩ : ∃ z, z = d.f1.all.length := ⟨_, rfl⟩
        rw [← hz] at x2
        have hk' : ¬ z < k := by rw [hz]; exact hk
        clear hk hz hM0 hM1
        go_enter Tryd.func59, Tryd.ntmps59
        go_wp2_with fail
        refine (refusal_any R 1 d _ w H.out).mono ?_
        rw [HN.out]
        rintro e w1 ⟨rfl, rfl⟩
        go_wp2_with fail
        refine (has_any _ 1 w).mono ?_
        rw [HI.out]
        rintro e w1 ⟨rfl, rfl⟩
        go_wp2_with fail
        refine (write_any R d _ _ H.out (Nat.le_trans HF.out.l0 (by omega)) (Nat.le_trans HF.out.l1 (by omega)) (Nat.le_trans HF.out.c hm) HF.out.a).mono ?_
        rw [HD.out.2.2]
        rintro e w3 ⟨rfl, S3, h3, t3, g3⟩
        have HE := Lib.hid (And.intro h3 (And.intro t3 g3))
        clear h3 t3 g3
        go_wp2
        go_ret
        rw [HD.out.1, HD.out.2.1]
        exact ⟨rfl, S3, HE.out.1, HE.out.2.1, HE.out.2.2⟩
    · have HD : Hid (d.tru f (k : Int) = d.raw.put f ⟨(d.get f).s.take k, (d.get f).w.take (k - (d.get f).s.length)⟩ ∧ d.truE f (k : Int) = 0 ∧ d.rawE = 0 ∧ d.raw = d.count) := Lib.hid (by unfold DK.tru DK.truE; rw [if_pos hno, if_pos hno, if_neg hlf]; exact ⟨rfl, (raw_on hlf).1, raw_on hlf⟩)
      clear hno hlf h hfit hn0 hn1 hnf
      rcases hf with rfl | rfl
      · obtain ⟨z, hz⟩ : ∃ z, z = d.f0.all.length := ⟨_, rfl⟩
        rw [← hz] at x0
        have hk' : ¬ z < k := by rw [hz]; exact hk
        have hz1 : z ≤ 140737488355328 := by omega
        have HZ := Lib.hid hz
        clear hk hz hM0 hM1
        go_enter Tryd.func59, Tryd.ntmps59
        go_wp2_with fail
        refine (refusal_any R 0 d _ w H.out).mono ?_
        rw [HN.out]
        rintro e w1 ⟨rfl, rfl⟩
        go_wp2_with fail
        refine (has_any _ 0 w).mono ?_
        rw [HI.out]
        rintro e w1 ⟨rfl, rfl⟩
        go_wp2_with fail
        refine (write_any R d _ _ H.out (Nat.le_trans HF.out.l0 (by omega)) (Nat.le_trans HF.out.l1 (by omega)) (Nat.le_trans HF.out.c hm) HF.out.a).mono ?_
        rw [HD.out.2.2.1]
        rintro e w3 ⟨rfl, S3, h3, t3, g3⟩
        have HS3 := Lib.hid h3.self
        obtain ⟨B0, b0, B1, b1, g0, g1, y0, y2, y1, y3, ff, hS3, hbk, u0, u1, hdj⟩ := h3.vals
        have f0 := ff 0
        have f1 := ff 1
        have e1 : d.raw.f0 = d.f0 := by rw [HD.out.2.2.2]; rfl
        have q0 : d.raw.f0.all.length = z := by rw [e1, HZ.out]
        obtain ⟨sz, hsz⟩ : ∃ sz, sz = d.raw.f0.s.length := ⟨_, rfl⟩
        rw [← hsz] at y1
        have hkb : k ≤ b0 := by omega
        have hkz : k ≤ d.raw.f0.all.length := by omega
        obtain ⟨mm, hmm⟩ : ∃ mm, mm = min sz k := ⟨_, rfl⟩
        have kn := fun (w : World) => run_min2 Tryd.prog #[3, 3] 3 (sz : Int) (k : Int) (mm : Int) (by omega) w
        rw [q0] at y0 g0
        have HX := Lib.hid (And.intro hbk (And.intro u0 (And.intro u1 hdj)))
        have HY := Lib.hid (And.intro hS3 (And.intro t3 (And.intro g3 (And.intro e1 (And.intro hkz (show mm = min d.raw.f0.s.length k by rw [hmm, hsz]))))))
        clear ff hS3 hbk u0 u1 hdj h3 t3 g3 e1 q0 hsz hmm hkz
        go_wp2
        go_region
        go_wp2
        go_region
        go_wp2
        go_ret
        rw [HD.out.1, HD.out.2.1]
        have hS := HY.out.1
        have e3 : d.get 0 = d.raw.f0 := HY.out.2.2.2.1.symm
        rw [e3]
        refine ⟨rfl, S3, ?_, ((HY.out.2.1.drew.trans ((Turned.refl S3 _).set HS3.out _) (fun b hb hs => by rcases HY.out.2.2.1 b hs with h1 | h1; exact h1; omega)).drew).trans ((Turned.refl S3 _).set HS3.out _) (fun b hb hs => by rcases HY.out.2.2.1 b hs with h1 | h1; exact h1; omega), HY.out.2.2.1⟩
        rw [hS]
        exact DkP.trunc0 HX.out.1 HX.out.2.1 HX.out.2.2.1 HX.out.2.2.2 k mm 1 1 HY.out.2.2.2.2.1 HY.out.2.2.2.2.2
      · obtain ⟨z, hz⟩ : ∃ z, z = d.f1.all.length := ⟨_, rfl⟩
        rw [← hz] at x2
        have hk' : ¬ z < k := by rw [hz]; exact hk
        have hz1 : z ≤ 140737488355328 := by omega
        have HZ := Lib.hid hz
        clear hk hz hM0 hM1
        go_enter Tryd.func59, Tryd.ntmps59
        go_wp2_with fail
        refine (refusal_any R 1 d _ w H.out).mono ?_
        rw [HN.out]
        rintro e w1 ⟨rfl, rfl⟩
        go_wp2_with fail
        refine (has_any _ 1 w).mono ?_
        rw [HI.out]
        rintro e w1 ⟨rfl, rfl⟩
        go_wp2_with fail
        refine (write_any R d _ _ H.out (Nat.le_trans HF.out.l0 (by omega)) (Nat.le_trans HF.out.l1 (by omega)) (Nat.le_trans HF.out.c hm) HF.out.a).mono ?_
        rw [HD.out.2.2.1]
        rintro e w3 ⟨rfl, S3, h3, t3, g3⟩
        have HS3 := Lib.hid h3.self
        obtain ⟨B0, b0, B1, b1, g0, g1, y0, y2, y1, y3, ff, hS3, hbk, u0, u1, hdj⟩ := h3.vals
        have f2 := ff 2
        have f3 := ff 3
        have e1 : d.raw.f1 = d.f1 := by rw [HD.out.2.2.2]; rfl
        have q0 : d.raw.f1.all.length = z := by rw [e1, HZ.out]
        obtain ⟨sz, hsz⟩ : ∃ sz, sz = d.raw.f1.s.length := ⟨_, rfl⟩
        rw [← hsz] at y3
        have hkb : k ≤ b1 := by omega
        have hkz : k ≤ d.raw.f1.all.length := by omega
        obtain ⟨mm, hmm⟩ : ∃ mm, mm = min sz k := ⟨_, rfl⟩
        have kn := fun (w : World) => run_min2 Tryd.prog #[3, 3] 3 (sz : Int) (k : Int) (mm : Int) (by omega) w
        rw [q0] at y2 g1
        have HX := Lib.hid (And.intro hbk (And.intro u0 (And.intro u1 hdj)))
        have HY := Lib.hid (And.intro hS3 (And.intro t3 (And.intro g3 (And.intro e1 (And.intro hkz (show mm = min d.raw.f1.s.length k by rw [hmm, hsz]))))))
        clear ff hS3 hbk u0 u1 hdj h3 t3 g3 e1 q0 hsz hmm hkz
        go_wp2
        go_region
        go_wp2
        go_region
        go_wp2
        go_ret
        rw [HD.out.1, HD.out.2.1]
        have hS := HY.out.1
        have e3 : d.get 1 = d.raw.f1 := HY.out.2.2.2.1.symm
        rw [e3]
        refine ⟨rfl, S3, ?_, ((HY.out.2.1.drew.trans ((Turned.refl S3 _).set HS3.out _) (fun b hb hs => by rcases HY.out.2.2.1 b hs with h1 | h1; exact h1; omega)).drew).trans ((Turned.refl S3 _).set HS3.out _) (fun b hb hs => by rcases HY.out.2.2.1 b hs with h1 | h1; exact h1; omega), HY.out.2.2.1⟩
        rw [hS]
        exact DkP.trunc1 HX.out.1 HX.out.2.1 HX.out.2.2.1 HX.out.2.2.2 k mm 1 1 HY.out.2.2.2.2.1 HY.out.2.2.2.2.2
  · have HD : d.tru f n = d ∧ d.truE f n = d.noT f n := by unfold DK.tru DK.truE; rw [if_neg hno, if_neg hno]; exact ⟨rfl, rfl⟩
    rw [HD.1, HD.2]
    exact trunc_no R f n d S w h hno
end Go.Proofs.YtnpmccekkjadhaaDoor.Pk

/- The program's disk: Read, Safe, Load, New. -/
namespace Go.Proofs.YtnpmccekkjadhaaDoor.Pk
open Go.RowKit Go.Proofs.YtnpmccekkjadhaaDoor.Dk
set_option linter.unusedVariables false

/-- Bytes of the call's own are answered, and an error. -/
def RdP (l : List Int) (x : Int) (w : World) (e : Ending) (w' : World) : Prop := ∃ A n c, e = .returned (.tuple #[.slice A n c, .int .i64 x]) ∧ OwnB w' w.heap.size (.slice A n c) l ∧ Below w.heap.size w w'
/-- Bytes of the call's own are answered. -/
def SfP (l : List Int) (w : World) (e : Ending) (w' : World) : Prop := ∃ A n c, e = .returned (.slice A n c) ∧ OwnB w' w.heap.size (.slice A n c) l ∧ Below w.heap.size w w'

set_option maxHeartbeats 1600000 in
theorem read_any (R : Nat) (f : Int) (d : DK) (S : Nat → Prop) (w : World) (h : DkP w R d S) (hl0 : d.f0.all.length ≤ 140737488355328) (hl1 : d.f1.all.length ≤ 140737488355328) :
    Calls Tryd.prog 50 #[.pointer (some ⟨R, 0, none⟩), .int .i64 f] w (RdP (d.rd f) (d.no f) w) := by
  have H := Lib.hid h
  by_cases hno : d.no f = 0
  · have hf := no_file hno
    have HN := Lib.hid hno
    have HD : Hid (d.rd f = (d.get f).all) := Lib.hid (by unfold DK.rd; rw [if_pos hno])
    obtain ⟨A0, c0, A1, c1, g0, g1, x0, x2, x1, x3, ff, _, hbk, u0, u1, _⟩ := h.vals
    rcases hf with rfl | rfl
    · have hr : Reads w w.heap.size 1 A0 d.f0.all.length (bts d.f0.all) := by
        obtain ⟨A', c', e, _, hr⟩ := u0.reads
        injection e with e1 e2 e3
        rw [e1]; exact hr
      have HC := Lib.hid (clone_any A0 d.f0.all.length c0 d.f0.all w hr hl0)
      obtain ⟨z, hz⟩ : ∃ z, z = d.f0.all.length := ⟨_, rfl⟩
      rw [← hz] at HC x0
      clear hno h hbk u0 u1 ff hr hz
      go_enter Tryd.func50, Tryd.ntmps50
      go_wp2_with fail
      refine (refusal_any R 0 d _ w H.out).mono ?_
      rw [HN.out]
      rintro e w1 ⟨rfl, rfl⟩
      go_wp2_with fail
      refine HC.out.mono ?_
      rintro e w1 ⟨v1, rfl, ho1, hb1⟩
      obtain ⟨B1, m1, q1, rfl⟩ := own_slice ho1
      have HE := Lib.hid (And.intro ho1 hb1)
      clear ho1 hb1
      go_wp2
      go_ret2
      rw [HD.out, HN.out]
      exact ⟨B1, m1, q1, rfl, HE.out.1, HE.out.2⟩
    · have hr : Reads w w.heap.size 1 A1 d.f1.all.length (bts d.f1.all) := by
        obtain ⟨A', c', e, _, hr⟩ := u1.reads
        injection e with e1 e2 e3
        rw [e1]; exact hr
      have HC := Lib.hid (clone_any A1 d.f1.all.length c1 d.f1.all w hr hl1)
      obtain ⟨z, hz⟩ : ∃ z, z = d.f1.all.length := ⟨_, rfl⟩
      rw [← hz] at HC x2
      clear hno h hbk u0 u1 ff hr hz
      go_enter Tryd.func50, Tryd.ntmps50
      go_wp2_with fail
      refine (refusal_any R 1 d _ w H.out).mono ?_
      rw [HN.out]
      rintro e w1 ⟨rfl, rfl⟩
      go_wp2_with fail
      refine HC.out.mono ?_
      rintro e w1 ⟨v1, rfl, ho1, hb1⟩
      obtain ⟨B1, m1, q1, rfl⟩ := own_slice ho1
      have HE := Lib.hid (And.intro ho1 hb1)
      clear ho1 hb1
      go_wp2
      go_ret2
      rw [HD.out, HN.out]
      exact ⟨B1, m1, q1, rfl, HE.out.1, HE.out.2⟩
  · have HD : Hid (d.rd f = []) := Lib.hid (by unfold DK.rd; rw [if_neg hno])
    have hne : (d.no f == 0) = false := beq_eq_false_iff_ne.2 hno
    clear hno h
    go_enter Tryd.func50, Tryd.ntmps50
    go_wp2_with fail
    refine (refusal_any R f d _ w H.out).mono ?_
    rintro e w1 ⟨rfl, rfl⟩
    go_wp2
    go_ret2
    rw [HD.out]
    exact ⟨_, _, _, rfl, OwnB.nil_ _ _, Below.refl _ _⟩

set_option maxHeartbeats 1600000 in
theorem safe_any (R : Nat) (f : Int) (d : DK) (S : Nat → Prop) (w : World) (h : DkP w R d S) (hl0 : d.f0.all.length ≤ 140737488355328) (hl1 : d.f1.all.length ≤ 140737488355328) :
    Calls Tryd.prog 49 #[.pointer (some ⟨R, 0, none⟩), .int .i64 f] w (SfP (d.sf f) w) := by
  have H := Lib.hid h
  by_cases hf : f = 0 ∨ f = 1
  · have HI : Hid (isF f = true) := Lib.hid (by unfold isF; simp [hf])
    have HD : Hid (d.sf f = (d.get f).s) := Lib.hid (by unfold DK.sf; rw [if_pos hf])
    obtain ⟨A0, c0, A1, c1, g0, g1, x0, x2, x1, x3, ff, _, hbk, u0, u1, _⟩ := h.vals
    rcases hf with rfl | rfl
    · have hr : Reads w w.heap.size 1 A0 d.f0.all.length (bts d.f0.all) := by
        obtain ⟨A', c', e, _, hr⟩ := u0.reads
        injection e with e1 e2 e3
        rw [e1]; exact hr
      have hsn : d.f0.s.length ≤ d.f0.all.length := by simp [FL.all]
      have hsc : d.f0.s.length ≤ c0 := by omega
      have hr2 := hr.take hsn
      rw [show d.f0.all.take d.f0.s.length = d.f0.s by simp [FL.all]] at hr2
      have HC := Lib.hid (fun q => clone_any A0 d.f0.s.length c0 d.f0.s (w.drewN q) (hr2.drewN q) (by omega))
      obtain ⟨z, hz⟩ : ∃ z, z = d.f0.all.length := ⟨_, rfl⟩
      obtain ⟨y, hy⟩ : ∃ y, y = d.f0.s.length := ⟨_, rfl⟩
      rw [← hz] at x0 hsn g0
      rw [← hy] at HC x1 hsc hsn
      have HR := Lib.hid hbk.lt
      clear h hbk u0 u1 ff hr hr2 hz hy
      go_enter Tryd.func49, Tryd.ntmps49
      go_wp2_with fail
      refine (has_any _ 0 w).mono ?_
      rw [HI.out]
      rintro e w1 ⟨rfl, rfl⟩
      go_wp2_with fail
      go_region_held3 (fun w' => w'.cell? ⟨R, 0, none⟩ = some (.slice A0 z c0) ∧ w'.cell? ⟨R, 1, none⟩ = some (.int .i64 (y : Int))) (first | exact ⟨x0, x1⟩ | exact ⟨Z0, Z1⟩ | go_keep) (first
        | (go_at_call 31; go_must (refine (HC.out 1).mono ?_; rintro e w1 ⟨v1, rfl, ho1, hb1⟩; obtain ⟨B1, m1, q1, rfl⟩ := own_slice ho1; have Z0 := (hb1.cell (p := ⟨R, 0, none⟩) HR.out).trans x0; have Z1 := (hb1.cell (p := ⟨R, 1, none⟩) HR.out).trans x1; have HE := Lib.hid (And.intro ho1 hb1); clear ho1 hb1)))
      all_goals go_wp2
      all_goals go_ret
      all_goals rw [HD.out]
      all_goals exact ⟨B1, m1, q1, rfl, HE.out.1, ⟨HE.out.2.os, HE.out.2.tape, HE.out.2.output, HE.out.2.size, HE.out.2.block⟩⟩
    · have hr : Reads w w.heap.size 1 A1 d.f1.all.length (bts d.f1.all) := by
        obtain ⟨A', c', e, _, hr⟩ := u1.reads
        injection e with e1 e2 e3
        rw [e1]; exact hr
      have hsn : d.f1.s.length ≤ d.f1.all.length := by simp [FL.all]
      have hsc : d.f1.s.length ≤ c1 := by omega
      have hr2 := hr.take hsn
      rw [show d.f1.all.take d.f1.s.length = d.f1.s by simp [FL.all]] at hr2
      have HC := Lib.hid (fun q => clone_any A1 d.f1.s.length c1 d.f1.s (w.drewN q) (hr2.drewN q) (by omega))
      obtain ⟨z, hz⟩ : ∃ z, z = d.f1.all.length := ⟨_, rfl⟩
      obtain ⟨y, hy⟩ : ∃ y, y = d.f1.s.length := ⟨_, rfl⟩
      rw [← hz] at x2 hsn g1
      rw [← hy] at HC x3 hsc hsn
      have HR := Lib.hid hbk.lt
      clear h hbk u0 u1 ff hr hr2 hz hy
      go_enter Tryd.func49, Tryd.ntmps49
      go_wp2_with fail
      refine (has_any _ 1 w).mono ?_
      rw [HI.out]
      rintro e w1 ⟨rfl, rfl⟩
      go_wp2_with fail
      go_region_held3 (fun w' => w'.cell? ⟨R, 2, none⟩ = some (.slice A1 z c1) ∧ w'.cell? ⟨R, 3, none⟩ = some (.int .i64 (y : Int))) (first | exact ⟨x2, x3⟩ | exact ⟨Z0, Z1⟩ | go_keep) (first
        | (go_at_call 31; go_must (refine (HC.out 1).mono ?_; rintro e w1 ⟨v1, rfl, ho1, hb1⟩; obtain ⟨B1, m1, q1, rfl⟩ := own_slice ho1; have Z0 := (hb1.cell (p := ⟨R, 2, none⟩) HR.out).trans x2; have Z1 := (hb1.cell (p := ⟨R, 3, none⟩) HR.out).trans x3; have HE := Lib.hid (And.intro ho1 hb1); clear ho1 hb1)))
      all_goals go_wp2
      all_goals go_ret
      all_goals rw [HD.out]
      all_goals exact ⟨B1, m1, q1, rfl, HE.out.1, ⟨HE.out.2.os, HE.out.2.tape, HE.out.2.output, HE.out.2.size, HE.out.2.block⟩⟩
  · have HI : Hid (isF f = false) := Lib.hid (by unfold isF; simp [hf])
    have HD : Hid (d.sf f = []) := Lib.hid (by unfold DK.sf; rw [if_neg hf])
    clear hf h
    go_enter Tryd.func49, Tryd.ntmps49
    go_wp2_with fail
    refine (has_any _ f w).mono ?_
    rw [HI.out]
    rintro e w1 ⟨rfl, rfl⟩
    go_wp2
    go_ret
    rw [HD.out]
    exact ⟨_, _, _, rfl, OwnB.nil_ _ _, Below.refl _ _⟩

/-- A new disk is answered. -/
def NwP (d : DK) (w : World) (e : Ending) (w' : World) : Prop := ∃ R S, e = .returned (.pointer (some ⟨R, 0, none⟩)) ∧ DkP w' R d S ∧ (∀ b, S b → w.heap.size ≤ b) ∧ Below w.heap.size w w'

set_option maxHeartbeats 1600000 in
theorem load_any (A A' : Option Addr) (n c n' c' : Nat) (a b : List Int) (w : World) (ha : Reads w w.heap.size 1 A n (bts a)) (hb : Reads w w.heap.size 1 A' n' (bts b)) (hn : n ≤ 140737488355328) (hn' : n' ≤ 140737488355328) :
    Calls Tryd.prog 10 #[.slice A n c, .slice A' n' c'] w (NwP (DK.new a b) w) := by
  have HA := Lib.hid ha
  have HB := Lib.hid hb
  have HLA : Hid (a.length = n) := Lib.hid (by have := ha.1; simpa using this)
  have HLB : Hid (b.length = n') := Lib.hid (by have := hb.1; simpa using this)
  clear ha hb
  go_enter Tryd.func10, Tryd.ntmps10
  go_wp2_with fail
  refine (clone_any A n c a w HA.out hn).mono ?_
  rintro e w1 ⟨v1, rfl, ho1, hb1⟩
  obtain ⟨B1, m1, q1, rfl⟩ := own_slice ho1
  have hs1 := hb1.size
  have HE1 := Lib.hid (And.intro ho1 hb1)
  have HB1 := Lib.hid ((HB.out.below hb1).more hs1)
  clear ho1 hb1
  go_wp2_with fail
  refine (clone_any A' n' c' b w1 HB1.out hn').mono ?_
  rintro e w2 ⟨v2, rfl, ho2, hb2⟩
  obtain ⟨B2, m2, q2, rfl⟩ := own_slice ho2
  have hs2 := hb2.size
  have HE2 := Lib.hid (And.intro ho2 hb2)
  clear ho2 hb2
  go_wp2
  go_ret
  have ho1 : OwnB w2 w.heap.size (.slice B1 m1 q1) a := HE1.out.1.keep HE2.out.2 (Nat.le_refl _)
  have ho2 := HE2.out.1
  have l1 := HE1.out.1.lt
  refine ⟨w2.heap.size, dbl w2.heap.size (.slice B1 m1 q1) (.slice B2 m2 q2), rfl, ⟨.slice B1 m1 q1, .slice B2 m2 q2, ?_, ?_, ?_, ?_, rfl⟩, ?_, ?_⟩
  · have := Blk.new w2 62 (dcs (.slice B1 m1 q1) (.slice B2 m2 q2) (DK.new a b))
    simp only [dcs, DK.new, HLA.out, HLB.out] at this
    simpa [dcs, DK.new, HLA.out, HLB.out] using this
  · simpa [DK.new, FL.all] using (ho1.alloc _).mono (Nat.zero_le _)
  · simpa [DK.new, FL.all] using (ho2.alloc _).mono (Nat.zero_le _)
  · intro g e1 e2
    have := l1 g e1
    have := ho2.base g e2
    omega
  · rintro g (rfl | e | e)
    · omega
    · exact ho1.base g e
    · have := ho2.base g e; omega
  · exact (HE1.out.2.trans (HE2.out.2.mono hs1)).alloc (by omega) _

set_option maxHeartbeats 400000 in
theorem new_any (w : World) : Calls Tryd.prog 29 #[] w (NwP (DK.new [] []) w) := by
  go_enter Tryd.func29, Tryd.ntmps29
  go_wp2_with fail
  refine (load_any none none 0 0 0 0 [] [] w Reads.none_ Reads.none_ (by omega) (by omega)).mono ?_
  rintro e w1 ⟨R, S, rfl, h1, h2, h3⟩
  have HE := Lib.hid (And.intro h1 (And.intro h2 h3))
  clear h1 h2 h3
  go_wp2
  go_ret
  exact ⟨R, S, rfl, HE.out.1, HE.out.2.1, HE.out.2.2⟩
end Go.Proofs.YtnpmccekkjadhaaDoor.Pk

/- The program's disk while a call of a vault goes on. -/
namespace Go.Proofs.YtnpmccekkjadhaaDoor.Pk
open Go.RowKit Go.Proofs.YtnpmccekkjadhaaDoor.Crc Go.Proofs.YtnpmccekkjadhaaDoor.Dk Go.Proofs.YtnpmccekkjadhaaDoor.Vk
set_option linter.unusedVariables false
/-- The disk is d, made of blocks of S or new ones, none of T; what lies in T lies as it lay. -/
structure OnP (w0 : World) (R : Nat) (S T : Nat → Prop) (wT : World) (d : DK) (wi : World) : Prop where
  ex : ∃ S', DkP wi R d S' ∧ Turned S w0 wi ∧ From S S' w0 ∧ ∀ b, S' b → ¬ T b
  stay : Stay T wT wi
  tlt : ∀ b, T b → b < wT.heap.size
section
variable {w0 wT wi w' : World} {R : Nat} {S T : Nat → Prop} {d d' : DK}
theorem OnP.start (h : DkP wi R d S) (hT : ∀ b, T b → b < wi.heap.size) (hap : ∀ b, S b → ¬ T b) (h0 : Below w0.heap.size w0 wi) : OnP w0 R S T wi d wi :=
  ⟨⟨S, h, Turned.of h0 (Nat.le_refl _) S, From.refl _ _, hap⟩, ⟨Nat.le_refl _, fun _ _ => rfl⟩, hT⟩
theorem OnP.next (h : OnP w0 R S T wT d wi) (hb : Below wi.heap.size wi w') : OnP w0 R S T wT d w' := by
  obtain ⟨S', h1, t, f, ap⟩ := h.ex
  have hs := h.stay
  refine ⟨⟨S', h1.next hb, t.next hb, f, ap⟩, ⟨Nat.le_trans hs.1 hb.size, fun b hT => (hb.block b ?_).trans (hs.2 b hT)⟩, h.tlt⟩
  exact Nat.lt_of_lt_of_le (h.tlt b hT) hs.1
/-- More is to stay: blocks that lie apart from the disk. -/
theorem OnP.also {T' : Nat → Prop} (h : OnP w0 R S T wT d wi) (hT' : ∀ b, T' b → b < wi.heap.size) (hap : ∀ S', DkP wi R d S' → From S S' w0 → (∀ b, S' b → ¬ T b) → ∀ b, S' b → ¬ T' b) : OnP w0 R S T' wi d wi := by
  obtain ⟨S', h1, t, f, ap⟩ := h.ex
  exact ⟨⟨S', h1, t, f, hap S' h1 f ap⟩, ⟨Nat.le_refl _, fun _ _ => rfl⟩, hT'⟩
theorem OnP.aft (h : OnP w0 R S T wT d wi) {S' : Nat → Prop} {v : Value} {e : Ending} (h1 : DkP wi R d S') (t : Turned S w0 wi) (f : From S S' w0) (ap : ∀ b, S' b → ¬ T b) (k : Aft R d' S' wi v e w') : e = .returned v ∧ OnP w0 R S T wT d' w' := by
  obtain ⟨e1, S2, h2, t2, f2⟩ := k
  have hs := h.stay
  have hT : ∀ b, T b → b < wi.heap.size := fun b hb => Nat.lt_of_lt_of_le (h.tlt b hb) hs.1
  refine ⟨e1, ⟨S2, h2, t.also f t2, f.trans f2 t.size, from_apart f2 ap hT⟩, ⟨Nat.le_trans hs.1 t2.size, fun b hb => (t2.block b (hT b hb) (fun hx => ap b hx hb)).trans (hs.2 b hb)⟩, h.tlt⟩
theorem OnP.app (h : OnP w0 R S T wT d wi) (f : Int) (A : Option Addr) (n c : Nat) (b : List Int) (hr : Reads wi wi.heap.size 1 A n (bts b)) (M m : Nat) (hfit : d.fit M m) (hM : M + n ≤ 140737488355328) (hm : m ≤ 4611686018427387904) :
    Calls Tryd.prog 54 #[.pointer (some ⟨R, 0, none⟩), .int .i64 f, .slice A n c] wi fun e w' => e = .returned (.int .i64 (d.appE f)) ∧ OnP w0 R S T wT (d.app f b) w' := by
  obtain ⟨S', h1, t, g, ap⟩ := h.ex
  exact (append_any R f A n c b d S' wi h1 hr M m hfit hM hm).mono fun e w' k => h.aft h1 t g ap k
theorem OnP.syn (h : OnP w0 R S T wT d wi) (f : Int) (M m : Nat) (hfit : d.fit M m) (hM : M ≤ 140737488355328) (hm : m ≤ 4611686018427387904) :
    Calls Tryd.prog 67 #[.pointer (some ⟨R, 0, none⟩), .int .i64 f] wi fun e w' => e = .returned (.int .i64 (d.appE f)) ∧ OnP w0 R S T wT (d.syn f) w' := by
  obtain ⟨S', h1, t, g, ap⟩ := h.ex
  exact (sync_any R f d S' wi h1 M m hfit hM hm).mono fun e w' k => h.aft h1 t g ap k
theorem OnP.tru (h : OnP w0 R S T wT d wi) (f n : Int) (M m : Nat) (hfit : d.fit M m) (hM : M ≤ 140737488355328) (hm : m ≤ 4611686018427387904) :
    Calls Tryd.prog 59 #[.pointer (some ⟨R, 0, none⟩), .int .i64 f, .int .i64 n] wi fun e w' => e = .returned (.int .i64 (d.truE f n)) ∧ OnP w0 R S T wT (d.tru f n) w' := by
  obtain ⟨S', h1, t, g, ap⟩ := h.ex
  exact (trunc_any R f n d S' wi h1 M m hfit hM hm).mono fun e w' k => h.aft h1 t g ap k
theorem OnP.read (h : OnP w0 R S T wT d wi) (f : Int) (M m : Nat) (hfit : d.fit M m) (hM : M ≤ 140737488355328) :
    Calls Tryd.prog 50 #[.pointer (some ⟨R, 0, none⟩), .int .i64 f] wi fun e w' => ∃ A n c, e = .returned (.tuple #[.slice A n c, .int .i64 (d.no f)]) ∧ OwnB w' wi.heap.size (.slice A n c) (d.rd f) ∧ Below wi.heap.size wi w' ∧ OnP w0 R S T wT d w' := by
  obtain ⟨S', h1, t, g, ap⟩ := h.ex
  exact (read_any R f d S' wi h1 (Nat.le_trans hfit.l0 hM) (Nat.le_trans hfit.l1 hM)).mono fun e w' ⟨A, n, c, e1, ho, hb⟩ => ⟨A, n, c, e1, ho, hb, h.next hb⟩
/-- Raw writes under way: those of rest are still to be done. -/
structure RunP (w0 : World) (R : Nat) (S T : Nat → Prop) (wT : World) (os : List Ro) (d0 : DK) (M m : Nat) (rest : List Ro) (d : DK) (wi : World) : Prop where
  on : OnP w0 R S T wT d wi
  pow : True
  fit : d.fit M m
  run : runs os d0 = runs rest d
/-- One of them has answered an error. -/
def FailP (w0 : World) (R : Nat) (S T : Nat → Prop) (wT : World) (os : List Ro) (d0 : DK) (x : Int) (w' : World) : Prop := ∃ d', OnP w0 R S T wT d' w' ∧ runs os d0 = (x, d')
/-- What a raw write leaves. -/
def StepP (w0 : World) (R : Nat) (S T : Nat → Prop) (wT : World) (os : List Ro) (d0 : DK) (M m : Nat) (o : Ro) (rest : List Ro) (d : DK) (e : Ending) (w' : World) : Prop :=
  (∃ x, x ≠ 0 ∧ (x != 0) = true ∧ e = .returned (.int .i64 x) ∧ FailP w0 R S T wT os d0 x w') ∨
  (e = .returned (.int .i64 0) ∧ ∃ d', RunP w0 R S T wT os d0 (M + o.len) (m + 1) rest d' w' ∧ ∀ g, (g = 0 ∨ g = 1) → g ≠ o.at_ → d'.get g = d.get g)
variable {os rest : List Ro} {d0 : DK} {M m : Nat}
theorem RunP.step {o : Ro} (h : RunP w0 R S T wT os d0 M m (o :: rest) d wi) (ho : o.at_ = 0 ∨ o.at_ = 1) {e : Ending} (he : e = .returned (.int .i64 (o.er d))) (k : OnP w0 R S T wT (o.dk d) w') : StepP w0 R S T wT os d0 M m o rest d e w' := by
  by_cases hx : o.er d = 0
  · refine .inr ⟨by rw [he, hx], o.dk d, ⟨k, trivial, Ro.fit h.fit o, h.run.trans (runs_ok hx)⟩, (Ro.keep (Ro.er_on hx) hx ho).2⟩
  · exact .inl ⟨o.er d, hx, by simpa using hx, he, o.dk d, k, h.run.trans (runs_er hx)⟩
theorem RunP.next (h : RunP w0 R S T wT os d0 M m rest d wi) (hb : Below wi.heap.size wi w') : RunP w0 R S T wT os d0 M m rest d w' := ⟨h.on.next hb, h.pow, h.fit, h.run⟩
theorem RunP.app {f : Int} {b : List Int} (h : RunP w0 R S T wT os d0 M m (.A f b :: rest) d wi) (hf : f = 0 ∨ f = 1) (A : Option Addr) (n c : Nat) (hr : Reads wi wi.heap.size 1 A n (bts b)) (hM : M + n ≤ 140737488355328) (hm : m ≤ 4611686018427387904) :
    Calls Tryd.prog 54 #[.pointer (some ⟨R, 0, none⟩), .int .i64 f, .slice A n c] wi (StepP w0 R S T wT os d0 M m (.A f b) rest d) :=
  (h.on.app f A n c b hr M m h.fit hM hm).mono fun e w' k => h.step hf k.1 k.2
theorem RunP.syn {f : Int} (h : RunP w0 R S T wT os d0 M m (.S f :: rest) d wi) (hf : f = 0 ∨ f = 1) (hM : M ≤ 140737488355328) (hm : m ≤ 4611686018427387904) :
    Calls Tryd.prog 67 #[.pointer (some ⟨R, 0, none⟩), .int .i64 f] wi (StepP w0 R S T wT os d0 M m (.S f) rest d) :=
  (h.on.syn f M m h.fit hM hm).mono fun e w' k => h.step hf k.1 k.2
theorem RunP.tru {f n : Int} (h : RunP w0 R S T wT os d0 M m (.T f n :: rest) d wi) (hf : f = 0 ∨ f = 1) (hM : M ≤ 140737488355328) (hm : m ≤ 4611686018427387904) :
    Calls Tryd.prog 59 #[.pointer (some ⟨R, 0, none⟩), .int .i64 f, .int .i64 n] wi (StepP w0 R S T wT os d0 M m (.T f n) rest d) :=
  (h.on.tru f n M m h.fit hM hm).mono fun e w' k => h.step hf k.1 k.2
theorem RunP.cell {p : Addr} {v : Value} (h : RunP w0 R S T wT os d0 M m rest d wi) (hT : T p.block) (hc : wT.cell? p = some v) : wi.cell? p = some v := (World.cell?_of_block (h.on.stay.2 _ hT)).trans hc
end
end Go.Proofs.YtnpmccekkjadhaaDoor.Pk
