/- The program's disk: Truncate. -/
import Derived.Test.YtgocfkjibcokjaaDkSync
namespace Go.Proofs.Ytgocfkjibcokjaa.Pk
open Go.RowKit Go.Proofs.Ytgocfkjibcokjaa.Dk
set_option linter.unusedVariables false

theorem cut_list (f : FL) (n k : Nat) (hn : f.all.length = n) (hk : k ≤ n) : (FL.all ⟨f.s.take k, f.w.take (k - f.s.length)⟩) = f.all.take k ∧ (f.s.take k).length = min f.s.length k := by
  refine ⟨?_, by rw [List.length_take]; omega⟩
  unfold FL.all
  rw [List.take_append]
theorem DkP.trunc0 {w : World} {R : Nat} {d : DK} {A0 A1 : Option Addr} {n0 n1 c0 c1 : Nat} (hbk : Blk w R 88 (dcs (.slice A0 n0 c0) (.slice A1 n1 c1) d)) (h0 : OwnB w 0 (.slice A0 n0 c0) d.f0.all) (h1 : OwnB w 0 (.slice A1 n1 c1) d.f1.all)
    (hd : ∀ g, (Value.slice A0 n0 c0).ownBlock = some g → (Value.slice A1 n1 c1).ownBlock = some g → False) (k m p q : Nat) (hk : k ≤ n0) (hm : m = min d.f0.s.length k) :
    DkP ((((w.drewN p).setCell ⟨R, 0, none⟩ (.slice A0 k c0)).drewN q).setCell ⟨R, 1, none⟩ (.int .i64 (m : Int))) R (d.put 0 ⟨d.f0.s.take k, d.f0.w.take (k - d.f0.s.length)⟩) (dbl R (.slice A0 n0 c0) (.slice A1 n1 c1)) := by
  have hn := (own_len h0).1
  obtain ⟨e1, e2⟩ := cut_list d.f0 n0 k hn hk
  refine ⟨.slice A0 k c0, .slice A1 n1 c1, ?_, ?_, ?_, by rw [own_any A0 k c0 n0 c0]; exact hd, dbl_any0 _ _ _ _ _ _ _⟩
  · have := (((hbk.drewN p).set_ 0 (.slice A0 k c0)).drewN q).set_ 1 (.int .i64 (m : Int))
    subst hm
    rw [← e2]
    rw [← e2] at this
    simpa [dcs, DK.put] using this
  · show OwnB _ 0 _ (FL.all ⟨d.f0.s.take k, d.f0.w.take (k - d.f0.s.length)⟩)
    rw [e1]
    refine (h0.cut hk).stay fun g e => ?_
    have hg : g ≠ R := fun e5 => DkP.own_ne hbk h0 (by rw [← e5, own_any A0 n0 c0 k c0]; exact e)
    exact (dk_far _ _ _ _ _ hg).trans (dk_far (w.drewN p) _ _ _ _ hg)
  · refine h1.stay fun g e => ?_
    have hg : g ≠ R := fun e5 => DkP.own_ne hbk h1 (by rw [← e5]; exact e)
    exact (dk_far _ _ _ _ _ hg).trans (dk_far (w.drewN p) _ _ _ _ hg)
theorem DkP.trunc1 {w : World} {R : Nat} {d : DK} {A0 A1 : Option Addr} {n0 n1 c0 c1 : Nat} (hbk : Blk w R 88 (dcs (.slice A0 n0 c0) (.slice A1 n1 c1) d)) (h0 : OwnB w 0 (.slice A0 n0 c0) d.f0.all) (h1 : OwnB w 0 (.slice A1 n1 c1) d.f1.all)
    (hd : ∀ g, (Value.slice A0 n0 c0).ownBlock = some g → (Value.slice A1 n1 c1).ownBlock = some g → False) (k m p q : Nat) (hk : k ≤ n1) (hm : m = min d.f1.s.length k) :
    DkP ((((w.drewN p).setCell ⟨R, 2, none⟩ (.slice A1 k c1)).drewN q).setCell ⟨R, 3, none⟩ (.int .i64 (m : Int))) R (d.put 1 ⟨d.f1.s.take k, d.f1.w.take (k - d.f1.s.length)⟩) (dbl R (.slice A0 n0 c0) (.slice A1 n1 c1)) := by
  have hn := (own_len h1).1
  obtain ⟨e1, e2⟩ := cut_list d.f1 n1 k hn hk
  refine ⟨.slice A0 n0 c0, .slice A1 k c1, ?_, ?_, ?_, by rw [own_any A1 k c1 n1 c1]; exact hd, dbl_any1 _ _ _ _ _ _ _⟩
  · have := (((hbk.drewN p).set_ 2 (.slice A1 k c1)).drewN q).set_ 3 (.int .i64 (m : Int))
    subst hm
    rw [← e2]
    rw [← e2] at this
    simpa [dcs, DK.put] using this
  · refine h0.stay fun g e => ?_
    have hg : g ≠ R := fun e5 => DkP.own_ne hbk h0 (by rw [← e5]; exact e)
    exact (dk_far _ _ _ _ _ hg).trans (dk_far (w.drewN p) _ _ _ _ hg)
  · show OwnB _ 0 _ (FL.all ⟨d.f1.s.take k, d.f1.w.take (k - d.f1.s.length)⟩)
    rw [e1]
    refine (h1.cut hk).stay fun g e => ?_
    have hg : g ≠ R := fun e5 => DkP.own_ne hbk h1 (by rw [← e5, own_any A1 n1 c1 k c1]; exact e)
    exact (dk_far _ _ _ _ _ hg).trans (dk_far (w.drewN p) _ _ _ _ hg)

theorem noT_of {d : DK} {f n : Int} (h : d.noT f n = 0) : d.no f = 0 ∧ 0 ≤ n ∧ n ≤ ((d.get f).all.length : Int) := by
  unfold DK.noT at h
  split at h
  · cases h
  · rename_i h1
    have h2 := no_file h
    refine ⟨h, ?_, ?_⟩
    · rcases Int.lt_or_le n 0 with h3 | h3
      · exact absurd ⟨h2, .inl h3⟩ h1
      · exact h3
    · rcases Int.lt_or_le ((d.get f).all.length : Int) n with h3 | h3
      · exact absurd ⟨h2, .inr h3⟩ h1
      · exact h3

set_option maxHeartbeats 3200000 in
/-- A Truncate that is refused. -/
theorem trunc_no (R : Nat) (f n : Int) (d : DK) (S : Nat → Prop) (w : World) (h : DkP w R d S) (hno : d.noT f n ≠ 0) :
    Calls Try.prog 38 #[.pointer (some ⟨R, 0, none⟩), .int .i64 f, .int .i64 n] w (Aft R d S w (.int .i64 (d.noT f n))) := by
  have H := Lib.hid h
  by_cases hf : f = 0 ∨ f = 1
  · have HI : Hid (isF f = true) := Lib.hid (by unfold isF; simp [hf])
    by_cases hlow : n < 0
    · have HD : Hid (d.noT f n = 1) := Lib.hid (by unfold DK.noT; rw [if_pos ⟨hf, .inl hlow⟩])
      clear hf hno h
      go_enter Try.func38, Try.ntmps38
      go_wp2_with fail
      refine (refusal_any R f d _ w H.out).mono ?_
      rintro e w1 ⟨rfl, rfl⟩
      go_wp2_with fail
      refine (has_any _ f w).mono ?_
      rw [HI.out]
      rintro e w1 ⟨rfl, rfl⟩
      go_wp2
      go_ret
      rw [HD.out]
      exact Aft.same H.out
    · obtain ⟨k, rfl⟩ := Int.eq_ofNat_of_zero_le (show 0 ≤ n by omega)
      by_cases hhi : (d.get f).all.length < k
      · have HD : Hid (d.noT f (k : Int) = 1) := Lib.hid (by unfold DK.noT; rw [if_pos ⟨hf, .inr (by omega)⟩])
        obtain ⟨A0, c0, A1, c1, _, _, x0, x2, _⟩ := h.vals
        clear hno h hlow
        rcases hf with rfl | rfl
        · obtain ⟨z, hz⟩ : ∃ z, z = d.f0.all.length := ⟨_, rfl⟩
          rw [← hz] at x0
          have hhi' : z < k := by rw [hz]; exact hhi
          clear hhi hz
          go_enter Try.func38, Try.ntmps38
          go_wp2_with fail
          refine (refusal_any R 0 d _ w H.out).mono ?_
          rintro e w1 ⟨rfl, rfl⟩
          go_wp2_with fail
          refine (has_any _ 0 w).mono ?_
          rw [HI.out]
          rintro e w1 ⟨rfl, rfl⟩
          go_wp2
          go_ret
          rw [HD.out]
          exact Aft.same H.out
        · obtain ⟨z, hz⟩ : ∃ z, z = d.f1.all.length := ⟨_, rfl⟩
          rw [← hz] at x2
          have hhi' : z < k := by rw [hz]; exact hhi
          clear hhi hz
          go_enter Try.func38, Try.ntmps38
          go_wp2_with fail
          refine (refusal_any R 1 d _ w H.out).mono ?_
          rintro e w1 ⟨rfl, rfl⟩
          go_wp2_with fail
          refine (has_any _ 1 w).mono ?_
          rw [HI.out]
          rintro e w1 ⟨rfl, rfl⟩
          go_wp2
          go_ret
          rw [HD.out]
          exact Aft.same H.out
      · have HD : Hid (d.noT f (k : Int) = d.no f) := Lib.hid (by unfold DK.noT; rw [if_neg (by omega)])
        have hne : d.no f ≠ 0 := by rw [← HD.out]; exact hno
        have hne' : (d.no f == 0) = false := beq_eq_false_iff_ne.2 hne
        obtain ⟨A0, c0, A1, c1, _, _, x0, x2, _⟩ := h.vals
        clear hno h hlow hne
        rcases hf with rfl | rfl
        · obtain ⟨z, hz⟩ : ∃ z, z = d.f0.all.length := ⟨_, rfl⟩
          rw [← hz] at x0
          have hhi' : ¬ z < k := by rw [hz]; exact hhi
          clear hhi hz
          go_enter Try.func38, Try.ntmps38
          go_wp2_with fail
          refine (refusal_any R 0 d _ w H.out).mono ?_
          rintro e w1 ⟨rfl, rfl⟩
          go_wp2_with fail
          refine (has_any _ 0 w).mono ?_
          rw [HI.out]
          rintro e w1 ⟨rfl, rfl⟩
          go_wp2
          go_ret
          rw [HD.out]
          exact Aft.same H.out
        · obtain ⟨z, hz⟩ : ∃ z, z = d.f1.all.length := ⟨_, rfl⟩
          rw [← hz] at x2
          have hhi' : ¬ z < k := by rw [hz]; exact hhi
          clear hhi hz
          go_enter Try.func38, Try.ntmps38
          go_wp2_with fail
          refine (refusal_any R 1 d _ w H.out).mono ?_
          rintro e w1 ⟨rfl, rfl⟩
          go_wp2_with fail
          refine (has_any _ 1 w).mono ?_
          rw [HI.out]
          rintro e w1 ⟨rfl, rfl⟩
          go_wp2
          go_ret
          rw [HD.out]
          exact Aft.same H.out
  · have HI : Hid (isF f = false) := Lib.hid (by unfold isF; simp [hf])
    have HD : Hid (d.noT f n = d.no f) := Lib.hid (by unfold DK.noT; rw [if_neg (fun h => hf h.1)])
    have hne : d.no f ≠ 0 := by rw [← HD.out]; exact hno
    have hne' : (d.no f == 0) = false := beq_eq_false_iff_ne.2 hne
    clear hf hno h hne
    go_enter Try.func38, Try.ntmps38
    go_wp2_with fail
    refine (refusal_any R f d _ w H.out).mono ?_
    rintro e w1 ⟨rfl, rfl⟩
    go_wp2_with fail
    refine (has_any _ f w).mono ?_
    rw [HI.out]
    rintro e w1 ⟨rfl, rfl⟩
    go_wp2
    go_ret
    rw [HD.out]
    exact Aft.same H.out

set_option maxHeartbeats 3200000 in
theorem trunc_any (R : Nat) (f n : Int) (d : DK) (S : Nat → Prop) (w : World) (h : DkP w R d S) (M m : Nat) (hfit : d.fit M m) (hM : M ≤ 140737488355328) (hm : m ≤ 4611686018427387904) :
    Calls Try.prog 38 #[.pointer (some ⟨R, 0, none⟩), .int .i64 f, .int .i64 n] w (Aft R (d.tru f n) S w (.int .i64 (d.truE f n))) := by
  by_cases hno : d.noT f n = 0
  · have H := Lib.hid h
    have HF := Lib.hid hfit
    obtain ⟨hnf, hn0, hn1⟩ := noT_of hno
    have hf := no_file hnf
    have HI : Hid (isF f = true) := Lib.hid (by unfold isF; simp [hf])
    have HN := Lib.hid hnf
    obtain ⟨k, rfl⟩ := Int.eq_ofNat_of_zero_le hn0
    have hk : ¬ (d.get f).all.length < k := by omega
    obtain ⟨A0, c0, A1, c1, _, _, x0, x2, _⟩ := h.vals
    have hM0 := hfit.l0
    have hM1 := hfit.l1
    by_cases hlf : d.left = 1
    · have HD : Hid (d.tru f (k : Int) = d.raw ∧ d.truE f (k : Int) = 40 ∧ d.rawE = 40) := Lib.hid (by unfold DK.tru DK.truE; rw [if_pos hno, if_pos hno, if_pos hlf]; exact ⟨rfl, raw_off hlf, raw_off hlf⟩)
      clear hno hlf h hfit hn0 hn1 hnf
      rcases hf with rfl | rfl
      · obtain ⟨z, hz⟩ : ∃ z, z = d.f0.all.length := ⟨_, rfl⟩
        rw [← hz] at x0
        have hk' : ¬ z < k := by rw [hz]; exact hk
        clear hk hz hM0 hM1
        go_enter Try.func38, Try.ntmps38
        go_wp2_with fail
        refine (refusal_any R 0 d _ w H.out).mono ?_
        rw [HN.out]
        rintro e w1 ⟨rfl, rfl⟩
        go_wp2_with fail
        refine (has_any _ 0 w).mono ?_
        rw [HI.out]
        rintro e w1 ⟨rfl, rfl⟩
        go_wp2_with fail
        refine (write_any R d _ _ H.out (Nat.le_trans HF.out.l0 (by omega)) (Nat.le_trans HF.out.l1 (by omega)) (Nat.le_trans HF.out.c hm) HF.out.a).mono ?_
        rw [HD.out.2.2]
        rintro e w3 ⟨rfl, S3, h3, t3, g3⟩
        have HE := Lib.hid (And.intro h3 (And.intro t3 g3))
        clear h3 t3 g3
        go_wp2
        go_ret
        rw [HD.out.1, HD.out.2.1]
        exact ⟨rfl, S3, HE.out.1, HE.out.2.1, HE.out.2.2⟩
      · obtain ⟨z, hz⟩ : ∃ z, z = d.f1.all.length := ⟨_, rfl⟩
        rw [← hz] at x2
        have hk' : ¬ z < k := by rw [hz]; exact hk
        clear hk hz hM0 hM1
        go_enter Try.func38, Try.ntmps38
        go_wp2_with fail
        refine (refusal_any R 1 d _ w H.out).mono ?_
        rw [HN.out]
        rintro e w1 ⟨rfl, rfl⟩
        go_wp2_with fail
        refine (has_any _ 1 w).mono ?_
        rw [HI.out]
        rintro e w1 ⟨rfl, rfl⟩
        go_wp2_with fail
        refine (write_any R d _ _ H.out (Nat.le_trans HF.out.l0 (by omega)) (Nat.le_trans HF.out.l1 (by omega)) (Nat.le_trans HF.out.c hm) HF.out.a).mono ?_
        rw [HD.out.2.2]
        rintro e w3 ⟨rfl, S3, h3, t3, g3⟩
        have HE := Lib.hid (And.intro h3 (And.intro t3 g3))
        clear h3 t3 g3
        go_wp2
        go_ret
        rw [HD.out.1, HD.out.2.1]
        exact ⟨rfl, S3, HE.out.1, HE.out.2.1, HE.out.2.2⟩
    · have HD : Hid (d.tru f (k : Int) = d.raw.put f ⟨(d.get f).s.take k, (d.get f).w.take (k - (d.get f).s.length)⟩ ∧ d.truE f (k : Int) = 0 ∧ d.rawE = 0 ∧ d.raw = d.count) := Lib.hid (by unfold DK.tru DK.truE; rw [if_pos hno, if_pos hno, if_neg hlf]; exact ⟨rfl, (raw_on hlf).1, raw_on hlf⟩)
      clear hno hlf h hfit hn0 hn1 hnf
      rcases hf with rfl | rfl
      · obtain ⟨z, hz⟩ : ∃ z, z = d.f0.all.length := ⟨_, rfl⟩
        rw [← hz] at x0
        have hk' : ¬ z < k := by rw [hz]; exact hk
        have hz1 : z ≤ 140737488355328 := by omega
        have HZ := Lib.hid hz
        clear hk hz hM0 hM1
        go_enter Try.func38, Try.ntmps38
        go_wp2_with fail
        refine (refusal_any R 0 d _ w H.out).mono ?_
        rw [HN.out]
        rintro e w1 ⟨rfl, rfl⟩
        go_wp2_with fail
        refine (has_any _ 0 w).mono ?_
        rw [HI.out]
        rintro e w1 ⟨rfl, rfl⟩
        go_wp2_with fail
        refine (write_any R d _ _ H.out (Nat.le_trans HF.out.l0 (by omega)) (Nat.le_trans HF.out.l1 (by omega)) (Nat.le_trans HF.out.c hm) HF.out.a).mono ?_
        rw [HD.out.2.2.1]
        rintro e w3 ⟨rfl, S3, h3, t3, g3⟩
        have HS3 := Lib.hid h3.self
        obtain ⟨B0, b0, B1, b1, g0, g1, y0, y2, y1, y3, ff, hS3, hbk, u0, u1, hdj⟩ := h3.vals
        have f0 := ff 0
        have f1 := ff 1
        have e1 : d.raw.f0 = d.f0 := by rw [HD.out.2.2.2]; rfl
        have q0 : d.raw.f0.all.length = z := by rw [e1, HZ.out]
        obtain ⟨sz, hsz⟩ : ∃ sz, sz = d.raw.f0.s.length := ⟨_, rfl⟩
        rw [← hsz] at y1
        have hkb : k ≤ b0 := by omega
        have hkz : k ≤ d.raw.f0.all.length := by omega
        obtain ⟨mm, hmm⟩ : ∃ mm, mm = min sz k := ⟨_, rfl⟩
        have kn := fun (w : World) => run_min2 Try.prog #[3, 3] 3 (sz : Int) (k : Int) (mm : Int) (by omega) w
        rw [q0] at y0 g0
        have HX := Lib.hid (And.intro hbk (And.intro u0 (And.intro u1 hdj)))
        have HY := Lib.hid (And.intro hS3 (And.intro t3 (And.intro g3 (And.intro e1 (And.intro hkz (show mm = min d.raw.f0.s.length k by rw [hmm, hsz]))))))
        clear ff hS3 hbk u0 u1 hdj h3 t3 g3 e1 q0 hsz hmm hkz
        go_wp2
        go_region
        go_wp2
        go_region
        go_wp2
        go_ret
        rw [HD.out.1, HD.out.2.1]
        have hS := HY.out.1
        have e3 : d.get 0 = d.raw.f0 := HY.out.2.2.2.1.symm
        rw [e3]
        refine ⟨rfl, S3, ?_, ((HY.out.2.1.drew.trans ((Turned.refl S3 _).set HS3.out _) (fun b hb hs => by rcases HY.out.2.2.1 b hs with h1 | h1; exact h1; omega)).drew).trans ((Turned.refl S3 _).set HS3.out _) (fun b hb hs => by rcases HY.out.2.2.1 b hs with h1 | h1; exact h1; omega), HY.out.2.2.1⟩
        rw [hS]
        exact DkP.trunc0 HX.out.1 HX.out.2.1 HX.out.2.2.1 HX.out.2.2.2 k mm 1 1 HY.out.2.2.2.2.1 HY.out.2.2.2.2.2
      · obtain ⟨z, hz⟩ : ∃ z, z = d.f1.all.length := ⟨_, rfl⟩
        rw [← hz] at x2
        have hk' : ¬ z < k := by rw [hz]; exact hk
        have hz1 : z ≤ 140737488355328 := by omega
        have HZ := Lib.hid hz
        clear hk hz hM0 hM1
        go_enter Try.func38, Try.ntmps38
        go_wp2_with fail
        refine (refusal_any R 1 d _ w H.out).mono ?_
        rw [HN.out]
        rintro e w1 ⟨rfl, rfl⟩
        go_wp2_with fail
        refine (has_any _ 1 w).mono ?_
        rw [HI.out]
        rintro e w1 ⟨rfl, rfl⟩
        go_wp2_with fail
        refine (write_any R d _ _ H.out (Nat.le_trans HF.out.l0 (by omega)) (Nat.le_trans HF.out.l1 (by omega)) (Nat.le_trans HF.out.c hm) HF.out.a).mono ?_
        rw [HD.out.2.2.1]
        rintro e w3 ⟨rfl, S3, h3, t3, g3⟩
        have HS3 := Lib.hid h3.self
        obtain ⟨B0, b0, B1, b1, g0, g1, y0, y2, y1, y3, ff, hS3, hbk, u0, u1, hdj⟩ := h3.vals
        have f2 := ff 2
        have f3 := ff 3
        have e1 : d.raw.f1 = d.f1 := by rw [HD.out.2.2.2]; rfl
        have q0 : d.raw.f1.all.length = z := by rw [e1, HZ.out]
        obtain ⟨sz, hsz⟩ : ∃ sz, sz = d.raw.f1.s.length := ⟨_, rfl⟩
        rw [← hsz] at y3
        have hkb : k ≤ b1 := by omega
        have hkz : k ≤ d.raw.f1.all.length := by omega
        obtain ⟨mm, hmm⟩ : ∃ mm, mm = min sz k := ⟨_, rfl⟩
        have kn := fun (w : World) => run_min2 Try.prog #[3, 3] 3 (sz : Int) (k : Int) (mm : Int) (by omega) w
        rw [q0] at y2 g1
        have HX := Lib.hid (And.intro hbk (And.intro u0 (And.intro u1 hdj)))
        have HY := Lib.hid (And.intro hS3 (And.intro t3 (And.intro g3 (And.intro e1 (And.intro hkz (show mm = min d.raw.f1.s.length k by rw [hmm, hsz]))))))
        clear ff hS3 hbk u0 u1 hdj h3 t3 g3 e1 q0 hsz hmm hkz
        go_wp2
        go_region
        go_wp2
        go_region
        go_wp2
        go_ret
        rw [HD.out.1, HD.out.2.1]
        have hS := HY.out.1
        have e3 : d.get 1 = d.raw.f1 := HY.out.2.2.2.1.symm
        rw [e3]
        refine ⟨rfl, S3, ?_, ((HY.out.2.1.drew.trans ((Turned.refl S3 _).set HS3.out _) (fun b hb hs => by rcases HY.out.2.2.1 b hs with h1 | h1; exact h1; omega)).drew).trans ((Turned.refl S3 _).set HS3.out _) (fun b hb hs => by rcases HY.out.2.2.1 b hs with h1 | h1; exact h1; omega), HY.out.2.2.1⟩
        rw [hS]
        exact DkP.trunc1 HX.out.1 HX.out.2.1 HX.out.2.2.1 HX.out.2.2.2 k mm 1 1 HY.out.2.2.2.2.1 HY.out.2.2.2.2.2
  · have HD : d.tru f n = d ∧ d.truE f n = d.noT f n := by unfold DK.tru DK.truE; rw [if_neg hno, if_neg hno]; exact ⟨rfl, rfl⟩
    rw [HD.1, HD.2]
    exact trunc_no R f n d S w h hno
end Go.Proofs.Ytgocfkjibcokjaa.Pk
