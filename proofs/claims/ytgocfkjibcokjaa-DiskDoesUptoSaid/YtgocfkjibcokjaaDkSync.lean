/- The program's disk: Sync, Truncate. -/
import Derived.Test.YtgocfkjibcokjaaDkApp
namespace Go.Proofs.Ytgocfkjibcokjaa.Pk
open Go.RowKit Go.Proofs.Ytgocfkjibcokjaa.Dk
set_option linter.unusedVariables false

theorem DkP.vals {w : World} {R : Nat} {d : DK} {S : Nat → Prop} (h : DkP w R d S) : ∃ A0 c0 A1 c1, d.f0.all.length ≤ c0 ∧ d.f1.all.length ≤ c1 ∧ w.cell? ⟨R, 0, none⟩ = some (.slice A0 d.f0.all.length c0) ∧ w.cell? ⟨R, 2, none⟩ = some (.slice A1 d.f1.all.length c1) ∧
    w.cell? ⟨R, 1, none⟩ = some (.int .i64 (d.f0.s.length : Int)) ∧ w.cell? ⟨R, 3, none⟩ = some (.int .i64 (d.f1.s.length : Int)) ∧ (∀ o, w.frozen? ⟨R, o, none⟩ = false) ∧
    S = dbl R (.slice A0 d.f0.all.length c0) (.slice A1 d.f1.all.length c1) ∧ Blk w R 88 (dcs (.slice A0 d.f0.all.length c0) (.slice A1 d.f1.all.length c1) d) ∧ OwnB w 0 (.slice A0 d.f0.all.length c0) d.f0.all ∧ OwnB w 0 (.slice A1 d.f1.all.length c1) d.f1.all ∧
    (∀ g, (Value.slice A0 d.f0.all.length c0).ownBlock = some g → (Value.slice A1 d.f1.all.length c1).ownBlock = some g → False) := by
  obtain ⟨v0, v1, hbk, h0, h1, hd, rfl⟩ := h
  obtain ⟨A0, n0, c0, rfl⟩ := own_slice h0
  obtain ⟨A1, n1, c1, rfl⟩ := own_slice h1
  obtain ⟨rfl, z0⟩ := own_len h0
  obtain ⟨rfl, z1⟩ := own_len h1
  exact ⟨A0, c0, A1, c1, z0, z1, by rw [hbk.cell]; rfl, by rw [hbk.cell]; rfl, by rw [hbk.cell]; rfl, by rw [hbk.cell]; rfl, fun o => hbk.frozen o, rfl, hbk, h0, h1, hd⟩
theorem DkP.sync0 {w : World} {R : Nat} {d : DK} {S : Nat → Prop} (h : DkP w R d S) (n : Nat) (hn : n = d.f0.all.length) : DkP (w.setCell ⟨R, 1, none⟩ (.int .i64 (n : Int))) R (d.put 0 ⟨d.f0.all, []⟩) S := by
  subst hn
  obtain ⟨v0, v1, hbk, h0, h1, hd, rfl⟩ := h
  have := hbk.set_ 1 (.int .i64 (d.f0.all.length : Int))
  exact DkP.nums h0 h1 hbk hd (fun b hb _ => Below.heap_setCell w ⟨R, 1, none⟩ _ b hb) _ (by simpa [dcs, DK.put] using this) (by simp [DK.put, FL.all]) (by simp [DK.put, FL.all])
theorem DkP.sync1 {w : World} {R : Nat} {d : DK} {S : Nat → Prop} (h : DkP w R d S) (n : Nat) (hn : n = d.f1.all.length) : DkP (w.setCell ⟨R, 3, none⟩ (.int .i64 (n : Int))) R (d.put 1 ⟨d.f1.all, []⟩) S := by
  subst hn
  obtain ⟨v0, v1, hbk, h0, h1, hd, rfl⟩ := h
  have := hbk.set_ 3 (.int .i64 (d.f1.all.length : Int))
  exact DkP.nums h0 h1 hbk hd (fun b hb _ => Below.heap_setCell w ⟨R, 3, none⟩ _ b hb) _ (by simpa [dcs, DK.put] using this) (by simp [DK.put, FL.all]) (by simp [DK.put, FL.all])
theorem raw_off {d : DK} (h : d.left = 1) : d.rawE = 40 := by unfold DK.rawE; rw [if_pos h]
theorem raw_on {d : DK} (h : d.left ≠ 1) : d.rawE = 0 ∧ d.raw = d.count := by unfold DK.rawE DK.raw; rw [if_neg h, if_neg h]; exact ⟨rfl, rfl⟩
theorem no_file {d : DK} {f : Int} (h : d.no f = 0) : f = 0 ∨ f = 1 := by
  unfold DK.no at h
  by_cases h1 : f = 0 ∨ f = 1
  · exact h1
  · rw [if_neg h1] at h; cases h

set_option maxHeartbeats 3200000 in
theorem sync_any (R : Nat) (f : Int) (d : DK) (S : Nat → Prop) (w : World) (h : DkP w R d S) (M m : Nat) (hfit : d.fit M m) (hM : M ≤ 140737488355328) (hm : m ≤ 4611686018427387904) :
    Calls Try.prog 37 #[.pointer (some ⟨R, 0, none⟩), .int .i64 f] w (Aft R (d.syn f) S w (.int .i64 (d.appE f))) := by
  have H := Lib.hid h
  have HF := Lib.hid hfit
  by_cases hno : d.no f = 0
  · have hf := no_file hno
    have HN := Lib.hid hno
    by_cases hlf : d.left = 1
    · have HD : Hid (d.syn f = d.raw ∧ d.appE f = 40 ∧ d.rawE = 40) := Lib.hid (by unfold DK.syn DK.appE; rw [if_pos hno, if_pos hno, if_pos hlf]; exact ⟨rfl, raw_off hlf, raw_off hlf⟩)
      clear hno hf hlf h hfit
      go_enter Try.func37, Try.ntmps37
      go_wp2_with fail
      refine (refusal_any R f d _ w H.out).mono ?_
      rw [HN.out]
      rintro e w1 ⟨rfl, rfl⟩
      go_wp2_with fail
      refine (write_any R d _ _ H.out (Nat.le_trans HF.out.l0 (by omega)) (Nat.le_trans HF.out.l1 (by omega)) (Nat.le_trans HF.out.c hm) HF.out.a).mono ?_
      rw [HD.out.2.2]
      rintro e w3 ⟨rfl, S3, h3, t3, g3⟩
      have HE := Lib.hid (And.intro h3 (And.intro t3 g3))
      clear h3 t3 g3
      go_wp2
      go_ret
      rw [HD.out.1, HD.out.2.1]
      exact ⟨rfl, S3, HE.out.1, HE.out.2.1, HE.out.2.2⟩
    · have HD : Hid (d.syn f = d.raw.put f ⟨(d.get f).all, []⟩ ∧ d.appE f = 0 ∧ d.rawE = 0 ∧ d.raw = d.count) := Lib.hid (by unfold DK.syn DK.appE; rw [if_pos hno, if_pos hno, if_neg hlf]; exact ⟨rfl, (raw_on hlf).1, raw_on hlf⟩)
      clear hno hlf h hfit
      rcases hf with rfl | rfl
      · go_enter Try.func37, Try.ntmps37
        go_wp2_with fail
        refine (refusal_any R 0 d _ w H.out).mono ?_
        rw [HN.out]
        rintro e w1 ⟨rfl, rfl⟩
        go_wp2_with fail
        refine (write_any R d _ _ H.out (Nat.le_trans HF.out.l0 (by omega)) (Nat.le_trans HF.out.l1 (by omega)) (Nat.le_trans HF.out.c hm) HF.out.a).mono ?_
        rw [HD.out.2.2.1]
        rintro e w3 ⟨rfl, S3, h3, t3, g3⟩
        have HS3 := Lib.hid h3.self
        have H3 := Lib.hid h3
        obtain ⟨A0, c0, A1, c1, _, _, x0, x2, x1, x3, ff, _⟩ := h3.vals
        have f1 := ff 1
        obtain ⟨n, hn⟩ : ∃ n, n = d.raw.f0.all.length := ⟨_, rfl⟩
        rw [← hn] at x0
        have HNN := Lib.hid hn
        have T3 := Lib.hid (And.intro t3 g3)
        clear h3 ff t3 g3 hn
        go_wp2
        go_region
        go_wp2
        go_ret
        rw [HD.out.1, HD.out.2.1]
        have e1 : (d.get 0).all = d.raw.f0.all := by rw [HD.out.2.2.2]; rfl
        rw [e1]
        exact ⟨rfl, S3, (H3.out.drewN 1).sync0 n HNN.out, T3.out.1.drew.trans ((Turned.refl S3 _).set HS3.out _) (fun b hb hs => by rcases T3.out.2 b hs with h1 | h1; exact h1; omega), T3.out.2⟩
      · go_enter Try.func37, Try.ntmps37
        go_wp2_with fail
        refine (refusal_any R 1 d _ w H.out).mono ?_
        rw [HN.out]
        rintro e w1 ⟨rfl, rfl⟩
        go_wp2_with fail
        refine (write_any R d _ _ H.out (Nat.le_trans HF.out.l0 (by omega)) (Nat.le_trans HF.out.l1 (by omega)) (Nat.le_trans HF.out.c hm) HF.out.a).mono ?_
        rw [HD.out.2.2.1]
        rintro e w3 ⟨rfl, S3, h3, t3, g3⟩
        have HS3 := Lib.hid h3.self
        have H3 := Lib.hid h3
        obtain ⟨A0, c0, A1, c1, _, _, x0, x2, x1, x3, ff, _⟩ := h3.vals
        have f3 := ff 3
        obtain ⟨n, hn⟩ : ∃ n, n = d.raw.f1.all.length := ⟨_, rfl⟩
        rw [← hn] at x2
        have HNN := Lib.hid hn
        have T3 := Lib.hid (And.intro t3 g3)
        clear h3 ff t3 g3 hn
        go_wp2
        go_region
        go_wp2
        go_ret
        rw [HD.out.1, HD.out.2.1]
        have e1 : (d.get 1).all = d.raw.f1.all := by rw [HD.out.2.2.2]; rfl
        rw [e1]
        exact ⟨rfl, S3, (H3.out.drewN 1).sync1 n HNN.out, T3.out.1.drew.trans ((Turned.refl S3 _).set HS3.out _) (fun b hb hs => by rcases T3.out.2 b hs with h1 | h1; exact h1; omega), T3.out.2⟩
  · have HD : Hid (d.syn f = d ∧ d.appE f = d.no f) := Lib.hid (by unfold DK.syn DK.appE; rw [if_neg hno, if_neg hno]; exact ⟨rfl, rfl⟩)
    have hne : (d.no f == 0) = false := beq_eq_false_iff_ne.2 hno
    clear hno hfit h
    go_enter Try.func37, Try.ntmps37
    go_wp2_with fail
    refine (refusal_any R f d _ w H.out).mono ?_
    rintro e w1 ⟨rfl, rfl⟩
    go_wp2
    go_ret
    rw [HD.out.1, HD.out.2]
    exact Aft.same H.out
end Go.Proofs.Ytgocfkjibcokjaa.Pk
