/- The walk of the law DiskSafe. -/
import Derived.Test.YtinailbjfembfaaDkOwn
namespace Go.Proofs.Ytinailbjfembfaa.Pk
open Go.RowKit Go.Proofs.Ytinailbjfembfaa.Dk Go.Proofs.Ytinailbjfembfaa.Ar
set_option linter.unusedVariables false

/-- Behind i calls. -/
def SafeAt (w : World) (R i : Nat) (wr : World) : Prop := ∃ d S, AtD w R d S wr ∧ d.fit ((i + 1) * 1048576) i

set_option maxRecDepth 100000 in
set_option maxHeartbeats 16000000 in
theorem law_DiskSafe (a : Option Addr) (n c : Nat) (l : List Int) (b : Option Addr) (m q : Nat) (os : List OpV) (w : World) (h : ArgB w a n c l) (hd : ArgD w b m q os) (hu : n ≤ 1048576) :
    Calls Try.prog 5 #[.slice a n c, .slice b m q] w fun e w' => e = .returned (.bool true) ∧ Below w.heap.size w w' := by
  obtain ⟨hr, hnc, hc, hB⟩ := h
  obtain ⟨hro, hmq, hm, hok⟩ := hd
  have HR := Lib.hid hr
  have HRO := Lib.hid hro
  have HK := Lib.hid hok
  have HM : Hid (os.length = m) := Lib.hid hro.olen
  clear hr hB hc hro hok
  go_enter Try.func5, Try.ntmps5
  go_wp2_with fail
  refine (wakes_any w).mono ?_
  rintro e w1 ⟨rfl, hb1⟩
  go_wp2_with fail
  refine (load_any a none n c 0 0 l [] w1 ((HR.out.below hb1).more hb1.size) Reads.none_ (by omega) (by omega)).mono ?_
  rintro e w2 ⟨R, S, rfl, h2, hS2, hb2⟩
  have H2 : Hid (AtD w R (DK.new l []) S w2) := Lib.hid ⟨h2, fun b hb => Nat.le_trans hb1.size (hS2 b hb), hb1.trans (hb2.mono hb1.size)⟩
  have HF2 : Hid ((DK.new l []).fit ((0 + 1) * 1048576) 0) := Lib.hid (DK.fit.new l [] (by have := HR.out.1; simp at this; omega) (by simp))
  clear h2 hS2 hb1 hb2
  go_wp2
  go_loopw [7, 8, 9, 10, 11, 20] (fun _ _ _ _ _ j wr => ∃ i : Nat, j = .int .i64 i ∧ i ≤ m ∧ SafeAt w R i wr) (fun _ _ _ _ _ j _ => m - (intOf j).toNat)
  case atStart => exact ⟨0, rfl, by omega, _, S, H2.out, HF2.out⟩
  case round =>
    obtain ⟨i, rfl, hi, d, S3, h3, hf3⟩ := hrel
    obtain ⟨w3, rfl⟩ : ∃ w3 : World, w3 = wr := ⟨_, rfl⟩
    have H3 := Lib.hid h3
    have HF3 := Lib.hid hf3
    clear h3 hf3
    by_cases hlt : i < m
    · obtain ⟨pb, off, rfl, hbb, hcs⟩ := (HRO.out.below H3.out.2.2).ops_ (by omega)
      obtain ⟨r, hr⟩ : ∃ r, os[i]? = some r := ⟨_, List.getElem?_eq_getElem (by rw [HM.out]; exact hlt)⟩
      obtain ⟨x0, x1, x2, x3, x4⟩ := hcs i r hr
      have hkr := HK.out r (List.mem_of_getElem? hr)
      obtain ⟨⟨kd, f, on, ok, ob⟩, oA, om, oq⟩ := r
      have HKR := Lib.hid hkr
      simp only at x0 x1 x2 x3 x4
      clear hcs hr hkr
      obtain ⟨M, hMe⟩ : ∃ M, M = (i + 1) * 1048576 := ⟨_, rfl⟩
      have hM : M ≤ 1099511627776 := by omega
      have HME : Hid (M + 1048576 = (i + 1 + 1) * 1048576) := Lib.hid (by rw [hMe]; exact (Nat.succ_mul (i + 1) 1048576).symm)
      rw [← hMe] at HF3
      clear hMe
      have HL : Hid (d.f0.all.length ≤ 140737488355328 ∧ d.f1.all.length ≤ 140737488355328) := Lib.hid ⟨Nat.le_trans HF3.out.l0 (by omega), Nat.le_trans HF3.out.l1 (by omega)⟩
      have hom : om ≤ 1048576 := HKR.out.2.1
      obtain ⟨w4, hw4⟩ : ∃ w4, w4 = w3.alloc (.cells #[.int .i64 kd, .int .i64 f, .int .i64 on, .int .i64 ok, .slice oA om oq] 42) := ⟨_, rfl⟩
      have H4 : Hid (AtD w R d S3 w4) := Lib.hid (hw4 ▸ H3.out.alloc _)
      have HO4 : Hid (Blk w4 w3.heap.size 42 #[.int .i64 kd, .int .i64 f, .int .i64 on, .int .i64 ok, .slice oA om oq]) := Lib.hid (hw4 ▸ Blk.new w3 _ _)
      obtain ⟨p, hp⟩ : ∃ p, p = w3.heap.size := ⟨_, rfl⟩
      have HPS : Hid (∀ b, S3 b → b < p) := Lib.hid (hp ▸ H3.out.1.lt)
      go_wp2_with fail
      rw [← hw4, ← hp]
      rw [← hp] at HO4
      clear hw4 hp x0 x1 x2 x3 x4
      refine (safe_any R 0 d S3 w4 H4.out.1 HL.out.1 HL.out.2).mono ?_
      rw [show d.sf 0 = d.f0.s from rfl]
      rintro e w5 ⟨A8, n8, c8, rfl, o8, b8⟩
      have H5 := Lib.hid (H4.out.next b8)
      have HO5 := Lib.hid (HO4.out.below b8 HO4.out.lt)
      have K5 : Hid (Kp w5 S3 (.slice A8 n8 c8) d.f0.s) := Lib.hid (Kp.new o8 H4.out.1.lt)
      clear o8 b8
      go_wp2_with fail
      refine (read_any R 0 d S3 w5 H5.out.1 HL.out.1 HL.out.2).mono ?_
      rintro e w6 ⟨A9, n9, c9, rfl, o9, b9⟩
      have H6 := Lib.hid (H5.out.next b9)
      have HO6 := Lib.hid (HO5.out.below b9 HO5.out.lt)
      have K6 := Lib.hid (K5.out.next b9)
      have L6 : Hid (Kp w6 S3 (.slice A9 n9 c9) (d.rd 0)) := Lib.hid (Kp.new o9 H5.out.1.lt)
      clear o9 b9 HO4 HO5 K5 H4 H5
      have y0 : w6.cell? ⟨p, 0, none⟩ = some (.int .i64 kd) := by rw [HO6.out.cell]; rfl
      have y1 : w6.cell? ⟨p, 1, none⟩ = some (.int .i64 f) := by rw [HO6.out.cell]; rfl
      have y2 : w6.cell? ⟨p, 2, none⟩ = some (.int .i64 on) := by rw [HO6.out.cell]; rfl
      have y3 : w6.cell? ⟨p, 3, none⟩ = some (.int .i64 ok) := by rw [HO6.out.cell]; rfl
      have y4 : w6.cell? ⟨p, 4, none⟩ = some (.slice oA om oq) := by rw [HO6.out.cell]; rfl
      have HRB : Hid (Reads w6 w6.heap.size 1 oA om (bts ob)) := Lib.hid ((HKR.out.1.below H6.out.2.2).more H6.out.2.2.size)
      by_cases hk2 : kd = 2
      · subst hk2
        go_wp2
        go_roundw
        case rel => exact ⟨i + 1, by go_num, by omega, d, S3, H6.out, HF3.out.mono (by have := HME.out; omega) (by omega)⟩
        case measure => simp [intOf]; omega
      have HD := Lib.hid (does_safe d ⟨kd, f, on, ok, ob⟩ hk2)
      have tk2 : (kd == 2) = false := beq_eq_false_iff_ne.2 hk2
      have HK2 := Lib.hid hk2
      have HN8 := Lib.hid K6.out.len.1
      have HN9 := Lib.hid L6.out.len.1
      have HFit : Hid ((d.does ⟨kd, f, on, ok, ob⟩).fit (M + 1048576) (i + 1)) := Lib.hid (HF3.out.does (K := 1048576) ⟨kd, f, on, ok, ob⟩ (by have h1 := HKR.out.1.1; simp at h1; show ob.length ≤ 1048576; omega) HKR.out.2.2.2.1 HKR.out.2.2.2.2.1 HKR.out.2.2.2.2.2)
      obtain ⟨d', hd'⟩ : ∃ d', d' = d.does ⟨kd, f, on, ok, ob⟩ := ⟨_, rfl⟩
      rw [← hd'] at HD HFit
      have HD' := Lib.hid hd'
      clear hk2 hd'
      by_cases hon : d.on = true
      · have hno : d.no 0 = 0 := no_on hon (.inl rfl)
        have hrd : d.rd 0 = d.f0.all := by unfold DK.rd; rw [if_pos hno]; rfl
        rw [hno]
        rw [hrd] at L6 HN9
        have HS1 := Lib.hid HD.out.1
        have HS2' := Lib.hid (HD.out.2.1 hon)
        clear hno hrd hon HD
        have way : (kd = 0 ∧ f = 0) ∨ kd ≠ 0 ∨ (kd = 0 ∧ f ≠ 0) := by omega
        rcases way with ⟨e1, e2⟩ | e1 | ⟨e1, e2⟩
        case' inl =>
          have tk : (kd == 0) = true := by simp [e1]
          have tf : (f == 0) = true := by simp [e2]
          have HS2 : Hid (d'.f0.s <+: d.f0.all ++ ob) := Lib.hid (by have := HS2'.out; rwa [if_pos ⟨e1, e2⟩] at this)
          clear e1 e2
          have cb : (w6.alloc (Obj.cells #[] 5)).cell? ⟨p, 4, none⟩ = some (.slice oA om oq) := (World.cell?_alloc_lt w6 _ ⟨p, 4, none⟩ HO6.out.lt).trans y4
          go_wp2_with fail
          go_region_law (first
            | (refine stepE _ w6.heap.size rfl (.tmp 46) (.tmp 47) rfl rfl (OwnB.fresh _ _ (Nat.le_refl _)) w6.heap.size A9 c9 d.f0.all n9 rfl (L6.out.reads.alloc (Nat.le_refl _) _) (by have := HL.out.1; have := HN9.out; omega) (by simp) ?_; intro A10 n10 c10 w10 hown10 hb10; have hb10' : Below w6.heap.size w6 w10 := ((⟨rfl, rfl, rfl, Nat.le_refl _, fun _ _ => rfl⟩ : Below w6.heap.size w6 w6.drew).alloc (Nat.le_refl _) _).trans hb10; have cc : w10.cell? ⟨p, 4, none⟩ = some (.slice oA om oq) := by { rw [(HO6.out.below hb10' HO6.out.lt).cell]; rfl }; have HW10 := Lib.hid hown10; have HB10 := Lib.hid hb10'; clear hown10 hb10 hb10')
            | (refine stepB w10 rfl (.tmp 48) (.tmp 50) rfl w6.heap.size (.slice A10 n10 c10) d.f0.all rfl HW10.out w6.heap.size oA oq ob om rfl (HRB.out.below HB10.out) (by have := HF3.out.l0; omega) HB10.out.size ?_; intro A11 n11 c11 w11 hown11 hg11 hat11; have HB11 := Lib.hid (HB10.out.grown hg11 HB10.out.size (own_base HW10.out)); have HW11 := Lib.hid hown11; clear hown11 hg11 hat11))
          all_goals
            have H11 := Lib.hid (H6.out.next HB11.out)
            have HO11 := Lib.hid (HO6.out.below HB11.out HO6.out.lt)
            have K11 := Lib.hid (K6.out.next HB11.out)
            have L11 : Hid (Kp w11 S3 (.slice A11 n11 c11) (d.f0.all ++ ob)) := Lib.hid (Kp.new HW11.out H6.out.1.lt)
            have HR11 : Hid (Reads w11 w11.heap.size 1 oA om (bts ob)) := Lib.hid ((HRB.out.below HB11.out).more HB11.out.size)
            have z0 : w11.cell? ⟨p, 0, none⟩ = some (.int .i64 kd) := by rw [HO11.out.cell]; rfl
            have z1 : w11.cell? ⟨p, 1, none⟩ = some (.int .i64 f) := by rw [HO11.out.cell]; rfl
            have z2 : w11.cell? ⟨p, 2, none⟩ = some (.int .i64 on) := by rw [HO11.out.cell]; rfl
            have z3 : w11.cell? ⟨p, 3, none⟩ = some (.int .i64 ok) := by rw [HO11.out.cell]; rfl
            have z4 : w11.cell? ⟨p, 4, none⟩ = some (.slice oA om oq) := by rw [HO11.out.cell]; rfl
            obtain ⟨al, hal⟩ : ∃ al, al = d.f0.all ++ ob := ⟨_, rfl⟩
            rw [← hal] at L11 HS2
            have HN11 := Lib.hid L11.out.len.1
            clear hal HRB
            go_wp2_with fail
        case' inr.inl =>
          have tk : (kd == 0) = false := beq_eq_false_iff_ne.2 e1
          have HS2 : Hid (d'.f0.s <+: d.f0.all) := Lib.hid (by have := HS2'.out; rwa [if_neg (fun h => e1 h.1), List.append_nil] at this)
          have H11 := H6
          have K11 := K6
          have L11 := L6
          have HR11 := HRB
          obtain ⟨al, hal⟩ : ∃ al, al = d.f0.all := ⟨_, rfl⟩
          obtain ⟨A11, n11, c11, q1, q2, q3⟩ : ∃ A11 n11 c11, A11 = A9 ∧ n11 = n9 ∧ c11 = c9 := ⟨_, _, _, rfl, rfl, rfl⟩
          subst q1; subst q2; subst q3
          rw [← hal] at L11 HS2
          have HN11 := Lib.hid L11.out.len.1
          clear e1 hal HRB
          go_wp2_with fail
        case' inr.inr =>
          have tk : (kd == 0) = true := by simp [e1]
          have tf : (f == 0) = false := beq_eq_false_iff_ne.2 e2
          have HS2 : Hid (d'.f0.s <+: d.f0.all) := Lib.hid (by have := HS2'.out; rwa [if_neg (fun h => e2 h.2), List.append_nil] at this)
          have H11 := H6
          have K11 := K6
          have L11 := L6
          have HR11 := HRB
          obtain ⟨al, hal⟩ : ∃ al, al = d.f0.all := ⟨_, rfl⟩
          obtain ⟨A11, n11, c11, q1, q2, q3⟩ : ∃ A11 n11 c11, A11 = A9 ∧ n11 = n9 ∧ c11 = c9 := ⟨_, _, _, rfl, rfl, rfl⟩
          subst q1; subst q2; subst q3
          rw [← hal] at L11 HS2
          have HN11 := Lib.hid L11.out.len.1
          clear e1 e2 hal HRB
          go_wp2_with fail
        all_goals
          refine (does_any R d S3 ⟨kd, f, on, ok, ob⟩ oA om oq _ H11.out.1 HR11.out M i HF3.out (by omega) (by omega)).mono ?_
          rw [← HD'.out]
          rintro e w12 ⟨A12, n12, c12, rfl, S12, h12, t12, f12, o12, g12⟩
          have H12 := Lib.hid (H11.out.step h12 t12 f12)
          have K12 := Lib.hid (K11.out.turn t12 f12)
          have L12 := Lib.hid (L11.out.turn t12 f12)
          have HL2 : Hid (d'.f0.all.length ≤ 140737488355328 ∧ d'.f1.all.length ≤ 140737488355328) := Lib.hid ⟨Nat.le_trans HFit.out.l0 (by omega), Nat.le_trans HFit.out.l1 (by omega)⟩
          clear h12 t12 f12 o12 g12
          go_wp2_with fail
          refine (safe_any R 0 d' S12 w12 H12.out.1 HL2.out.1 HL2.out.2).mono ?_
          rw [show d'.sf 0 = d'.f0.s from rfl]
          rintro e w13 ⟨A13, n13, c13, rfl, o13, b13⟩
          have H13 := Lib.hid (H12.out.next b13)
          have K13 := Lib.hid (K12.out.next b13)
          have L13 := Lib.hid (L12.out.next b13)
          have N13 : Hid (Kp w13 S12 (.slice A13 n13 c13) d'.f0.s) := Lib.hid (Kp.new o13 H12.out.1.lt)
          clear o13 b13
          have le1 : n8 ≤ n13 := by rw [← HN8.out, ← N13.out.len.1]; exact (pre_take HS1.out).1
          have le2 : n13 ≤ c13 := N13.out.len.2
          have le3 : n8 ≤ c13 := by omega
          have le4 : (n8 : Int) ≤ c13 := by omega
          have tk1 : d'.f0.s.take n8 = d.f0.s := by rw [← HN8.out]; exact (pre_take HS1.out).2
          have HT1 := Lib.hid tk1
          have hn13 : n13 ≤ 140737488355328 := by rw [← N13.out.len.1]; exact Nat.le_trans (by rw [FL.all_len]; omega) HL2.out.1
          clear tk1
          go_wp2_with fail
          refine (same_any A13 A8 n8 c13 n8 c8 (d'.f0.s.take n8) d.f0.s w13 _ _ (N13.out.take le1).reads K13.out.reads (by omega)).mono ?_
          rw [decide_eq_true HT1.out]
          rintro e w14 ⟨rfl, k14, rfl⟩
          have lf1 : n13 ≤ n11 := by rw [← HN11.out, ← N13.out.len.1]; exact (pre_take HS2.out).1
          have lf2 : n11 ≤ c11 := L13.out.len.2
          have lf3 : n13 ≤ c11 := by omega
          have lf4 : (n13 : Int) ≤ c11 := by omega
          have HT2 : Hid (d'.f0.s = al.take n13) := Lib.hid (by rw [← N13.out.len.1]; exact (pre_take HS2.out).2.symm)
          go_wp2_with fail
          refine (same_any A13 A11 n13 c13 n13 c11 d'.f0.s (al.take n13) _ _ _ (N13.out.drewN k14).reads ((L13.out.take lf1).drewN k14).reads (by omega)).mono ?_
          rw [decide_eq_true HT2.out]
          rintro e w15 ⟨rfl, k15, rfl⟩
          go_wp2
          go_roundw
          case rel => exact ⟨i + 1, by go_num, by omega, d', S12, H13.out.drewN _, HME.out ▸ HFit.out⟩
          case measure => simp [intOf]; omega
      · have hon' : d.on = false := by simpa using hon
        have hno : d.no 0 = 40 := no_off hon' (.inl rfl)
        rw [hno]
        have HS1 := Lib.hid HD.out.1
        have HS2 := Lib.hid (HD.out.2.2 hon')
        clear hno hon hon' HD
        have H11 := H6
        have K11 := K6
        have L11 := L6
        have HR11 := HRB
        have way : (kd = 0 ∧ f = 0) ∨ kd ≠ 0 ∨ (kd = 0 ∧ f ≠ 0) := by omega
        rcases way with ⟨e1, e2⟩ | e1 | ⟨e1, e2⟩
        case' inl =>
          have tk : (kd == 0) = true := by simp [e1]
          have tf : (f == 0) = true := by simp [e2]
          clear e1 e2
          go_wp2_with fail
        case' inr.inl =>
          have tk : (kd == 0) = false := beq_eq_false_iff_ne.2 e1
          clear e1
          go_wp2_with fail
        case' inr.inr =>
          have tk : (kd == 0) = true := by simp [e1]
          have tf : (f == 0) = false := beq_eq_false_iff_ne.2 e2
          clear e1 e2
          go_wp2_with fail
        all_goals
          refine (does_any R d S3 ⟨kd, f, on, ok, ob⟩ oA om oq _ H11.out.1 HR11.out M i HF3.out (by omega) (by omega)).mono ?_
          rw [← HD'.out]
          rintro e w12 ⟨A12, n12, c12, rfl, S12, h12, t12, f12, o12, g12⟩
          have H12 := Lib.hid (H11.out.step h12 t12 f12)
          have K12 := Lib.hid (K11.out.turn t12 f12)
          have L12 := Lib.hid (L11.out.turn t12 f12)
          have HL2 : Hid (d'.f0.all.length ≤ 140737488355328 ∧ d'.f1.all.length ≤ 140737488355328) := Lib.hid ⟨Nat.le_trans HFit.out.l0 (by omega), Nat.le_trans HFit.out.l1 (by omega)⟩
          clear h12 t12 f12 o12 g12
          go_wp2_with fail
          refine (safe_any R 0 d' S12 w12 H12.out.1 HL2.out.1 HL2.out.2).mono ?_
          rw [show d'.sf 0 = d'.f0.s from rfl]
          rintro e w13 ⟨A13, n13, c13, rfl, o13, b13⟩
          have H13 := Lib.hid (H12.out.next b13)
          have K13 := Lib.hid (K12.out.next b13)
          have L13 := Lib.hid (L12.out.next b13)
          have N13 : Hid (Kp w13 S12 (.slice A13 n13 c13) d'.f0.s) := Lib.hid (Kp.new o13 H12.out.1.lt)
          clear o13 b13
          have le1 : n8 ≤ n13 := by rw [← HN8.out, ← N13.out.len.1]; exact (pre_take HS1.out).1
          have le2 : n13 ≤ c13 := N13.out.len.2
          have le3 : n8 ≤ c13 := by omega
          have le4 : (n8 : Int) ≤ c13 := by omega
          have tk1 : d'.f0.s.take n8 = d.f0.s := by rw [← HN8.out]; exact (pre_take HS1.out).2
          have HT1 := Lib.hid tk1
          have hn13 : n13 ≤ 140737488355328 := by rw [← N13.out.len.1]; exact Nat.le_trans (by rw [FL.all_len]; omega) HL2.out.1
          clear tk1
          go_wp2_with fail
          refine (same_any A13 A8 n8 c13 n8 c8 (d'.f0.s.take n8) d.f0.s w13 _ _ (N13.out.take le1).reads K13.out.reads (by omega)).mono ?_
          rw [decide_eq_true HT1.out]
          rintro e w14 ⟨rfl, k14, rfl⟩
          go_wp2_with fail
          refine (same_any A13 A8 n13 c13 n8 c8 d'.f0.s d.f0.s _ _ _ (N13.out.drewN k14).reads (K13.out.drewN k14).reads (by omega)).mono ?_
          rw [decide_eq_true HS2.out]
          rintro e w15 ⟨rfl, k15, rfl⟩
          go_wp2
          go_roundw
          case rel => exact ⟨i + 1, by go_num, by omega, d', S12, H13.out.drewN _, HME.out ▸ HFit.out⟩
          case measure => simp [intOf]; omega
    · go_wp2
      go_ret
      exact ⟨rfl, H3.out.2.2⟩
end Go.Proofs.Ytinailbjfembfaa.Pk
