/- The walk of the law DiskRefuses. -/
import Derived.Test.YtinailbjfembfaaDkTwo
namespace Go.Proofs.Ytinailbjfembfaa.Pk
open Go.RowKit Go.Proofs.Ytinailbjfembfaa.Dk Go.Proofs.Ytinailbjfembfaa.Ar
set_option linter.unusedVariables false

/-- Behind i calls. -/
def RefAt (w : World) (R i : Nat) (wr : World) : Prop := ∃ d S, AtD w R d S wr ∧ d.fit (i * 1048576) i

set_option maxRecDepth 100000 in
set_option maxHeartbeats 16000000 in
theorem law_DiskRefuses (b : Option Addr) (m q : Nat) (os : List OpV) (w : World) (hd : ArgD w b m q os) (hu : (0 : Nat) ≤ 0) :
    Calls Try.prog 6 #[.slice b m q] w fun e w' => e = .returned (.bool true) ∧ Below w.heap.size w w' := by
  obtain ⟨hro, hmq, hm, hok⟩ := hd
  have HRO := Lib.hid hro
  have HK := Lib.hid hok
  have HM : Hid (os.length = m) := Lib.hid hro.olen
  clear hro hok hu
  go_enter Try.func6, Try.ntmps6
  go_wp2_with fail
  refine (wakes_any w).mono ?_
  rintro e w1 ⟨rfl, hb1⟩
  go_wp2_with fail
  refine (new_any w1).mono ?_
  rintro e w2 ⟨R, S, rfl, h2, hS2, hb2⟩
  have H2 : Hid (AtD w R (DK.new [] []) S w2) := Lib.hid ⟨h2, fun b hb => Nat.le_trans hb1.size (hS2 b hb), hb1.trans (hb2.mono hb1.size)⟩
  have HF2 : Hid ((DK.new [] []).fit (0 * 1048576) 0) := Lib.hid (DK.fit.new [] [] (by simp) (by simp))
  clear h2 hS2 hb1 hb2
  go_wp2
  go_loopw [5, 6, 7, 8, 9, 10, 11, 12, 13, 14, 15, 16, 17, 28] (fun _ _ _ _ _ _ _ _ _ _ _ _ _ j wr => ∃ i : Nat, j = .int .i64 i ∧ i ≤ m ∧ RefAt w R i wr) (fun _ _ _ _ _ _ _ _ _ _ _ _ _ j _ => m - (intOf j).toNat)
  case atStart => exact ⟨0, rfl, by omega, _, S, H2.out, HF2.out⟩
  case round =>
    obtain ⟨i, rfl, hi, d, S3, h3, hf3⟩ := hrel
    obtain ⟨w3, rfl⟩ : ∃ w3 : World, w3 = wr := ⟨_, rfl⟩
    have H3 := Lib.hid h3
    have HF3 := Lib.hid hf3
    clear h3 hf3
    by_cases hlt : i < m
    · obtain ⟨pb, off, rfl, hbb, hcs⟩ := (HRO.out.below H3.out.2.2).ops_ (by omega)
      obtain ⟨r, hr⟩ : ∃ r, os[i]? = some r := ⟨_, List.getElem?_eq_getElem (by rw [HM.out]; exact hlt)⟩
      obtain ⟨x0, x1, x2, x3, x4⟩ := hcs i r hr
      have hkr := HK.out r (List.mem_of_getElem? hr)
      obtain ⟨⟨kd, f, on, ok, ob⟩, oA, om, oq⟩ := r
      have HKR := Lib.hid hkr
      simp only at x0 x1 x2 x3 x4
      clear hcs hr hkr
      obtain ⟨M, hMe⟩ : ∃ M, M = i * 1048576 := ⟨_, rfl⟩
      have hM : M ≤ 1099511627776 := by omega
      have HME : Hid (M + 1048576 = (i + 1) * 1048576) := Lib.hid (by rw [hMe]; exact (Nat.succ_mul i 1048576).symm)
      rw [← hMe] at HF3
      clear hMe
      have HL : Hid (d.f0.all.length ≤ 140737488355328 ∧ d.f1.all.length ≤ 140737488355328) := Lib.hid ⟨Nat.le_trans HF3.out.l0 (by omega), Nat.le_trans HF3.out.l1 (by omega)⟩
      have hom : om ≤ 1048576 := HKR.out.2.1
      have HFit : Hid ((d.does ⟨kd, f, on, ok, ob⟩).fit (M + 1048576) (i + 1)) := Lib.hid (HF3.out.does (K := 1048576) ⟨kd, f, on, ok, ob⟩ (by have h1 := HKR.out.1.1; simp at h1; show ob.length ≤ 1048576; omega) HKR.out.2.2.2.1 HKR.out.2.2.2.2.1 HKR.out.2.2.2.2.2)
      have HRef := Lib.hid (does_refused d ⟨kd, f, on, ok, ob⟩)
      obtain ⟨w4, hw4⟩ : ∃ w4, w4 = w3.alloc (.cells #[.int .i64 kd, .int .i64 f, .int .i64 on, .int .i64 ok, .slice oA om oq] 42) := ⟨_, rfl⟩
      have H4 : Hid (AtD w R d S3 w4) := Lib.hid (hw4 ▸ H3.out.alloc _)
      have HO4 : Hid (Blk w4 w3.heap.size 42 #[.int .i64 kd, .int .i64 f, .int .i64 on, .int .i64 ok, .slice oA om oq]) := Lib.hid (hw4 ▸ Blk.new w3 _ _)
      obtain ⟨p, hp⟩ : ∃ p, p = w3.heap.size := ⟨_, rfl⟩
      go_wp2_with fail
      rw [← hw4, ← hp]
      rw [← hp] at HO4
      clear hw4 hp x0 x1 x2 x3 x4
      refine (writes_any R d S3 w4 H4.out.1).mono ?_
      rintro e w5 ⟨rfl, rfl⟩
      go_wp2_with fail
      refine (down_any R d S3 w4 H4.out.1).mono ?_
      rintro e w5 ⟨rfl, rfl⟩
      go_wp2_with fail
      refine (read_any R 0 d S3 w4 H4.out.1 HL.out.1 HL.out.2).mono ?_
      rintro e w5 ⟨A8, n8, c8, rfl, o8, b8⟩
      have H5 := Lib.hid (H4.out.next b8)
      have HO5 := Lib.hid (HO4.out.below b8 HO4.out.lt)
      have K5 : Hid (Kp w5 S3 (.slice A8 n8 c8) (d.rd 0)) := Lib.hid (Kp.new o8 H4.out.1.lt)
      clear o8 b8
      go_wp2_with fail
      refine (read_any R 1 d S3 w5 H5.out.1 HL.out.1 HL.out.2).mono ?_
      rintro e w6 ⟨A9, n9, c9, rfl, o9, b9⟩
      have H6 := Lib.hid (H5.out.next b9)
      have HO6 := Lib.hid (HO5.out.below b9 HO5.out.lt)
      have K6 := Lib.hid (K5.out.next b9)
      have L6 : Hid (Kp w6 S3 (.slice A9 n9 c9) (d.rd 1)) := Lib.hid (Kp.new o9 H5.out.1.lt)
      clear o9 b9 HO4 HO5 K5 H4 H5
      have y0 : w6.cell? ⟨p, 0, none⟩ = some (.int .i64 kd) := by rw [HO6.out.cell]; rfl
      have y1 : w6.cell? ⟨p, 1, none⟩ = some (.int .i64 f) := by rw [HO6.out.cell]; rfl
      have y2 : w6.cell? ⟨p, 2, none⟩ = some (.int .i64 on) := by rw [HO6.out.cell]; rfl
      have y3 : w6.cell? ⟨p, 3, none⟩ = some (.int .i64 ok) := by rw [HO6.out.cell]; rfl
      have y4 : w6.cell? ⟨p, 4, none⟩ = some (.slice oA om oq) := by rw [HO6.out.cell]; rfl
      have HRB : Hid (Reads w6 w6.heap.size 1 oA om (bts ob)) := Lib.hid ((HKR.out.1.below H6.out.2.2).more H6.out.2.2.size)
      go_wp2_with fail
      refine (does_any R d S3 ⟨kd, f, on, ok, ob⟩ oA om oq _ H6.out.1 HRB.out M i HF3.out (by omega) (by omega)).mono ?_
      rintro e w12 ⟨A12, n12, c12, rfl, S12, h12, t12, f12, o12, g12⟩
      have H12 := Lib.hid (H6.out.step h12 t12 f12)
      have K12 := Lib.hid (K6.out.turn t12 f12)
      have L12 := Lib.hid (L6.out.turn t12 f12)
      clear h12 t12 f12 o12 g12
      obtain ⟨E, hE⟩ : ∃ E, E = d.doesE ⟨kd, f, on, ok, ob⟩ := ⟨_, rfl⟩
      obtain ⟨d', hd'⟩ : ∃ d', d' = d.does ⟨kd, f, on, ok, ob⟩ := ⟨_, rfl⟩
      rw [← hE, ← hd'] at HRef
      rw [← hd'] at HFit H12
      rw [← hE]
      clear hE hd' y0 y1 y2 y3 y4
      by_cases hE0 : E = 0
      · subst hE0
        go_wp2
        go_roundw
        case rel => exact ⟨i + 1, by go_num, by omega, d', S12, H12.out, HME.out ▸ HFit.out⟩
        case measure => simp [intOf]; omega
      have tE : (E == 0) = false := beq_eq_false_iff_ne.2 hE0
      go_wp2_with fail
      refine (writes_any R d' S12 w12 H12.out.1).mono ?_
      rintro e w13 ⟨rfl, rfl⟩
      by_cases hc : d'.cnt = d.cnt
      · have HEq : Hid (d' = d) := Lib.hid (by
          rcases HRef.out with h | h | h
          · exact absurd h hE0
          · exact absurd hc h
          · exact h)
        have hcc := HEq.out
        subst hcc
        clear hc HEq hE0 HRef
        go_wp2_with fail
        refine (read_any R 0 d' S12 w12 H12.out.1 HL.out.1 HL.out.2).mono ?_
        rintro e w13 ⟨A14, n14, c14, rfl, o14, b14⟩
        have H13 := Lib.hid (H12.out.next b14)
        have K13 := Lib.hid (K12.out.next b14)
        have L13 := Lib.hid (L12.out.next b14)
        have M13 : Hid (Kp w13 S12 (.slice A14 n14 c14) (d'.rd 0)) := Lib.hid (Kp.new o14 H12.out.1.lt)
        clear o14 b14
        go_wp2_with fail
        refine (read_any R 1 d' S12 w13 H13.out.1 HL.out.1 HL.out.2).mono ?_
        rintro e w14 ⟨A16, n16, c16, rfl, o16, b16⟩
        have H14 := Lib.hid (H13.out.next b16)
        have K14 := Lib.hid (K13.out.next b16)
        have L14 := Lib.hid (L13.out.next b16)
        have M14 := Lib.hid (M13.out.next b16)
        have N14 : Hid (Kp w14 S12 (.slice A16 n16 c16) (d'.rd 1)) := Lib.hid (Kp.new o16 H13.out.1.lt)
        clear o16 b16
        have hrl : ∀ g : Int, (d'.rd g).length ≤ 140737488355328 := fun g => by
          unfold DK.rd DK.get
          split
          · split
            · exact HL.out.2
            · exact HL.out.1
          · simp
        have hn8 : n8 ≤ 140737488355328 := by rw [← K14.out.len.1]; exact hrl 0
        have hn9 : n9 ≤ 140737488355328 := by rw [← L14.out.len.1]; exact hrl 1
        clear hrl
        go_wp2_with fail
        refine (down_any R d' S12 w14 H14.out.1).mono ?_
        rintro e w15 ⟨rfl, rfl⟩
        go_wp2_with fail
        refine (same_any A8 A14 n8 c8 n14 c14 _ _ w14 _ _ K14.out.reads M14.out.reads (by omega)).mono ?_
        rw [decide_eq_true rfl]
        rintro e w15 ⟨rfl, k15, rfl⟩
        go_wp2_with fail
        refine (same_any A9 A16 n9 c9 n16 c16 _ _ _ _ _ (L14.out.drewN k15).reads (N14.out.drewN k15).reads (by omega)).mono ?_
        rw [decide_eq_true rfl]
        rintro e w16 ⟨rfl, k16, rfl⟩
        go_wp2
        go_roundw
        case rel => exact ⟨i + 1, by go_num, by omega, d', S12, H14.out.drewN _, HME.out ▸ HFit.out⟩
        case measure => simp [intOf]; omega
      · have tc : ((d'.cnt : Int) == (d.cnt : Int)) = false := beq_eq_false_iff_ne.2 (by omega)
        clear hc
        go_wp2
        go_roundw
        case rel => exact ⟨i + 1, by go_num, by omega, d', S12, H12.out, HME.out ▸ HFit.out⟩
        case measure => simp [intOf]; omega
    · go_wp2_with fail
      refine (arm_none 1 1 _).mono ?_
      rintro e w4 ⟨rfl, rfl⟩
      go_wp2_with fail
      refine (off_none 1 _).mono ?_
      rintro e w4 ⟨rfl, rfl⟩
      go_wp2_with fail
      refine (on_none _).mono ?_
      rintro e w4 ⟨rfl, rfl⟩
      go_wp2_with fail
      refine (read_none 0 _).mono ?_
      rintro e w4 ⟨rfl, rfl⟩
      go_wp2_with fail
      refine (append_none 0 _ _).mono ?_
      rintro e w4 ⟨rfl, rfl⟩
      go_wp2_with fail
      refine (sync_none 0 _).mono ?_
      rintro e w4 ⟨rfl, rfl⟩
      go_wp2_with fail
      refine (trunc_none 0 0 _).mono ?_
      rintro e w4 ⟨rfl, rfl⟩
      go_wp2_with fail
      refine (down_none _).mono ?_
      rintro e w4 ⟨rfl, rfl⟩
      go_wp2_with fail
      refine (writes_none _).mono ?_
      rintro e w4 ⟨rfl, rfl⟩
      go_wp2_with fail
      refine (safe_none 0 _).mono ?_
      rintro e w4 ⟨rfl, rfl⟩
      go_wp2
      go_ret
      exact ⟨rfl, H3.out.2.2⟩
end Go.Proofs.Ytinailbjfembfaa.Pk
