/- The walk of the law DiskFiles. -/
import Derived.Test.YtinailbjfembfaaDkTwo
namespace Go.Proofs.Ytinailbjfembfaa.Pk
open Go.RowKit Go.Proofs.Ytinailbjfembfaa.Dk Go.Proofs.Ytinailbjfembfaa.Ar
set_option linter.unusedVariables false

/-- Behind i calls. -/
def FilAt (w : World) (R R' i : Nat) (wr : World) : Prop := ∃ d S o S', Two w R d S R' o S' wr ∧ Mate d o ∧ d.fit ((i + 1) * 1048576) i ∧ o.fit ((i + 1) * 1048576) i

set_option maxRecDepth 100000 in
set_option maxHeartbeats 16000000 in
theorem law_DiskFiles (a : Option Addr) (n c : Nat) (l : List Int) (a' : Option Addr) (n' c' : Nat) (l' : List Int) (b : Option Addr) (m q : Nat) (os : List OpV) (w : World) (h : ArgB w a n c l) (h' : ArgB w a' n' c' l') (hd : ArgD w b m q os) (hu : n + n' ≤ 1048576) :
    Calls Try.prog 8 #[.slice a n c, .slice a' n' c', .slice b m q] w fun e w' => e = .returned (.bool true) ∧ Below w.heap.size w w' := by
  obtain ⟨hr, hnc, hc, hB⟩ := h
  obtain ⟨hr', hnc', hc', hB'⟩ := h'
  obtain ⟨hro, hmq, hm, hok⟩ := hd
  have HR := Lib.hid hr
  have HR' := Lib.hid hr'
  have HRO := Lib.hid hro
  have HK := Lib.hid hok
  have HM : Hid (os.length = m) := Lib.hid hro.olen
  clear hr hB hc hr' hB' hc' hro hok
  go_enter Try.func8, Try.ntmps8
  go_wp2_with fail
  refine (wakes_any w).mono ?_
  rintro e w1 ⟨rfl, hb1⟩
  go_wp2_with fail
  refine (load_any a a' n c n' c' l l' w1 ((HR.out.below hb1).more hb1.size) ((HR'.out.below hb1).more hb1.size) (by omega) (by omega)).mono ?_
  rintro e w2 ⟨R, S, rfl, h2, hS2, hb2⟩
  have hb12 := hb1.trans (hb2.mono hb1.size)
  go_wp2_with fail
  refine (load_any a none n c 0 0 l [] w2 ((HR.out.below hb12).more hb12.size) Reads.none_ (by omega) (by omega)).mono ?_
  rintro e w3 ⟨R', S', rfl, h3, hS3, hb3⟩
  have hb13 := hb12.trans (hb3.mono hb12.size)
  have H3 : Hid (Two w R (DK.new l l') S R' (DK.new l []) S' w3) := Lib.hid ⟨⟨h2.next hb3, fun b hb => Nat.le_trans hb1.size (hS2 b hb), hb13⟩, ⟨h3, fun b hb => Nat.le_trans hb12.size (hS3 b hb), hb13⟩, fun b h1 h4 => by
    have := h2.lt b h1
    have := hS3 b h4
    omega⟩
  have HF3 : Hid ((DK.new l l').fit ((0 + 1) * 1048576) 0 ∧ (DK.new l []).fit ((0 + 1) * 1048576) 0) := Lib.hid ⟨DK.fit.new l l' (by have := HR.out.1; simp at this; omega) (by have := HR'.out.1; simp at this; omega), DK.fit.new l [] (by have := HR.out.1; simp at this; omega) (by simp)⟩
  clear h2 hS2 hb1 hb2 hb12 h3 hS3 hb3 hb13
  go_wp2
  go_loopw [10, 11, 12, 13, 14, 30] (fun _ _ _ _ _ j wr => ∃ i : Nat, j = .int .i64 i ∧ i ≤ m ∧ FilAt w R R' i wr) (fun _ _ _ _ _ j _ => m - (intOf j).toNat)
  case atStart => exact ⟨0, rfl, by omega, _, S, _, S', H3.out, ⟨rfl, rfl, rfl, rfl⟩, HF3.out.1, HF3.out.2⟩
  case round =>
    obtain ⟨i, rfl, hi, d, S3, o, S3', h3, hmate, hf3, hf3'⟩ := hrel
    obtain ⟨w3, rfl⟩ : ∃ w3 : World, w3 = wr := ⟨_, rfl⟩
    have H3 := Lib.hid h3
    have HF3 := Lib.hid hf3
    have HF3' := Lib.hid hf3'
    have HMt := Lib.hid hmate
    clear h3 hf3 hf3' hmate
    by_cases hlt : i < m
    · obtain ⟨pb, off, rfl, hbb, hcs⟩ := (HRO.out.below H3.out.1.2.2).ops_ (by omega)
      obtain ⟨r, hr⟩ : ∃ r, os[i]? = some r := ⟨_, List.getElem?_eq_getElem (by rw [HM.out]; exact hlt)⟩
      obtain ⟨x0, x1, x2, x3, x4⟩ := hcs i r hr
      have hkr := HK.out r (List.mem_of_getElem? hr)
      obtain ⟨⟨kd, f, on, ok, ob⟩, oA, om, oq⟩ := r
      have HKR := Lib.hid hkr
      simp only at x0 x1 x2 x3 x4
      clear hcs hr hkr
      obtain ⟨M, hMe⟩ : ∃ M, M = (i + 1) * 1048576 := ⟨_, rfl⟩
      have hM : M ≤ 1099511627776 := by omega
      have HME : Hid (M + 1048576 = (i + 1 + 1) * 1048576) := Lib.hid (by rw [hMe]; exact (Nat.succ_mul (i + 1) 1048576).symm)
      rw [← hMe] at HF3 HF3'
      clear hMe
      have hom : om ≤ 1048576 := HKR.out.2.1
      have hobl : ob.length ≤ 1048576 := by have h1 := HKR.out.1.1; simp at h1; omega
      have HFit : Hid ((d.does ⟨kd, f, on, ok, ob⟩).fit (M + 1048576) (i + 1)) := Lib.hid (HF3.out.does (K := 1048576) ⟨kd, f, on, ok, ob⟩ hobl HKR.out.2.2.2.1 HKR.out.2.2.2.2.1 HKR.out.2.2.2.2.2)
      have HFit' : Hid ((o.does ⟨kd, f, on, ok, ob⟩).fit (M + 1048576) (i + 1)) := Lib.hid (HF3'.out.does (K := 1048576) ⟨kd, f, on, ok, ob⟩ hobl HKR.out.2.2.2.1 HKR.out.2.2.2.2.1 HKR.out.2.2.2.2.2)
      obtain ⟨w4, hw4⟩ : ∃ w4, w4 = w3.alloc (.cells #[.int .i64 kd, .int .i64 f, .int .i64 on, .int .i64 ok, .slice oA om oq] 42) := ⟨_, rfl⟩
      have H4 : Hid (Two w R d S3 R' o S3' w4) := Lib.hid (hw4 ▸ H3.out.alloc _)
      have HO4 : Hid (Blk w4 w3.heap.size 42 #[.int .i64 kd, .int .i64 f, .int .i64 on, .int .i64 ok, .slice oA om oq]) := Lib.hid (hw4 ▸ Blk.new w3 _ _)
      obtain ⟨p, hp⟩ : ∃ p, p = w3.heap.size := ⟨_, rfl⟩
      have HPS : Hid (∀ b, S3 b → b < p) := Lib.hid (hp ▸ H3.out.1.1.lt)
      have HRB4 : Hid (Reads w4 w4.heap.size 1 oA om (bts ob)) := Lib.hid ((HKR.out.1.below H4.out.1.2.2).more H4.out.1.2.2.size)
      have a0 : w4.cell? ⟨p, 0, none⟩ = some (.int .i64 kd) := by rw [hp, HO4.out.cell]; rfl
      have a1 : w4.cell? ⟨p, 1, none⟩ = some (.int .i64 f) := by rw [hp, HO4.out.cell]; rfl
      have a2 : w4.cell? ⟨p, 2, none⟩ = some (.int .i64 on) := by rw [hp, HO4.out.cell]; rfl
      have a3 : w4.cell? ⟨p, 3, none⟩ = some (.int .i64 ok) := by rw [hp, HO4.out.cell]; rfl
      have a4 : w4.cell? ⟨p, 4, none⟩ = some (.slice oA om oq) := by rw [hp, HO4.out.cell]; rfl
      by_cases hk3 : kd = 3
      · subst hk3
        go_wp2
        go_roundw
        case rel => exact ⟨i + 1, by go_num, by omega, d, S3, o, S3', H3.out.alloc _, HMt.out, HF3.out.mono (by have := HME.out; omega) (by omega), HF3'.out.mono (by have := HME.out; omega) (by omega)⟩
        case measure => simp [intOf]; omega
      have t3 : (kd == 3) = false := beq_eq_false_iff_ne.2 hk3
      by_cases hf : f = 0 ∨ f = 1
      rotate_left
      · have tf0 : (f == 0) = false := beq_eq_false_iff_ne.2 (fun e => hf (.inl e))
        have tf1 : (f == 1) = false := beq_eq_false_iff_ne.2 (fun e => hf (.inr e))
        have tn0 : (f != 0) = true := by simp only [bne, tf0, Bool.not_false]
        have tn1 : (f != 1) = true := by simp only [bne, tf1, Bool.not_false]
        clear hf
        go_wp2
        go_roundw
        case rel => exact ⟨i + 1, by go_num, by omega, d, S3, o, S3', H3.out.alloc _, HMt.out, HF3.out.mono (by have := HME.out; omega) (by omega), HF3'.out.mono (by have := HME.out; omega) (by omega)⟩
        case measure => simp [intOf]; omega
      have HD : Hid ((f = 0 ∨ kd = 4 ∨ kd = 5) → Mate (d.does ⟨kd, f, on, ok, ob⟩) (o.does ⟨kd, f, on, ok, ob⟩)) := Lib.hid (fun hh => mate_both HMt.out ⟨kd, f, on, ok, ob⟩ hk3 hh)
      have HE : Hid (f = 1 → kd ≠ 4 → kd ≠ 5 → Mate (d.does ⟨kd, f, on, ok, ob⟩) o) := Lib.hid (fun h1 h2 h3 => mate_one HMt.out ⟨kd, f, on, ok, ob⟩ hk3 h1 h2 h3)
      obtain ⟨d', hd'⟩ : ∃ d', d' = d.does ⟨kd, f, on, ok, ob⟩ := ⟨_, rfl⟩
      rw [← hd'] at HD HE HFit
      have HD' := Lib.hid hd'
      clear hk3 hd'
      have way : f = 0 ∨ (f = 1 ∧ kd = 4) ∨ (f = 1 ∧ kd = 5) ∨ (f = 1 ∧ kd ≠ 4 ∧ kd ≠ 5) := by omega
      clear hf
      rcases way with e1 | ⟨e1, e2⟩ | ⟨e1, e2⟩ | ⟨e1, e2, e3⟩
      case' inl =>
        subst e1
        have HMd := Lib.hid (HD.out (.inl rfl))
        clear HD HE
        go_wp2_with fail
        rw [← hw4, ← hp]
        refine (does_any R d S3 ⟨kd, 0, on, ok, ob⟩ oA om oq _ H4.out.1.1 HRB4.out M i HF3.out (by omega) (by omega)).mono ?_
        rw [← HD'.out]
        rintro e w12 ⟨A12, n12, c12, rfl, S12, h12, u12, f12, o12, g12⟩
        have H12 := Lib.hid (H4.out.one h12 u12 f12)
        have HO12 : Hid (Blk w12 p 42 #[.int .i64 kd, .int .i64 0, .int .i64 on, .int .i64 ok, .slice oA om oq]) := Lib.hid ((u12.block p (hp ▸ HO4.out.lt) (fun hs => by have := HPS.out p hs; omega)).trans (hp ▸ HO4.out))
        have HRB12 : Hid (Reads w12 w12.heap.size 1 oA om (bts ob)) := Lib.hid ((HKR.out.1.below H12.out.1.2.2).more H12.out.1.2.2.size)
        have y0 : w12.cell? ⟨p, 0, none⟩ = some (.int .i64 kd) := by rw [HO12.out.cell]; rfl
        have y1 : w12.cell? ⟨p, 1, none⟩ = some (.int .i64 0) := by rw [HO12.out.cell]; rfl
        have y2 : w12.cell? ⟨p, 2, none⟩ = some (.int .i64 on) := by rw [HO12.out.cell]; rfl
        have y3 : w12.cell? ⟨p, 3, none⟩ = some (.int .i64 ok) := by rw [HO12.out.cell]; rfl
        have y4 : w12.cell? ⟨p, 4, none⟩ = some (.slice oA om oq) := by rw [HO12.out.cell]; rfl
        clear h12 u12 f12 o12 g12 hw4 hp x0 x1 x2 x3 x4 a0 a1 a2 a3 a4
        go_wp2_with fail
        refine (does_any R' o S3' ⟨kd, 0, on, ok, ob⟩ oA om oq _ H12.out.2.1.1 HRB12.out M i HF3'.out (by omega) (by omega)).mono ?_
        rintro e w13 ⟨A13, n13, c13, rfl, S13, h13, u13, f13, o13, g13⟩
        have H13 := Lib.hid (H12.out.other h13 u13 f13)
        obtain ⟨o', ho'⟩ : ∃ o', o' = o.does ⟨kd, 0, on, ok, ob⟩ := ⟨_, rfl⟩
        rw [← ho'] at HMd H13 HFit'
        clear ho' h13 u13 f13 o13 g13
        go_wp2_with fail
      case' inr.inl =>
        subst e1; subst e2
        have HMd := Lib.hid (HD.out (.inr (.inl rfl)))
        clear HD HE
        go_wp2_with fail
        rw [← hw4, ← hp]
        refine (does_any R d S3 ⟨4, 1, on, ok, ob⟩ oA om oq _ H4.out.1.1 HRB4.out M i HF3.out (by omega) (by omega)).mono ?_
        rw [← HD'.out]
        rintro e w12 ⟨A12, n12, c12, rfl, S12, h12, u12, f12, o12, g12⟩
        have H12 := Lib.hid (H4.out.one h12 u12 f12)
        have HO12 : Hid (Blk w12 p 42 #[.int .i64 4, .int .i64 1, .int .i64 on, .int .i64 ok, .slice oA om oq]) := Lib.hid ((u12.block p (hp ▸ HO4.out.lt) (fun hs => by have := HPS.out p hs; omega)).trans (hp ▸ HO4.out))
        have HRB12 : Hid (Reads w12 w12.heap.size 1 oA om (bts ob)) := Lib.hid ((HKR.out.1.below H12.out.1.2.2).more H12.out.1.2.2.size)
        have y0 : w12.cell? ⟨p, 0, none⟩ = some (.int .i64 4) := by rw [HO12.out.cell]; rfl
        have y1 : w12.cell? ⟨p, 1, none⟩ = some (.int .i64 1) := by rw [HO12.out.cell]; rfl
        have y2 : w12.cell? ⟨p, 2, none⟩ = some (.int .i64 on) := by rw [HO12.out.cell]; rfl
        have y3 : w12.cell? ⟨p, 3, none⟩ = some (.int .i64 ok) := by rw [HO12.out.cell]; rfl
        have y4 : w12.cell? ⟨p, 4, none⟩ = some (.slice oA om oq) := by rw [HO12.out.cell]; rfl
        clear h12 u12 f12 o12 g12 hw4 hp x0 x1 x2 x3 x4 a0 a1 a2 a3 a4
        go_wp2_with fail
        refine (does_any R' o S3' ⟨4, 1, on, ok, ob⟩ oA om oq _ H12.out.2.1.1 HRB12.out M i HF3'.out (by omega) (by omega)).mono ?_
        rintro e w13 ⟨A13, n13, c13, rfl, S13, h13, u13, f13, o13, g13⟩
        have H13 := Lib.hid (H12.out.other h13 u13 f13)
        obtain ⟨o', ho'⟩ : ∃ o', o' = o.does ⟨4, 1, on, ok, ob⟩ := ⟨_, rfl⟩
        rw [← ho'] at HMd H13 HFit'
        clear ho' h13 u13 f13 o13 g13
        go_wp2_with fail
      case' inr.inr.inl =>
        subst e1; subst e2
        have HMd := Lib.hid (HD.out (.inr (.inr rfl)))
        clear HD HE
        go_wp2_with fail
        rw [← hw4, ← hp]
        refine (does_any R d S3 ⟨5, 1, on, ok, ob⟩ oA om oq _ H4.out.1.1 HRB4.out M i HF3.out (by omega) (by omega)).mono ?_
        rw [← HD'.out]
        rintro e w12 ⟨A12, n12, c12, rfl, S12, h12, u12, f12, o12, g12⟩
        have H12 := Lib.hid (H4.out.one h12 u12 f12)
        have HO12 : Hid (Blk w12 p 42 #[.int .i64 5, .int .i64 1, .int .i64 on, .int .i64 ok, .slice oA om oq]) := Lib.hid ((u12.block p (hp ▸ HO4.out.lt) (fun hs => by have := HPS.out p hs; omega)).trans (hp ▸ HO4.out))
        have HRB12 : Hid (Reads w12 w12.heap.size 1 oA om (bts ob)) := Lib.hid ((HKR.out.1.below H12.out.1.2.2).more H12.out.1.2.2.size)
        have y0 : w12.cell? ⟨p, 0, none⟩ = some (.int .i64 5) := by rw [HO12.out.cell]; rfl
        have y1 : w12.cell? ⟨p, 1, none⟩ = some (.int .i64 1) := by rw [HO12.out.cell]; rfl
        have y2 : w12.cell? ⟨p, 2, none⟩ = some (.int .i64 on) := by rw [HO12.out.cell]; rfl
        have y3 : w12.cell? ⟨p, 3, none⟩ = some (.int .i64 ok) := by rw [HO12.out.cell]; rfl
        have y4 : w12.cell? ⟨p, 4, none⟩ = some (.slice oA om oq) := by rw [HO12.out.cell]; rfl
        clear h12 u12 f12 o12 g12 hw4 hp x0 x1 x2 x3 x4 a0 a1 a2 a3 a4
        go_wp2_with fail
        refine (does_any R' o S3' ⟨5, 1, on, ok, ob⟩ oA om oq _ H12.out.2.1.1 HRB12.out M i HF3'.out (by omega) (by omega)).mono ?_
        rintro e w13 ⟨A13, n13, c13, rfl, S13, h13, u13, f13, o13, g13⟩
        have H13 := Lib.hid (H12.out.other h13 u13 f13)
        obtain ⟨o', ho'⟩ : ∃ o', o' = o.does ⟨5, 1, on, ok, ob⟩ := ⟨_, rfl⟩
        rw [← ho'] at HMd H13 HFit'
        clear ho' h13 u13 f13 o13 g13
        go_wp2_with fail
      case' inr.inr.inr =>
        subst e1
        have t4 : (kd == 4) = false := beq_eq_false_iff_ne.2 e2
        have t5 : (kd == 5) = false := beq_eq_false_iff_ne.2 e3
        have HMd := Lib.hid (HE.out rfl e2 e3)
        clear e2 e3
        clear HD HE
        go_wp2_with fail
        rw [← hw4, ← hp]
        refine (does_any R d S3 ⟨kd, 1, on, ok, ob⟩ oA om oq _ H4.out.1.1 HRB4.out M i HF3.out (by omega) (by omega)).mono ?_
        rw [← HD'.out]
        rintro e w12 ⟨A12, n12, c12, rfl, S12, h12, u12, f12, o12, g12⟩
        have H12 := Lib.hid (H4.out.one h12 u12 f12)
        have HO12 : Hid (Blk w12 p 42 #[.int .i64 kd, .int .i64 1, .int .i64 on, .int .i64 ok, .slice oA om oq]) := Lib.hid ((u12.block p (hp ▸ HO4.out.lt) (fun hs => by have := HPS.out p hs; omega)).trans (hp ▸ HO4.out))
        have HRB12 : Hid (Reads w12 w12.heap.size 1 oA om (bts ob)) := Lib.hid ((HKR.out.1.below H12.out.1.2.2).more H12.out.1.2.2.size)
        have y0 : w12.cell? ⟨p, 0, none⟩ = some (.int .i64 kd) := by rw [HO12.out.cell]; rfl
        have y1 : w12.cell? ⟨p, 1, none⟩ = some (.int .i64 1) := by rw [HO12.out.cell]; rfl
        have y2 : w12.cell? ⟨p, 2, none⟩ = some (.int .i64 on) := by rw [HO12.out.cell]; rfl
        have y3 : w12.cell? ⟨p, 3, none⟩ = some (.int .i64 ok) := by rw [HO12.out.cell]; rfl
        have y4 : w12.cell? ⟨p, 4, none⟩ = some (.slice oA om oq) := by rw [HO12.out.cell]; rfl
        clear h12 u12 f12 o12 g12 hw4 hp x0 x1 x2 x3 x4 a0 a1 a2 a3 a4
        go_wp2_with fail
        have HFit' : Hid (o.fit (M + 1048576) (i + 1)) := Lib.hid (HF3'.out.mono (by omega) (by omega))
        obtain ⟨o', ho'⟩ : ∃ o', o' = o := ⟨_, rfl⟩
        obtain ⟨S13, hS13⟩ : ∃ T, T = S3' := ⟨_, rfl⟩
        obtain ⟨w13, hw13⟩ : ∃ w13, w13 = w12 := ⟨_, rfl⟩
        subst ho'; subst hS13; subst hw13
        have H13 := H12
      all_goals
        clear y0 y1 y2 y3 y4
        have HL : Hid (d'.f0.all.length ≤ 140737488355328 ∧ d'.f1.all.length ≤ 140737488355328) := Lib.hid ⟨Nat.le_trans HFit.out.l0 (by omega), Nat.le_trans HFit.out.l1 (by omega)⟩
        have HL' : Hid (o'.f0.all.length ≤ 140737488355328 ∧ o'.f1.all.length ≤ 140737488355328) := Lib.hid ⟨Nat.le_trans HFit'.out.l0 (by omega), Nat.le_trans HFit'.out.l1 (by omega)⟩
        refine (read_any R 0 d' S12 w13 H13.out.1.1 HL.out.1 HL.out.2).mono ?_
        rintro e w14 ⟨A14, n14, c14, rfl, o14, b14⟩
        have H14 := Lib.hid (H13.out.next b14)
        have K14 : Hid (Kp w14 (fun _ => False) (.slice A14 n14 c14) (d'.rd 0)) := Lib.hid (Kp.new o14 (fun _ h => h.elim))
        clear o14 b14
        go_wp2_with fail
        refine (read_any R' 0 o' S13 w14 H14.out.2.1.1 HL'.out.1 HL'.out.2).mono ?_
        rw [← mate_no HMd.out, ← mate_rd HMd.out]
        rintro e w15 ⟨A15, n15, c15, rfl, o15, b15⟩
        have H15 := Lib.hid (H14.out.next b15)
        have K15 := Lib.hid (K14.out.next b15)
        have L15 : Hid (Kp w15 (fun _ => False) (.slice A15 n15 c15) (d'.rd 0)) := Lib.hid (Kp.new o15 (fun _ h => h.elim))
        clear o15 b15
        have hn14 : n14 ≤ 140737488355328 := by
          rw [← K15.out.len.1]
          unfold DK.rd
          split
          · exact HL.out.1
          · simp
        go_wp2_with fail
        refine (same_any A14 A15 n14 c14 n15 c15 _ _ w15 _ _ K15.out.reads L15.out.reads (by omega)).mono ?_
        rw [decide_eq_true rfl]
        rintro e w16 ⟨rfl, k16, rfl⟩
        go_wp2_with fail
        refine (safe_any R 0 d' S12 _ (H15.out.drewN k16).1.1 HL.out.1 HL.out.2).mono ?_
        rw [show d'.sf 0 = d'.f0.s from rfl]
        rintro e w17 ⟨A17, n17, c17, rfl, o17, b17⟩
        have H17 := Lib.hid ((H15.out.drewN k16).next b17)
        have K17 : Hid (Kp w17 (fun _ => False) (.slice A17 n17 c17) d'.f0.s) := Lib.hid (Kp.new o17 (fun _ h => h.elim))
        clear o17 b17
        go_wp2_with fail
        refine (safe_any R' 0 o' S13 _ H17.out.2.1.1 HL'.out.1 HL'.out.2).mono ?_
        rw [show o'.sf 0 = o'.f0.s from rfl, ← HMd.out.1]
        rintro e w18 ⟨A18, n18, c18, rfl, o18, b18⟩
        have H18 := Lib.hid (H17.out.next b18)
        have K18 := Lib.hid (K17.out.next b18)
        have L18 : Hid (Kp w18 (fun _ => False) (.slice A18 n18 c18) d'.f0.s) := Lib.hid (Kp.new o18 (fun _ h => h.elim))
        clear o18 b18
        have hn17 : n17 ≤ 140737488355328 := by rw [← K18.out.len.1]; exact Nat.le_trans (by rw [FL.all_len]; omega) HL.out.1
        go_wp2_with fail
        refine (same_any A17 A18 n17 c17 n18 c18 _ _ w18 _ _ K18.out.reads L18.out.reads (by omega)).mono ?_
        rw [decide_eq_true rfl]
        rintro e w19 ⟨rfl, k19, rfl⟩
        go_wp2_with fail
        refine (down_any R d' S12 _ (H18.out.drewN k19).1.1).mono ?_
        rintro e w20 ⟨rfl, rfl⟩
        go_wp2_with fail
        refine (down_any R' o' S13 _ (H18.out.drewN k19).2.1.1).mono ?_
        rw [← HMd.out.2.1]
        rintro e w20 ⟨rfl, rfl⟩
        go_wp2
        go_roundw
        case rel => exact ⟨i + 1, by go_num, by omega, d', S12, o', S13, H18.out.drewN _, HMd.out, HME.out ▸ HFit.out, HME.out ▸ HFit'.out⟩
        case measure => simp [intOf]; omega
    · go_wp2
      go_ret
      exact ⟨rfl, H3.out.1.2.2⟩
end Go.Proofs.Ytinailbjfembfaa.Pk
