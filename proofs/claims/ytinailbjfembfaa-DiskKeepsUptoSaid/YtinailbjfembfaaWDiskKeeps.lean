/- The walk of the law DiskKeeps. -/
import Derived.Test.YtinailbjfembfaaDkKeep
import Derived.Deep.QuietTactic
namespace Go.Proofs.Ytinailbjfembfaa.Pk
open Go.RowKit Go.Proofs.Ytinailbjfembfaa.Dk Go.Proofs.Ytinailbjfembfaa.Ar
set_option linter.unusedVariables false

set_option maxRecDepth 100000 in
set_option maxHeartbeats 16000000 in
theorem law_DiskKeeps (a : Option Addr) (n c : Nat) (l : List Int) (b : Option Addr) (m q : Nat) (r : List Int) (w : World) (h : ArgB w a n c l) (h' : ArgB w b m q r) (hu : n + m ≤ 1048576) :
    Calls Try.prog 7 #[.slice a n c, .slice b m q] w fun e w' => e = .returned (.bool true) ∧ Below w.heap.size w w' := by
  obtain ⟨hr, hnc, hc, hB⟩ := h
  obtain ⟨hr', hmq, hq, hB'⟩ := h'
  have HL : Hid (l.length = n) := by have := hr.1; simp at this; exact this
  have HM : Hid (r.length = m) := by have := hr'.1; simp at this; exact this
  have hbA := RowI.of hr
  have hbB := RowI.of hr'
  clear hr hr' hB hB' hc hq
  go_enter Try.func7, Try.ntmps7
  go_wp2_with fail
  refine (wakes_any w).mono ?_
  rintro e w1 ⟨rfl, hb1⟩
  replace hbA := hbA.below hb1
  replace hbB := hbB.below hb1
  have s1 := hb1.size
  have bel := hb1
  clear hb1
  go_wp2_with (first
    | (at_builtin; refine appE w1 rfl (.tmp 26) (.tmp 27) rfl w1.heap.size rfl w1.heap.size a c l n rfl (RowI.reads hbA) (Nat.le_refl _) (by omega) (Nat.le_refl _) ?_; intro v2 w2 hown2 hb2; have s2 := hb2.size)
    | (at_builtin; refine appB _ rfl (.tmp 28) (.tmp 29) rfl w1.heap.size v2 l rfl (hown2.alloc _) (w2.heap.size + 1) _ 2 [71, 72] 2 rfl (reads_new w2 _ _ _ 2 (bts [71, 72]) rfl rfl (by omega)) (by have := HL.out; omega) (by simp; omega) ?_; intro v3 w3 hown3 hb3 _ _; obtain ⟨Am, nm, cm, rfl, hcm, hnm, -⟩ := hown3.val; obtain rfl : nm = n + 2 := (by have := HL.out; rw [← hnm]; simp; omega); have hmA := OwnI.of hown3; have hcm0 : ¬ (cm = 0) := (by omega); have hcm1 : n ≤ cm := (by omega); have hcm2 : (n : Int) ≤ (cm : Int) := (by omega); have hb13 : Below w1.heap.size w1 w3 := (hb2.alloc s2 _).trans hb3; have s3 := hb13.size; replace hbA := hbA.below hb13; replace hbB := hbB.below hb13; replace bel := bel.trans (hb13.mono bel.size); clear hown2 hb2 hown3 hb3 hb13 hnm s2)
    | (at_builtin; refine appE w3 rfl (.tmp 31) (.tmp 32) rfl w3.heap.size rfl w3.heap.size b q r m rfl (RowI.reads hbB) (Nat.le_refl _) (by omega) (Nat.le_refl _) ?_; intro v4 w4 hown4 hb4; have s4 := hb4.size)
    | (at_builtin; refine appB _ rfl (.tmp 33) (.tmp 34) rfl w3.heap.size v4 r rfl (hown4.alloc _) (w4.heap.size + 1) _ 2 [73, 74] 2 rfl (reads_new w4 _ _ _ 2 (bts [73, 74]) rfl rfl (by omega)) (by have := HM.out; omega) (by simp; omega) ?_; intro v5 w5 hown5 hb5 _ _; obtain ⟨Ar, nr, cr, rfl, hcr, hnr, -⟩ := hown5.val; obtain rfl : nr = m + 2 := (by have := HM.out; rw [← hnr]; simp; omega); have hrA := OwnI.of hown5; have hcr0 : ¬ (cr = 0) := (by omega); have hcr1 : m ≤ cr := (by omega); have hcr2 : (m : Int) ≤ (cr : Int) := (by omega); have hb35 : Below w3.heap.size w3 w5 := (hb4.alloc s4 _).trans hb5; have s5 := hb35.size; replace hbA := hbA.below hb35; replace hbB := hbB.below hb35; replace hmA := hmA.below hb35; replace bel := bel.trans (hb35.mono bel.size); clear hown4 hb4 hown5 hb5 hb35 hnr s4))
  have hrm := (RowI.reads (OwnI.rowHeld hmA)).take (k := n) (by omega)
  rw [app_take _ _ _ HL.out] at hrm
  have hrr := (RowI.reads (OwnI.rowHeld hrA)).take (k := m) (by omega)
  rw [app_take _ _ _ HM.out] at hrr
  have HLd := Lib.hid (fun k => load_any Am Ar n cm m cr l r (w5.drewN k) (hrm.drewN k) (hrr.drewN k) (by omega) (by omega))
  clear hrm hrr
  go_region_held3 (fun _ => True) (first | exact trivial | go_keep) (first
    | (go_at_call 18; go_must (refine (HLd.out 1).mono ?_; rintro e w6 ⟨R, S, rfl, h6, hS6, hb6⟩; have H6 := Lib.hid (And.intro h6 (And.intro hS6 (below_via (w := w5) hb6))); clear h6 hS6 hb6)))
  have hb6 := H6.out.2.2
  have s6 := hb6.size
  replace hbA := hbA.below hb6
  replace hbB := hbB.below hb6
  replace hmA := hmA.below hb6
  replace hrA := hrA.below hb6
  replace bel := bel.trans (hb6.mono bel.size)
  clear hb6 HLd
  go_wp2_with fail
  have hrm := (RowI.reads (OwnI.rowHeld hmA)).take (k := n) (by omega)
  rw [app_take _ _ _ HL.out] at hrm
  have hrr := (RowI.reads (OwnI.rowHeld hrA)).take (k := m) (by omega)
  rw [app_take _ _ _ HM.out] at hrr
  have HLd := Lib.hid (fun k => load_any Am Ar n cm m cr l r (w6.drewN k) (hrm.drewN k) (hrr.drewN k) (by omega) (by omega))
  clear hrm hrr
  go_region_held3 (fun _ => True) (first | exact trivial | go_keep) (first
    | (go_at_call 18; go_must (refine (HLd.out 1).mono ?_; rintro e w7 ⟨R', S', rfl, h7, hS7, hb7⟩; have H7 := Lib.hid (And.intro h7 (And.intro hS7 (below_via (w := w6) hb7))); clear h7 hS7 hb7)))
  have hb7 := H7.out.2.2
  have s7 := hb7.size
  replace hbA := hbA.below hb7
  replace hbB := hbB.below hb7
  replace hmA := hmA.below hb7
  replace hrA := hrA.below hb7
  replace bel := bel.trans (hb7.mono bel.size)
  have D7 : Hid (DkP w7 R (DK.new l r) S) := Lib.hid (H6.out.1.next hb7)
  have O7 : Hid (DkP w7 R' (DK.new l r) S') := Lib.hid H7.out.1
  have SD7 : Hid (∀ b, S b → w5.heap.size ≤ b ∧ b < w6.heap.size) := Lib.hid (fun b hb => ⟨H6.out.2.1 b hb, H6.out.1.lt b hb⟩)
  have SO7 : Hid (∀ b, S' b → w6.heap.size ≤ b ∧ b < w7.heap.size) := Lib.hid (fun b hb => ⟨H7.out.2.1 b hb, H7.out.1.lt b hb⟩)
  clear hb7 HLd H6 H7
  go_wp2_with fail
  have hrr := (RowI.reads (OwnI.rowHeld hrA)).take (k := m) (by omega)
  rw [app_take _ _ _ HM.out] at hrr
  refine (append_any R 0 Ar m cr r (DK.new l r) S w7 D7.out hrr 1048576 0 (DK.fit.new l r (by have := HL.out; omega) (by have := HM.out; omega)) (by omega) (by omega)).mono ?_
  rw [(new_app l r).1]
  obtain ⟨d8, hd8⟩ : ∃ d8, d8 = (DK.new l r).app 0 r := ⟨_, rfl⟩
  have HD8 : Hid (d8.rd 0 = l ++ r ∧ d8.no 0 = 0 ∧ d8.sf 1 = r ∧ d8.fit 2097152 1) := Lib.hid (by
    have h1 := new_app l r
    have h2 : ((DK.new l r).app 0 r).fit (1048576 + 1048576) (0 + 1) := DK.fit.app (DK.fit.new l r (by have := HL.out; omega) (by have := HM.out; omega)) 0 r (by have := HM.out; omega)
    rw [hd8]
    exact ⟨h1.2.1, h1.2.2.1, h1.2.2.2, h2⟩)
  rw [← hd8]
  clear hrr hd8
  rintro e w8 ⟨rfl, S8, h8, t8, f8⟩
  have s8 := t8.size
  have M8 : Mod w5.heap.size w6.heap.size w7 w8 := ⟨t8.os, t8.tape, t8.output, t8.size, fun i hi hn => t8.block i hi (fun hs => by have := SD7.out i hs; omega)⟩
  have E8 : Hid (KEnv w w5.heap.size w8.heap.size a n l b m r R d8 S8 R' (DK.new l r) S' w8) := Lib.hid {
    bel := t8.below bel bel.size (fun b hb => by have := SD7.out b hb; omega)
    ra := hbA.out.1.keep fun p hp => World.cell?_of_block (t8.block p.block (by omega) (fun hs => by have := SD7.out _ hs; omega))
    rb := hbB.out.1.keep fun p hp => World.cell?_of_block (t8.block p.block (by omega) (fun hs => by have := SD7.out _ hs; omega))
    d := h8
    o := O7.out.stay (Stay.turned t8 fun b hb => ⟨O7.out.lt b hb, fun hs => by have := SD7.out b hs; have := SO7.out b hb; omega⟩)
    sd := fun b hb => ⟨from_base f8 (B := w5.heap.size) (fun b hb => (SD7.out b hb).1) (by omega) b hb, h8.lt b hb⟩
    so := fun b hb => by have := SO7.out b hb; omega
    sz := Nat.le_refl _
    lo := by omega }
  replace hmA := hmA.mod M8 (by omega)
  replace hrA := hrA.mod M8 (by omega)
  have s0 : w.heap.size ≤ w1.heap.size ∧ w1.heap.size ≤ w3.heap.size ∧ w3.heap.size ≤ w5.heap.size ∧ w5.heap.size ≤ w8.heap.size := by omega
  have HS0 := Lib.hid s0
  clear hbA hbB bel M8 D7 O7 SD7 SO7 h8 t8 f8 s0 s1 s3 s5 s6 s7 s8
  go_wp2_with fail
  have hrm := (RowI.reads (OwnI.rowHeld hmA)).take (k := n) (by omega)
  rw [app_take _ _ _ HL.out] at hrm
  refine (same_any Am a n cm n c l l w8 _ _ hrm E8.out.rA (by omega)).mono ?_
  rw [decide_eq_true rfl]
  rintro e w9 ⟨rfl, k9, rfl⟩
  clear hrm
  go_wp2_with fail
  have hrr := (RowI.reads (OwnI.rowHeld hrA)).take (k := m) (by omega)
  rw [app_take _ _ _ HM.out] at hrr
  refine (same_any Ar b m cr m q r r _ _ _ (hrr.drewN k9) (E8.out.rB.drewN k9) (by omega)).mono ?_
  rw [decide_eq_true rfl]
  rintro e w10 ⟨rfl, k10, hw10⟩
  have E10 : Hid (KEnv w w5.heap.size w8.heap.size a n l b m r R d8 S8 R' (DK.new l r) S' w10) := Lib.hid (by rw [hw10]; exact (E8.out.drewN k9).drewN k10)
  have hmB : Held w1.heap.size w3.heap.size (OwnI w1.heap.size w3.heap.size (.slice Am (n + 2) cm) (l ++ [71, 72])) w10 := by rw [hw10]; exact (hmA.drewN k9).drewN k10
  have hrB : Held w3.heap.size w5.heap.size (OwnI w3.heap.size w5.heap.size (.slice Ar (m + 2) cr) (r ++ [73, 74])) w10 := by rw [hw10]; exact (hrA.drewN k9).drewN k10
  clear hw10 hrr E8 hmA hrA
  obtain ⟨gm, rfl, c71, c72⟩ := two_ hmB.out HL.out
  obtain ⟨gr, rfl, c73, c74⟩ := two_ hrB.out HM.out
  go_wp2
  clear c71 c72 c73 c74
  go_loopw [9, 104] (fun _ j wr => ∃ (k : Nat) (l' : List Int), j = .int .i64 k ∧ k ≤ n + 2 ∧ OwnI w1.heap.size w3.heap.size (.slice (some ⟨gm, 0, none⟩) (n + 2) cm) l' wr ∧ Mod w1.heap.size w3.heap.size w10 wr) (fun _ j _ => n + 2 - (intOf j).toNat)
  case atStart => exact ⟨0, _, rfl, by omega, hmB.out, Mod.refl _ _ _⟩
  case round =>
    clear hmB
    obtain ⟨k1, l1, rfl, hk1, hO, hm11⟩ := hrel
    obtain ⟨w11, rfl⟩ : ∃ w11 : World, w11 = wr := ⟨_, rfl⟩
    by_cases hlt1 : k1 < n + 2
    · obtain ⟨gq, e, _, _, _, hc1, hf1, hst⟩ := hO.store (i := k1) hlt1
      injection e with e; injection e with e; subst e
      obtain ⟨ho2, hm2⟩ := hst 1
      have HO2 := Lib.hid ho2
      have HM2 := Lib.hid (hm11.trans hm2)
      clear hst ho2 hm2 hO hm11
      go_wp2
      go_roundw
      case rel => exact ⟨k1 + 1, _, by go_num, by omega, HO2.out, HM2.out⟩
      case measure => simp [intOf]; omega
    · have E11 := Lib.hid (E10.out.mod hm11 HS0.out.1 (by have := HS0.out; omega))
      replace hrB := hrB.mod hm11 (by omega)
      clear hO hm11 E10
      go_wp2
      go_loopw [10, 113] (fun _ j wr => ∃ (k : Nat) (l' : List Int), j = .int .i64 k ∧ k ≤ m + 2 ∧ OwnI w3.heap.size w5.heap.size (.slice (some ⟨gr, 0, none⟩) (m + 2) cr) l' wr ∧ Mod w3.heap.size w5.heap.size w11 wr) (fun _ j _ => m + 2 - (intOf j).toNat)
      case atStart => exact ⟨0, _, rfl, by omega, hrB.out, Mod.refl _ _ _⟩
      case round =>
        clear hrB
        obtain ⟨k2, l2, rfl, hk2, hO, hm12⟩ := hrel
        obtain ⟨w12, rfl⟩ : ∃ w12 : World, w12 = wr := ⟨_, rfl⟩
        by_cases hlt2 : k2 < m + 2
        · obtain ⟨gq, e, _, _, _, hc1, hf1, hst⟩ := hO.store (i := k2) hlt2
          injection e with e; injection e with e; subst e
          obtain ⟨ho2, hm2⟩ := hst 2
          have HO2 := Lib.hid ho2
          have HM2 := Lib.hid (hm12.trans hm2)
          clear hst ho2 hm2 hO hm12
          go_wp2
          go_roundw
          case rel => exact ⟨k2 + 1, _, by go_num, by omega, HO2.out, HM2.out⟩
          case measure => simp [intOf]; omega
        · have E12 := Lib.hid (E11.out.mod hm12 (by have := HS0.out; omega) (by have := HS0.out; omega))
          clear hO hm12 E11
          have HLd := Lib.hid (show d8.f0.all.length ≤ 140737488355328 ∧ d8.f1.all.length ≤ 140737488355328 from ⟨Nat.le_trans HD8.out.2.2.2.l0 (by omega), Nat.le_trans HD8.out.2.2.2.l1 (by omega)⟩)
          have HLo := Lib.hid (show (DK.new l r).f0.all.length ≤ 140737488355328 ∧ (DK.new l r).f1.all.length ≤ 140737488355328 from ⟨by have := HL.out; simp [DK.new, FL.all]; omega, by have := HM.out; simp [DK.new, FL.all]; omega⟩)
          have t12 := E12.out.sz
          go_wp2_with fail
          refine (read_any R 0 d8 S8 w12 E12.out.d HLd.out.1 HLd.out.2).mono ?_
          rw [HD8.out.1, HD8.out.2.1]
          rintro e w13 ⟨Ax, N, cx, rfl, ox, bx⟩
          have HN : Hid (N = n + m) := Lib.hid (by have h1 := (own_len ox).1; rw [List.length_append, HL.out, HM.out] at h1; omega)
          have E13 := Lib.hid (E12.out.next bx)
          have hx := OwnI.of ox
          have s13 := bx.size
          clear ox bx E12
          go_wp2_with fail
          refine (safe_any R 1 d8 S8 w13 E13.out.d HLd.out.1 HLd.out.2).mono ?_
          rw [HD8.out.2.2.1]
          rintro e w14 ⟨Ay, ny, cy, rfl, oy, by_⟩
          obtain rfl : ny = m := by have h1 := (own_len oy).1; rw [HM.out] at h1; omega
          have E14 := Lib.hid (E13.out.next by_)
          have hy := OwnI.of oy
          replace hx := hx.below by_
          have s14 := by_.size
          clear oy by_ E13
          go_wp2_with (first
            | (at_builtin; refine appE w14 rfl (.tmp 127) (.tmp 128) rfl w14.heap.size rfl w14.heap.size a c l n rfl E14.out.rA (Nat.le_refl _) (by omega) (Nat.le_refl _) ?_; intro v15 w15 hown15 hb15; have E15 := Lib.hid (E14.out.next hb15))
            | (at_builtin; refine appB _ rfl (.tmp 129) (.tmp 130) rfl w14.heap.size v15 l rfl hown15 w15.heap.size b q r ny rfl E15.out.rB (by have := HL.out; omega) hb15.size ?_; intro v16 w16 hown16 hb16 _ _; have hb1416 := hb15.trans hb16; obtain ⟨Aw, nw, cw, rfl, hcw, hnw, -⟩ := hown16.val; have hw := OwnI.of hown16; have E16 := Lib.hid (E14.out.next hb1416); replace hx := hx.below hb1416; replace hy := hy.below hb1416; have s16 := hb1416.size; clear hown15 hb15 hown16 hb16 hb1416 E14 E15))
          have hNw : nw = N := by have := HN.out; rw [← hnw, List.length_append, HL.out, HM.out]; omega
          clear hnw
          subst hNw
          have hN2 : nw ≤ 1048576 := by have := HN.out; omega
          refine (same_any Ax Aw nw cx nw cw _ _ w16 _ _ (RowI.reads (OwnI.rowHeld hx)) (RowI.reads (OwnI.rowHeld hw)) (by omega)).mono ?_
          rw [decide_eq_true rfl]
          rintro e w17 ⟨rfl, k17, rfl⟩
          go_wp2_with fail
          refine (same_any Ay b ny cy ny q r r _ _ _ ((RowI.reads (OwnI.rowHeld hy)).drewN k17) (E16.out.rB.drewN k17) (by omega)).mono ?_
          rw [decide_eq_true rfl]
          rintro e w18 ⟨rfl, k18, hw18⟩
          have E18 : Hid (KEnv w w5.heap.size w8.heap.size a n l b ny r R d8 S8 R' (DK.new l r) S' w18) := Lib.hid (by rw [hw18]; exact (E16.out.drewN k17).drewN k18)
          have hx2 : Held w12.heap.size w13.heap.size (OwnI w12.heap.size w13.heap.size (.slice Ax nw cx) (l ++ r)) w18 := by rw [hw18]; exact (hx.drewN k17).drewN k18
          have hy2 : Held w13.heap.size w14.heap.size (OwnI w13.heap.size w14.heap.size (.slice Ay ny cy) r) w18 := by rw [hw18]; exact (hy.drewN k17).drewN k18
          have hw2 : Held w14.heap.size w16.heap.size (OwnI w14.heap.size w16.heap.size (.slice Aw nw cw) (l ++ r)) w18 := by rw [hw18]; exact (hw.drewN k17).drewN k18
          clear hw18 hx hy hw E16
          go_wp2
          go_loopw [15, 148] (fun _ j wr => ∃ (k : Nat) (l' : List Int), j = .int .i64 k ∧ k ≤ nw ∧ OwnI w12.heap.size w13.heap.size (.slice Ax nw cx) l' wr ∧ Mod w12.heap.size w13.heap.size w18 wr) (fun _ j _ => nw - (intOf j).toNat)
          case atStart => exact ⟨0, _, rfl, by omega, hx2.out, Mod.refl _ _ _⟩
          case round =>
            clear hx2
            obtain ⟨k3, l3, rfl, hk3, hO, hm19⟩ := hrel
            obtain ⟨w19, rfl⟩ : ∃ w19 : World, w19 = wr := ⟨_, rfl⟩
            by_cases hlt3 : k3 < nw
            · obtain ⟨gq, rfl, _, _, _, hc1, hf1, hst⟩ := hO.store (i := k3) hlt3
              obtain ⟨ho2, hm2⟩ := hst 3
              have HO2 := Lib.hid ho2
              have HM2 := Lib.hid (hm19.trans hm2)
              clear hst ho2 hm2 hO hm19
              go_wp2
              go_roundw
              case rel => exact ⟨k3 + 1, _, by go_num, by omega, HO2.out, HM2.out⟩
              case measure => simp [intOf]; omega
            · have E19 := Lib.hid (E18.out.mod hm19 (by have := HS0.out; omega) (.inr (by omega)))
              replace hy2 := hy2.mod hm19 (by omega)
              replace hw2 := hw2.mod hm19 (by omega)
              have s19 : w16.heap.size ≤ w19.heap.size := Nat.le_trans hw2.1 (Nat.le_refl _)
              have hx3 := hO.held (by omega)
              clear hO hm19 E18
              go_wp2
              go_loopw [16, 157] (fun _ j wr => ∃ (k : Nat) (l' : List Int), j = .int .i64 k ∧ k ≤ ny ∧ OwnI w13.heap.size w14.heap.size (.slice Ay ny cy) l' wr ∧ Mod w13.heap.size w14.heap.size w19 wr) (fun _ j _ => ny - (intOf j).toNat)
              case atStart => exact ⟨0, _, rfl, by omega, hy2.out, Mod.refl _ _ _⟩
              case round =>
                clear hy2
                obtain ⟨k4, l4, rfl, hk4, hO, hm20⟩ := hrel
                obtain ⟨w20, rfl⟩ : ∃ w20 : World, w20 = wr := ⟨_, rfl⟩
                by_cases hlt4 : k4 < ny
                · obtain ⟨gq, rfl, _, _, _, hc1, hf1, hst⟩ := hO.store (i := k4) hlt4
                  obtain ⟨ho2, hm2⟩ := hst 4
                  have HO2 := Lib.hid ho2
                  have HM2 := Lib.hid (hm20.trans hm2)
                  clear hst ho2 hm2 hO hm20
                  go_wp2
                  go_roundw
                  case rel => exact ⟨k4 + 1, _, by go_num, by omega, HO2.out, HM2.out⟩
                  case measure => simp [intOf]; omega
                · have E20 := Lib.hid (E19.out.mod hm20 (by have := HS0.out; omega) (.inr (by omega)))
                  replace hx3 := hx3.mod hm20 (by omega)
                  replace hw2 := hw2.mod hm20 (by omega)
                  have s20 : w16.heap.size ≤ w20.heap.size := hw2.1
                  clear hO hm20 E19
                  obtain ⟨hxo, hxl⟩ := hx3.out
                  have hxn := hx3.out.row.1
                  clear hx3
                  go_wp2_with (at_builtin; refine appB _ rfl (.tmp 164) (.tmp 165) rfl w12.heap.size _ l3 rfl (hxo.alloc _) (w20.heap.size + 1) _ 3 [5, 6, 7] 3 rfl (reads_new w20 _ _ _ 3 (bts [5, 6, 7]) rfl rfl (by omega)) (by omega) (by simp; omega) ?_; intro v21 w21 hown21 _ hat21 hg21)
                  have M21 : Mod w12.heap.size w13.heap.size w20 w21 := (Mod.of ((Below.refl _ _).alloc (Nat.le_refl _) _) _ _).late hg21 (fun g hg => .inl ⟨own_base hxo g hg, hxl g hg⟩)
                  have E21 := Lib.hid (E20.out.mod M21 (by have := HS0.out; omega) (.inr (by omega)))
                  replace hw2 := hw2.mod M21 (by omega)
                  obtain ⟨A21, n21, c21, rfl, _, hn21, -⟩ := hown21.val
                  have hn3 : n21 = nw + 3 := by rw [← hn21, List.length_append, hxn]; rfl
                  clear hown21 hat21 hg21 M21 E20 hxo hxl hxn hn21
                  subst hn3
                  go_wp2_with fail
                  refine (read_any R 0 d8 S8 w21 E21.out.d HLd.out.1 HLd.out.2).mono ?_
                  rw [HD8.out.1, HD8.out.2.1]
                  rintro e w22 ⟨Az, nz, cz, rfl, oz, bz⟩
                  have hnz : nz = nw := by have h1 := (own_len oz).1; have h2 := hw2.out.row.1; omega
                  subst hnz
                  have E22 := Lib.hid (E21.out.next bz)
                  replace hw2 := hw2.below bz
                  have hz := OwnI.of oz
                  clear oz bz E21
                  go_wp2_with fail
                  refine (read_any R' 0 (DK.new l r) S' w22 E22.out.o HLo.out.1 HLo.out.2).mono ?_
                  rw [(new_rd l r).1, (new_rd l r).2.1]
                  rintro e w23 ⟨Au, nu, cu, rfl, ou, bu⟩
                  have hnu : nu = n := by have h1 := (own_len ou).1; have := HL.out; omega
                  subst hnu
                  have E23 := Lib.hid (E22.out.next bu)
                  replace hw2 := hw2.below bu
                  replace hz := hz.below bu
                  have hu2 := OwnI.of ou
                  clear ou bu E22
                  go_wp2_with fail
                  refine (read_any R' 1 (DK.new l r) S' w23 E23.out.o HLo.out.1 HLo.out.2).mono ?_
                  rw [(new_rd l r).2.2.1, (new_rd l r).2.2.2]
                  rintro e w24 ⟨Av, nv, cv, rfl, ov, bv⟩
                  have hnv : nv = ny := by have h1 := (own_len ov).1; have := HM.out; omega
                  subst hnv
                  have E24 := Lib.hid (E23.out.next bv)
                  replace hw2 := hw2.below bv
                  replace hz := hz.below bv
                  replace hu2 := hu2.below bv
                  have hv2 := OwnI.of ov
                  clear ov bv E23
                  go_wp2_with fail
                  refine (same_any Az Aw nz cz nz cw _ _ w24 _ _ (RowI.reads (OwnI.rowHeld hz)) (RowI.reads (OwnI.rowHeld hw2)) (by omega)).mono ?_
                  rw [decide_eq_true rfl]
                  rintro e w25 ⟨rfl, k25, rfl⟩
                  go_wp2_with fail
                  refine (safe_any R 1 d8 S8 _ (E24.out.drewN k25).d HLd.out.1 HLd.out.2).mono ?_
                  rw [HD8.out.2.2.1]
                  rintro e w26 ⟨As, ns, cs, rfl, os, bs⟩
                  have hns : ns = nv := by have h1 := (own_len os).1; have := HM.out; omega
                  subst hns
                  have E26 := Lib.hid ((E24.out.drewN k25).next bs)
                  have hu3 := (hu2.drewN k25).below bs
                  have hv3 := (hv2.drewN k25).below bs
                  have hs2 := OwnI.of os
                  clear os bs E24 hu2 hv2 hz hw2
                  go_wp2_with fail
                  refine (same_any As b ns cs ns q r r w26 _ _ (RowI.reads (OwnI.rowHeld hs2)) E26.out.rB (by omega)).mono ?_
                  rw [decide_eq_true rfl]
                  rintro e w27 ⟨rfl, k27, rfl⟩
                  go_wp2_with fail
                  refine (same_any Au a nu cu nu c l l _ _ _ ((RowI.reads (OwnI.rowHeld hu3)).drewN k27) (E26.out.rA.drewN k27) (by omega)).mono ?_
                  rw [decide_eq_true rfl]
                  rintro e w28 ⟨rfl, k28, hw28⟩
                  have E28 : Hid (KEnv w w5.heap.size w8.heap.size a nu l b ns r R d8 S8 R' (DK.new l r) S' w28) := Lib.hid (by rw [hw28]; exact (E26.out.drewN k27).drewN k28)
                  have hv4 : Reads w28 w28.heap.size 1 Av ns (bts r) := by rw [hw28]; exact ((RowI.reads (OwnI.rowHeld hv3)).drewN k27).drewN k28
                  clear hw28
                  go_wp2_with fail
                  refine (same_any Av b ns cv ns q r r w28 _ _ hv4 E28.out.rB (by omega)).mono ?_
                  rw [decide_eq_true rfl]
                  rintro e w29 ⟨rfl, k29, rfl⟩
                  go_wp2
                  go_ret
                  exact ⟨rfl, (E28.out.drewN k29).bel⟩
end Go.Proofs.Ytinailbjfembfaa.Pk
