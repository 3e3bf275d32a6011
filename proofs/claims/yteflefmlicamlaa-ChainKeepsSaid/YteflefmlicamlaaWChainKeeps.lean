/- The walk of the law ChainKeeps. -/
import Derived.Test.YteflefmlicamlaaChWakes
import Derived.Test.YteflefmlicamlaaCeKeep
namespace Go.Proofs.Yteflefmlicamlaa.Pk
open Go.RowKit Go.Shelf
set_option linter.unusedVariables false
attribute [local go_sem] Oper.semAt_some
set_option maxRecDepth 100000 in
set_option maxHeartbeats 16000000 in
theorem law_ChainKeeps (HAd : AddP) (HSu : SuccP) (HGr : GrantP) (HRe : RelP) (A : Option Addr) (n c : Nat) (l : List Ce) (d x : Int) (w : World) (hin : InK w l A n c) (hd : J64 d) (hx : J64 x) :
    Calls Try.prog 6 #[.slice A n c, .int .i64 d, .int .i64 x] w fun e w' => e = .returned (.bool true) ∧ Below w.heap.size w w' := by
  have HW := Lib.hid (wakesC HSu HRe w)
  have HI := Lib.hid hin
  have HL := Lib.hid hin.len
  have hn := hin.few
  have HAd := Lib.hid HAd
  have HSu := Lib.hid HSu
  have HGr := Lib.hid HGr
  have HRe := Lib.hid HRe
  have HJd := Lib.hid hd
  have HJx := Lib.hid hx
  clear hin hd hx
  have HLs := Lib.hid (succK_len l d x)
  have HLg := Lib.hid (grantK_len l x)
  have HLr := Lib.hid (relK_len l)
  have HLa : Hid ((addK l x).length = n + 1) := Lib.hid (by unfold addK; rw [List.length_append, HL.out]; rfl)
  rw [HL.out] at HLs HLg HLr
  have HRa := Lib.hid (fun (W : World) (hb : Below w.heap.size w W) => refadd_any A n c l x W (HI.out.next hb))
  obtain ⟨la, hla⟩ : ∃ r, r = addK l x := ⟨_, rfl⟩
  obtain ⟨⟨lb, gb⟩, hlb⟩ : ∃ r, r = succK l d x := ⟨_, rfl⟩
  obtain ⟨⟨lc, gc⟩, hlc⟩ : ∃ r, r = grantK l x := ⟨_, rfl⟩
  obtain ⟨⟨ld, r1, r2, r3⟩, hld⟩ : ∃ r, r = relK l := ⟨_, rfl⟩
  have HPa := Lib.hid (fun (A' : Option Addr) (c' : Nat) (W : World) (h : InK W l A' n c') => HAd.out A' n c' l x W h HJx.out)
  have HPb := Lib.hid (fun (A' : Option Addr) (c' : Nat) (W : World) (h : InK W l A' n c') => HSu.out A' n c' l d x W h HJd.out HJx.out)
  have HPc := Lib.hid (fun (A' : Option Addr) (c' : Nat) (W : World) (h : InK W l A' n c') => HGr.out A' n c' l x W h HJx.out)
  have HPd := Lib.hid (fun (A' : Option Addr) (c' : Nat) (W : World) (h : InK W l A' n c') => HRe.out A' n c' l W h)
  rw [← hla] at HPa HRa HLa
  rw [← hlb] at HPb HLs
  rw [← hlc] at HPc HLg
  rw [← hld] at HPd HLr
  simp only at HPb HPc HPd HLs HLg HLr
  clear hla hlb hlc hld HAd HSu HGr HRe
  go_enter Try.func6, Try.ntmps6
  go_wp2_with fail
  refine HW.out.mono ?_
  rintro e w1 ⟨rfl, hb⟩
  have HB1 := Lib.hid hb
  clear hb
  go_wp2_with (first
    | (at_builtin; go_loud (refine appKE w1 rfl (.tmp 24) (.tmp 25) rfl w1.heap.size rfl w1.heap.size A c l n rfl (HI.out.next HB1.out).rd (Nat.le_refl _) (by omega) (Nat.le_refl _) ?_); intro v2 w2 ho2 hb2; obtain ⟨A2, n2, c2, rfl⟩ := ownK_slice ho2; have HO2 := Lib.hid ho2; have HB12 := Lib.hid hb2; clear ho2 hb2)
    | (at_builtin; (obtain ⟨w3, hw3⟩ : ∃ v, v = w2.alloc (.cells #[.int .i64 71, .int .i64 0, .int .i64 0, .int .i64 0, .int .i64 72, .int .i64 0, .int .i64 0, .int .i64 0] 36) := ⟨_, rfl⟩; have hb23 : Below w2.heap.size w2 w3 := hw3 ▸ (Below.refl _ _).alloc (Nat.le_refl _) _; have hrm : Reads w3 (w2.heap.size + 1) 4 (some ⟨w2.heap.size, 0, none⟩) 2 (ces [ceN 71, ceN 72]) := (by rw [hw3]; exact reads_newK w2 _ _ 2 rfl); rw [← hw3]; refine appKs w3 rfl (.tmp 26) (.tmp 29) rfl w1.heap.size (.slice A2 n2 c2) l rfl (HO2.out.below hb23) (w2.heap.size + 1) _ 2 [ceN 71, ceN 72] 2 rfl hrm (by have := HL.out; omega) (by have := HB12.out.size; have := hb23.size; omega) ?_; intro v5 w5 ho hb5 hat hgr; clear hw3 hrm hat hgr; obtain ⟨A5, n5, c5, rfl⟩ := ownK_slice ho; have hn5 : n5 = n + 2 := (by have h1 := OwnK.mlen ho; have := HL.out; rw [List.length_append] at h1; simp at h1; omega); subst hn5; obtain ⟨gm, rfl, hg1, hg2, _⟩ := OwnK.spot (i := 0) ho (by omega); have hc5 := OwnK.le ho; have HO5 := Lib.hid ho; have hb : Below w1.heap.size w1 w5 := HB12.out.trans ((hb23.mono HB12.out.size).trans hb5); have HB5 := Lib.hid (HB1.out.trans (hb.mono HB1.out.size)); clear hb; have z1 : ¬ (c5 = 0) := (by omega); have z2 : n ≤ c5 := (by omega); have z3 : (n : Int) ≤ (c5 : Int) := (by omega); have HGm := Lib.hid (And.intro hg1 hg2); have HIn : Hid (InK w5 l (some ⟨gm, 0, none⟩) n c5) := Lib.hid ⟨readsK_take (ownK_reads ho) HL.out, z2, hn, HI.out.i⟩; clear ho hb23 hb5 hg1 hg2))
    | fail)
  have HM5 : Hid (Below w5.heap.size w5 w5) := Lib.hid (Below.refl _ _)
  have zz : n + 2 ≤ c5 := by omega
  refine (HPa.out _ _ w5 (HIn.out.next HM5.out)).mono ?_
  rintro e w6 ⟨v, rfl, ho, hb⟩
  obtain ⟨Aa, ca, rfl⟩ := ho.sl
  have HB6 := Lib.hid (HB5.out.trans (hb.mono HB5.out.size))
  have HM6 := Lib.hid (HM5.out.trans (hb.mono HM5.out.size))
  have HZ6 := Lib.hid hb.size
  have HOa_6 := Lib.hid ho
  clear ho hb
  clear z1 z2 z3
  go_wp2_with fail
  refine (HPb.out _ _ w6 (HIn.out.next HM6.out)).mono ?_
  rintro e w7 ⟨v, rfl, ho, hb⟩
  obtain ⟨Ab, cb, rfl⟩ := ho.sl
  have HB7 := Lib.hid (HB6.out.trans (hb.mono HB6.out.size))
  have HM7 := Lib.hid (HM6.out.trans (hb.mono HM6.out.size))
  have HZ7 := Lib.hid hb.size
  have HOa_7 := Lib.hid (OwnK.below HOa_6.out hb)
  have HOb_7 := Lib.hid ho
  clear ho hb
  go_wp2_with fail
  refine (HPc.out _ _ w7 (HIn.out.next HM7.out)).mono ?_
  rintro e w8 ⟨v, rfl, ho, hb⟩
  obtain ⟨Ac, cc, rfl⟩ := ho.sl
  have HB8 := Lib.hid (HB7.out.trans (hb.mono HB7.out.size))
  have HM8 := Lib.hid (HM7.out.trans (hb.mono HM7.out.size))
  have HZ8 := Lib.hid hb.size
  have HOa_8 := Lib.hid (OwnK.below HOa_7.out hb)
  have HOb_8 := Lib.hid (OwnK.below HOb_7.out hb)
  have HOc_8 := Lib.hid ho
  clear ho hb
  go_wp2_with fail
  refine (HPd.out _ _ w8 (HIn.out.next HM8.out)).mono ?_
  rintro e w9 ⟨v, rfl, ho, hb⟩
  obtain ⟨Ad, cd, rfl⟩ := ho.sl
  have HB9 := Lib.hid (HB8.out.trans (hb.mono HB8.out.size))
  have HM9 := Lib.hid (HM8.out.trans (hb.mono HM8.out.size))
  have HZ9 := Lib.hid hb.size
  have HOa_9 := Lib.hid (OwnK.below HOa_8.out hb)
  have HOb_9 := Lib.hid (OwnK.below HOb_8.out hb)
  have HOc_9 := Lib.hid (OwnK.below HOc_8.out hb)
  have HOd_9 := Lib.hid ho
  clear ho hb
  go_wp2_with fail
  refine (HPa.out _ _ w9 (HIn.out.next HM9.out)).mono ?_
  rintro e w10 ⟨v, rfl, ho, hb⟩
  obtain ⟨Ae, ce, rfl⟩ := ho.sl
  have HB10 := Lib.hid (HB9.out.trans (hb.mono HB9.out.size))
  have HM10 := Lib.hid (HM9.out.trans (hb.mono HM9.out.size))
  have HZ10 := Lib.hid hb.size
  have HOa_10 := Lib.hid (OwnK.below HOa_9.out hb)
  have HOb_10 := Lib.hid (OwnK.below HOb_9.out hb)
  have HOc_10 := Lib.hid (OwnK.below HOc_9.out hb)
  have HOd_10 := Lib.hid (OwnK.below HOd_9.out hb)
  have HOe_10 := Lib.hid ho
  clear ho hb
  go_wp2_with fail
  have HSm := Lib.hid (sameK (some ⟨gm, 0, none⟩) A n c5 n c l l w10 (HIn.out.next HM10.out).rd (HI.out.next HB10.out).rd (by omega))
  rw [decide_eq_true (rfl : l = l)] at HSm
  refine HSm.out.mono ?_
  rintro e w11 ⟨rfl, hb⟩
  have HB11 := Lib.hid (HB10.out.trans (hb.mono HB10.out.size))
  have HM11 := Lib.hid (HM10.out.trans (hb.mono HM10.out.size))
  have HZ11 := Lib.hid hb.size
  have HOa_11 := Lib.hid (OwnK.below HOa_10.out hb)
  have HOb_11 := Lib.hid (OwnK.below HOb_10.out hb)
  have HOc_11 := Lib.hid (OwnK.below HOc_10.out hb)
  have HOd_11 := Lib.hid (OwnK.below HOd_10.out hb)
  have HOe_11 := Lib.hid (OwnK.below HOe_10.out hb)
  clear hb HSm
  obtain ⟨q71, q72⟩ := roomK (OwnK.below HO5.out HM11.out) HL.out
  have ib1 : (n : Int) < (n : Int) + 2 := by omega
  have ib2 : (0 : Int) ≤ (n : Int) := by omega
  have ib3 : (0 : Int) ≤ (n : Int) + 1 := by omega
  have ib4 : (n : Int) + 1 < (n : Int) + 2 := by omega
  obtain ⟨xg, hxg⟩ : ∃ x, x = w11.heap.size := ⟨_, rfl⟩
  obtain ⟨w12, hw12⟩ : ∃ v, v = w11.alloc (.cells #[.slice Aa la.length ca, .slice Ab lb.length cb, .slice Ac lc.length cc, .slice Ad ld.length cd] 22) := ⟨_, rfl⟩
  have hb : Below w11.heap.size w11 w12 := hw12 ▸ (Below.refl _ _).alloc (Nat.le_refl _) _
  have HXg : Hid (Blk w12 xg 22 #[.slice Aa la.length ca, .slice Ab lb.length cb, .slice Ac lc.length cc, .slice Ad ld.length cd]) := Lib.hid (by rw [hw12, hxg]; exact Blk.new w11 _ _)
  have HB12 := Lib.hid (HB11.out.trans (hb.mono HB11.out.size))
  have HM12 := Lib.hid (HM11.out.trans (hb.mono HM11.out.size))
  have HZ12 := Lib.hid hb.size
  have HOa_12 := Lib.hid (OwnK.below HOa_11.out hb)
  have HOb_12 := Lib.hid (OwnK.below HOb_11.out hb)
  have HOc_12 := Lib.hid (OwnK.below HOc_11.out hb)
  have HOd_12 := Lib.hid (OwnK.below HOd_11.out hb)
  have HOe_12 := Lib.hid (OwnK.below HOe_11.out hb)
  clear hb
  have HXl : Hid (w10.heap.size ≤ xg ∧ xg < w12.heap.size) := Lib.hid ⟨by have := HZ11.out; omega, HXg.out.lt⟩
  obtain ⟨V, lf, lo, hF, h0, h4, hown⟩ := four_of (s4 := w9.heap.size) (m := n + 1) HOa_12.out HOb_12.out HOc_12.out HOd_12.out (fun x h => ownK_lt HOa_6.out x h) (fun x h => ownK_lt HOb_7.out x h) (fun x h => ownK_lt HOc_8.out x h) (fun x h => ownK_lt HOd_9.out x h) HZ6.out HZ7.out HZ8.out HZ9.out (by have := HLa.out; omega) (by have := HLs.out; omega) (by have := HLg.out; omega) (by have := HLr.out; omega)
  have HF := Lib.hid hF
  have HOw := Lib.hid hown
  have HS0 := Lib.hid h0
  have HS4 := Lib.hid h4
  clear hF hown h0 h4
  have HSe : Hid (∀ b, (∃ t, t < 4 ∧ (V t).ownBlock = some b) → w5.heap.size ≤ b ∧ b < w9.heap.size) := Lib.hid (by
    rintro b ⟨t, ht, hb⟩
    have h1 := HF.out.blk t ht b hb
    have h2 := HF.out.mono 0 t (by omega) (by omega)
    have h3 := HF.out.mono (t + 1) 4 (by omega) (by omega)
    have := HS0.out
    have := HS4.out
    omega)
  go_wp2_with fail
  try rw [← hw12, ← hxg]
  clear hw12 hxg q71 q72
  go_loopw [90] (fun j wr => ∃ i : Nat, j = .int .i64 i ∧ i ≤ 4 ∧ (∀ t, i ≤ t → t < 4 → OwnK wr (lo t) (V t) (lf t)) ∧ OnlyS (fun b => ∃ t, t < 4 ∧ (V t).ownBlock = some b) w12 wr) (fun j _ => 4 - (intOf j).toNat)
  case atStart => exact ⟨0, rfl, by omega, fun t _ ht => HOw.out t ht, OnlyS.refl _ _⟩
  case round =>
    obtain ⟨i, rfl, hi, hrows, hO⟩ := hrel
    obtain ⟨w13, rfl⟩ : ∃ w5 : World, w5 = wr := ⟨_, rfl⟩
    have HR := Lib.hid hrows
    have HO := Lib.hid hO
    have HXg3 : Hid (Blk w13 xg 22 #[.slice Aa la.length ca, .slice Ab lb.length cb, .slice Ac lc.length cc, .slice Ad ld.length cd]) := Lib.hid (hO.blk HXg.out (fun hs => by have h1 := HSe.out xg hs; have := HXl.out; have := HZ10.out; omega))
    clear hrows hO
    by_cases hlt : i < 4
    · obtain ⟨Ai, ci, hVi⟩ := (HR.out i (Nat.le_refl _) hlt).sl
      obtain ⟨ni, hni⟩ : ∃ r, r = (lf i).length := ⟨_, rfl⟩
      have HNi : Hid (ni ≤ n + 1) := Lib.hid (by rw [hni]; exact HF.out.len i hlt)
      have hnl := HNi.out
      have HOi : Hid (OwnK w13 (lo i) (.slice Ai ni ci) (lf i)) := Lib.hid (by have h1 := HR.out i (Nat.le_refl _) hlt; rw [hVi, ← hni] at h1; exact h1)
      have HVi : Hid (V i = .slice Ai ni ci) := Lib.hid (by rw [hVi, ← hni])
      have hgc : w13.cell? ⟨xg, i, none⟩ = some (.slice Ai ni ci) := by rw [HXg3.out.cell i, HF.out.at_ i hlt, HVi.out]
      have HNl := Lib.hid hni
      clear hVi hni
      have ia1 : (i : Int) < 4 := by omega
      go_wp2
      go_loopw [96] (fun j wr => ∃ (k : Nat) (L : List Ce), j = .int .i64 k ∧ k ≤ ni ∧ L.length = ni ∧ OwnK wr (lo i) (.slice Ai ni ci) L ∧ OnlyS (fun b => (Value.slice Ai ni ci).ownBlock = some b) w13 wr) (fun j _ => ni - (intOf j).toNat)
      case atStart => exact ⟨0, lf i, rfl, by omega, HNl.out.symm, HOi.out, OnlyS.refl _ _⟩
      case round =>
        obtain ⟨k, L, rfl, hk, hlL, hown, hO2⟩ := hrel
        obtain ⟨w14, rfl⟩ : ∃ w5 : World, w5 = wr := ⟨_, rfl⟩
        have HLL := Lib.hid hlL
        have HOL := Lib.hid hown
        have HO2 := Lib.hid hO2
        clear hlL hown hO2 hgc
        by_cases hkn : k < ni
        · obtain ⟨g, rfl, hg1, hg2, ⟨u0, u1, u2, u3, k0, k1, k2, k3⟩, hfz, hput⟩ := OwnK.spot HOL.out hkn
          have hp := hput ⟨5, 0, 0, 0⟩
          have HP1 := Lib.hid hp.1
          have HP2 := Lib.hid (hp.2 _ _ HO2.out rfl)
          have f0 := hfz (k * 4)
          have f1 := hfz (k * 4 + 1)
          have f2 := hfz (k * 4 + 2)
          have f3 := hfz (k * 4 + 3)
          clear hp hput hfz
          go_wp2
          go_roundw
          case rel => exact ⟨k + 1, _, by go_num, by omega, by rw [List.length_set]; exact HLL.out, HP1.out, HP2.out⟩
          case measure => simp [intOf]; omega
        · go_wp2_with (first
            | (at_builtin; (obtain ⟨w15, hw15⟩ : ∃ v, v = w14.alloc (.cells #[.int .i64 6, .int .i64 0, .int .i64 0, .int .i64 0, .int .i64 7, .int .i64 0, .int .i64 0, .int .i64 0, .int .i64 8, .int .i64 0, .int .i64 0, .int .i64 0] 36) := ⟨_, rfl⟩; have hb45 : Below w14.heap.size w14 w15 := hw15 ▸ (Below.refl _ _).alloc (Nat.le_refl _) _; have hrm : Reads w15 (w14.heap.size + 1) 4 (some ⟨w14.heap.size, 0, none⟩) 3 (ces [ceN 6, ceN 7, ceN 8]) := (by rw [hw15]; exact reads_newK w14 _ _ 3 rfl); rw [← hw15]; refine appKs w15 rfl (.tmp 104) (.tmp 108) rfl (lo i) (.slice Ai ni ci) L rfl (HOL.out.below hb45) (w14.heap.size + 1) _ 3 [ceN 6, ceN 7, ceN 8] 3 rfl hrm (by have := HLL.out; omega) (by have h1 := HF.out.mono i 4 (by omega) (by omega); have := HS4.out; have := HO.out.size; have := HO2.out.size; have := hb45.size; have := HZ10.out; have := HZ11.out; have := HZ12.out; omega) ?_; intro v6 w6_ ho hb6 hat hgr; have hst : OnlyS (fun b => (Value.slice Ai ni ci).ownBlock = some b) w13 w6_ := onlyS_row4 (HO2.out.below hb45) hgr (fun g e => e); have HST := Lib.hid hst; obtain ⟨A6, n6, c6, rfl⟩ := ownK_slice ho; have hn6 : n6 = ni + 3 := (by have h1 := OwnK.mlen ho; have := HLL.out; rw [List.length_append] at h1; simp at h1; omega); subst hn6; clear hw15 hrm hat hgr ho hb6 hst hb45))
            | fail)
          go_roundw
          case rel =>
            refine ⟨i + 1, by go_num, by omega, fun t h1 h2 => ?_, HO.out.trans4 (HST.out.weak4 (fun b hb => ⟨i, hlt, by rw [HVi.out]; exact hb⟩))⟩
            exact (HR.out t (by omega) h2).onlyS HST.out (fun g e h3 => HF.out.apart (s := i) (t := t) (by omega) h2 e (by rw [HVi.out]; exact h3))
          case measure => simp [intOf]; omega
    · have HB13 : Hid (Below w.heap.size w w13) := Lib.hid (OnlyS.bel HB12.out HO.out (fun b hb => by have h1 := HSe.out b hb; have := HB5.out.size; omega) HB12.out.size)
      have HO13 : Hid (OwnK w13 w1.heap.size (.slice (some ⟨gm, 0, none⟩) (n + 2) c5) (l ++ [ceN 71, ceN 72])) := Lib.hid (OwnK.onlyS (OwnK.below HO5.out HM12.out) HO.out (fun g e hs => by have h1 := HSe.out g hs; have h2 := HGm.out.2; simp [Value.ownBlock] at e; omega))
      have HE13 : Hid (OwnK w13 w9.heap.size (.slice Ae la.length ce) la) := Lib.hid (OwnK.onlyS HOe_12.out HO.out (fun g e hs => by have h1 := HSe.out g hs; have h2 := ownK_base HOe_12.out g e; omega))
      have ia1 : ¬ (i : Int) < 4 := by omega
      have z1 : ¬ (c5 = 0) := by omega
      have z2 : n ≤ c5 := by omega
      have z3 : (n : Int) ≤ (c5 : Int) := by omega
      have HSm := Lib.hid (sameK (some ⟨gm, 0, none⟩) A n c5 n c l l w13 (readsK_take (ownK_reads HO13.out) HL.out) (HI.out.next HB13.out).rd (by omega))
      rw [decide_eq_true (rfl : l = l)] at HSm
      clear HO HR HXg3
      go_wp2_with fail
      refine HSm.out.mono ?_
      rintro e w14 ⟨rfl, hb⟩
      have HB14 := Lib.hid (HB13.out.trans (hb.mono HB13.out.size))
      obtain ⟨q71, q72⟩ := roomK (OwnK.below HO13.out hb) HL.out
      have HE14 := Lib.hid (OwnK.below HE13.out hb)
      clear hb HSm
      go_wp2_with fail
      refine (HRa.out w14 HB14.out).mono ?_
      rintro e w15 ⟨v, rfl, ho, hb⟩
      obtain ⟨Az, cz, rfl⟩ := ho.sl
      have HB15 := Lib.hid (HB14.out.trans (hb.mono HB14.out.size))
      have HSn := Lib.hid (sameK Ae Az la.length ce la.length cz la la w15 (ownK_reads (OwnK.below HE14.out hb)) (ownK_reads ho) (by have := HLa.out; omega))
      rw [decide_eq_true (rfl : la = la)] at HSn
      clear ho hb q71 q72
      go_wp2_with fail
      refine HSn.out.mono ?_
      rintro e w16 ⟨rfl, hb⟩
      have HB16 := Lib.hid (HB15.out.trans (hb.mono HB15.out.size))
      clear hb HSn
      go_wp2
      go_ret
      exact ⟨rfl, HB16.out⟩
end Go.Proofs.Yteflefmlicamlaa.Pk
