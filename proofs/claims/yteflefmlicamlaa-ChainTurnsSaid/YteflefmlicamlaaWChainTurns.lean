/- The walk of the law ChainTurns. -/
import Derived.Test.YteflefmlicamlaaChWakes
import Derived.Test.YteflefmlicamlaaChRef3
import Derived.Test.YteflefmlicamlaaChUse
namespace Go.Proofs.Yteflefmlicamlaa.Pk
open Go.RowKit
set_option linter.unusedVariables false
set_option maxRecDepth 100000 in
set_option maxHeartbeats 8000000 in
theorem law_ChainTurns (HAd : AddP) (HSu : SuccP) (HGr : GrantP) (HRe : RelP) (A : Option Addr) (n c : Nat) (l : List Ce) (d x : Int) (w : World) (hin : InK w l A n c) (hd : J64 d) (hx : J64 x) :
    Calls Try.prog 4 #[.slice A n c, .int .i64 d, .int .i64 x] w fun e w' => e = .returned (.bool true) ∧ Below w.heap.size w w' := by
  have HW := Lib.hid (wakesC HSu HRe w)
  have hn := hin.few
  have HL := Lib.hid hin.len
  have HA1 := Lib.hid (fun (W : World) (hb : Below w.heap.size w W) => HAd A n c l x W (hin.next hb) hx)
  have HA2 := Lib.hid (fun (W : World) (hb : Below w.heap.size w W) => refadd_any A n c l x W (hin.next hb))
  have HS1 := Lib.hid (fun (W : World) (hb : Below w.heap.size w W) => HSu A n c l d x W (hin.next hb) hd hx)
  have HS2 := Lib.hid (fun (W : World) (hb : Below w.heap.size w W) => refsucc_any A n c l d x W (hin.next hb))
  have HG1 := Lib.hid (fun (W : World) (hb : Below w.heap.size w W) => HGr A n c l x W (hin.next hb) hx)
  have HG2 := Lib.hid (fun (W : World) (hb : Below w.heap.size w W) => refgrant_any A n c l x W (hin.next hb))
  have HR1 := Lib.hid (fun (W : World) (hb : Below w.heap.size w W) => HRe A n c l W (hin.next hb))
  have HR2 := Lib.hid (fun (W : World) (hb : Below w.heap.size w W) => refrel_any A n c l W (hin.next hb))
  have HM : Hid ((addK l x).length ≤ 4398046511001 ∧ (succK l d x).1.length ≤ 4398046511001 ∧ (grantK l x).1.length ≤ 4398046511001 ∧ (relK l).1.length ≤ 4398046511001) := Lib.hid (by
    have h1 := succK_len l d x
    have h2 := grantK_len l x
    have h3 := relK_len l
    have h4 := HL.out
    unfold addK
    rw [List.length_append, List.length_singleton]
    omega)
  clear hin HAd HSu HGr HRe
  obtain ⟨la, hla⟩ : ∃ r, r = addK l x := ⟨_, rfl⟩
  obtain ⟨⟨ls, bs⟩, hs⟩ : ∃ r, r = succK l d x := ⟨_, rfl⟩
  obtain ⟨⟨lg, bg⟩, hg⟩ : ∃ r, r = grantK l x := ⟨_, rfl⟩
  obtain ⟨⟨lr, r1, r2, r3⟩, hr⟩ : ∃ r, r = relK l := ⟨_, rfl⟩
  rw [← hla] at HA1 HA2 HM
  rw [← hs] at HS1 HS2 HM
  rw [← hg] at HG1 HG2 HM
  rw [← hr] at HR1 HR2 HM
  simp only at HS1 HS2 HG1 HG2 HR1 HR2 HM
  clear hla hs hg hr
  have s1 : (bs != bs) = false := by simp
  have s2 : (bg != bg) = false := by simp
  have s3 : (r1 == r1) = true := by simp
  have s4 : (r2 == r2) = true := by simp
  have s5 : (r3 == r3) = true := by simp
  go_enter Try.func4, Try.ntmps4
  go_wp2_with fail
  refine HW.out.mono ?_
  rintro e w1 ⟨rfl, hb⟩
  have HB1 := Lib.hid hb
  clear hb
  go_wp2_with fail
  refine (HA1.out w1 HB1.out).mono ?_
  rintro e w2 ⟨v, rfl, ho, hb⟩
  obtain ⟨A2, c2, rfl⟩ := ho.sl
  have HB2 := Lib.hid (HB1.out.trans (hb.mono HB1.out.size))
  have HO2 := Lib.hid ho
  clear hb ho
  go_wp2_with fail
  refine (HA2.out w2 HB2.out).mono ?_
  rintro e w3 ⟨v, rfl, ho, hb⟩
  obtain ⟨A3, c3, rfl⟩ := ho.sl
  have HB3 := Lib.hid (HB2.out.trans (hb.mono HB2.out.size))
  have HSm := Lib.hid (sameK A2 A3 la.length c2 la.length c3 la la w3 (ownK_reads (OwnK.below HO2.out hb)) (ownK_reads ho) (by have := HM.out; omega))
  rw [decide_eq_true (rfl : la = la)] at HSm
  clear hb ho HO2
  go_wp2_with fail
  refine HSm.out.mono ?_
  rintro e w4 ⟨rfl, hb⟩
  have HB4 := Lib.hid (HB3.out.trans (hb.mono HB3.out.size))
  clear hb HSm
  go_wp2_with fail
  refine (HS1.out w4 HB4.out).mono ?_
  rintro e w5 ⟨v, rfl, ho, hb⟩
  obtain ⟨A5, c5, rfl⟩ := ho.sl
  have HB5 := Lib.hid (HB4.out.trans (hb.mono HB4.out.size))
  have HO5 := Lib.hid ho
  clear hb ho
  go_wp2_with fail
  refine (HS2.out w5 HB5.out).mono ?_
  rintro e w6 ⟨v, rfl, ho, hb⟩
  obtain ⟨A6, c6, rfl⟩ := ho.sl
  have HB6 := Lib.hid (HB5.out.trans (hb.mono HB5.out.size))
  have HSm := Lib.hid (sameK A5 A6 ls.length c5 ls.length c6 ls ls w6 (ownK_reads (OwnK.below HO5.out hb)) (ownK_reads ho) (by have := HM.out; omega))
  rw [decide_eq_true (rfl : ls = ls)] at HSm
  clear hb ho HO5
  go_wp2_with fail
  refine HSm.out.mono ?_
  rintro e w7 ⟨rfl, hb⟩
  have HB7 := Lib.hid (HB6.out.trans (hb.mono HB6.out.size))
  clear hb HSm
  go_wp2_with fail
  refine (HG1.out w7 HB7.out).mono ?_
  rintro e w8 ⟨v, rfl, ho, hb⟩
  obtain ⟨A8, c8, rfl⟩ := ho.sl
  have HB8 := Lib.hid (HB7.out.trans (hb.mono HB7.out.size))
  have HO8 := Lib.hid ho
  clear hb ho
  go_wp2_with fail
  refine (HG2.out w8 HB8.out).mono ?_
  rintro e w9 ⟨v, rfl, ho, hb⟩
  obtain ⟨A9, c9, rfl⟩ := ho.sl
  have HB9 := Lib.hid (HB8.out.trans (hb.mono HB8.out.size))
  have HSm := Lib.hid (sameK A8 A9 lg.length c8 lg.length c9 lg lg w9 (ownK_reads (OwnK.below HO8.out hb)) (ownK_reads ho) (by have := HM.out; omega))
  rw [decide_eq_true (rfl : lg = lg)] at HSm
  clear hb ho HO8
  go_wp2_with fail
  refine HSm.out.mono ?_
  rintro e w10 ⟨rfl, hb⟩
  have HB10 := Lib.hid (HB9.out.trans (hb.mono HB9.out.size))
  clear hb HSm
  go_wp2_with fail
  refine (HR1.out w10 HB10.out).mono ?_
  rintro e w11 ⟨v, rfl, ho, hb⟩
  obtain ⟨A11, c11, rfl⟩ := ho.sl
  have HB11 := Lib.hid (HB10.out.trans (hb.mono HB10.out.size))
  have HO11 := Lib.hid ho
  clear hb ho
  go_wp2_with fail
  refine (HR2.out w11 HB11.out).mono ?_
  rintro e w12 ⟨v, rfl, ho, hb⟩
  obtain ⟨A12, c12, rfl⟩ := ho.sl
  have HB12 := Lib.hid (HB11.out.trans (hb.mono HB11.out.size))
  have HSm := Lib.hid (sameK A11 A12 lr.length c11 lr.length c12 lr lr w12 (ownK_reads (OwnK.below HO11.out hb)) (ownK_reads ho) (by have := HM.out; omega))
  rw [decide_eq_true (rfl : lr = lr)] at HSm
  clear hb ho HO11
  go_wp2_with fail
  refine HSm.out.mono ?_
  rintro e w13 ⟨rfl, hb⟩
  have HB13 := Lib.hid (HB12.out.trans (hb.mono HB12.out.size))
  clear hb HSm
  go_wp2
  go_ret
  exact ⟨rfl, HB13.out⟩
end Go.Proofs.Yteflefmlicamlaa.Pk
