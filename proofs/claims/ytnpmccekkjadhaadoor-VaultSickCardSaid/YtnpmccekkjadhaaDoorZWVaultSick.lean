/- The walk of the law VaultSick. -/
import Derived.Test.YtnpmccekkjadhaaDoorZWak
import Derived.Test.YtnpmccekkjadhaaDoorZArg
import Derived.Test.YtnpmccekkjadhaaDoorZDskB
namespace Go.Proofs.YtnpmccekkjadhaaDoor.Pk
open Go.RowKit Go.Proofs.YtnpmccekkjadhaaDoor.Ar Go.Proofs.YtnpmccekkjadhaaDoor.Crc Go.Proofs.YtnpmccekkjadhaaDoor.Fr Go.Proofs.YtnpmccekkjadhaaDoor.Dk Go.Proofs.YtnpmccekkjadhaaDoor.Vk
set_option linter.unusedVariables false

set_option maxRecDepth 100000 in
set_option maxHeartbeats 8000000 in
theorem law_VaultSick (openC : OpenC) (appendC : AppendC) (ckpC : CkpC) (genC : GenC) (a : Option Addr) (n c : Nat) (ps : List Piece) (x : Int) (b : Option Addr) (m j : Nat) (l : List Int) (w : World) (ht : Tab w) (h : ArgL w a n c ps) (hn : n ≤ 140737488351232) (hx : -9223372036854775808 ≤ x ∧ x ≤ 9223372036854775807) (h' : ArgB w b m j l) :
    Calls Tryd.prog 7 #[.slice a n c, .int .i64 x, .slice b m j] w fun e w' => e = .returned (.bool true) ∧ Below w.heap.size w w' := by
  obtain ⟨hr, hnc, hok⟩ := h
  obtain ⟨hr', hmd, hmx, hB'⟩ := h'
  have hm1 : m ≤ 140737488351232 := by omega
  clear hmx
  have HO := Lib.hid openC
  have HA := Lib.hid appendC
  have HC := Lib.hid ckpC
  have HGe := Lib.hid genC
  have HT := Lib.hid ht
  have HR := Lib.hid hr
  have HK := Lib.hid hok
  have HR' := Lib.hid hr'
  have HMd := Lib.hid hmd
  have HB' : Hid (Bytes l) := Lib.hid hB'
  have HL : Hid (ps.length = n) := Lib.hid hr.len
  have HL' : Hid (l.length = m) := Lib.hid (by have := hr'.1; simpa using this)
  have HX := Lib.hid hx
  have hp := ht.pos
  have HP := Lib.hid hp
  obtain ⟨d1, e1, f1⟩ := opn_new [] (by simp)
  have HE1 := Lib.hid e1
  have HF1 := Lib.hid f1
  have fit0 : (DK.new [] []).fit 0 0 := DK.fit.new [] [] (by simp) (by simp)
  have HT0 := Lib.hid fit0
  have fit1 := opn_fit fit0 []
  rw [e1] at fit1
  have HT1 := Lib.hid fit1
  clear openC appendC ckpC genC ht hr hok hr' hmd hB' hx hp e1 f1 fit0 fit1
  go_enter Tryd.func7, Tryd.ntmps7
  go_wp2_with fail
  refine (wakes_any HO.out HA.out w HT.out).mono ?_
  rintro e w1 ⟨rfl, hb1⟩
  have HB1 := Lib.hid hb1
  clear hb1
  by_cases hn2 : 200 < n
  case pos =>
    go_wp2
    go_ret
    exact ⟨rfl, HB1.out⟩
  by_cases hm2 : 65536 < m
  case pos =>
    go_wp2
    go_ret
    exact ⟨rfl, HB1.out⟩
  go_wp2_with fail
  refine (new_any w1).mono ?_
  rintro e w2 ⟨R, S, rfl, hD, hS, hb2⟩
  have HB2 := Lib.hid (HB1.out.trans (hb2.mono HB1.out.size))
  have HS : Hid (∀ b, S b → w.heap.size ≤ b) := Lib.hid (fun b hb => Nat.le_trans HB1.out.size (hS b hb))
  have HD := Lib.hid hD
  clear hb2 hD hS
  go_wp2_with fail
  refine (HO.out R none 0 0 [] (DK.new [] []) S w2 (HT.out.next HB2.out) (fun h0 => by have := HS.out 0 h0; have := HP.out; omega) HD.out Reads.none_ (Nat.le_refl _) (fun x hx => by simp at hx) ⟨fun x hx => by simp [DK.new, FL.all] at hx, fun x hx => by simp [DK.new, FL.all] at hx⟩ (fun h0 => by omega) (by omega) 0 0 HT0.out (by omega) (by omega)).mono ?_
  rintro e w3 hop
  unfold OpnP at hop
  rw [HE1.out] at hop
  rcases hop with ⟨hne, _⟩ | ⟨_, v, Q, vs, vr, U, lo, hi, hv, rfl, hm, ht3, hf3, hlo, hhi, hsn, hrc, hap⟩
  · exact absurd rfl hne
  injection hv with hv
  subst hv
  have hV : AtV w Q R d1 ⟨0, 1, [], [], 0⟩ U w3 := ⟨hm, from_base hf3 HS.out HB2.out.size, ht3.below HB2.out HB2.out.size HS.out⟩
  have HV := Lib.hid hV
  obtain ⟨S3, hD3, _, hst3⟩ := hm.disk
  have HD3 := Lib.hid hD3
  have HSt3 := Lib.hid hst3
  clear hm ht3 hf3 hlo hhi hsn hrc hap hV hD3 hst3
  go_wp2_with fail
  refine (arm_any R x 0 d1 S3 w3 HD3.out).mono ?_
  rintro e w4 ⟨rfl, S4, hD4, ht4, hf4⟩
  obtain ⟨U4, hm4, ht5, hf5⟩ := HSt3.out _ w4 S4 hD4 ht4 hf4
  have HV4 := Lib.hid (HV.out.step hm4 ht5 hf5)
  have HFt4 : Hid ((d1.arm x 0).fit 16 4) := Lib.hid (by have h := HT1.out; exact ⟨h.l0, h.l1, h.c, by have := HX.out; simp [DK.arm]; omega, by simp [DK.arm], by simp [DK.arm]⟩)
  have HOn4 : Hid ((d1.arm x 0).on = true) := Lib.hid HF1.out.calm.on
  obtain ⟨d4, hd4⟩ : ∃ d4, d4 = d1.arm x 0 := ⟨_, rfl⟩
  rw [← hd4] at HV4 HFt4 HOn4
  clear hd4 hD4 ht4 hf4 hm4 ht5 hf5 HV HD3 HSt3 HE1 HF1 HT1 HT0 HD HS
  go_wp2
  go_loopw [11, 13, 40] (fun e _ i wr => ∃ (k : Nat) (d : DK) (rs : List (List Int)) (U : Nat → Prop), e = .int .i64 0 ∧ i = .int .i64 k ∧ k ≤ n ∧ AtV w Q R d ⟨0, 1, [], rs, 0⟩ U wr ∧ d.on = true ∧ d.fit (16 + k * 65544) (4 + 2 * k) ∧ rs.length = k) (fun _ _ i _ => n - (intOf i).toNat)
  case atStart => exact ⟨0, d4, [], _, rfl, rfl, by omega, HV4.out, HOn4.out, by simpa using HFt4.out, rfl⟩
  case round =>
    obtain ⟨k, d, rs, U6, rfl, rfl, hk, hV, hon, hft, hrs⟩ := hrel
    obtain ⟨w6, rfl⟩ : ∃ w6 : World, w6 = wr := ⟨_, rfl⟩
    have HV := Lib.hid hV
    have HOn := Lib.hid hon
    have HFt := Lib.hid hft
    have HRs := Lib.hid hrs
    clear hV hon hft hrs HV4 HOn4 HFt4
    by_cases hlt : k < n
    · obtain ⟨g, off, p, rfl, hpk, hpm, hgb, hx2⟩ := (HR.out.below HV.out.bel).at_ hlt
      by_cases hbig : 65536 < p.n
      case pos =>
        clear hpk
        go_wp2
        go_ret
        exact ⟨rfl, HV.out.bel⟩
      have hp1 := (HR.out.2 p hpm).1
      have hpl : p.l.length = p.n := by have := hp1.1; simpa using this
      have HAp := Lib.hid (HA.out Q R p.a p.n p.c p.l d ⟨0, 1, [], rs, 0⟩ U6 w6 (HV.out.tab HT.out) (HV.out.zero HT.out) HV.out.mod ((hp1.below HV.out.bel).more HV.out.bel.size) (HK.out p hpm).1 (HK.out p hpm).2
        (fun h0 ad e hs => by obtain ⟨ad', e', hlt', _⟩ := hp1.2 h0; rw [e] at e'; injection e' with e'; subst e'; have := HV.out.new _ hs; omega) (.inl rfl) (by omega) (by show rs.length ≤ _; have := HRs.out; omega) _ _ HFt.out (by omega) (by omega))
      have HFn := Lib.hid (apd_fit HFt.out ⟨0, 1, [], rs, 0⟩ p.l)
      have HPl := Lib.hid hpl
      rcases apd_on (v := ⟨0, 1, [], rs, 0⟩) HOn.out (.inl rfl) rfl (r := p.l) (by omega) with ⟨q1, q2, q3⟩ | ⟨q1, q2, q3⟩
      case inl =>
        rw [q1, q3] at HAp
        have HQ2 := Lib.hid q2
        clear hpk hpm hp1 hpl q1 q2 q3
        go_wp2_with fail
        refine HAp.out.mono ?_
        rintro e w7 hap
        obtain ⟨rfl, U7, hV7⟩ := HV.out.aft hap
        have HV7 := Lib.hid hV7
        clear hap hV7
        go_wp2
        go_roundw
        case rel => exact ⟨k + 1, _, _, _, rfl, by go_num, by omega, HV7.out, HQ2.out, HFn.out.mono (by have := HPl.out; omega) (by omega), by have := HRs.out; simp; omega⟩
        case measure => simp [intOf]; omega
      case inr =>
        rw [q1, q3] at HAp
        have HQ2 := Lib.hid q2
        clear hpk hpm hp1 hpl q1 q2 q3
        go_wp2_with fail
        refine HAp.out.mono ?_
        rintro e w7 hap
        obtain ⟨rfl, U7, hV7⟩ := HV.out.aft hap
        have HV7 := Lib.hid hV7
        obtain ⟨d7, hd7⟩ : ∃ d7, d7 = (apd d ⟨0, 1, [], rs, 0⟩ p.l).2.1 := ⟨_, rfl⟩
        rw [← hd7] at HV7 HQ2 HFn
        obtain ⟨S7, hD7, _, hst7⟩ := HV7.out.mod.disk
        have HD7 := Lib.hid hD7
        have HSt7 := Lib.hid hst7
        clear hap hV7 hd7 hD7 hst7 HAp
        have hdn := down_any R d7 S7 w7 HD7.out
        rw [HQ2.out] at hdn
        have HDn := Lib.hid hdn
        clear hdn
        go_wp2_with fail
        refine HDn.out.mono ?_
        rintro e w8 ⟨rfl, hw8⟩
        rw [← hw8]
        clear hw8 w8
        go_wp2_with fail
        refine (on_any R d7 S7 w7 HD7.out).mono ?_
        rintro e w8 ⟨rfl, S8, hD8, ht8, hf8⟩
        obtain ⟨U8, hm8, ht9, hf9⟩ := HSt7.out _ w8 S8 hD8 ht8 hf8
        have HV8 := Lib.hid (HV7.out.step hm8 ht9 hf9)
        have HD8 := Lib.hid hD8
        have HFt8 : Hid (d7.ons.fit (16 + k * 65544 + (8 + p.l.length)) (4 + 2 * k + 2)) := Lib.hid (by have h := HFn.out; exact ⟨h.l0, h.l1, h.c, h.a, h.k0, h.k1⟩)
        have hl7 : d7.ons.cnt ≤ 1000 := by have := HFt8.out.c; omega
        obtain ⟨d8, hd8⟩ : ∃ d8, d8 = d7.ons := ⟨_, rfl⟩
        rw [← hd8] at HV8 HD8 HFt8 hl7
        have HPl' : Hid (p.l.length ≤ 65536) := Lib.hid (by have := HPl.out; omega)
        clear hd8 hD8 ht8 hf8 hm8 ht9 hf9 HV7 HD7 HSt7 HQ2 HFn
        go_wp2_with fail
        refine (writes_any R d8 S8 w8 HD8.out).mono ?_
        rintro e w9 ⟨rfl, hw9⟩
        rw [← hw9]
        clear hw9 w9
        have HAp := Lib.hid (HA.out Q R b m j l d8 ⟨0, 1, [], rs, 40⟩ U8 w8 (HV8.out.tab HT.out) (HV8.out.zero HT.out) HV8.out.mod ((HR'.out.below HV8.out.bel).more HV8.out.bel.size) HMd.out HB'.out
          (fun h0 ad e hs => by obtain ⟨ad', e', hlt', _⟩ := HR'.out.2 h0; rw [e] at e'; injection e' with e'; subst e'; have := HV8.out.new _ hs; omega) (.inl rfl) (by omega) (by show rs.length ≤ _; have := HRs.out; omega) _ _ HFt8.out (by have := HPl'.out; omega) (by omega))
        rw [apd_sick (by show (40 : Int) ≠ 0; decide) (by have := HL'.out; omega)] at HAp
        go_wp2_with fail
        refine HAp.out.mono ?_
        rintro e w9 hap
        obtain ⟨rfl, U9, hV9⟩ := HV8.out.aft hap
        have HV9 := Lib.hid hV9
        have HCk := Lib.hid (HC.out Q R b m j l d8 ⟨0, 1, [], rs, 40⟩ U9 w9 (hV9.tab HT.out) (hV9.zero HT.out) hV9.mod ((HR'.out.below hV9.bel).more hV9.bel.size) HMd.out HB'.out
          (fun h0 ad e hs => by obtain ⟨ad', e', hlt', _⟩ := HR'.out.2 h0; rw [e] at e'; injection e' with e'; subst e'; have := hV9.new _ hs; omega) (.inl rfl) (by omega) (by show 1 ≤ 4611686018427387904; omega) _ _ HFt8.out (by have := HPl'.out; omega) (by omega))
        rw [ckp_sick (by show (40 : Int) ≠ 0; decide) (by have := HL'.out; omega) (by show 1 < 4611686018427387904; decide)] at HCk
        clear hap hV9 HAp
        go_wp2_with fail
        refine HCk.out.mono ?_
        rintro e w10 hap
        obtain ⟨rfl, U10, hV10⟩ := HV9.out.aft hap
        have HV10 := Lib.hid hV10
        obtain ⟨S10, hD10, _, _⟩ := hV10.mod.disk
        have HD10 := Lib.hid hD10
        clear hap hV10 hD10 HCk
        go_wp2_with fail
        refine (writes_any R d8 S10 w10 HD10.out).mono ?_
        rintro e w11 ⟨rfl, hw11⟩
        rw [← hw11]
        clear hw11 w11
        go_wp2_with fail
        refine (HGe.out Q R _ _ U10 w10 HV10.out.mod).mono ?_
        rintro e w11 ⟨rfl, hw11⟩
        rw [← hw11]
        clear hw11 w11
        go_wp2
        go_ret
        exact ⟨rfl, HV10.out.bel⟩
    · obtain rfl : k = n := by omega
      obtain ⟨S7, hD7, _, _⟩ := HV.out.mod.disk
      have hdn := down_any R d S7 w6 hD7
      rw [HOn.out] at hdn
      have HDn := Lib.hid hdn
      clear hD7 hdn
      go_wp2_with fail
      refine HDn.out.mono ?_
      rintro e w8 ⟨rfl, hw8⟩
      rw [← hw8]
      clear hw8 w8
      go_wp2
      go_ret
      exact ⟨rfl, HV.out.bel⟩
end Go.Proofs.YtnpmccekkjadhaaDoor.Pk
