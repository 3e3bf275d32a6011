/- The walk of the law ChainStays. -/
import Derived.Test.YteflefmlicamlaaChWakes
import Derived.Test.YteflefmlicamlaaChUse
namespace Go.Proofs.Yteflefmlicamlaa.Pk
open Go.RowKit
set_option linter.unusedVariables false
set_option maxRecDepth 100000 in
set_option maxHeartbeats 16000000 in
theorem law_ChainStays (HGo : GoodP) (HOp : OpenP) (HAd : AddP) (HSu : SuccP) (HGr : GrantP) (HRe : RelP) (A : Option Addr) (n c : Nat) (l : List Ce) (me far : Int) (w : World) (hin : InK w l A n c) (hm : J64 me) (hf : J64 far) :
    Calls Try.prog 5 #[.slice A n c, .int .i64 me, .int .i64 far] w fun e w' => e = .returned (.bool true) ∧ Below w.heap.size w w' := by
  have HW := Lib.hid (wakesC HSu HRe w)
  have HI := Lib.hid hin
  have HL := Lib.hid hin.len
  have hn := hin.few
  have HIi := Lib.hid hin.i
  have HGo := Lib.hid HGo
  have HOp := Lib.hid HOp
  have HAd := Lib.hid HAd
  have HSu := Lib.hid HSu
  have HGr := Lib.hid HGr
  have HRe := Lib.hid HRe
  have HJm := Lib.hid hm
  have HJf := Lib.hid hf
  have HG1 := Lib.hid (fun (W : World) (hb : Below w.heap.size w W) => HGo.out A n c l me true W (hin.next hb) hm)
  have HG2 := Lib.hid (fun (W : World) (hb : Below w.heap.size w W) => HGo.out A n c l me false W (hin.next hb) hm)
  have HO1 := Lib.hid (fun (W : World) (hb : Below w.heap.size w W) => HOp.out A n c l W (hin.next hb))
  have HR1 := Lib.hid (fun (W : World) (hb : Below w.heap.size w W) => HRe.out A n c l W (hin.next hb))
  clear hin hm hf
  by_cases hall : (0 ≤ me ∧ me < 32) ∧ (0 ≤ far ∧ far < 32) ∧ far ≠ me
  · obtain ⟨⟨a1, a2⟩, ⟨b1, b2⟩, b3⟩ := hall
    have t3 : (far == me) = false := by simpa using b3
    have HNe := Lib.hid b3
    clear b3
    by_cases hT : GoodK l me true
    · rw [decide_eq_true hT] at HG1
      have HT := Lib.hid hT
      have HF := Lib.hid hT.few
      have hp : 0 < l.length := hT.1 rfl
      have hpos : 0 < n := by rw [← HL.out]; exact hp
      obtain ⟨kk, hkk⟩ : ∃ k, n = k + 1 := ⟨n - 1, by omega⟩
      have HKK := Lib.hid hkk
      clear hkk
      obtain ⟨b, off, rfl, hcl⟩ := HI.out.cells hpos
      obtain ⟨r0, hr0⟩ : ∃ r, r = ceA l 0 := ⟨_, rfl⟩
      have HR0 := Lib.hid hr0
      obtain ⟨rn, rs, rd, rx⟩ := r0
      have HCg : Hid (∀ W, Below w.heap.size w W → W.cell? ⟨b, off, none⟩ = some (.int .i64 rn) ∧ W.cell? ⟨b, off + 1, none⟩ = some (.int .i64 rs)) := Lib.hid (fun W hW => by
        have h1 := hcl W hW 0 _ (ceA_get hp)
        rw [← hr0] at h1
        simp only [Nat.zero_mul, Nat.add_zero] at h1
        exact ⟨h1.1, h1.2.1⟩)
      have HP := Lib.hid hp
      clear hr0 hp
      have HKl : Hid (l.length = kk + 1) := Lib.hid (by rw [HL.out, HKK.out])
      obtain ⟨rl, hrl⟩ : ∃ r, r = (ceA l kk).n := ⟨_, rfl⟩
      have HRl := Lib.hid hrl
      have HCl : Hid (∀ W, Below w.heap.size w W → W.cell? ⟨b, off + kk * 4, none⟩ = some (.int .i64 rl)) := Lib.hid (fun W hW => by rw [hrl]; exact (hcl W hW kk _ (ceA_get (by rw [HKl.out]; omega))).1)
      have hrl1 : 0 ≤ rl ∧ rl ≤ 1099511627776 := by rw [hrl]; have := (hT.2 kk (by rw [HKl.out]; omega)).1; exact ⟨this.1, this.2.1⟩
      obtain ⟨hrl1, hrl2⟩ := hrl1
      clear hrl hcl hT
      have HFr := Lib.hid (stay_far HT.out ⟨b1, b2⟩ HNe.out)
      obtain ⟨⟨Lf, gf⟩, hLf⟩ : ∃ r, r = succK l far 7 := ⟨_, rfl⟩
      have HFi : Hid (∀ m ∈ Lf, m.I) := Lib.hid (by have := succK_i (d := far) (x := 7) HIi.out HJf.out (by unfold J64; omega); rw [← hLf] at this; exact this)
      have HFl : Hid (Lf.length ≤ n) := Lib.hid (by have := succK_len l far 7; rw [← hLf, HL.out] at this; exact this)
      have HF1 := Lib.hid (fun (W : World) (hb : Below w.heap.size w W) => HSu.out _ _ _ l far 7 W (HI.out.next hb) HJf.out (by unfold J64; omega))
      rw [← hLf] at HFr HF1
      simp only at HFr HF1
      clear hLf
      by_cases hle : rl + 1 ≤ 1099511627776
      · have HSa := Lib.hid (stay_add (next := rl + 1) HT.out ⟨a1, a2⟩ (by rw [HRl.out, HKl.out]; simp) hle)
        obtain ⟨⟨La, ga⟩, hLa⟩ : ∃ r, r = succK l me (rl + 1) := ⟨_, rfl⟩
        have HAi : Hid (∀ m ∈ La, m.I) := Lib.hid (by have := succK_i (d := me) (x := rl + 1) HIi.out HJm.out (by unfold J64; omega); rw [← hLa] at this; exact this)
        have HAl : Hid (La.length ≤ n) := Lib.hid (by have := succK_len l me (rl + 1); rw [← hLa, HL.out] at this; exact this)
        have HA1 := Lib.hid (fun (W : World) (hb : Below w.heap.size w W) => HSu.out _ _ _ l me (rl + 1) W (HI.out.next hb) HJm.out (by unfold J64; omega))
        rw [← hLa] at HSa HA1
        simp only at HSa HA1
        clear hLa
        have HGa := Lib.hid HSa.out.1
        have t4 : ((La.length : Int) == (kk : Int)) = ga := by
          have h1 := HSa.out.2
          rw [HKl.out] at h1
          cases ga with
          | true => have := h1.1 rfl; simp; omega
          | false => have h2 : ¬ (La.length + 1 = kk + 1) := fun h => by cases h1.2 h
                     simp; omega
        have t41 : (ga != ga) = false := by simp
        clear HSa
        go_enter Try.func5, Try.ntmps5
        go_wp2_with fail
        refine (HW.out).mono ?_
        rintro e w1 ⟨rfl, hb⟩
        have HB1 := Lib.hid hb
        clear hb
        go_wp2_with fail
        refine (HG1.out w1 HB1.out).mono ?_
        rintro e w2 ⟨rfl, hb⟩
        have HB2 := Lib.hid (HB1.out.trans (hb.mono HB1.out.size))
        clear hb
        have mc := HCl.out w2 HB2.out
        have hkk := HKK.out
        subst hkk
        go_wp2_with fail
        refine (HA1.out w2 HB2.out).mono ?_
        rintro e w3 ⟨v, rfl, ho, hb⟩
        obtain ⟨Aa, ca, rfl⟩ := ho.sl
        have HB3 := Lib.hid (HB2.out.trans (hb.mono HB2.out.size))
        have HAc := Lib.hid (ho.inK (by have := HAl.out; omega) HAi.out)
        have HAd1 := Lib.hid (HAd.out _ _ _ La (rl + 1) w3 HAc.out (by unfold J64; omega))
        clear ho hb mc
        go_wp2_with fail
        refine (HAd1.out).mono ?_
        rintro e w4 ⟨v, rfl, ho, hb⟩
        obtain ⟨Ab, cb, rfl⟩ := ho.sl
        have HB4 := Lib.hid (HB3.out.trans (hb.mono HB3.out.size))
        have HAg := Lib.hid (HGo.out _ _ _ (addK La (rl + 1)) me true w4 (ho.inK (by have := HGa.out.few; omega) (addK_i HAi.out (by unfold J64; omega))) HJm.out)
        rw [decide_eq_true HGa.out] at HAg
        clear ho hb
        go_wp2_with fail
        refine (HAg.out).mono ?_
        rintro e w5 ⟨rfl, hb⟩
        have HB5 := Lib.hid (HB4.out.trans (hb.mono HB4.out.size))
        clear hb
        go_wp2_with fail
        refine (HF1.out w5 HB5.out).mono ?_
        rintro e w6 ⟨v, rfl, ho, hb⟩
        obtain ⟨Af, cf, rfl⟩ := ho.sl
        have HB6 := Lib.hid (HB5.out.trans (hb.mono HB5.out.size))
        have HFc := Lib.hid (ho.inK (by have := HFl.out; omega) HFi.out)
        have HFg := Lib.hid (HGo.out _ _ _ Lf me false w6 HFc.out HJm.out)
        rw [decide_eq_true HFr.out] at HFg
        clear ho hb
        go_wp2_with fail
        refine (HFg.out).mono ?_
        rintro e w7 ⟨rfl, hb⟩
        have HB7 := Lib.hid (HB6.out.trans (hb.mono HB6.out.size))
        clear hb
        have HST := Lib.hid (fun e1 : rs = 1 => stay_grant HT.out HP.out (by rw [← HR0.out]; exact e1))
        rw [← HR0.out] at HST
        simp only at HST
        by_cases h1 : rs = 1
        · subst h1
          have HSt := Lib.hid (HST.out rfl)
          clear HST
          obtain ⟨⟨Lc, gc⟩, hLc⟩ : ∃ r, r = grantK l rn := ⟨_, rfl⟩
          have HLi : Hid (∀ m ∈ Lc, m.I) := Lib.hid (by have := grantK_i (x := rn) HIi.out; rw [← hLc] at this; exact this)
          have HLl : Hid (Lc.length ≤ (kk + 1)) := Lib.hid (by have := grantK_len l rn; rw [← hLc, HL.out] at this; exact this)
          have HJr : Hid (J64 rn) := Lib.hid (by have := (ceA_I HIi.out HP.out).n; rw [← HR0.out] at this; exact this)
          have HGr1 := Lib.hid (fun (W : World) (hb : Below w.heap.size w W) => HGr.out _ _ _ l rn W (HI.out.next hb) HJr.out)
          rw [← hLc] at HSt HGr1
          simp only at HSt HGr1
          obtain ⟨hg1, hg2, hg3⟩ := HSt.out
          subst hg1
          have HGl := Lib.hid hg2
          clear hLc hg2 HSt
          obtain ⟨ol, hol⟩ : ∃ r, r = openK l := ⟨_, rfl⟩
          have HOl := Lib.hid hol
          rw [← hol] at HO1 hg3
          have HOc := Lib.hid hg3
          have t9 : ((ol : Int) == (ol : Int)) = true := by simp
          clear hol hg3
          have m1 := HCg.out w7 HB7.out
          obtain ⟨m0, m1⟩ := m1
          go_wp2_with fail
          refine (HGr1.out w7 HB7.out).mono ?_
          rintro e w8 ⟨v, rfl, ho, hb⟩
          obtain ⟨Ac, cc, rfl⟩ := ho.sl
          have HB8 := Lib.hid (HB7.out.trans (hb.mono HB7.out.size))
          have HKc := Lib.hid (ho.inK (by have := HLl.out; omega) HLi.out)
          have HKg := Lib.hid (HGo.out _ _ _ Lc me true w8 HKc.out HJm.out)
          rw [decide_eq_true HGl.out] at HKg
          clear ho hb m0 m1
          go_wp2_with fail
          refine (HKg.out).mono ?_
          rintro e w9 ⟨rfl, hb⟩
          have HB9 := Lib.hid (HB8.out.trans (hb.mono HB8.out.size))
          have HKo := Lib.hid (HOp.out _ _ _ Lc w9 (HKc.out.next hb))
          rw [HOc.out] at HKo
          clear hb
          go_wp2_with fail
          refine (HKo.out).mono ?_
          rintro e w10 ⟨rfl, hb⟩
          have HB10 := Lib.hid (HB9.out.trans (hb.mono HB9.out.size))
          clear hb
          go_wp2_with fail
          refine (HO1.out w10 HB10.out).mono ?_
          rintro e w11 ⟨rfl, hb⟩
          have HB11 := Lib.hid (HB10.out.trans (hb.mono HB10.out.size))
          clear hb
          have HE : Hid (openK l = ol) := Lib.hid HOl.out.symm
          cases hh : heldAt l with
          | none =>
            have HN : Hid (relK l = ([], 0, 0, 22)) := Lib.hid (held_none hh).1
            rw [HN.out] at HR1
            clear hh HN
            go_wp2_with fail
            refine (HR1.out w11 HB11.out).mono ?_
            rintro e w12 ⟨v, rfl, ho, hb⟩
            obtain ⟨Ar, cr, rfl⟩ := ho.sl
            have HB12 := Lib.hid (HB11.out.trans (hb.mono HB11.out.size))
            clear ho hb
            obtain ⟨p0, p1⟩ := HCg.out w12 HB12.out
            go_wp2
            go_ret
            exact ⟨rfl, HB12.out⟩
          | some k =>
            exfalso
            obtain ⟨_, q1, q2, _⟩ := held_some hh
            have q3 := HT.out.first q1 (by omega)
            subst q3
            rw [← HR0.out] at q2
            simp at q2
        · clear HST
          have t8 : (rs == 1) = false := by simpa using h1
          obtain ⟨ol, hol⟩ : ∃ r, r = openK l := ⟨_, rfl⟩
          have HOl := Lib.hid hol
          rw [← hol] at HO1
          have HE : Hid (openK l = ol) := Lib.hid HOl.out.symm
          clear hol
          have m1 := HCg.out w7 HB7.out
          obtain ⟨m0, m1⟩ := m1
          cases hh : heldAt l with
          | none =>
            have HN : Hid (relK l = ([], 0, 0, 22)) := Lib.hid (held_none hh).1
            rw [HN.out] at HR1
            have h2 : rs ≠ 2 := by have := none_first hh HP.out; rw [← HR0.out] at this; exact this
            have t7 : (rs != 2) = true := by simpa using h2
            clear h2
            clear hh HN
            go_wp2_with fail
            refine (HR1.out w7 HB7.out).mono ?_
            rintro e w8 ⟨v, rfl, ho, hb⟩
            obtain ⟨Ar, cr, rfl⟩ := ho.sl
            have HB8 := Lib.hid (HB7.out.trans (hb.mono HB7.out.size))
            clear ho hb
            obtain ⟨p0, p1⟩ := HCg.out w8 HB8.out
            go_wp2
            go_ret
            exact ⟨rfl, HB8.out⟩
          | some k =>
            obtain ⟨Gr, Or, Er, Lr⟩ := stay_rel HT.out hh
            have HLi : Hid (∀ m ∈ (relK l).1, m.I) := Lib.hid (relK_i HIi.out)
            have HLl : Hid ((relK l).1.length ≤ (kk + 1)) := Lib.hid (by have := relK_len l; rw [HL.out] at this; exact this)
            rw [HE.out] at Or
            rw [HL.out] at Lr
            obtain ⟨⟨Ld, nd, nm, er⟩, hLd⟩ : ∃ r, r = relK l := ⟨_, rfl⟩
            rw [← hLd] at HLi HLl HR1 Gr Or Er Lr
            simp only at HLi HLl HR1 Gr Or Er Lr
            subst Er
            subst Or
            have HGd := Lib.hid Gr
            clear hLd Gr hh
            obtain ⟨lr, hlr⟩ : ∃ r, r = Ld.length := ⟨_, rfl⟩
            have HLr := Lib.hid hlr
            have t6 : ((nd == -1) == ((Ld.length : Int) == ((kk : Int) + 1))) = true := by
              by_cases e : nd = -1
              · have e2 := Lr.1 e
                rw [show (nd == -1) = true by simpa using e, show ((Ld.length : Int) == ((kk : Int) + 1)) = true by simp; omega]; rfl
              · have e2 : Ld.length ≠ (kk + 1) := fun h => e (Lr.2 h)
                rw [show (nd == -1) = false by simpa using e, show ((Ld.length : Int) == ((kk : Int) + 1)) = false by simp; omega]; rfl
            clear Lr hlr HLr lr
            go_wp2_with fail
            refine (HR1.out w7 HB7.out).mono ?_
            rintro e w8 ⟨v, rfl, ho, hb⟩
            obtain ⟨Ar, cr, rfl⟩ := ho.sl
            have HB8 := Lib.hid (HB7.out.trans (hb.mono HB7.out.size))
            have HKc := Lib.hid (ho.inK (by have := HLl.out; omega) HLi.out)
            have HKg := Lib.hid (HGo.out _ _ _ Ld me true w8 HKc.out HJm.out)
            rw [decide_eq_true HGd.out] at HKg
            clear ho hb m0 m1
            go_wp2_with fail
            refine (HKg.out).mono ?_
            rintro e w9 ⟨rfl, hb⟩
            have HB9 := Lib.hid (HB8.out.trans (hb.mono HB8.out.size))
            have HKo := Lib.hid (HOp.out _ _ _ Ld w9 (HKc.out.next hb))
            have HOle : Hid (openK Ld ≤ (kk + 1)) := Lib.hid (Nat.le_trans (openK_le Ld) HLl.out)
            obtain ⟨od, hod⟩ : ∃ r, r = openK Ld := ⟨_, rfl⟩
            rw [← hod] at HKo HO1 HOle
            clear hb hod
            go_wp2_with fail
            refine (HKo.out).mono ?_
            rintro e w10 ⟨rfl, hb⟩
            have HB10 := Lib.hid (HB9.out.trans (hb.mono HB9.out.size))
            clear hb
            have hol9 := HOle.out
            have t5 : ((od : Int) == ((od + 1 : Nat) : Int) - 1) = true := by simp
            go_wp2_with fail
            refine (HO1.out w10 HB10.out).mono ?_
            rintro e w11 ⟨rfl, hb⟩
            have HB11 := Lib.hid (HB10.out.trans (hb.mono HB10.out.size))
            clear hb
            go_wp2
            go_ret
            exact ⟨rfl, HB11.out⟩
      · have hgt : 1099511627776 < rl + 1 := by omega
        go_enter Try.func5, Try.ntmps5
        go_wp2_with fail
        refine (HW.out).mono ?_
        rintro e w1 ⟨rfl, hb⟩
        have HB1 := Lib.hid hb
        clear hb
        go_wp2_with fail
        refine (HG1.out w1 HB1.out).mono ?_
        rintro e w2 ⟨rfl, hb⟩
        have HB2 := Lib.hid (HB1.out.trans (hb.mono HB1.out.size))
        clear hb
        have mc := HCl.out w2 HB2.out
        have hkk := HKK.out
        subst hkk
        go_wp2_with fail
        refine (HF1.out w2 HB2.out).mono ?_
        rintro e w3 ⟨v, rfl, ho, hb⟩
        obtain ⟨Af, cf, rfl⟩ := ho.sl
        have HB3 := Lib.hid (HB2.out.trans (hb.mono HB2.out.size))
        have HFc := Lib.hid (ho.inK (by have := HFl.out; omega) HFi.out)
        have HFg := Lib.hid (HGo.out _ _ _ Lf me false w3 HFc.out HJm.out)
        rw [decide_eq_true HFr.out] at HFg
        clear ho hb
        go_wp2_with fail
        refine (HFg.out).mono ?_
        rintro e w4 ⟨rfl, hb⟩
        have HB4 := Lib.hid (HB3.out.trans (hb.mono HB3.out.size))
        clear hb
        have HST := Lib.hid (fun e1 : rs = 1 => stay_grant HT.out HP.out (by rw [← HR0.out]; exact e1))
        rw [← HR0.out] at HST
        simp only at HST
        by_cases h1 : rs = 1
        · subst h1
          have HSt := Lib.hid (HST.out rfl)
          clear HST
          obtain ⟨⟨Lc, gc⟩, hLc⟩ : ∃ r, r = grantK l rn := ⟨_, rfl⟩
          have HLi : Hid (∀ m ∈ Lc, m.I) := Lib.hid (by have := grantK_i (x := rn) HIi.out; rw [← hLc] at this; exact this)
          have HLl : Hid (Lc.length ≤ (kk + 1)) := Lib.hid (by have := grantK_len l rn; rw [← hLc, HL.out] at this; exact this)
          have HJr : Hid (J64 rn) := Lib.hid (by have := (ceA_I HIi.out HP.out).n; rw [← HR0.out] at this; exact this)
          have HGr1 := Lib.hid (fun (W : World) (hb : Below w.heap.size w W) => HGr.out _ _ _ l rn W (HI.out.next hb) HJr.out)
          rw [← hLc] at HSt HGr1
          simp only at HSt HGr1
          obtain ⟨hg1, hg2, hg3⟩ := HSt.out
          subst hg1
          have HGl := Lib.hid hg2
          clear hLc hg2 HSt
          obtain ⟨ol, hol⟩ : ∃ r, r = openK l := ⟨_, rfl⟩
          have HOl := Lib.hid hol
          rw [← hol] at HO1 hg3
          have HOc := Lib.hid hg3
          have t9 : ((ol : Int) == (ol : Int)) = true := by simp
          clear hol hg3
          have m1 := HCg.out w4 HB4.out
          obtain ⟨m0, m1⟩ := m1
          go_wp2_with fail
          refine (HGr1.out w4 HB4.out).mono ?_
          rintro e w5 ⟨v, rfl, ho, hb⟩
          obtain ⟨Ac, cc, rfl⟩ := ho.sl
          have HB5 := Lib.hid (HB4.out.trans (hb.mono HB4.out.size))
          have HKc := Lib.hid (ho.inK (by have := HLl.out; omega) HLi.out)
          have HKg := Lib.hid (HGo.out _ _ _ Lc me true w5 HKc.out HJm.out)
          rw [decide_eq_true HGl.out] at HKg
          clear ho hb m0 m1
          go_wp2_with fail
          refine (HKg.out).mono ?_
          rintro e w6 ⟨rfl, hb⟩
          have HB6 := Lib.hid (HB5.out.trans (hb.mono HB5.out.size))
          have HKo := Lib.hid (HOp.out _ _ _ Lc w6 (HKc.out.next hb))
          rw [HOc.out] at HKo
          clear hb
          go_wp2_with fail
          refine (HKo.out).mono ?_
          rintro e w7 ⟨rfl, hb⟩
          have HB7 := Lib.hid (HB6.out.trans (hb.mono HB6.out.size))
          clear hb
          go_wp2_with fail
          refine (HO1.out w7 HB7.out).mono ?_
          rintro e w8 ⟨rfl, hb⟩
          have HB8 := Lib.hid (HB7.out.trans (hb.mono HB7.out.size))
          clear hb
          have HE : Hid (openK l = ol) := Lib.hid HOl.out.symm
          cases hh : heldAt l with
          | none =>
            have HN : Hid (relK l = ([], 0, 0, 22)) := Lib.hid (held_none hh).1
            rw [HN.out] at HR1
            clear hh HN
            go_wp2_with fail
            refine (HR1.out w8 HB8.out).mono ?_
            rintro e w9 ⟨v, rfl, ho, hb⟩
            obtain ⟨Ar, cr, rfl⟩ := ho.sl
            have HB9 := Lib.hid (HB8.out.trans (hb.mono HB8.out.size))
            clear ho hb
            obtain ⟨p0, p1⟩ := HCg.out w9 HB9.out
            go_wp2
            go_ret
            exact ⟨rfl, HB9.out⟩
          | some k =>
            exfalso
            obtain ⟨_, q1, q2, _⟩ := held_some hh
            have q3 := HT.out.first q1 (by omega)
            subst q3
            rw [← HR0.out] at q2
            simp at q2
        · clear HST
          have t8 : (rs == 1) = false := by simpa using h1
          obtain ⟨ol, hol⟩ : ∃ r, r = openK l := ⟨_, rfl⟩
          have HOl := Lib.hid hol
          rw [← hol] at HO1
          have HE : Hid (openK l = ol) := Lib.hid HOl.out.symm
          clear hol
          have m1 := HCg.out w4 HB4.out
          obtain ⟨m0, m1⟩ := m1
          cases hh : heldAt l with
          | none =>
            have HN : Hid (relK l = ([], 0, 0, 22)) := Lib.hid (held_none hh).1
            rw [HN.out] at HR1
            have h2 : rs ≠ 2 := by have := none_first hh HP.out; rw [← HR0.out] at this; exact this
            have t7 : (rs != 2) = true := by simpa using h2
            clear h2
            clear hh HN
            go_wp2_with fail
            refine (HR1.out w4 HB4.out).mono ?_
            rintro e w5 ⟨v, rfl, ho, hb⟩
            obtain ⟨Ar, cr, rfl⟩ := ho.sl
            have HB5 := Lib.hid (HB4.out.trans (hb.mono HB4.out.size))
            clear ho hb
            obtain ⟨p0, p1⟩ := HCg.out w5 HB5.out
            go_wp2
            go_ret
            exact ⟨rfl, HB5.out⟩
          | some k =>
            obtain ⟨Gr, Or, Er, Lr⟩ := stay_rel HT.out hh
            have HLi : Hid (∀ m ∈ (relK l).1, m.I) := Lib.hid (relK_i HIi.out)
            have HLl : Hid ((relK l).1.length ≤ (kk + 1)) := Lib.hid (by have := relK_len l; rw [HL.out] at this; exact this)
            rw [HE.out] at Or
            rw [HL.out] at Lr
            obtain ⟨⟨Ld, nd, nm, er⟩, hLd⟩ : ∃ r, r = relK l := ⟨_, rfl⟩
            rw [← hLd] at HLi HLl HR1 Gr Or Er Lr
            simp only at HLi HLl HR1 Gr Or Er Lr
            subst Er
            subst Or
            have HGd := Lib.hid Gr
            clear hLd Gr hh
            obtain ⟨lr, hlr⟩ : ∃ r, r = Ld.length := ⟨_, rfl⟩
            have HLr := Lib.hid hlr
            have t6 : ((nd == -1) == ((Ld.length : Int) == ((kk : Int) + 1))) = true := by
              by_cases e : nd = -1
              · have e2 := Lr.1 e
                rw [show (nd == -1) = true by simpa using e, show ((Ld.length : Int) == ((kk : Int) + 1)) = true by simp; omega]; rfl
              · have e2 : Ld.length ≠ (kk + 1) := fun h => e (Lr.2 h)
                rw [show (nd == -1) = false by simpa using e, show ((Ld.length : Int) == ((kk : Int) + 1)) = false by simp; omega]; rfl
            clear Lr hlr HLr lr
            go_wp2_with fail
            refine (HR1.out w4 HB4.out).mono ?_
            rintro e w5 ⟨v, rfl, ho, hb⟩
            obtain ⟨Ar, cr, rfl⟩ := ho.sl
            have HB5 := Lib.hid (HB4.out.trans (hb.mono HB4.out.size))
            have HKc := Lib.hid (ho.inK (by have := HLl.out; omega) HLi.out)
            have HKg := Lib.hid (HGo.out _ _ _ Ld me true w5 HKc.out HJm.out)
            rw [decide_eq_true HGd.out] at HKg
            clear ho hb m0 m1
            go_wp2_with fail
            refine (HKg.out).mono ?_
            rintro e w6 ⟨rfl, hb⟩
            have HB6 := Lib.hid (HB5.out.trans (hb.mono HB5.out.size))
            have HKo := Lib.hid (HOp.out _ _ _ Ld w6 (HKc.out.next hb))
            have HOle : Hid (openK Ld ≤ (kk + 1)) := Lib.hid (Nat.le_trans (openK_le Ld) HLl.out)
            obtain ⟨od, hod⟩ : ∃ r, r = openK Ld := ⟨_, rfl⟩
            rw [← hod] at HKo HO1 HOle
            clear hb hod
            go_wp2_with fail
            refine (HKo.out).mono ?_
            rintro e w7 ⟨rfl, hb⟩
            have HB7 := Lib.hid (HB6.out.trans (hb.mono HB6.out.size))
            clear hb
            have hol9 := HOle.out
            have t5 : ((od : Int) == ((od + 1 : Nat) : Int) - 1) = true := by simp
            go_wp2_with fail
            refine (HO1.out w7 HB7.out).mono ?_
            rintro e w8 ⟨rfl, hb⟩
            have HB8 := Lib.hid (HB7.out.trans (hb.mono HB7.out.size))
            clear hb
            go_wp2
            go_ret
            exact ⟨rfl, HB8.out⟩
    · rw [decide_eq_false hT] at HG1
      clear hT
      by_cases hT : GoodK l me false
      · rw [decide_eq_true hT] at HG2
        have HT := Lib.hid hT
        clear hT
        go_enter Try.func5, Try.ntmps5
        go_wp2_with fail
        refine (HW.out).mono ?_
        rintro e w1 ⟨rfl, hb⟩
        have HB1 := Lib.hid hb
        clear hb
        go_wp2_with fail
        refine (HG1.out w1 HB1.out).mono ?_
        rintro e w2 ⟨rfl, hb⟩
        have HB2 := Lib.hid (HB1.out.trans (hb.mono HB1.out.size))
        clear hb
        go_wp2_with fail
        refine (HG2.out w2 HB2.out).mono ?_
        rintro e w3 ⟨rfl, hb⟩
        have HB3 := Lib.hid (HB2.out.trans (hb.mono HB2.out.size))
        clear hb
        by_cases h0 : n = 0
        · have HE : Hid (heldAt l = none) := Lib.hid (by rw [List.length_eq_zero_iff.1 (HL.out.trans h0)]; rfl)
          have HN : Hid (relK l = ([], 0, 0, 22)) := Lib.hid (held_none HE.out).1
          rw [HN.out] at HR1
          subst h0
          clear HN HE
          go_wp2_with fail
          refine (HR1.out w3 HB3.out).mono ?_
          rintro e w4 ⟨v, rfl, ho, hb⟩
          obtain ⟨Ar, cr, rfl⟩ := ho.sl
          have HB4 := Lib.hid (HB3.out.trans (hb.mono HB3.out.size))
          clear ho hb
          go_wp2
          go_ret
          exact ⟨rfl, HB4.out⟩
        · obtain ⟨b, off, rfl, hcl⟩ := HI.out.cells (by omega)
          have hp : 0 < l.length := by rw [HL.out]; omega
          obtain ⟨r0, hr0⟩ : ∃ r, r = ceA l 0 := ⟨_, rfl⟩
          have HR0 := Lib.hid hr0
          obtain ⟨rn, rs, rd, rx⟩ := r0
          have HCg : Hid (∀ W, Below w.heap.size w W → W.cell? ⟨b, off, none⟩ = some (.int .i64 rn) ∧ W.cell? ⟨b, off + 1, none⟩ = some (.int .i64 rs)) := Lib.hid (fun W hW => by
            have h1 := hcl W hW 0 _ (ceA_get hp)
            rw [← hr0] at h1
            simp only [Nat.zero_mul, Nat.add_zero] at h1
            exact ⟨h1.1, h1.2.1⟩)
          have HP := Lib.hid hp
          clear hr0 hp
          clear hcl
          have HST := Lib.hid (fun e1 : rs = 1 => stay_grant HT.out HP.out (by rw [← HR0.out]; exact e1))
          rw [← HR0.out] at HST
          simp only at HST
          by_cases h1 : rs = 1
          · subst h1
            have HSt := Lib.hid (HST.out rfl)
            clear HST
            obtain ⟨⟨Lc, gc⟩, hLc⟩ : ∃ r, r = grantK l rn := ⟨_, rfl⟩
            have HLi : Hid (∀ m ∈ Lc, m.I) := Lib.hid (by have := grantK_i (x := rn) HIi.out; rw [← hLc] at this; exact this)
            have HLl : Hid (Lc.length ≤ n) := Lib.hid (by have := grantK_len l rn; rw [← hLc, HL.out] at this; exact this)
            have HJr : Hid (J64 rn) := Lib.hid (by have := (ceA_I HIi.out HP.out).n; rw [← HR0.out] at this; exact this)
            have HGr1 := Lib.hid (fun (W : World) (hb : Below w.heap.size w W) => HGr.out _ _ _ l rn W (HI.out.next hb) HJr.out)
            rw [← hLc] at HSt HGr1
            simp only at HSt HGr1
            obtain ⟨hg1, hg2, hg3⟩ := HSt.out
            subst hg1
            have HGl := Lib.hid hg2
            clear hLc hg2 HSt
            obtain ⟨ol, hol⟩ : ∃ r, r = openK l := ⟨_, rfl⟩
            have HOl := Lib.hid hol
            rw [← hol] at HO1 hg3
            have HOc := Lib.hid hg3
            have t9 : ((ol : Int) == (ol : Int)) = true := by simp
            clear hol hg3
            have m1 := HCg.out w3 HB3.out
            obtain ⟨m0, m1⟩ := m1
            go_wp2_with fail
            refine (HGr1.out w3 HB3.out).mono ?_
            rintro e w4 ⟨v, rfl, ho, hb⟩
            obtain ⟨Ac, cc, rfl⟩ := ho.sl
            have HB4 := Lib.hid (HB3.out.trans (hb.mono HB3.out.size))
            have HKc := Lib.hid (ho.inK (by have := HLl.out; omega) HLi.out)
            have HKg := Lib.hid (HGo.out _ _ _ Lc me false w4 HKc.out HJm.out)
            rw [decide_eq_true HGl.out] at HKg
            clear ho hb m0 m1
            go_wp2_with fail
            refine (HKg.out).mono ?_
            rintro e w5 ⟨rfl, hb⟩
            have HB5 := Lib.hid (HB4.out.trans (hb.mono HB4.out.size))
            have HKo := Lib.hid (HOp.out _ _ _ Lc w5 (HKc.out.next hb))
            rw [HOc.out] at HKo
            clear hb
            go_wp2_with fail
            refine (HKo.out).mono ?_
            rintro e w6 ⟨rfl, hb⟩
            have HB6 := Lib.hid (HB5.out.trans (hb.mono HB5.out.size))
            clear hb
            go_wp2_with fail
            refine (HO1.out w6 HB6.out).mono ?_
            rintro e w7 ⟨rfl, hb⟩
            have HB7 := Lib.hid (HB6.out.trans (hb.mono HB6.out.size))
            clear hb
            have HE : Hid (openK l = ol) := Lib.hid HOl.out.symm
            cases hh : heldAt l with
            | none =>
              have HN : Hid (relK l = ([], 0, 0, 22)) := Lib.hid (held_none hh).1
              rw [HN.out] at HR1
              clear hh HN
              go_wp2_with fail
              refine (HR1.out w7 HB7.out).mono ?_
              rintro e w8 ⟨v, rfl, ho, hb⟩
              obtain ⟨Ar, cr, rfl⟩ := ho.sl
              have HB8 := Lib.hid (HB7.out.trans (hb.mono HB7.out.size))
              clear ho hb
              obtain ⟨p0, p1⟩ := HCg.out w8 HB8.out
              go_wp2
              go_ret
              exact ⟨rfl, HB8.out⟩
            | some k =>
              exfalso
              obtain ⟨_, q1, q2, _⟩ := held_some hh
              have q3 := HT.out.first q1 (by omega)
              subst q3
              rw [← HR0.out] at q2
              simp at q2
          · clear HST
            have t8 : (rs == 1) = false := by simpa using h1
            obtain ⟨ol, hol⟩ : ∃ r, r = openK l := ⟨_, rfl⟩
            have HOl := Lib.hid hol
            rw [← hol] at HO1
            have HE : Hid (openK l = ol) := Lib.hid HOl.out.symm
            clear hol
            have m1 := HCg.out w3 HB3.out
            obtain ⟨m0, m1⟩ := m1
            cases hh : heldAt l with
            | none =>
              have HN : Hid (relK l = ([], 0, 0, 22)) := Lib.hid (held_none hh).1
              rw [HN.out] at HR1
              have h2 : rs ≠ 2 := by have := none_first hh HP.out; rw [← HR0.out] at this; exact this
              have t7 : (rs != 2) = true := by simpa using h2
              clear h2
              clear hh HN
              go_wp2_with fail
              refine (HR1.out w3 HB3.out).mono ?_
              rintro e w4 ⟨v, rfl, ho, hb⟩
              obtain ⟨Ar, cr, rfl⟩ := ho.sl
              have HB4 := Lib.hid (HB3.out.trans (hb.mono HB3.out.size))
              clear ho hb
              obtain ⟨p0, p1⟩ := HCg.out w4 HB4.out
              go_wp2
              go_ret
              exact ⟨rfl, HB4.out⟩
            | some k =>
              obtain ⟨Gr, Or, Er, Lr⟩ := stay_rel HT.out hh
              have HLi : Hid (∀ m ∈ (relK l).1, m.I) := Lib.hid (relK_i HIi.out)
              have HLl : Hid ((relK l).1.length ≤ n) := Lib.hid (by have := relK_len l; rw [HL.out] at this; exact this)
              rw [HE.out] at Or
              rw [HL.out] at Lr
              obtain ⟨⟨Ld, nd, nm, er⟩, hLd⟩ : ∃ r, r = relK l := ⟨_, rfl⟩
              rw [← hLd] at HLi HLl HR1 Gr Or Er Lr
              simp only at HLi HLl HR1 Gr Or Er Lr
              subst Er
              subst Or
              have HGd := Lib.hid Gr
              clear hLd Gr hh
              obtain ⟨lr, hlr⟩ : ∃ r, r = Ld.length := ⟨_, rfl⟩
              have HLr := Lib.hid hlr
              have t6 : ((nd == -1) == ((Ld.length : Int) == (n : Int))) = true := by
                by_cases e : nd = -1
                · have e2 := Lr.1 e
                  rw [show (nd == -1) = true by simpa using e, show ((Ld.length : Int) == (n : Int)) = true by simp; omega]; rfl
                · have e2 : Ld.length ≠ n := fun h => e (Lr.2 h)
                  rw [show (nd == -1) = false by simpa using e, show ((Ld.length : Int) == (n : Int)) = false by simp; omega]; rfl
              clear Lr hlr HLr lr
              go_wp2_with fail
              refine (HR1.out w3 HB3.out).mono ?_
              rintro e w4 ⟨v, rfl, ho, hb⟩
              obtain ⟨Ar, cr, rfl⟩ := ho.sl
              have HB4 := Lib.hid (HB3.out.trans (hb.mono HB3.out.size))
              have HKc := Lib.hid (ho.inK (by have := HLl.out; omega) HLi.out)
              have HKg := Lib.hid (HGo.out _ _ _ Ld me false w4 HKc.out HJm.out)
              rw [decide_eq_true HGd.out] at HKg
              clear ho hb m0 m1
              go_wp2_with fail
              refine (HKg.out).mono ?_
              rintro e w5 ⟨rfl, hb⟩
              have HB5 := Lib.hid (HB4.out.trans (hb.mono HB4.out.size))
              have HKo := Lib.hid (HOp.out _ _ _ Ld w5 (HKc.out.next hb))
              have HOle : Hid (openK Ld ≤ n) := Lib.hid (Nat.le_trans (openK_le Ld) HLl.out)
              obtain ⟨od, hod⟩ : ∃ r, r = openK Ld := ⟨_, rfl⟩
              rw [← hod] at HKo HO1 HOle
              clear hb hod
              go_wp2_with fail
              refine (HKo.out).mono ?_
              rintro e w6 ⟨rfl, hb⟩
              have HB6 := Lib.hid (HB5.out.trans (hb.mono HB5.out.size))
              clear hb
              have hol9 := HOle.out
              have t5 : ((od : Int) == ((od + 1 : Nat) : Int) - 1) = true := by simp
              go_wp2_with fail
              refine (HO1.out w6 HB6.out).mono ?_
              rintro e w7 ⟨rfl, hb⟩
              have HB7 := Lib.hid (HB6.out.trans (hb.mono HB6.out.size))
              clear hb
              go_wp2
              go_ret
              exact ⟨rfl, HB7.out⟩
      · rw [decide_eq_false hT] at HG2
        clear hT
        go_enter Try.func5, Try.ntmps5
        go_wp2_with fail
        refine (HW.out).mono ?_
        rintro e w1 ⟨rfl, hb⟩
        have HB1 := Lib.hid hb
        clear hb
        go_wp2_with fail
        refine (HG1.out w1 HB1.out).mono ?_
        rintro e w2 ⟨rfl, hb⟩
        have HB2 := Lib.hid (HB1.out.trans (hb.mono HB1.out.size))
        clear hb
        go_wp2_with fail
        refine (HG2.out w2 HB2.out).mono ?_
        rintro e w3 ⟨rfl, hb⟩
        have HB3 := Lib.hid (HB2.out.trans (hb.mono HB2.out.size))
        clear hb
        go_wp2
        go_ret
        exact ⟨rfl, HB3.out⟩
  · have hall2 : me < 0 ∨ (0 ≤ me ∧ 32 ≤ me) ∨ (0 ≤ me ∧ me < 32 ∧ far < 0) ∨ (0 ≤ me ∧ me < 32 ∧ 0 ≤ far ∧ 32 ≤ far) ∨ (0 ≤ me ∧ me < 32 ∧ 0 ≤ far ∧ far < 32 ∧ far = me) := by omega
    clear hall
    by_cases hT : GoodK l me true
    · rw [decide_eq_true hT] at HG1
      clear hT
      go_enter Try.func5, Try.ntmps5
      go_wp2_with fail
      refine (HW.out).mono ?_
      rintro e w1 ⟨rfl, hb⟩
      have HB1 := Lib.hid hb
      clear hb
      go_wp2_with fail
      refine (HG1.out w1 HB1.out).mono ?_
      rintro e w2 ⟨rfl, hb⟩
      have HB2 := Lib.hid (HB1.out.trans (hb.mono HB1.out.size))
      clear hb
      rcases hall2 with q1 | ⟨q1, q2⟩ | ⟨q1, q2, q3⟩ | ⟨q1, q2, q3, q4⟩ | ⟨q1, q2, q3, q4, q5⟩
      · go_wp2
        go_ret
        exact ⟨rfl, HB2.out⟩
      · go_wp2
        go_ret
        exact ⟨rfl, HB2.out⟩
      · go_wp2
        go_ret
        exact ⟨rfl, HB2.out⟩
      · go_wp2
        go_ret
        exact ⟨rfl, HB2.out⟩
      · have t3 : (far == me) = true := by simpa using q5
        clear q5
        go_wp2
        go_ret
        exact ⟨rfl, HB2.out⟩
    · rw [decide_eq_false hT] at HG1
      clear hT
      by_cases hT : GoodK l me false
      · rw [decide_eq_true hT] at HG2
        clear hT
        go_enter Try.func5, Try.ntmps5
        go_wp2_with fail
        refine (HW.out).mono ?_
        rintro e w1 ⟨rfl, hb⟩
        have HB1 := Lib.hid hb
        clear hb
        go_wp2_with fail
        refine (HG1.out w1 HB1.out).mono ?_
        rintro e w2 ⟨rfl, hb⟩
        have HB2 := Lib.hid (HB1.out.trans (hb.mono HB1.out.size))
        clear hb
        go_wp2_with fail
        refine (HG2.out w2 HB2.out).mono ?_
        rintro e w3 ⟨rfl, hb⟩
        have HB3 := Lib.hid (HB2.out.trans (hb.mono HB2.out.size))
        clear hb
        rcases hall2 with q1 | ⟨q1, q2⟩ | ⟨q1, q2, q3⟩ | ⟨q1, q2, q3, q4⟩ | ⟨q1, q2, q3, q4, q5⟩
        · go_wp2
          go_ret
          exact ⟨rfl, HB3.out⟩
        · go_wp2
          go_ret
          exact ⟨rfl, HB3.out⟩
        · go_wp2
          go_ret
          exact ⟨rfl, HB3.out⟩
        · go_wp2
          go_ret
          exact ⟨rfl, HB3.out⟩
        · have t3 : (far == me) = true := by simpa using q5
          clear q5
          go_wp2
          go_ret
          exact ⟨rfl, HB3.out⟩
      · rw [decide_eq_false hT] at HG2
        clear hT
        go_enter Try.func5, Try.ntmps5
        go_wp2_with fail
        refine (HW.out).mono ?_
        rintro e w1 ⟨rfl, hb⟩
        have HB1 := Lib.hid hb
        clear hb
        go_wp2_with fail
        refine (HG1.out w1 HB1.out).mono ?_
        rintro e w2 ⟨rfl, hb⟩
        have HB2 := Lib.hid (HB1.out.trans (hb.mono HB1.out.size))
        clear hb
        go_wp2_with fail
        refine (HG2.out w2 HB2.out).mono ?_
        rintro e w3 ⟨rfl, hb⟩
        have HB3 := Lib.hid (HB2.out.trans (hb.mono HB2.out.size))
        clear hb
        go_wp2
        go_ret
        exact ⟨rfl, HB3.out⟩
end Go.Proofs.Yteflefmlicamlaa.Pk
