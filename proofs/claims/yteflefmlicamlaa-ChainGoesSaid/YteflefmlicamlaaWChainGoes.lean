/- The walk of the law ChainGoes. -/
import Derived.Test.YteflefmlicamlaaChWakes
import Derived.Test.YteflefmlicamlaaChGo
namespace Go.Proofs.Yteflefmlicamlaa.Pk
open Go.RowKit
set_option linter.unusedVariables false
set_option maxRecDepth 100000 in
set_option maxHeartbeats 16000000 in
theorem law_ChainGoes (HGo : GoodP) (HOp : OpenP) (HAd : AddP) (HSu : SuccP) (HGr : GrantP) (HRe : RelP) (me : Int) (A : Option Addr) (n c : Nat) (l : List Bool) (w : World) (hm : J64 me) (hin : Ar.ArgT w A n c l) :
    Calls Try.prog 7 #[.int .i64 me, .slice A n c] w fun e w' => e = .returned (.bool true) ∧ Below w.heap.size w w' := by
  have HW := Lib.hid (wakesC HSu HRe w)
  have HI := Lib.hid hin
  have hn := hin.2.2
  have HGo := Lib.hid HGo
  have HOp := Lib.hid HOp
  have HAd := Lib.hid HAd
  have HSu := Lib.hid HSu
  have HGr := Lib.hid HGr
  have HRe := Lib.hid HRe
  have HJm := Lib.hid hm
  clear hin hm
  by_cases hall : (0 ≤ me ∧ me < 32) ∧ n ≤ 512
  · obtain ⟨⟨a1, a2⟩, a3⟩ := hall
    have HM1 := Lib.hid a1
    have HM2 := Lib.hid a2
    go_enter Try.func7, Try.ntmps7
    go_wp2_with fail
    refine (HW.out).mono ?_
    rintro e w1 ⟨rfl, hb⟩
    have HB1 := Lib.hid hb
    clear hb
    have HB2 : Hid (Below w.heap.size w (w1.alloc (.cells #[.int .i64 0, .int .i64 3, .int .i64 (-1), .int .i64 0] 36))) := Lib.hid (HB1.out.alloc HB1.out.size _)
    have HK0 := Lib.hid (lit_inK w1 ⟨0, 3, -1, 0⟩ (by constructor <;> simp))
    go_wp2
    go_loopw [5, 6, 7, 37] (fun cs md at_ j wr => ∃ (i a m k : Nat) (r : Bool) (L : List Ce) (Ac : Option Addr) (cc : Nat), j = .int .i64 i ∧ i ≤ n ∧ m ≤ i ∧ cs = .slice Ac (k + 1) cc ∧ md = .int .i64 m ∧ at_ = .int .i64 a ∧ InK wr L Ac (k + 1) cc ∧ Run L me a m r ∧ Below w.heap.size w wr) (fun _ _ _ j _ => n - (intOf j).toNat)
    case atStart => exact ⟨0, 0, 0, 0, true, _, _, _, rfl, by omega, by omega, rfl, rfl, rfl, HK0.out, Run.start me, HB2.out⟩
    case round =>
      obtain ⟨i, a, m, k, r, L, Ac, cc, rfl, hi, hmi, rfl, rfl, rfl, hink, hrun, hbel⟩ := hrel
      obtain ⟨w3, rfl⟩ : ∃ w3 : World, w3 = wr := ⟨_, rfl⟩
      have HK3 := Lib.hid hink
      have HRn := Lib.hid hrun
      have HB3 := Lib.hid hbel
      have hlL : L.length = k + 1 := hink.len
      have hk : k < 514 := by have := hrun.len; omega
      have HLL := Lib.hid hlL
      clear hink hbel hlL HB2 HK0 HW
      by_cases hlt : i < n
      · have hm3 : m < 512 := by omega
        obtain ⟨mb, mo, rfl, hmv⟩ := argT_cells HI.out (by omega)
        have mv := hmv w3 HB3.out i hlt
        clear hmv
        have HLi : Hid (∀ c ∈ L, c.I) := Lib.hid HK3.out.i
        cases hx : l.getD i false with
        | true =>
          rw [hx] at mv
          clear hx
          cases r with
          | true =>
            have ha := hrun.rest rfl
            subst ha
            obtain ⟨e1, e2, e3, e4⟩ := hrun.ask_rest
            have e0 := hrun.open_rest
            have HS := Lib.hid (HSu.out _ _ _ L me ((a : Int) + 1) w3 HK3.out HJm.out (by unfold J64; omega))
            rw [e1] at HS
            simp only at HS
            have HO := Lib.hid (fun (W : World) (hb : Below w3.heap.size w3 W) => HOp.out _ _ _ L W (HK3.out.next hb))
            rw [e0] at HO
            have E2 := Lib.hid e2
            have E3 := Lib.hid e3
            obtain ⟨LL, hLL⟩ : ∃ r, r = [(⟨(a : Int) + 1, 2, -1, 0⟩ : Ce)] := ⟨_, rfl⟩
            rw [← hLL] at e4
            have E4 := Lib.hid hLL
            have HRc := Lib.hid e4
            obtain ⟨qk, hqk⟩ : ∃ q, LL.length = q + 1 := ⟨0, by rw [hLL]; rfl⟩
            have hqk2 : qk < 514 := by rw [hLL] at hqk; simp at hqk; omega
            have HQk := Lib.hid hqk
            clear e0 e1 e2 e3 e4 hrun hLL hqk
            go_wp2_with fail
            refine (HS.out).mono ?_
            rintro e w4 ⟨v, rfl, ho, hb⟩
            obtain ⟨As, cs, rfl⟩ := ho.sl
            have HB4 := Lib.hid (HB3.out.trans (hb.mono HB3.out.size))
            have HNx := Lib.hid (ho.inK (by simp) (by intro c hc; cases hc))
            have HO4 := Lib.hid (HO.out w4 hb)
            clear HS ho hb HO
            go_wp2_with fail
            refine (HO4.out).mono ?_
            rintro e w5 ⟨rfl, hb⟩
            have HB5 := Lib.hid (HB4.out.trans (hb.mono HB4.out.size))
            have HA := Lib.hid (HAd.out _ _ _ [] ((a : Int) + 1) w5 (HNx.out.next hb) (by unfold J64; omega))
            rw [E2.out] at HA
            clear hb HO4 HNx
            go_wp2_with fail
            refine (HA.out).mono ?_
            rintro e w6 ⟨v, rfl, ho, hb⟩
            obtain ⟨Aa, ca, rfl⟩ := ho.sl
            have HB6 := Lib.hid (HB5.out.trans (hb.mono HB5.out.size))
            have HGr1 := Lib.hid (HGr.out _ _ _ [⟨(a : Int) + 1, 1, -1, 0⟩] ((a : Int) + 1) w6 (ho.inK (by simp) (by intro c hc; rw [List.mem_singleton.1 hc]; exact ⟨⟨by simp only; omega, by simp only; omega⟩, by constructor <;> simp, by constructor <;> simp, by constructor <;> simp⟩)) (by unfold J64; omega))
            rw [E3.out, ← E4.out] at HGr1
            simp only at HGr1
            clear ho hb HA
            go_wp2_with fail
            refine (HGr1.out).mono ?_
            rintro e w7 ⟨v, rfl, ho, hb⟩
            obtain ⟨Ag, cg, rfl⟩ := ho.slk HQk.out
            have HB7 := Lib.hid (HB6.out.trans (hb.mono HB6.out.size))
            have HKc := Lib.hid (ho.inKk (by omega) (HRc.out.good HM1.out HM2.out (by omega)).i)
            clear ho hb
            clear HGr1
            have HKg := Lib.hid (HGo.out _ _ _ LL me true w7 HKc.out HJm.out)
            rw [decide_eq_true (HRc.out.good HM1.out HM2.out (by omega))] at HKg
            obtain ⟨qb, qo, rfl, hq⟩ := HRc.out.spots HKc.out ((a : Int) + 1) ((a : Int) + 1) 2 (by simp) (by simp) rfl
            have HQ := Lib.hid hq
            clear hq
            go_wp2_with fail
            refine (HKg.out).mono ?_
            rintro e w8 ⟨rfl, hb⟩
            have HB8 := Lib.hid (HB7.out.trans (hb.mono HB7.out.size))
            have HKe := Lib.hid (HKc.out.next hb)
            obtain ⟨q0, q1, q2⟩ := HQ.out w8 hb
            clear hb HKg
            go_wp2
            go_roundw
            case rel => exact ⟨i + 1, a + 1, a + 1, qk, false, LL, _, _, by go_num, by omega, by omega, rfl, by first | rfl | go_num, by first | rfl | go_num, HKe.out, HRc.out, HB8.out⟩
            case measure => simp [intOf]; omega
          | false =>
            obtain ⟨L', e1, e2⟩ := hrun.ask_held
            have e0 := hrun.open_held
            obtain ⟨ol, hol⟩ : ∃ r, r = openK L := ⟨_, rfl⟩
            rw [← hol] at e0
            have HS := Lib.hid (HSu.out _ _ _ L me ((m : Int) + 1) w3 HK3.out HJm.out (by unfold J64; omega))
            have HNi : Hid (∀ c ∈ L', c.I) := Lib.hid (by have := succK_i (d := me) (x := (m : Int) + 1) HLi.out HJm.out (by unfold J64; omega); rw [e1] at this; exact this)
            have HNl : Hid (L'.length ≤ 514) := Lib.hid (by have := succK_len L me ((m : Int) + 1); rw [e1, HLL.out] at this; simp only at this; omega)
            rw [e1] at HS
            simp only at HS
            have HO := Lib.hid (fun (W : World) (hb : Below w3.heap.size w3 W) => HOp.out _ _ _ L W (HK3.out.next hb))
            rw [← hol] at HO
            have HRc := Lib.hid e2
            obtain ⟨LL, hLL⟩ : ∃ r, r = addK L' ((m : Int) + 1) := ⟨_, rfl⟩
            rw [← hLL] at HRc
            have E4 := Lib.hid hLL
            have hle := hrun.le
            obtain ⟨qk, hqk⟩ : ∃ q, LL.length = q + 1 := ⟨LL.length - 1, by have := HRc.out.pos; omega⟩
            have hqk2 : qk < 514 := by have := HRc.out.len; omega
            have HQk := Lib.hid hqk
            clear e1 e2 hrun hLL hqk hol
            by_cases ham : a = m
            · subst ham
              have t1 : ((ol : Int) == 0) = false := by simp; omega
              go_wp2_with fail
              refine (HS.out).mono ?_
              rintro e w4 ⟨v, rfl, ho, hb⟩
              obtain ⟨As, cs, rfl⟩ := ho.sl
              have HB4 := Lib.hid (HB3.out.trans (hb.mono HB3.out.size))
              have HNx := Lib.hid (ho.inK (by have := HNl.out; omega) HNi.out)
              have HO4 := Lib.hid (HO.out w4 hb)
              clear HS ho hb HO
              go_wp2_with fail
              refine (HO4.out).mono ?_
              rintro e w5 ⟨rfl, hb⟩
              have HB5 := Lib.hid (HB4.out.trans (hb.mono HB4.out.size))
              have HA := Lib.hid (HAd.out _ _ _ L' ((a : Int) + 1) w5 (HNx.out.next hb) (by unfold J64; omega))
              clear hb
              rw [← E4.out] at HA
              clear HO4 HNx
              go_wp2_with fail
              refine (HA.out).mono ?_
              rintro e w6 ⟨v, rfl, ho, hb⟩
              obtain ⟨Ag, cg, rfl⟩ := ho.slk HQk.out
              have HB6 := Lib.hid (HB5.out.trans (hb.mono HB5.out.size))
              have HKc := Lib.hid (ho.inKk (by omega) (HRc.out.good HM1.out HM2.out (by omega)).i)
              clear ho hb
              clear HA
              have HKg := Lib.hid (HGo.out _ _ _ LL me true w6 HKc.out HJm.out)
              rw [decide_eq_true (HRc.out.good HM1.out HM2.out (by omega))] at HKg
              obtain ⟨qb, qo, rfl, hq⟩ := HRc.out.spots HKc.out (a : Int) ((a : Int) + 1) 2 (by simp) (by simp) rfl
              have HQ := Lib.hid hq
              clear hq
              go_wp2_with fail
              refine (HKg.out).mono ?_
              rintro e w7 ⟨rfl, hb⟩
              have HB7 := Lib.hid (HB6.out.trans (hb.mono HB6.out.size))
              have HKe := Lib.hid (HKc.out.next hb)
              obtain ⟨q0, q1, q2⟩ := HQ.out w7 hb
              clear hb HKg
              go_wp2
              go_roundw
              case rel => exact ⟨i + 1, a, a + 1, qk, false, LL, _, _, by go_num, by omega, by omega, rfl, by first | rfl | go_num, by first | rfl | go_num, HKe.out, HRc.out, HB7.out⟩
              case measure => simp [intOf]; omega
            · have t1 : ((a : Int) == (m : Int)) = false := by simp; omega
              go_wp2_with fail
              refine (HS.out).mono ?_
              rintro e w4 ⟨v, rfl, ho, hb⟩
              obtain ⟨As, cs, rfl⟩ := ho.sl
              have HB4 := Lib.hid (HB3.out.trans (hb.mono HB3.out.size))
              have HNx := Lib.hid (ho.inK (by have := HNl.out; omega) HNi.out)
              have HO4 := Lib.hid (HO.out w4 hb)
              clear HS ho hb HO
              have HA := Lib.hid (HAd.out _ _ _ L' ((m : Int) + 1) w4 HNx.out (by unfold J64; omega))
              rw [← E4.out] at HA
              clear HO4 HNx
              go_wp2_with fail
              refine (HA.out).mono ?_
              rintro e w5 ⟨v, rfl, ho, hb⟩
              obtain ⟨Ag, cg, rfl⟩ := ho.slk HQk.out
              have HB5 := Lib.hid (HB4.out.trans (hb.mono HB4.out.size))
              have HKc := Lib.hid (ho.inKk (by omega) (HRc.out.good HM1.out HM2.out (by omega)).i)
              clear ho hb
              clear HA
              have HKg := Lib.hid (HGo.out _ _ _ LL me true w5 HKc.out HJm.out)
              rw [decide_eq_true (HRc.out.good HM1.out HM2.out (by omega))] at HKg
              obtain ⟨qb, qo, rfl, hq⟩ := HRc.out.spots HKc.out (a : Int) ((m : Int) + 1) 2 (by simp) (by simp) rfl
              have HQ := Lib.hid hq
              clear hq
              go_wp2_with fail
              refine (HKg.out).mono ?_
              rintro e w6 ⟨rfl, hb⟩
              have HB6 := Lib.hid (HB5.out.trans (hb.mono HB5.out.size))
              have HKe := Lib.hid (HKc.out.next hb)
              obtain ⟨q0, q1, q2⟩ := HQ.out w6 hb
              clear hb HKg
              go_wp2
              go_roundw
              case rel => exact ⟨i + 1, a, m + 1, qk, false, LL, _, _, by go_num, by omega, by omega, rfl, by first | rfl | go_num, by first | rfl | go_num, HKe.out, HRc.out, HB6.out⟩
              case measure => simp [intOf]; omega
        | false =>
          rw [hx] at mv
          clear hx
          cases r with
          | true =>
            have HS := Lib.hid (HRe.out _ _ _ L w3 HK3.out)
            rw [hrun.rel_rest] at HS
            simp only at HS
            have HO := Lib.hid (fun (W : World) (hb : Below w3.heap.size w3 W) => HOp.out _ _ _ L W (HK3.out.next hb))
            rw [hrun.open_rest] at HO
            clear hrun
            go_wp2_with fail
            refine (HS.out).mono ?_
            rintro e w4 ⟨v, rfl, ho, hb⟩
            obtain ⟨As, cs, rfl⟩ := ho.sl
            have HB4 := Lib.hid (HB3.out.trans (hb.mono HB3.out.size))
            have HO4 := Lib.hid (HO.out w4 hb)
            have HK4 := Lib.hid (HK3.out.next hb)
            clear HS ho hb HO
            go_wp2_with fail
            refine (HO4.out).mono ?_
            rintro e w5 ⟨rfl, hb⟩
            have HB5 := Lib.hid (HB4.out.trans (hb.mono HB4.out.size))
            have HK5 := Lib.hid (HK4.out.next hb)
            clear hb HO4 HK4
            go_wp2
            go_roundw
            case rel => exact ⟨i + 1, a, m, k, true, L, _, _, by go_num, by omega, by omega, rfl, rfl, rfl, HK5.out, HRn.out, HB5.out⟩
            case measure => simp [intOf]; omega
          | false =>
            have e0 := hrun.open_held
            obtain ⟨ol, hol⟩ : ∃ r, r = openK L := ⟨_, rfl⟩
            rw [← hol] at e0
            have HO := Lib.hid (fun (W : World) (hb : Below w3.heap.size w3 W) => HOp.out _ _ _ L W (HK3.out.next hb))
            rw [← hol] at HO
            have HS := Lib.hid (HRe.out _ _ _ L w3 HK3.out)
            have t1 : (0 : Int) < (ol : Int) := by omega
            clear hol
            by_cases ham : a = m
            · subst ham
              obtain ⟨LL, e1, e2⟩ := hrun.rel_last
              rw [e1] at HS
              simp only at HS
              have HRc := Lib.hid e2
              obtain ⟨qk, hqk⟩ : ∃ q, LL.length = q + 1 := ⟨LL.length - 1, by have := HRc.out.pos; omega⟩
              have hqk2 : qk < 514 := by have := HRc.out.len; omega
              have HQk := Lib.hid hqk
              clear e1 e2 hrun hqk
              go_wp2_with fail
              refine (HS.out).mono ?_
              rintro e w4 ⟨v, rfl, ho, hb⟩
              have HO4 := Lib.hid (HO.out w4 hb)
              have hb4 := hb
              obtain ⟨Ag, cg, rfl⟩ := ho.slk HQk.out
              have HB4 := Lib.hid (HB3.out.trans (hb.mono HB3.out.size))
              have HKc := Lib.hid (ho.inKk (by omega) (HRc.out.good HM1.out HM2.out (by omega)).i)
              clear ho hb
              clear HS HO hb4
              go_wp2_with fail
              refine (HO4.out).mono ?_
              rintro e w5 ⟨rfl, hb⟩
              have HB5 := Lib.hid (HB4.out.trans (hb.mono HB4.out.size))
              have HKc := Lib.hid (HKc.out.next hb)
              clear hb HO4
              have HKg := Lib.hid (HGo.out _ _ _ LL me true w5 HKc.out HJm.out)
              rw [decide_eq_true (HRc.out.good HM1.out HM2.out (by omega))] at HKg
              obtain ⟨qb, qo, rfl, hq⟩ := HRc.out.spots HKc.out (a : Int) (a : Int) 3 (by simp) (by simp) rfl
              have HQ := Lib.hid hq
              clear hq
              go_wp2_with fail
              refine (HKg.out).mono ?_
              rintro e w6 ⟨rfl, hb⟩
              have HB6 := Lib.hid (HB5.out.trans (hb.mono HB5.out.size))
              have HKe := Lib.hid (HKc.out.next hb)
              obtain ⟨q0, q1, q2⟩ := HQ.out w6 hb
              clear hb HKg
              go_wp2
              go_roundw
              case rel => exact ⟨i + 1, a, a, qk, true, LL, _, _, by go_num, by omega, by omega, rfl, by first | rfl | go_num, by first | rfl | go_num, HKe.out, HRc.out, HB6.out⟩
              case measure => simp [intOf]; omega
            · have hle := hrun.le
              obtain ⟨L', LL, e1, e2, e3⟩ := hrun.rel_next (by omega) a1
              have HNi : Hid (∀ c ∈ L', c.I) := Lib.hid (by have := relK_i HLi.out; rw [e1] at this; exact this)
              have HNl : Hid (L'.length ≤ 514) := Lib.hid (by have := relK_len L; rw [e1, HLL.out] at this; simp only at this; omega)
              rw [e1] at HS
              simp only at HS
              have HRc := Lib.hid e3
              have E2 := Lib.hid e2
              have t2 : (me == -1) = false := by simp; omega
              have t3 : (me == me) = true := by simp
              have t4 : (me != me) = false := by simp
              have t5 : (me != -1) = true := by simp; omega
              obtain ⟨qk, hqk⟩ : ∃ q, LL.length = q + 1 := ⟨LL.length - 1, by have := HRc.out.pos; omega⟩
              have hqk2 : qk < 514 := by have := HRc.out.len; omega
              have HQk := Lib.hid hqk
              clear e1 e2 e3 hrun hqk
              go_wp2_with fail
              refine (HS.out).mono ?_
              rintro e w4 ⟨v, rfl, ho, hb⟩
              obtain ⟨As, cs, rfl⟩ := ho.sl
              have HB4 := Lib.hid (HB3.out.trans (hb.mono HB3.out.size))
              have HNx := Lib.hid (ho.inK (by have := HNl.out; omega) HNi.out)
              have HO4 := Lib.hid (HO.out w4 hb)
              clear HS ho hb HO
              go_wp2_with fail
              refine (HO4.out).mono ?_
              rintro e w5 ⟨rfl, hb⟩
              have HB5 := Lib.hid (HB4.out.trans (hb.mono HB4.out.size))
              have HGr1 := Lib.hid (HGr.out _ _ _ L' ((a : Int) + 1) w5 (HNx.out.next hb) (by unfold J64; omega))
              rw [E2.out] at HGr1
              simp only at HGr1
              clear hb HO4 HNx
              go_wp2_with fail
              refine (HGr1.out).mono ?_
              rintro e w6 ⟨v, rfl, ho, hb⟩
              obtain ⟨Ag, cg, rfl⟩ := ho.slk HQk.out
              have HB6 := Lib.hid (HB5.out.trans (hb.mono HB5.out.size))
              have HKc := Lib.hid (ho.inKk (by omega) (HRc.out.good HM1.out HM2.out (by omega)).i)
              clear ho hb
              clear HGr1
              have HKg := Lib.hid (HGo.out _ _ _ LL me true w6 HKc.out HJm.out)
              rw [decide_eq_true (HRc.out.good HM1.out HM2.out (by omega))] at HKg
              obtain ⟨qb, qo, rfl, hq⟩ := HRc.out.spots HKc.out ((a : Int) + 1) (m : Int) 2 (by simp) (by simp) rfl
              have HQ := Lib.hid hq
              clear hq
              go_wp2_with fail
              refine (HKg.out).mono ?_
              rintro e w7 ⟨rfl, hb⟩
              have HB7 := Lib.hid (HB6.out.trans (hb.mono HB6.out.size))
              have HKe := Lib.hid (HKc.out.next hb)
              obtain ⟨q0, q1, q2⟩ := HQ.out w7 hb
              clear hb HKg
              go_wp2
              go_roundw
              case rel => exact ⟨i + 1, a + 1, m, qk, false, LL, _, _, by go_num, by omega, by omega, rfl, by first | rfl | go_num, by first | rfl | go_num, HKe.out, HRc.out, HB7.out⟩
              case measure => simp [intOf]; omega
      · go_wp2
        go_ret
        exact ⟨rfl, HB3.out⟩
  · have hall2 : me < 0 ∨ (0 ≤ me ∧ 32 ≤ me) ∨ (0 ≤ me ∧ me < 32 ∧ 512 < n) := by omega
    clear hall
    go_enter Try.func7, Try.ntmps7
    go_wp2_with fail
    refine (HW.out).mono ?_
    rintro e w1 ⟨rfl, hb⟩
    have HB1 := Lib.hid hb
    clear hb
    rcases hall2 with q1 | ⟨q1, q2⟩ | ⟨q1, q2, q3⟩
    · go_wp2
      go_ret
      exact ⟨rfl, HB1.out⟩
    · go_wp2
      go_ret
      exact ⟨rfl, HB1.out⟩
    · go_wp2
      go_ret
      exact ⟨rfl, HB1.out⟩
end Go.Proofs.Yteflefmlicamlaa.Pk
