/- The document's answers (fletchref13): Release. -/
import Derived.Test.YteflefmlicamlaaChRef2
namespace Go.Proofs.Yteflefmlicamlaa.Pk
open Go.RowKit
set_option linter.unusedVariables false
attribute [local go_sem] Oper.semAt_some
set_option maxRecDepth 100000 in
set_option maxHeartbeats 8000000 in
theorem refrel_any (A : Option Addr) (n c : Nat) (l : List Ce) (w : World) (hin : InK w l A n c) :
    Calls Try.prog 21 #[.slice A n c] w fun e w' => ∃ v, e = .returned (.tuple #[v, .int .i64 (relK l).2.1, .int .i64 (relK l).2.2.1, .int .i64 (relK l).2.2.2]) ∧ OwnK w' w.heap.size v (relK l).1 ∧ Below w.heap.size w w' := by
  have HI := Lib.hid hin
  have HL := Lib.hid hin.len
  have hn := hin.few
  clear hin
  cases hg : heldAt l with
  | none =>
    obtain ⟨hS, hno⟩ := held_none hg
    have HNo := Lib.hid hno
    rw [hS]
    clear hS hno hg
    go_enter Try.func21, Try.ntmps21
    go_wp2
    go_loopw [6, 7, 8, 14] (fun z _ _ j wr => ∃ i : Nat, j = .int .i64 i ∧ i ≤ n ∧ z = .int .i64 (-1) ∧ Below w.heap.size w wr) (fun _ _ _ j _ => n - (intOf j).toNat)
    case atStart => exact ⟨0, rfl, by omega, rfl, Below.refl _ _⟩
    case round =>
      obtain ⟨i, rfl, hi, rfl, hb⟩ := hrel
      obtain ⟨w1, rfl⟩ : ∃ w1 : World, w1 = wr := ⟨_, rfl⟩
      have HB := Lib.hid hb
      clear hb
      by_cases hlt : i < n
      · obtain ⟨b, off, rfl, _, hc⟩ := (HI.out.next HB.out).rd.ces_ (by omega)
        have hil : i < l.length := by rw [HL.out]; exact hlt
        have hcg := hc i _ (ceA_get hil)
        obtain ⟨r, hr⟩ : ∃ r, r = ceA l i := ⟨_, rfl⟩
        have HRi := Lib.hid hr
        rw [← hr] at hcg
        obtain ⟨rn, rs, rd, rx⟩ := r
        simp only at hcg
        obtain ⟨m0, m1, m2, m3⟩ := hcg
        clear hc hr
        have hno := HNo.out i hil
        rw [← HRi.out] at hno
        simp only at hno
        have t1 : (rs == 2) = false := by simpa using hno
        have HB2 : Hid (Below w.heap.size w (w1.alloc (.cells #[.int .i64 rn, .int .i64 rs, .int .i64 rd, .int .i64 rx] 36))) := Lib.hid (HB.out.alloc HB.out.size _)
        clear hno
        go_wp2
        go_roundw
        case rel => exact ⟨i + 1, by go_num, by omega, rfl, HB2.out⟩
        case measure => simp [intOf]; omega
      · go_wp2
        exact bodyPost_ret (v := .tuple #[.slice none 0 0, .int .i64 0, .int .i64 0, .int .i64 22]) (by simp [results, Try.f21, go_sem]) rfl ⟨_, rfl, OwnK.none_ _ _, HB.out⟩
  | some k =>
    obtain ⟨hS, hk, hks, hno⟩ := held_some hg
    have HNo := Lib.hid hno
    have HKs := Lib.hid hks
    have hkn : k < n := by rw [← HL.out]; exact hk
    have HK := Lib.hid hkn
    have HS := Lib.hid hS
    have HKl := Lib.hid hk
    clear hS hno hg hk hks
    go_enter Try.func21, Try.ntmps21
    go_wp2
    go_loopw [6, 7, 8, 14] (fun z _ _ j wr => ∃ (i : Nat) (q : Int), j = .int .i64 i ∧ i ≤ n ∧ z = .int .i64 q ∧ q = (if k < i then (k : Int) else -1) ∧ Below w.heap.size w wr) (fun _ _ _ j _ => n - (intOf j).toNat)
    case atStart => exact ⟨0, -1, rfl, by omega, rfl, (by simp), Below.refl _ _⟩
    case round =>
      obtain ⟨i, q, rfl, hi, rfl, hq, hb⟩ := hrel
      obtain ⟨w1, rfl⟩ : ∃ w1 : World, w1 = wr := ⟨_, rfl⟩
      have HB := Lib.hid hb
      have HQ := Lib.hid hq
      clear hb hq
      by_cases hlt : i < n
      · obtain ⟨b, off, rfl, _, hc⟩ := (HI.out.next HB.out).rd.ces_ (by omega)
        have hil : i < l.length := by rw [HL.out]; exact hlt
        have hcg := hc i _ (ceA_get hil)
        obtain ⟨r, hr⟩ : ∃ r, r = ceA l i := ⟨_, rfl⟩
        have HRi := Lib.hid hr
        rw [← hr] at hcg
        obtain ⟨rn, rs, rd, rx⟩ := r
        simp only at hcg
        obtain ⟨m0, m1, m2, m3⟩ := hcg
        clear hc hr
        have HB2 : Hid (Below w.heap.size w (w1.alloc (.cells #[.int .i64 rn, .int .i64 rs, .int .i64 rd, .int .i64 rx] 36))) := Lib.hid (HB.out.alloc HB.out.size _)
        rcases Nat.lt_trichotomy i k with hik | hik | hik
        · obtain rfl : q = -1 := by rw [HQ.out, if_neg (by omega)]
          have hno := HNo.out i hik
          rw [← HRi.out] at hno
          simp only at hno
          have t1 : (rs == 2) = false := by simpa using hno
          have HIk := Lib.hid hik
          clear hno hik
          go_wp2
          go_roundw
          case rel => exact ⟨i + 1, -1, by go_num, by omega, rfl, (by have := HIk.out; rw [if_neg (by omega)]), HB2.out⟩
          case measure => simp [intOf]; omega
        · obtain rfl : q = -1 := by rw [HQ.out, if_neg (by omega)]
          have hs := HKs.out
          rw [← hik, ← HRi.out] at hs
          simp only at hs
          have t1 : (rs == 2) = true := by simp [hs]
          have HIk := Lib.hid hik
          clear hs hik
          go_wp2
          go_roundw
          case rel => exact ⟨i + 1, (i : Int), by go_num, by omega, rfl, (by have := HIk.out; rw [if_pos (by omega)]; omega), HB2.out⟩
          case measure => simp [intOf]; omega
        · obtain rfl : q = (k : Int) := by rw [HQ.out, if_pos hik]
          have HIk := Lib.hid hik
          clear hik
          go_wp2
          go_roundw
          case rel => exact ⟨i + 1, (k : Int), by go_num, by omega, rfl, (by have := HIk.out; rw [if_pos (by omega)]), HB2.out⟩
          case measure => simp [intOf]; omega
      · obtain rfl : q = (k : Int) := by rw [HQ.out, if_pos (by have := HK.out; omega)]
        have HBe := Lib.hid HB.out
        go_wp2
        by_cases hd : (ceA l k).d = -1
        · rw [if_pos hd] at HS
          obtain ⟨L, hL⟩ : ∃ L, L = l.set k ⟨(ceA l k).n, 3, (ceA l k).d, (ceA l k).x⟩ := ⟨_, rfl⟩
          have HLl : Hid (L.length = n) := Lib.hid (by rw [hL, List.length_set, HL.out])
          have HLi : Hid (∀ i, ceA L i = if i = k then ⟨(ceA l k).n, 3, (ceA l k).d, (ceA l k).x⟩ else ceA l i) := Lib.hid (fun i => by rw [hL]; exact ceA_set HKl.out)
          have HD := Lib.hid hd
          rw [← hL] at HS
          clear hL hd
          go_loopw [9, 10, 11, 32] (fun y _ _ j wr => ∃ i : Nat, j = .int .i64 i ∧ i ≤ n ∧ OwnK wr w.heap.size y (L.take i) ∧ Below w.heap.size w wr) (fun _ _ _ j _ => n - (intOf j).toNat)
          case atStart => exact ⟨0, rfl, by omega, OwnK.none_ _ _, HBe.out⟩
          case round =>
            clear HB HBe w1
            obtain ⟨i, rfl, hi, hown, hb⟩ := hrel
            obtain ⟨w1, rfl⟩ : ∃ w1 : World, w1 = wr := ⟨_, rfl⟩
            have HB := Lib.hid hb
            have HO := Lib.hid hown
            clear hb hown
            by_cases hlt : i < n
            · have HTl : Hid ((L.take i).length ≤ n) := Lib.hid (by rw [List.length_take, HLl.out]; omega)
              obtain ⟨b, off, rfl, _, hc⟩ := (HI.out.next HB.out).rd.ces_ (by omega)
              have hil : i < l.length := by rw [HL.out]; exact hlt
              have hcg := hc i _ (ceA_get hil)
              obtain ⟨r, hr⟩ : ∃ r, r = ceA l i := ⟨_, rfl⟩
              have HRi := Lib.hid hr
              rw [← hr] at hcg
              obtain ⟨rn, rs, rd, rx⟩ := r
              simp only at hcg
              obtain ⟨m0, m1, m2, m3⟩ := hcg
              clear hc hr
              have HTn := Lib.hid (take_ce (l := L) (i := i) (by rw [HLl.out]; exact hlt))
              by_cases hik : i = k
              · have HN : Hid (L.take i ++ [⟨rn, 3, rd, rx⟩] = L.take (i + 1)) := Lib.hid (by rw [HTn.out, HLi.out, if_pos hik, ← hik, ← HRi.out])
                have e1 := HD.out
                rw [← hik, ← HRi.out] at e1
                simp only at e1
                have t1 : ((i : Int) == (k : Int)) = true := by simp [hik]
                have t2 : (rd != -1) = false := by simp [e1]
                clear e1 hik
                go_wp2_with (at_builtin; go_loud (refine appK (w1.alloc (.cells #[.int .i64 rn, .int .i64 3, .int .i64 rd, .int .i64 rx] 36)) ⟨rn, 3, rd, rx⟩ _ rfl (.tmp 49) (.tmp 51) rfl w.heap.size _ (L.take i) rfl (HO.out.alloc _) (w1.heap.size + 1) (by rw [World.size_alloc]) rfl (by have h9 := HTl.out; omega) (by have := HB.out.size; rw [World.size_alloc]; omega) ?_); intro v3 w3 ho3 hb3 hg3 hat3; have HO3 := Lib.hid ho3; have HB3 : Hid (Below w.heap.size w w3) := Lib.hid ((HB.out.alloc HB.out.size _).trans hb3); clear ho3 hb3 hg3 hat3)
                go_roundw
                case rel => exact ⟨i + 1, by go_num, by omega, by rw [← HN.out]; exact HO3.out, HB3.out⟩
                case measure => simp [intOf]; omega
              · have HN : Hid (L.take i ++ [⟨rn, rs, rd, rx⟩] = L.take (i + 1)) := Lib.hid (by rw [HTn.out, HLi.out, if_neg hik, ← HRi.out])
                have t1 : ((i : Int) == (k : Int)) = false := by simp; omega
                clear hik
                go_wp2_with (at_builtin; go_loud (refine appK (w1.alloc (.cells #[.int .i64 rn, .int .i64 rs, .int .i64 rd, .int .i64 rx] 36)) ⟨rn, rs, rd, rx⟩ _ rfl (.tmp 49) (.tmp 51) rfl w.heap.size _ (L.take i) rfl (HO.out.alloc _) (w1.heap.size + 1) (by rw [World.size_alloc]) rfl (by have h9 := HTl.out; omega) (by have := HB.out.size; rw [World.size_alloc]; omega) ?_); intro v3 w3 ho3 hb3 hg3 hat3; have HO3 := Lib.hid ho3; have HB3 : Hid (Below w.heap.size w w3) := Lib.hid ((HB.out.alloc HB.out.size _).trans hb3); clear ho3 hb3 hg3 hat3)
                go_roundw
                case rel => exact ⟨i + 1, by go_num, by omega, by rw [← HN.out]; exact HO3.out, HB3.out⟩
                case measure => simp [intOf]; omega
            · have HF : Hid (L.take i = L) := Lib.hid (List.take_of_length_le (by rw [HLl.out]; omega))
              rw [HF.out] at HO
              obtain ⟨b, off, rfl, _, hc⟩ := (HI.out.next HB.out).rd.ces_ (by omega)
              obtain ⟨-, -, m2, -⟩ := hc k _ (ceA_get HKl.out)
              rw [HD.out] at m2
              have hki : (k : Int) < (n : Int) := by omega
              clear hc
              go_wp2
              obtain ⟨A9, c9, e9, _, _⟩ := OwnK.reads HO.out
              subst e9
              exact bodyPost_ret (v := .tuple #[.slice A9 L.length c9, .int .i64 (-1), .int .i64 0, .int .i64 0]) (by simp [results, Try.f21, go_sem]) rfl ⟨_, by rw [HS.out], by rw [HS.out]; exact HO.out, HB.out⟩
        · rw [if_neg hd] at HS
          obtain ⟨L, hL⟩ : ∃ L, L = l.eraseIdx k := ⟨_, rfl⟩
          have HLl : Hid (L.length + 1 = n) := Lib.hid (by rw [hL, List.length_eraseIdx, if_pos HKl.out, HL.out]; omega)
          have HLi : Hid (∀ i, ceA L i = if i < k then ceA l i else ceA l (i + 1)) := Lib.hid (fun i => by rw [hL]; exact ceA_erase)
          have HD := Lib.hid hd
          rw [← hL] at HS
          clear hL hd
          go_loopw [9, 10, 11, 32] (fun y _ _ j wr => ∃ (i q : Nat), j = .int .i64 i ∧ i ≤ n ∧ q = (if k < i then i - 1 else i) ∧ OwnK wr w.heap.size y (L.take q) ∧ Below w.heap.size w wr) (fun _ _ _ j _ => n - (intOf j).toNat)
          case atStart => exact ⟨0, 0, rfl, by omega, (by simp), OwnK.none_ _ _, HBe.out⟩
          case round =>
            clear HB HBe w1
            obtain ⟨i, q, rfl, hi, hq, hown, hb⟩ := hrel
            obtain ⟨w1, rfl⟩ : ∃ w1 : World, w1 = wr := ⟨_, rfl⟩
            have HB := Lib.hid hb
            have HO := Lib.hid hown
            have HQ2 := Lib.hid hq
            clear hb hown hq
            by_cases hlt : i < n
            · have HTl : Hid ((L.take q).length ≤ n) := Lib.hid (by rw [List.length_take]; have := HLl.out; omega)
              obtain ⟨b, off, rfl, _, hc⟩ := (HI.out.next HB.out).rd.ces_ (by omega)
              have hil : i < l.length := by rw [HL.out]; exact hlt
              have hcg := hc i _ (ceA_get hil)
              obtain ⟨r, hr⟩ : ∃ r, r = ceA l i := ⟨_, rfl⟩
              have HRi := Lib.hid hr
              rw [← hr] at hcg
              obtain ⟨rn, rs, rd, rx⟩ := r
              simp only at hcg
              obtain ⟨m0, m1, m2, m3⟩ := hcg
              clear hc hr
              rcases Nat.lt_trichotomy i k with hik | hik | hik
              · have hqi : q = i := by rw [HQ2.out, if_neg (by omega)]
                subst hqi
                have HN : Hid (L.take q ++ [⟨rn, rs, rd, rx⟩] = L.take (q + 1)) := Lib.hid (by rw [take_ce (l := L) (i := q) (by have := HLl.out; omega), HLi.out, if_pos hik, ← HRi.out])
                have t1 : ((q : Int) == (k : Int)) = false := by simp; omega
                have HIk := Lib.hid hik
                clear hik
                go_wp2_with (at_builtin; go_loud (refine appK (w1.alloc (.cells #[.int .i64 rn, .int .i64 rs, .int .i64 rd, .int .i64 rx] 36)) ⟨rn, rs, rd, rx⟩ _ rfl (.tmp 49) (.tmp 51) rfl w.heap.size _ (L.take q) rfl (HO.out.alloc _) (w1.heap.size + 1) (by rw [World.size_alloc]) rfl (by have h9 := HTl.out; omega) (by have := HB.out.size; rw [World.size_alloc]; omega) ?_); intro v3 w3 ho3 hb3 hg3 hat3; have HO3 := Lib.hid ho3; have HB3 : Hid (Below w.heap.size w w3) := Lib.hid ((HB.out.alloc HB.out.size _).trans hb3); clear ho3 hb3 hg3 hat3)
                go_roundw
                case rel => exact ⟨q + 1, q + 1, by go_num, by omega, (by have := HIk.out; rw [if_neg (by omega)]), by rw [← HN.out]; exact HO3.out, HB3.out⟩
                case measure => simp [intOf]; omega
              · have hqi : q = i := by rw [HQ2.out, if_neg (by omega)]
                subst hqi
                have e1 := HD.out
                rw [← hik, ← HRi.out] at e1
                simp only at e1
                have t1 : ((q : Int) == (k : Int)) = true := by simp [hik]
                have t2 : (rd != -1) = true := by simp [e1]
                have HIk := Lib.hid hik
                have HB2 : Hid (Below w.heap.size w (w1.alloc (.cells #[.int .i64 rn, .int .i64 rs, .int .i64 rd, .int .i64 rx] 36))) := Lib.hid (HB.out.alloc HB.out.size _)
                have HO2 := Lib.hid (HO.out.alloc (.cells #[.int .i64 rn, .int .i64 rs, .int .i64 rd, .int .i64 rx] 36))
                clear e1 hik
                go_wp2
                go_roundw
                case rel => exact ⟨q + 1, q, by go_num, by omega, (by have := HIk.out; rw [if_pos (by omega)]; rfl), HO2.out, HB2.out⟩
                case measure => simp [intOf]; omega
              · have hqi : q + 1 = i := by rw [HQ2.out, if_pos hik]; omega
                have HN : Hid (L.take q ++ [⟨rn, rs, rd, rx⟩] = L.take (q + 1)) := Lib.hid (by rw [take_ce (l := L) (i := q) (by have := HLl.out; omega), HLi.out, if_neg (by omega), hqi, ← HRi.out])
                have t1 : ((i : Int) == (k : Int)) = false := by simp; omega
                have HIk := Lib.hid hik
                have HQi := Lib.hid hqi
                clear hik hqi
                go_wp2_with (at_builtin; go_loud (refine appK (w1.alloc (.cells #[.int .i64 rn, .int .i64 rs, .int .i64 rd, .int .i64 rx] 36)) ⟨rn, rs, rd, rx⟩ _ rfl (.tmp 49) (.tmp 51) rfl w.heap.size _ (L.take q) rfl (HO.out.alloc _) (w1.heap.size + 1) (by rw [World.size_alloc]) rfl (by have h9 := HTl.out; omega) (by have := HB.out.size; rw [World.size_alloc]; omega) ?_); intro v3 w3 ho3 hb3 hg3 hat3; have HO3 := Lib.hid ho3; have HB3 : Hid (Below w.heap.size w w3) := Lib.hid ((HB.out.alloc HB.out.size _).trans hb3); clear ho3 hb3 hg3 hat3)
                go_roundw
                case rel => exact ⟨i + 1, q + 1, by go_num, by omega, (by have := HIk.out; have := HQi.out; rw [if_pos (by omega)]; omega), by rw [← HN.out]; exact HO3.out, HB3.out⟩
                case measure => simp [intOf]; omega
            · have HF : Hid (L.take q = L) := Lib.hid (List.take_of_length_le (by have := HLl.out; have := HK.out; rw [HQ2.out, if_pos (by omega)]; omega))
              rw [HF.out] at HO
              obtain ⟨b, off, rfl, _, hc⟩ := (HI.out.next HB.out).rd.ces_ (by omega)
              obtain ⟨-, -, m2, m3⟩ := hc k _ (ceA_get HKl.out)
              have hd := HD.out
              obtain ⟨dd, hdd⟩ : ∃ x, x = (ceA l k).d := ⟨_, rfl⟩
              obtain ⟨xx, hxx⟩ : ∃ x, x = (ceA l k).x := ⟨_, rfl⟩
              rw [← hdd, ← hxx] at HS
              rw [← hdd] at m2 hd
              rw [← hxx] at m3
              have t1 : (dd == -1) = false := by simpa using hd
              have hki : (k : Int) < (n : Int) := by omega
              clear hc hdd hxx hd
              go_wp2
              go_quiet (fail)
              go_wp2
              obtain ⟨A9, c9, e9, _, _⟩ := OwnK.reads HO.out
              subst e9
              exact bodyPost_ret (v := .tuple #[.slice A9 L.length c9, .int .i64 dd, .int .i64 xx, .int .i64 0]) (by simp [results, Try.f21, go_sem]) rfl ⟨_, by rw [HS.out], by rw [HS.out]; exact HO.out, below_drewC HB.out _⟩
end Go.Proofs.Yteflefmlicamlaa.Pk
