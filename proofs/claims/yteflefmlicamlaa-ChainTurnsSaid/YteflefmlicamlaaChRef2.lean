/- The document's answers (fletchref13): Succeed, Grant. -/
import Derived.Test.YteflefmlicamlaaChRef
namespace Go.Proofs.Yteflefmlicamlaa.Pk
open Go.RowKit
set_option linter.unusedVariables false
attribute [local go_sem] Oper.semAt_some
set_option maxHeartbeats 4000000 in
theorem refsucc_any (A : Option Addr) (n c : Nat) (l : List Ce) (d x : Int) (w : World) (hin : InK w l A n c) :
    Calls Try.prog 17 #[.slice A n c, .int .i64 d, .int .i64 x] w fun e w' => ∃ v, e = .returned (.tuple #[v, .bool (succK l d x).2]) ∧ OwnK w' w.heap.size v (succK l d x).1 ∧ Below w.heap.size w w' := by
  have HI := Lib.hid hin
  have HL := Lib.hid hin.len
  have hn := hin.few
  clear hin
  go_enter Try.func17, Try.ntmps17
  go_wp2
  go_loopw [8, 9, 10, 13] (fun y _ _ j wr => ∃ (i : Nat) (L : List Ce), j = .int .i64 i ∧ i ≤ n ∧ ((i < n ∧ L = l.take i) ∨ (i = n ∧ succK l d x = (L, false))) ∧ OwnK wr w.heap.size y L ∧ Below w.heap.size w wr) (fun _ _ _ j _ => n - (intOf j).toNat)
  case atStart =>
    refine ⟨0, [], rfl, by omega, ?_, OwnK.none_ _ _, Below.refl _ _⟩
    by_cases h : 0 < n
    · exact .inl ⟨h, rfl⟩
    · exact .inr ⟨by omega, succK_nil (by rw [HL.out]; omega)⟩
  case round =>
    obtain ⟨i, L, rfl, hi, hcase, hown, hb⟩ := hrel
    obtain ⟨w1, rfl⟩ : ∃ w1 : World, w1 = wr := ⟨_, rfl⟩
    have HB := Lib.hid hb
    have HO := Lib.hid hown
    have HC := Lib.hid hcase
    clear hb hown hcase
    by_cases hlt : i < n
    · have HLt : Hid (L = l.take i) := Lib.hid (by rcases HC.out with h | h; exact h.2; omega)
      have HTl : Hid (L.length ≤ n) := Lib.hid (by rw [HLt.out, List.length_take]; omega)
      obtain ⟨b, off, rfl, _, hc⟩ := (HI.out.next HB.out).rd.ces_ (by omega)
      have hil : i < l.length := by rw [HL.out]; exact hlt
      have hcg := hc i _ (ceA_get hil)
      obtain ⟨r, hr⟩ : ∃ r, r = ceA l i := ⟨_, rfl⟩
      have HRi := Lib.hid hr
      rw [← hr] at hcg
      obtain ⟨rn, rs, rd, rx⟩ := r
      simp only at hcg
      obtain ⟨m0, m1, m2, m3⟩ := hcg
      clear hc hr
      by_cases hlast : i + 1 = n
      · have t1 : ((i : Int) == (n : Int) - 1) = true := by simp; omega
        by_cases hs : rs = 3
        · have t2 : (rs == 3) = true := by simp [hs]
          have HS : Hid (succK l d x = (L, true)) := Lib.hid (by rw [HLt.out]; exact succK_rest (k := i) (by rw [HL.out]; omega) (by rw [← HRi.out]; exact hs))
          have HB2 : Hid (Below w.heap.size w (w1.alloc (.cells #[.int .i64 rn, .int .i64 rs, .int .i64 rd, .int .i64 rx] 36))) := Lib.hid (HB.out.alloc HB.out.size _)
          have HO2 := Lib.hid (HO.out.alloc (.cells #[.int .i64 rn, .int .i64 rs, .int .i64 rd, .int .i64 rx] 36))
          clear hs
          go_wp2
          go_ret2
          exact ⟨_, by rw [HS.out]; rfl, by rw [HS.out]; exact HO2.out, HB2.out⟩
        · have t2 : (rs == 3) = false := by simp [hs]
          have HS : Hid (succK l d x = (L ++ [⟨rn, rs, d, x⟩], false)) := Lib.hid (by
            rw [HLt.out, succK_on (k := i) (by rw [HL.out]; omega) (by rw [← HRi.out]; exact hs), ← HRi.out])
          clear hs
          go_wp2_with (at_builtin; go_loud (refine appK (w1.alloc (.cells #[.int .i64 rn, .int .i64 rs, .int .i64 d, .int .i64 x] 36)) ⟨rn, rs, d, x⟩ _ rfl (.tmp 31) (.tmp 33) rfl w.heap.size _ L rfl (HO.out.alloc _) (w1.heap.size + 1) (by rw [World.size_alloc]) rfl (by have h9 := HTl.out; omega) (by have := HB.out.size; rw [World.size_alloc]; omega) ?_); intro v3 w3 ho3 hb3 hg3 hat3; have HO3 := Lib.hid ho3; have HB3 : Hid (Below w.heap.size w w3) := Lib.hid ((HB.out.alloc HB.out.size _).trans hb3); clear ho3 hb3 hg3 hat3)
          go_roundw
          case rel => exact ⟨i + 1, _, by go_num, by omega, .inr ⟨hlast, HS.out⟩, HO3.out, HB3.out⟩
          case measure => simp [intOf]; omega
      · have t1 : ((i : Int) == (n : Int) - 1) = false := by simp; omega
        have HN : Hid (L ++ [⟨rn, rs, rd, rx⟩] = l.take (i + 1)) := Lib.hid (by rw [take_ce hil, HLt.out, ← HRi.out])
        go_wp2_with (at_builtin; go_loud (refine appK (w1.alloc (.cells #[.int .i64 rn, .int .i64 rs, .int .i64 rd, .int .i64 rx] 36)) ⟨rn, rs, rd, rx⟩ _ rfl (.tmp 31) (.tmp 33) rfl w.heap.size _ L rfl (HO.out.alloc _) (w1.heap.size + 1) (by rw [World.size_alloc]) rfl (by have h9 := HTl.out; omega) (by have := HB.out.size; rw [World.size_alloc]; omega) ?_); intro v3 w3 ho3 hb3 hg3 hat3; have HO3 := Lib.hid ho3; have HB3 : Hid (Below w.heap.size w w3) := Lib.hid ((HB.out.alloc HB.out.size _).trans hb3); clear ho3 hb3 hg3 hat3)
        go_roundw
        case rel => exact ⟨i + 1, _, by go_num, by omega, .inl ⟨by omega, HN.out⟩, HO3.out, HB3.out⟩
        case measure => simp [intOf]; omega
    · have HS : Hid (succK l d x = (L, false)) := Lib.hid (by rcases HC.out with h | h; omega; exact h.2)
      go_wp2
      go_ret2
      exact ⟨_, by rw [HS.out]; rfl, by rw [HS.out]; exact HO.out, HB.out⟩
set_option maxHeartbeats 4000000 in
theorem refgrant_any (A : Option Addr) (n c : Nat) (l : List Ce) (x : Int) (w : World) (hin : InK w l A n c) :
    Calls Try.prog 19 #[.slice A n c, .int .i64 x] w fun e w' => ∃ v, e = .returned (.tuple #[v, .bool (grantK l x).2]) ∧ OwnK w' w.heap.size v (grantK l x).1 ∧ Below w.heap.size w w' := by
  have HI := Lib.hid hin
  have HL := Lib.hid hin.len
  have hn := hin.few
  clear hin
  cases hg : grantAt l x with
  | none =>
    obtain ⟨hS, hno⟩ := grant_none hg
    have HS := Lib.hid hS
    have HNo := Lib.hid hno
    rw [hS]
    clear hS hno hg
    go_enter Try.func19, Try.ntmps19
    go_wp2
    go_loopw [6, 7, 9, 12] (fun y z _ j wr => ∃ i : Nat, j = .int .i64 i ∧ i ≤ n ∧ z = .bool false ∧ OwnK wr w.heap.size y (l.take i) ∧ Below w.heap.size w wr) (fun _ _ _ j _ => n - (intOf j).toNat)
    case atStart => exact ⟨0, rfl, by omega, rfl, OwnK.none_ _ _, Below.refl _ _⟩
    case round =>
      obtain ⟨i, rfl, hi, rfl, hown, hb⟩ := hrel
      obtain ⟨w1, rfl⟩ : ∃ w1 : World, w1 = wr := ⟨_, rfl⟩
      have HB := Lib.hid hb
      have HO := Lib.hid hown
      clear hb hown
      by_cases hlt : i < n
      · have HTl : Hid ((l.take i).length ≤ n) := Lib.hid (by rw [List.length_take]; omega)
        obtain ⟨b, off, rfl, _, hc⟩ := (HI.out.next HB.out).rd.ces_ (by omega)
        have hil : i < l.length := by rw [HL.out]; exact hlt
        have hcg := hc i _ (ceA_get hil)
        obtain ⟨r, hr⟩ : ∃ r, r = ceA l i := ⟨_, rfl⟩
        have HRi := Lib.hid hr
        rw [← hr] at hcg
        obtain ⟨rn, rs, rd, rx⟩ := r
        simp only at hcg
        obtain ⟨m0, m1, m2, m3⟩ := hcg
        clear hc hr
        have hno := HNo.out i hil
        rw [← HRi.out] at hno
        simp only at hno
        have HN : Hid (l.take i ++ [⟨rn, rs, rd, rx⟩] = l.take (i + 1)) := Lib.hid (by rw [take_ce hil, ← HRi.out])
        by_cases h1 : rn = x
        · have t1 : (rn == x) = true := by simp [h1]
          have t2 : (rs == 1) = false := by simp; exact fun e => hno ⟨h1, e⟩
          clear h1 hno
          go_wp2_with (at_builtin; go_loud (refine appK (w1.alloc (.cells #[.int .i64 rn, .int .i64 rs, .int .i64 rd, .int .i64 rx] 36)) ⟨rn, rs, rd, rx⟩ _ rfl (.tmp 30) (.tmp 32) rfl w.heap.size _ (l.take i) rfl (HO.out.alloc _) (w1.heap.size + 1) (by rw [World.size_alloc]) rfl (by have h9 := HTl.out; omega) (by have := HB.out.size; rw [World.size_alloc]; omega) ?_); intro v3 w3 ho3 hb3 hg3 hat3; have HO3 := Lib.hid ho3; have HB3 : Hid (Below w.heap.size w w3) := Lib.hid ((HB.out.alloc HB.out.size _).trans hb3); clear ho3 hb3 hg3 hat3)
          go_roundw
          case rel => exact ⟨i + 1, by go_num, by omega, rfl, by rw [← HN.out]; exact HO3.out, HB3.out⟩
          case measure => simp [intOf]; omega
        · have t1 : (rn == x) = false := by simp [h1]
          clear h1 hno
          go_wp2_with (at_builtin; go_loud (refine appK (w1.alloc (.cells #[.int .i64 rn, .int .i64 rs, .int .i64 rd, .int .i64 rx] 36)) ⟨rn, rs, rd, rx⟩ _ rfl (.tmp 30) (.tmp 32) rfl w.heap.size _ (l.take i) rfl (HO.out.alloc _) (w1.heap.size + 1) (by rw [World.size_alloc]) rfl (by have h9 := HTl.out; omega) (by have := HB.out.size; rw [World.size_alloc]; omega) ?_); intro v3 w3 ho3 hb3 hg3 hat3; have HO3 := Lib.hid ho3; have HB3 : Hid (Below w.heap.size w w3) := Lib.hid ((HB.out.alloc HB.out.size _).trans hb3); clear ho3 hb3 hg3 hat3)
          go_roundw
          case rel => exact ⟨i + 1, by go_num, by omega, rfl, by rw [← HN.out]; exact HO3.out, HB3.out⟩
          case measure => simp [intOf]; omega
      · have HF : Hid (l.take i = l) := Lib.hid (List.take_of_length_le (by rw [HL.out]; omega))
        rw [HF.out] at HO
        go_wp2
        go_ret2
        exact ⟨_, rfl, HO.out, HB.out⟩
  | some k =>
    obtain ⟨hS, hk, hkn, hks, hno⟩ := grant_some hg
    obtain ⟨L, hL⟩ : ∃ L, L = l.set k ⟨(ceA l k).n, 2, (ceA l k).d, (ceA l k).x⟩ := ⟨_, rfl⟩
    rw [← hL] at hS
    have HLl : Hid (L.length = n) := Lib.hid (by rw [hL, List.length_set, HL.out])
    have HLi : Hid (∀ i, ceA L i = if i = k then ⟨(ceA l k).n, 2, (ceA l k).d, (ceA l k).x⟩ else ceA l i) := Lib.hid (fun i => by rw [hL]; exact ceA_set hk)
    have HNo := Lib.hid hno
    have HKn := Lib.hid hkn
    have HKs := Lib.hid hks
    have HK : Hid (k < n) := Lib.hid (by rw [← HL.out]; exact hk)
    rw [hS]
    clear hS hno hg hL hk hkn hks
    go_enter Try.func19, Try.ntmps19
    go_wp2
    go_loopw [6, 7, 9, 12] (fun y z _ j wr => ∃ (i : Nat) (q : Bool), j = .int .i64 i ∧ i ≤ n ∧ z = .bool q ∧ q = decide (k < i) ∧ OwnK wr w.heap.size y (L.take i) ∧ Below w.heap.size w wr) (fun _ _ _ j _ => n - (intOf j).toNat)
    case atStart => exact ⟨0, false, rfl, by omega, rfl, (by simp), OwnK.none_ _ _, Below.refl _ _⟩
    case round =>
      obtain ⟨i, q, rfl, hi, rfl, hq, hown, hb⟩ := hrel
      obtain ⟨w1, rfl⟩ : ∃ w1 : World, w1 = wr := ⟨_, rfl⟩
      have HB := Lib.hid hb
      have HO := Lib.hid hown
      have HQ := Lib.hid hq
      clear hb hown hq
      by_cases hlt : i < n
      · have HTl : Hid ((L.take i).length ≤ n) := Lib.hid (by rw [List.length_take, HLl.out]; omega)
        obtain ⟨b, off, rfl, _, hc⟩ := (HI.out.next HB.out).rd.ces_ (by omega)
        have hil : i < l.length := by rw [HL.out]; exact hlt
        have hcg := hc i _ (ceA_get hil)
        obtain ⟨r, hr⟩ : ∃ r, r = ceA l i := ⟨_, rfl⟩
        have HRi := Lib.hid hr
        rw [← hr] at hcg
        obtain ⟨rn, rs, rd, rx⟩ := r
        simp only at hcg
        obtain ⟨m0, m1, m2, m3⟩ := hcg
        clear hc hr
        have HTn := Lib.hid (take_ce (l := L) (i := i) (by rw [HLl.out]; exact hlt))
        rcases Nat.lt_trichotomy i k with hik | hik | hik
        · obtain rfl : q = false := by rw [HQ.out]; simp; omega
          have HN : Hid (L.take i ++ [⟨rn, rs, rd, rx⟩] = L.take (i + 1)) := Lib.hid (by rw [HTn.out, HLi.out, if_neg (by omega), ← HRi.out])
          have hno := HNo.out i hik
          rw [← HRi.out] at hno
          simp only at hno
          by_cases h1 : rn = x
          · have t1 : (rn == x) = true := by simp [h1]
            have t2 : (rs == 1) = false := by simp; exact fun e => hno ⟨h1, e⟩
            clear h1 hno
            go_wp2_with (at_builtin; go_loud (refine appK (w1.alloc (.cells #[.int .i64 rn, .int .i64 rs, .int .i64 rd, .int .i64 rx] 36)) ⟨rn, rs, rd, rx⟩ _ rfl (.tmp 30) (.tmp 32) rfl w.heap.size _ (L.take i) rfl (HO.out.alloc _) (w1.heap.size + 1) (by rw [World.size_alloc]) rfl (by have h9 := HTl.out; omega) (by have := HB.out.size; rw [World.size_alloc]; omega) ?_); intro v3 w3 ho3 hb3 hg3 hat3; have HO3 := Lib.hid ho3; have HB3 : Hid (Below w.heap.size w w3) := Lib.hid ((HB.out.alloc HB.out.size _).trans hb3); clear ho3 hb3 hg3 hat3)
            go_roundw
            case rel => exact ⟨i + 1, false, by go_num, by omega, rfl, (by simp; omega), by rw [← HN.out]; exact HO3.out, HB3.out⟩
            case measure => simp [intOf]; omega
          · have t1 : (rn == x) = false := by simp [h1]
            clear h1 hno
            go_wp2_with (at_builtin; go_loud (refine appK (w1.alloc (.cells #[.int .i64 rn, .int .i64 rs, .int .i64 rd, .int .i64 rx] 36)) ⟨rn, rs, rd, rx⟩ _ rfl (.tmp 30) (.tmp 32) rfl w.heap.size _ (L.take i) rfl (HO.out.alloc _) (w1.heap.size + 1) (by rw [World.size_alloc]) rfl (by have h9 := HTl.out; omega) (by have := HB.out.size; rw [World.size_alloc]; omega) ?_); intro v3 w3 ho3 hb3 hg3 hat3; have HO3 := Lib.hid ho3; have HB3 : Hid (Below w.heap.size w w3) := Lib.hid ((HB.out.alloc HB.out.size _).trans hb3); clear ho3 hb3 hg3 hat3)
            go_roundw
            case rel => exact ⟨i + 1, false, by go_num, by omega, rfl, (by simp; omega), by rw [← HN.out]; exact HO3.out, HB3.out⟩
            case measure => simp [intOf]; omega
        · obtain rfl : q = false := by rw [HQ.out]; simp; omega
          have HN : Hid (L.take i ++ [⟨rn, 2, rd, rx⟩] = L.take (i + 1)) := Lib.hid (by rw [HTn.out, HLi.out, if_pos hik, ← hik, ← HRi.out])
          have e1 := HKn.out
          have e2 := HKs.out
          rw [← hik, ← HRi.out] at e1 e2
          simp only at e1 e2
          have t1 : (rn == x) = true := by simp [e1]
          have t2 : (rs == 1) = true := by simp [e2]
          have HIk := Lib.hid hik
          clear e1 e2 hik
          go_wp2_with (at_builtin; go_loud (refine appK (w1.alloc (.cells #[.int .i64 rn, .int .i64 2, .int .i64 rd, .int .i64 rx] 36)) ⟨rn, 2, rd, rx⟩ _ rfl (.tmp 30) (.tmp 32) rfl w.heap.size _ (L.take i) rfl (HO.out.alloc _) (w1.heap.size + 1) (by rw [World.size_alloc]) rfl (by have h9 := HTl.out; omega) (by have := HB.out.size; rw [World.size_alloc]; omega) ?_); intro v3 w3 ho3 hb3 hg3 hat3; have HO3 := Lib.hid ho3; have HB3 : Hid (Below w.heap.size w w3) := Lib.hid ((HB.out.alloc HB.out.size _).trans hb3); clear ho3 hb3 hg3 hat3)
          go_roundw
          case rel => exact ⟨i + 1, true, by go_num, by omega, rfl, (by have := HIk.out; simp; omega), by rw [← HN.out]; exact HO3.out, HB3.out⟩
          case measure => simp [intOf]; omega
        · obtain rfl : q = true := by rw [HQ.out]; simp; omega
          have HN : Hid (L.take i ++ [⟨rn, rs, rd, rx⟩] = L.take (i + 1)) := Lib.hid (by rw [HTn.out, HLi.out, if_neg (by omega), ← HRi.out])
          go_wp2_with (at_builtin; go_loud (refine appK (w1.alloc (.cells #[.int .i64 rn, .int .i64 rs, .int .i64 rd, .int .i64 rx] 36)) ⟨rn, rs, rd, rx⟩ _ rfl (.tmp 30) (.tmp 32) rfl w.heap.size _ (L.take i) rfl (HO.out.alloc _) (w1.heap.size + 1) (by rw [World.size_alloc]) rfl (by have h9 := HTl.out; omega) (by have := HB.out.size; rw [World.size_alloc]; omega) ?_); intro v3 w3 ho3 hb3 hg3 hat3; have HO3 := Lib.hid ho3; have HB3 : Hid (Below w.heap.size w w3) := Lib.hid ((HB.out.alloc HB.out.size _).trans hb3); clear ho3 hb3 hg3 hat3)
          go_roundw
          case rel => exact ⟨i + 1, true, by go_num, by omega, rfl, (by simp; omega), by rw [← HN.out]; exact HO3.out, HB3.out⟩
          case measure => simp [intOf]; omega
      · have HF : Hid (L.take i = L) := Lib.hid (List.take_of_length_le (by rw [HLl.out]; omega))
        obtain rfl : q = true := by rw [HQ.out]; have := HK.out; simp; omega
        rw [HF.out] at HO
        go_wp2
        go_ret2
        exact ⟨_, rfl, HO.out, HB.out⟩
end Go.Proofs.Yteflefmlicamlaa.Pk
