/- The walk of the law PackReads: every script of calls of a reader is answered as the document's reader answers. -/
import Derived.Test.YtkgkiplidjoamaaPackTwo
import Derived.Test.YtkgkiplidjoamaaPackWakes
import Derived.Test.YtkgkiplidjoamaaArgs
import Derived.Deep.RegionHeld3
import Derived.Deep.DeepMust
import Derived.Deep.QuietTactic
import Derived.BigQuiet
namespace Go.Proofs.Ytkgkiplidjoamaa.Pk
open Go.RowKit Go.Proofs.Ytkgkiplidjoamaa.Ar
set_option linter.unusedVariables false

/-- The cells of a list of asks. -/
def asks (ks : List (Int × Int)) : List Value := ks.flatMap fun p => [.int .i64 p.1, .int .i64 p.2]
/-- A script that came in. -/
def ArgA (w : World) (a : Option Addr) (n c : Nat) (ks : List (Int × Int)) : Prop :=
  ks.length = n ∧ n ≤ c ∧ n ≤ 140737488351232 ∧ (∀ k, k < n → ∃ b off, a = some ⟨b, off, none⟩ ∧ b < w.heap.size ∧ w.cell? ⟨b, off + k * 2, none⟩ = some (.int .i64 (ks.getD k (0, 0)).1) ∧ w.cell? ⟨b, off + k * 2 + 1, none⟩ = some (.int .i64 (ks.getD k (0, 0)).2)) ∧
    ∀ k, k < n → (-9223372036854775808 ≤ (ks.getD k (0, 0)).1 ∧ (ks.getD k (0, 0)).1 ≤ 9223372036854775807) ∧ (-9223372036854775808 ≤ (ks.getD k (0, 0)).2 ∧ (ks.getD k (0, 0)).2 ≤ 9223372036854775807)

theorem RD.drew {w : World} {R : Nat} {l : List Int} {b : Bool} (h : RD w R l b) : RD w.drew R l b := h
theorem RF.drew {w : World} {R : Nat} {l : List Int} {b : Bool} (h : RF w R l b) : RF w.drew R l b := h
theorem ValB.drew {w : World} {v : Value} {l : List Int} (h : ValB w v l) : ValB w.drew v l := h

theorem RD.drewN {w : World} {R : Nat} {l : List Int} {b : Bool} (h : RD w R l b) (n : Nat) : RD (w.drewN n) R l b := h
theorem RF.drewN {w : World} {R : Nat} {l : List Int} {b : Bool} (h : RF w R l b) (n : Nat) : RF (w.drewN n) R l b := h
theorem quiet_left {P : Program} {f : FuncId} {args : Array Value} {w : World} {n : Nat} {v : Value} (h : Calls P f args (w.drewN n) fun e w' => e = .returned v ∧ w.drewN n = w') : Calls P f args (w.drewN n) fun e w'' => e = .returned v ∧ ∃ m, w'' = w.drewN m :=
  h.mono fun _ _ ⟨he, hm⟩ => ⟨he, n, hm.symm⟩

set_option maxRecDepth 100000 in
set_option maxHeartbeats 8000000 in
theorem law_PackReads (a : Option Addr) (n c : Nat) (l : List Int) (b : Option Addr) (m d : Nat) (ks : List (Int × Int)) (w : World) (h : ArgB w a n c l) (hk : ArgA w b m d ks) :
    Calls Try.prog 7 #[.slice a n c, .slice b m d] w fun e w' => e = .returned (.bool true) ∧ Below w.heap.size w w' := by
  obtain ⟨hr, hnc, hc, hB⟩ := h
  obtain ⟨hk1, hk2, hk3, hk4, hk5⟩ := hk
  have HL : Hid (l.length = n) := by have := hr.1; simp at this; exact this
  have HB : Hid (isB l) := hB
  have HR := Lib.hid hr
  have HK1 := Lib.hid hk1
  have HK4 := Lib.hid hk4
  have HK5 := Lib.hid hk5
  clear hB hr hk1 hk4 hk5
  go_enter Try.func7, Try.ntmps7
  go_wp2_with fail
  refine (wakes_any _).mono ?_
  rintro e w1 ⟨rfl, hb1⟩
  go_wp2_with fail
  refine (new_any a n c l w1 ((HR.out.below hb1).more hb1.size) HB.out (by omega)).mono ?_
  rintro e w2 ⟨R, rfl, hR1, hRD, hb2⟩
  have hbel2 := hb1.trans (hb2.mono hb1.size)
  have hRs : R < w2.heap.size := by obtain ⟨_, _, _, hbk⟩ := hRD.blk; exact hbk.lt
  have hs1 := hb1.size
  clear hb1 hb2
  go_wp2_with (at_builtin; refine appE w2 rfl (.tmp 18) (.tmp 19) rfl w2.heap.size rfl w.heap.size a c l n rfl (HR.out.below hbel2) hbel2.size (by omega) (Nat.le_refl _) ?_; intro v3 w3 hown3 hb3; obtain ⟨A3, n3, c3, rfl, hc3, hn3, hr3⟩ := hown3.val)
  have hM : RF (w3.alloc (.cells #[.slice A3 n3 c3, .bool false] 43)) w3.heap.size l false :=
    ⟨A3, n3, c3, Blk.new w3 _ _, hc3, hn3, by rw [← hn3, HL.out]; omega, (hr3.alloc (Nat.le_refl _) _).more (by simp), HB.out⟩
  have hs3 := hb3.size
  have hT : Two (w3.alloc (.cells #[.slice A3 n3 c3, .bool false] 43)) R w3.heap.size l false := ⟨(hRD.below hb3).below ((Below.refl _ _).alloc (Nat.le_refl _) _), hM⟩
  have hbel3 : Below w.heap.size w (w3.alloc (.cells #[.slice A3 n3 c3, .bool false] 43)) := (hbel2.trans (hb3.mono hbel2.size)).alloc (by have := hbel2.size; omega) _
  have hRM : R ≠ w3.heap.size := by omega
  have hRw : w.heap.size ≤ R := by omega
  have hMw : w.heap.size ≤ w3.heap.size := by have := hbel2.size; omega
  obtain ⟨M, hMe⟩ : ∃ M, M = w3.heap.size := ⟨_, rfl⟩
  rw [← hMe] at hT hRM hMw ⊢
  clear hM hMe hRD hown3 hr3 hb3 hbel2 hs3
  go_loopw [8, 9, 10, 25] (fun u8 u9 u10 j wr => ∃ (k : Nat) (L : List Int) (bad : Bool), j = .int .i64 k ∧ k ≤ m ∧ Two wr R M L bad ∧ Below w.heap.size w wr) (fun _ _ _ j _ => m - (intOf j).toNat)
  case atStart => exact ⟨0, l, false, rfl, by omega, hT, hbel3⟩
  case round =>
    clear hT hbel3
    obtain ⟨k, L, bad, rfl, hk, hT, hbel⟩ := hrel
    obtain ⟨wo, rfl⟩ : ∃ wo : World, wo = wr := ⟨_, rfl⟩
    by_cases hlt : k < m
    · obtain ⟨b0, off, rfl, hbb, hk1, hk2⟩ := HK4.out k hlt
      obtain ⟨hq1, hq2⟩ := HK5.out k hlt
      have cK := (hbel.cell (p := ⟨b0, off + k * 2, none⟩) hbb).trans hk1
      have cN := (hbel.cell (p := ⟨b0, off + k * 2 + 1, none⟩) hbb).trans hk2
      obtain ⟨kd, hkd⟩ : ∃ kd, kd = (ks.getD k (0, 0)).1 := ⟨_, rfl⟩
      obtain ⟨nn, hnn⟩ : ∃ nn, nn = (ks.getD k (0, 0)).2 := ⟨_, rfl⟩
      rw [← hkd] at cK hq1
      rw [← hnn] at cN hq2
      clear hk1 hk2 hkd hnn
      have HT := Lib.hid hT
      clear hT
      by_cases h0 : kd = 0
      case' pos =>
        have t0 : (kd == 0) = true := by rw [h0]; rfl
        clear h0
        go_wp2_with fail
        obtain ⟨wa, hwa⟩ : ∃ wa, wa = wo.alloc (.cells #[.int .i64 kd, .int .i64 nn] 45) := ⟨_, rfl⟩
        have hTa : Two wa R M L bad := by rw [hwa]; exact HT.out.below ((Below.refl _ _).alloc (Nat.le_refl _) _)
        have hba : Below w.heap.size w wa := by rw [hwa]; exact hbel.alloc hbel.size _
        have hab : Blk wa wo.heap.size 45 #[.int .i64 kd, .int .i64 nn] := by rw [hwa]; exact Blk.new wo _ _
        rw [← hwa]
        clear hwa hbel cK cN
        refine (t_num hTa hRM).mono ?_
        rintro e w4 ⟨rfl, hp1, hf1, ho1⟩
        have hba4 := Only.below hba ho1 hRw hba.size
        have tn : (nV L bad != nV L bad) = false := by simp
        go_wp2_with fail
        refine (t_rnum hf1 hp1 hRM).mono ?_
        rintro e w5 ⟨rfl, hf2, hp2, ho2⟩
        have hb5 := Only.below hba4 ho2 hMw hba4.size
        clear hTa hp1 hf1 ho1 ho2 hba hba4 hab
        have hT5 : Two w5 R M (nL L bad) (nB L bad) := ⟨hp2, hf2⟩
        obtain ⟨L2, hL2⟩ : ∃ L2, L2 = nL L bad := ⟨_, rfl⟩
        obtain ⟨b2, hb2⟩ : ∃ b2, b2 = nB L bad := ⟨_, rfl⟩
        rw [← hL2, ← hb2] at hT5
        clear hL2 hb2 hp2 hf2
        go_wp2
      case' neg =>
        have t0 : (kd == 0) = false := beq_eq_false_iff_ne.2 h0
        by_cases h1 : kd = 1
        case' pos =>
          have t1 : (kd == 1) = true := by rw [h1]; rfl
          clear h0 h1
          go_wp2_with fail
          obtain ⟨wa, hwa⟩ : ∃ wa, wa = wo.alloc (.cells #[.int .i64 kd, .int .i64 nn] 45) := ⟨_, rfl⟩
          have hTa : Two wa R M L bad := by rw [hwa]; exact HT.out.below ((Below.refl _ _).alloc (Nat.le_refl _) _)
          have hba : Below w.heap.size w wa := by rw [hwa]; exact hbel.alloc hbel.size _
          have hab : Blk wa wo.heap.size 45 #[.int .i64 kd, .int .i64 nn] := by rw [hwa]; exact Blk.new wo _ _
          rw [← hwa]
          clear hwa hbel cK cN
          refine (t_rbytes 1 hTa.2 hTa.1 hRM).mono ?_
          rintro e w4 ⟨v4, rfl, hv4, hf1, hp1, ho1⟩
          have hba4 := Only.below hba ho1 hMw hba.size
          obtain ⟨A4, n4, c4, rfl, hc4, hn4, hr4⟩ := hv4
          have hby : ∃ by0 : Int, (n4 = 0 ∧ by0 = 0 ∧ (bV L bad 1).getD 0 0 = by0) ∨ (n4 = 1 ∧ (bV L bad 1).getD 0 0 = by0 ∧ ∃ bx ox, A4 = some ⟨bx, ox, none⟩ ∧ w4.cell? ⟨bx, ox, none⟩ = some (.int .u8 by0)) := by
            rcases bV_one L bad with hv | ⟨x, hv⟩
            · rw [hv] at hn4; exact ⟨0, .inl ⟨hn4.symm, rfl, by rw [hv]; rfl⟩⟩
            · rw [hv] at hn4 hr4
              obtain ⟨bx, ox, e1, _, hcx⟩ := hr4.u8 (by rw [← hn4]; simp)
              exact ⟨x, .inr ⟨hn4.symm, by rw [hv]; rfl, bx, ox, e1, by have := hcx 0 (by rw [← hn4]; simp); simpa using this⟩⟩
          clear hTa hba hab hr4 hn4
          obtain ⟨by0, ⟨rfl, rfl, hbv⟩ | ⟨rfl, hbv, bx, ox, rfl, hcx⟩⟩ := hby
          case' inl => have tby : ((0 : Int) != (0 : Int)) = false := rfl
          case' inr => have tby : (by0 != by0) = false := by simp
          all_goals
            have HBV := Lib.hid hbv
            clear hbv
            go_wp2_with fail
            refine (t_byte2 hp1 hf1 hRM).mono ?_
            rintro e w5 ⟨he, hp2, hf2, ho2⟩
            rw [HBV.out] at he
            subst he
            have hb5 := Only.below hba4 ho2 hRw hba4.size
            clear hp1 hf1 ho1 ho2 hba4
            have hT5 : Two w5 R M (bL L bad 1) (bB L bad 1) := ⟨hp2, hf2⟩
            obtain ⟨L2, hL2⟩ : ∃ L2, L2 = bL L bad 1 := ⟨_, rfl⟩
            obtain ⟨b2, hb2⟩ : ∃ b2, b2 = bB L bad 1 := ⟨_, rfl⟩
            rw [← hL2, ← hb2] at hT5
            clear hL2 hb2 hp2 hf2
            go_wp2
        case' neg =>
          have t1 : (kd == 1) = false := beq_eq_false_iff_ne.2 h1
          by_cases h2 : kd = 2
          case' pos =>
            have t2 : (kd == 2) = true := by rw [h2]; rfl
            obtain ⟨x0, hx0⟩ : ∃ x0, x0 = wo.heap.size := ⟨_, rfl⟩
            have hRx : x0 ≠ R := by obtain ⟨_, _, _, hbk⟩ := HT.out.1.blk; have := hbk.lt; omega
            have hMx : x0 ≠ M := by obtain ⟨_, _, _, hbk⟩ := HT.out.2.blk; have := hbk.lt; omega
            clear h0 h1 h2
            go_wp2_with fail
            obtain ⟨wa, hwa⟩ : ∃ wa, wa = wo.alloc (.cells #[.int .i64 kd, .int .i64 nn] 45) := ⟨_, rfl⟩
            have hTa : Two wa R M L bad := by rw [hwa]; exact HT.out.below ((Below.refl _ _).alloc (Nat.le_refl _) _)
            have hba : Below w.heap.size w wa := by rw [hwa]; exact hbel.alloc hbel.size _
            have hab : Blk wa wo.heap.size 45 #[.int .i64 kd, .int .i64 nn] := by rw [hwa]; exact Blk.new wo _ _
            rw [← hwa]
            clear hwa hbel cK cN
            have cN0 : wa.cell? ⟨wo.heap.size, 1, none⟩ = some (.int .i64 nn) := by rw [hab.cell]; rfl
            have HAB := Lib.hid hab
            have HTa := Lib.hid hTa
            have HBA := Lib.hid hba
            rw [hx0] at hRx hMx
            clear hab hTa hba hx0
            go_region_held3 (fun w' => w'.cell? ⟨wo.heap.size, 1, none⟩ = some (.int .i64 nn)) (first | exact cN0 | assumption | go_keep) (first
              | (go_at_call 24; go_must (refine (t_bytes nn (by exact HTa.out) hRM).mono ?_; rintro e w4 ⟨v4, rfl, hv4, hp1, hf1, ho1⟩; obtain ⟨A4, n4, c4, rfl, hc4, hn4, hr4⟩ := id hv4; have hk4 : Blk w4 wo.heap.size 45 #[.int .i64 kd, .int .i64 nn] := (ho1.block _ HAB.out.lt (fun e => by injection e with e; exact hRx e)).trans HAB.out; have cN4 : w4.cell? ⟨wo.heap.size, 1, none⟩ = some (.int .i64 nn) := (by rw [hk4.cell]; rfl); have hba4 := Only.below HBA.out.drew ho1 hRw (by exact HBA.out.size); clear hv4))
              | (go_at_call 22; go_must (refine (t_rbytes nn (by exact hf1) (by exact hp1) hRM).mono ?_; rintro e w5 ⟨v5, rfl, hv5, hf2, hp2, ho2⟩; obtain ⟨A5, n5, c5, rfl, hc5, hn5, hr5⟩ := id hv5; have hk5 : Blk w5 wo.heap.size 45 #[.int .i64 kd, .int .i64 nn] := (ho2.block _ hk4.lt (fun e => by injection e with e; exact hMx e)).trans hk4; have cN5 : w5.cell? ⟨wo.heap.size, 1, none⟩ = some (.int .i64 nn) := (by rw [hk5.cell]; rfl); have hb5 : Below w.heap.size w w5 := (by first | exact Only.below hba4 ho2 hMw hba4.size | exact Only.below hba4.drew ho2 hMw (by exact hba4.size)); obtain ⟨AX, nX, cX, hbX⟩ := hf1.blk; have hr45 : Reads w5 w4.heap.size 1 A4 n4 (bts (bV L bad nn)) := hr4.only ho2 (Nat.le_refl _) (far_gen hbX hr4); have h4len : n4 ≤ 4611686018427387904 := (by have := bV_len L bad nn; have := HTa.out.2.len; omega)))
              | (go_at_call 14; go_must (refine (same_any A4 A5 n4 c4 n5 c5 _ _ _ _ _ (by exact hr45) (by exact hr5) h4len).mono ?_; rw [decide_eq_true rfl]; rintro e w6 ⟨rfl, kk, rfl⟩)))
            have hp3 := hp2.drewN kk
            have hf3 := hf2.drewN kk
            have hb3 := below_drewN hb5 kk
            obtain ⟨w5, hw5⟩ : ∃ w8, w8 = w5.drewN kk := ⟨_, rfl⟩
            rw [← hw5] at hp3 hf3 hb3 ⊢
            clear hp2 hf2 hb5 hw5 hp1 hf1 ho1 hr4 hk4 cN4 hba4 ho2 hr5 hk5 cN5 hr45 hbX hv5 cN0 HAB HTa HBA hn4 hn5
            have hp2 := hp3
            have hf2 := hf3
            have hb5 := hb3
            clear hp3 hf3 hb3
            have hT5 : Two w5 R M (bL L bad nn) (bB L bad nn) := ⟨hp2, hf2⟩
            obtain ⟨L2, hL2⟩ : ∃ L2, L2 = bL L bad nn := ⟨_, rfl⟩
            obtain ⟨b2, hb2⟩ : ∃ b2, b2 = bB L bad nn := ⟨_, rfl⟩
            rw [← hL2, ← hb2] at hT5
            clear hL2 hb2 hp2 hf2
            go_wp2
          case' neg => 
            have t2 : (kd == 2) = false := beq_eq_false_iff_ne.2 h2
            have hT5 : Two (wo.alloc (.cells #[.int .i64 kd, .int .i64 nn] 45)) R M L bad := HT.out.below ((Below.refl _ _).alloc (Nat.le_refl _) _)
            have hb5 := hbel.alloc hbel.size (.cells #[.int .i64 kd, .int .i64 nn] 45)
            clear h0 h1 h2
            go_wp2_with fail
            obtain ⟨w5, hw5⟩ : ∃ w5, w5 = wo.alloc (.cells #[.int .i64 kd, .int .i64 nn] 45) := ⟨_, rfl⟩
            obtain ⟨L2, hL2⟩ : ∃ L2, L2 = L := ⟨_, rfl⟩
            obtain ⟨b2, hb2⟩ : ∃ b2, b2 = bad := ⟨_, rfl⟩
            rw [← hw5, ← hL2, ← hb2] at hT5
            rw [← hw5] at hb5 ⊢
            clear hL2 hb2 hw5 hbel cK cN
      all_goals
        obtain ⟨hP5, hF5⟩ := hT5
        obtain ⟨AM, nM, cM, hMb, _, hML, _, _, _⟩ := id hF5
        have cM0 : w5.cell? ⟨M, 0, none⟩ = some (.slice AM nM cM) := by rw [hMb.cell]; rfl
        have cM1 : w5.cell? ⟨M, 1, none⟩ = some (.bool b2) := by rw [hMb.cell]; rfl
        have HP5 := Lib.hid hP5
        have HF5 := Lib.hid hF5
        have HML := Lib.hid hML
        clear hP5 hF5 hMb hML HT HK4 HK5 HR
        have tb : (false != false) = false := rfl
        have tt : (true != true) = false := rfl
        have tq : ((nM : Int) != (nM : Int)) = false := by simp
        have tz : ((0 : Int) != (0 : Int)) = false := rfl
        cases b2
        · by_cases hz : nM = 0
          · have hz1 : ((nM : Int) == 0) = true := by rw [hz]; rfl
            have HZ := Lib.hid hz
            clear hz
            have HLf : Hid (∀ W, RD W R L2 false → Calls Try.prog 25 #[.pointer (some ⟨R, 0, none⟩)] W fun e w' => e = .returned (.int .i64 ((nM : Nat) : Int)) ∧ W = w') := fun W h => by
              have := left_any R _ false W h; rw [HML.out] at this; exact this
            have HRl : Hid (∀ W, RF W M L2 false → Calls Try.prog 26 #[.pointer (some ⟨M, 0, none⟩)] W fun e w' => e = .returned (.int .i64 ((nM : Nat) : Int)) ∧ W = w') := fun W h => by
              have := rleft_any M _ false W h; simp only [Bool.false_eq_true, if_false] at this; rw [HML.out] at this; exact this
            have HEn : Hid (∀ W, RD W R L2 false → Calls Try.prog 28 #[.pointer (some ⟨R, 0, none⟩)] W fun e w' => e = .returned (.bool true) ∧ W = w') := fun W h => by
              have := end_any R _ false W h; rw [HML.out, decide_eq_true HZ.out] at this; exact this
            go_wp2
            go_region_held3 (fun w' => w'.cell? ⟨M, 0, none⟩ = some (.slice AM nM cM) ∧ w'.cell? ⟨M, 1, none⟩ = some (.bool false)) (first | go_keep | exact ⟨cM0, cM1⟩) (first
              | (go_at_call 25; refine (HLf.out _ HP5.out.drew).mono ?_; rintro e w' ⟨rfl, rfl⟩)
              | (go_at_call 26; refine (HRl.out _ HF5.out.drew).mono ?_; rintro e w' ⟨rfl, rfl⟩)
              | (go_at_call 27; refine (bad_any R _ false _ HP5.out.drew).mono ?_; rintro e w' ⟨rfl, rfl⟩)
              | (go_at_call 28; refine (HEn.out _ HP5.out.drew).mono ?_; rintro e w' ⟨rfl, rfl⟩))
            all_goals go_wp2
            all_goals go_roundw
            case rel => exact ⟨k + 1, L2, false, by go_num, by omega, ⟨HP5.out, HF5.out⟩, hb5.drew⟩
            case measure => simp [intOf]; omega
          · have hz1 : ((nM : Int) == 0) = false := beq_eq_false_iff_ne.2 (by omega)
            have HZ := Lib.hid hz
            clear hz
            have HLf : Hid (∀ W, RD W R L2 false → Calls Try.prog 25 #[.pointer (some ⟨R, 0, none⟩)] W fun e w' => e = .returned (.int .i64 ((nM : Nat) : Int)) ∧ W = w') := fun W h => by
              have := left_any R _ false W h; rw [HML.out] at this; exact this
            have HRl : Hid (∀ W, RF W M L2 false → Calls Try.prog 26 #[.pointer (some ⟨M, 0, none⟩)] W fun e w' => e = .returned (.int .i64 ((nM : Nat) : Int)) ∧ W = w') := fun W h => by
              have := rleft_any M _ false W h; simp only [Bool.false_eq_true, if_false] at this; rw [HML.out] at this; exact this
            have HEn : Hid (∀ W, RD W R L2 false → Calls Try.prog 28 #[.pointer (some ⟨R, 0, none⟩)] W fun e w' => e = .returned (.bool false) ∧ W = w') := fun W h => by
              have := end_any R _ false W h; rw [HML.out, decide_eq_false HZ.out] at this; exact this
            go_wp2
            go_region_held3 (fun w' => w'.cell? ⟨M, 0, none⟩ = some (.slice AM nM cM) ∧ w'.cell? ⟨M, 1, none⟩ = some (.bool false)) (first | go_keep | exact ⟨cM0, cM1⟩) (first
              | (go_at_call 25; refine (HLf.out _ HP5.out.drew).mono ?_; rintro e w' ⟨rfl, rfl⟩)
              | (go_at_call 26; refine (HRl.out _ HF5.out.drew).mono ?_; rintro e w' ⟨rfl, rfl⟩)
              | (go_at_call 27; refine (bad_any R _ false _ HP5.out.drew).mono ?_; rintro e w' ⟨rfl, rfl⟩)
              | (go_at_call 28; refine (HEn.out _ HP5.out.drew).mono ?_; rintro e w' ⟨rfl, rfl⟩))
            all_goals go_wp2
            all_goals go_roundw
            case rel => exact ⟨k + 1, L2, false, by go_num, by omega, ⟨HP5.out, HF5.out⟩, hb5.drew⟩
            case measure => simp [intOf]; omega
        · have HLf : Hid (∀ W, RD W R [] true → Calls Try.prog 25 #[.pointer (some ⟨R, 0, none⟩)] W fun e w' => e = .returned (.int .i64 (0 : Int)) ∧ W = w') := fun W h => by
            have := left_any R _ true W h; exact this
          have HRl : Hid (∀ W, RF W M L2 true → Calls Try.prog 26 #[.pointer (some ⟨M, 0, none⟩)] W fun e w' => e = .returned (.int .i64 (0 : Int)) ∧ W = w') := fun W h => by
            have := rleft_any M _ true W h; simp only [if_true] at this; exact this
          have HEn : Hid (∀ W, RD W R [] true → Calls Try.prog 28 #[.pointer (some ⟨R, 0, none⟩)] W fun e w' => e = .returned (.bool false) ∧ W = w') := fun W h => by
            have := end_any R _ true W h; exact this
          go_wp2
          go_quiet ((first
            | (go_at_call 25; exact quiet_left (HLf.out _ (HP5.out.drewN _)))
            | (go_at_call 26; exact quiet_left (HRl.out _ (HF5.out.drewN _)))
            | (go_at_call 27; exact quiet_left (bad_any R _ true _ (HP5.out.drewN _)))
            | (go_at_call 28; exact quiet_left (HEn.out _ (HP5.out.drewN _)))))
          all_goals go_wp2
          all_goals go_roundw
          case rel => exact ⟨k + 1, L2, true, by go_num, by omega, ⟨HP5.out, HF5.out⟩, below_drewN hb5 _⟩
          case measure => simp [intOf]; omega
    · go_wp2_with fail
      refine (nil_number _).mono ?_
      rintro e w4 ⟨rfl, rfl⟩
      go_wp2_with fail
      refine (nil_byte _).mono ?_
      rintro e w4 ⟨rfl, rfl⟩
      go_wp2_with fail
      refine (nil_bytes 1 _).mono ?_
      rintro e w4 ⟨A4, c4, rfl, hb4⟩
      go_wp2_with fail
      refine (nil_left _).mono ?_
      rintro e w5 ⟨rfl, rfl⟩
      go_wp2_with fail
      refine (nil_bad _).mono ?_
      rintro e w5 ⟨rfl, rfl⟩
      go_wp2_with fail
      refine (nil_end _).mono ?_
      rintro e w5 ⟨rfl, rfl⟩
      go_wp2
      go_ret
      exact ⟨rfl, hbel.trans (hb4.mono hbel.size)⟩
end Go.Proofs.Ytkgkiplidjoamaa.Pk
