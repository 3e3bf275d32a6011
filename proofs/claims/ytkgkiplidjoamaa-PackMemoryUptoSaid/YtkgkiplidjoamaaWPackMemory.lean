/- The walk of the law PackMemory: what is handed in stays and isn't kept; what is answered is its own. -/
import Derived.Test.YtkgkiplidjoamaaHeld
import Derived.Test.YtkgkiplidjoamaaPackWakes
import Derived.Test.YtkgkiplidjoamaaPackReader2
import Derived.Test.YtkgkiplidjoamaaArgs
import Derived.Deep.QuietTactic
import Derived.BigQuiet
import Derived.Deep.RegionHeld3
import Derived.Deep.DeepMust
namespace Go.Proofs.Ytkgkiplidjoamaa.Pk
open Go.RowKit Go.Proofs.Ytkgkiplidjoamaa.Ar
set_option linter.unusedVariables false

set_option maxRecDepth 100000 in
set_option maxHeartbeats 8000000 in
theorem law_PackMemory (a : Option Addr) (n c : Nat) (l : List Int) (b : Option Addr) (m d : Nat) (xs : List Int) (w : World) (h : ArgB w a n c l) (hx : ArgN w b m d xs) (hu : n + m ≤ 1048576) :
    Calls Try.prog 8 #[.slice a n c, .slice b m d] w fun e w' => e = .returned (.bool true) ∧ Below w.heap.size w w' := by
  obtain ⟨hr, hnc, hc, hB⟩ := h
  obtain ⟨hrx, hmd, hd, hX⟩ := hx
  have HL : Hid (l.length = n) := by have := hr.1; simp at this; exact this
  have HM : Hid (xs.length = m) := by have := hrx.1; simp at this; exact this
  have HB : Hid (isB l) := hB
  have hbA := RowI.of hr
  have hxA := RowI.of hrx
  have HX := Lib.hid hX
  clear hB hr hrx hX hc hd
  go_enter Try.func8, Try.ntmps8
  go_wp2_with fail
  refine (wakes_any w).mono ?_
  rintro e w1 ⟨rfl, hb1⟩
  replace hbA := hbA.below hb1
  replace hxA := hxA.below hb1
  have s1 := hb1.size
  have bel := hb1
  go_wp2_with (first
    | (at_builtin; refine appE w1 rfl (.tmp 21) (.tmp 22) rfl w1.heap.size rfl w1.heap.size a c l n rfl (RowI.reads hbA) (Nat.le_refl _) (by omega) (Nat.le_refl _) ?_; intro v2 w2 hown2 hb2; have s2 := hb2.size)
    | (at_builtin; refine appB _ rfl (.tmp 23) (.tmp 24) rfl w1.heap.size v2 l rfl (hown2.alloc _) (w2.heap.size + 1) _ 3 [71, 72, 73] 3 rfl (reads_new w2 _ _ _ 3 (bts [71, 72, 73]) rfl rfl (by omega)) (by have := HL.out; omega) (by simp; omega) ?_; intro v3 w3 hown3 hb3 _ _; obtain ⟨Am, nm, cm, rfl, hcm, hnm, -⟩ := hown3.val; obtain rfl : nm = n + 3 := (by have := HL.out; rw [← hnm]; simp; omega); have hmA := OwnI.of hown3; have hcm0 : ¬ (cm = 0) := (by omega); have hcm1 : n ≤ cm := (by omega); have hcm2 : (n : Int) ≤ (cm : Int) := (by omega); have hb13 : Below w1.heap.size w1 w3 := (hb2.alloc s2 _).trans hb3; have s3 := hb13.size; replace hbA := hbA.below hb13; replace hxA := hxA.below hb13; replace bel := bel.trans (hb13.mono bel.size); clear hown2 hb2 hown3 hb3)
    | (at_builtin; refine appEN w3 rfl (.tmp 26) (.tmp 27) rfl w3.heap.size rfl w3.heap.size b d xs m rfl (RowI.reads hxA) (Nat.le_refl _) (by omega) (Nat.le_refl _) ?_; intro v4 w4 hown4 hb4; obtain ⟨An, cn, rfl, hcn, hnA⟩ := rowI_own hown4; have s4 := hb4.size; replace hbA := hbA.below hb4; replace hxA := hxA.below hb4; replace hmA := hmA.below hb4; replace bel := bel.trans (hb4.mono bel.size); clear hown4))
  have hlm : (l ++ [71, 72, 73]).length = n + 3 := by have := HL.out; simp; omega
  have hmt : (l ++ [71, 72, 73]).take n = l := app_take _ _ _ HL.out
  have hrm := (RowI.reads (OwnI.rowHeld hmA)).take (k := n) (by omega)
  rw [hmt] at hrm
  refine (put_any Am An n cm m cn l xs w4 hrm (RowI.reads hnA) (by omega) hcn (fun x hx => (HX.out x hx).2)).mono ?_
  rintro e w5 ⟨v5, rfl, hown5, hb5⟩
  obtain ⟨Ao, no, co, rfl, hco, hno, -⟩ := hown5.val
  have HNO := Lib.hid hno
  have hnb : no ≤ 10485760 := by have := encs_len xs; have := HM.out; rw [List.length_append, HL.out] at hno; omega
  clear hno
  have hoA := OwnI.of hown5
  have s5 := hb5.size
  replace hbA := hbA.below hb5
  replace hxA := hxA.below hb5
  replace hmA := hmA.below hb5
  replace hnA := hnA.below hb5
  replace bel := bel.trans (hb5.mono bel.size)
  clear hown5 hrm
  --A
  go_wp2_with fail
  have hrm := (RowI.reads (OwnI.rowHeld hmA)).take (k := n) (by omega)
  rw [hmt] at hrm
  refine (put_any Am An n cm m cn l xs w5 hrm (RowI.reads hnA) (by omega) hcn (fun x hx => (HX.out x hx).2)).mono ?_
  rintro e w6 ⟨v6, rfl, hown6, hb6⟩
  obtain ⟨At, nt, ct, rfl, hct, hnt, -⟩ := hown6.val
  have htA := OwnI.rowHeld (OwnI.of hown6)
  have s6 := hb6.size
  replace bel := bel.trans (hb6.mono bel.size)
  replace hbA := hbA.below hb6
  replace hxA := hxA.below hb6
  replace hmA := hmA.below hb6
  replace hnA := hnA.below hb6
  replace hoA := hoA.below hb6
  clear hown6 hrm
  go_wp2_with fail
  have hrm := (RowI.reads (OwnI.rowHeld hmA)).take (k := n) (by omega)
  rw [hmt] at hrm
  refine (new_in Am n cm l w6 hrm HB.out (by omega)).mono ?_
  rintro e w7 ⟨R, rfl, hRA, hb7⟩
  have s7 := hb7.size
  replace bel := bel.trans (hb7.mono bel.size)
  replace hbA := hbA.below hb7
  replace hxA := hxA.below hb7
  replace hmA := hmA.below hb7
  replace hnA := hnA.below hb7
  replace hoA := hoA.below hb7
  replace htA := htA.below hb7
  clear hrm
  go_wp2_with fail
  have hrm := (RowI.reads (OwnI.rowHeld hmA)).take (k := n) (by omega)
  rw [hmt] at hrm
  refine (new_in Am n cm l w7 hrm HB.out (by omega)).mono ?_
  rintro e w8 ⟨S, rfl, hSA, hb8⟩
  have s8 := hb8.size
  replace bel := bel.trans (hb8.mono bel.size)
  replace hbA := hbA.below hb8
  replace hxA := hxA.below hb8
  replace hmA := hmA.below hb8
  replace hnA := hnA.below hb8
  replace hoA := hoA.below hb8
  replace htA := htA.below hb8
  replace hRA := hRA.below hb8
  clear hrm
  go_wp2_with fail
  have hpc : pcT l (n : Int) = l := pcT_all l n HL.out
  refine (bytes_any R l false n w8 (RDI.rd hRA).1).mono ?_
  rw [hpc]
  rintro e w9 ⟨v9, rfl, hown9, -, ho9⟩
  have hm9 := Mod.only ho9 (RDI.rd hRA).2.1 (RDI.rd hRA).2.2
  clear ho9 hRA hb7 hb8
  obtain ⟨Af, nf, cf, rfl, hcf, hnf, -⟩ := hown9.val
  obtain rfl : n = nf := by rw [← hnf]; exact HL.out.symm
  have hfA := OwnI.of hown9
  have s9 := hm9.size
  replace bel := hm9.below bel (by omega) bel.size
  replace hbA := hbA.mod hm9 (by omega)
  replace hxA := hxA.mod hm9 (by omega)
  replace hmA := hmA.mod hm9 (by omega)
  replace hnA := hnA.mod hm9 (by omega)
  replace hoA := hoA.mod hm9 (by omega)
  replace htA := htA.mod hm9 (by omega)
  replace hSA := hSA.mod hm9 (by omega)
  clear hown9
  go_wp2_with fail
  have hrm := (RowI.reads (OwnI.rowHeld hmA)).take (k := n) (by omega)
  rw [hmt] at hrm
  refine (same_any Am a n cm n c l l w9 _ _ hrm (RowI.reads hbA) (by omega)).mono ?_
  rw [decide_eq_true rfl]
  rintro e w10 ⟨rfl, k10, hw10⟩
  have hm10 : Mod w.heap.size w.heap.size w9 w10 := hw10 ▸ Mod.drawn _ _ w9 k10
  clear hrm hw10
  have s10 := hm10.size
  replace bel := hm10.below bel (by omega) bel.size
  replace hbA := hbA.mod hm10 (by omega)
  replace hxA := hxA.mod hm10 (by omega)
  replace hmA := hmA.mod hm10 (by omega)
  replace hnA := hnA.mod hm10 (by omega)
  replace hoA := hoA.mod hm10 (by omega)
  replace htA := htA.mod hm10 (by omega)
  replace hSA := hSA.mod hm10 (by omega)
  replace hfA := hfA.mod hm10 (by omega)
  obtain ⟨gm, rfl, c71, c72, c73⟩ := three hmA.out HL.out
  go_wp2_with fail
  obtain rfl : no = nt := by rw [← hnt, HNO.out]
  clear hnt
  refine (same_any Ao At no co no ct _ _ w10 _ _ (RowI.reads (OwnI.rowHeld hoA)) (RowI.reads htA) (by omega)).mono ?_
  rw [decide_eq_true rfl]
  rintro e w11 ⟨rfl, k11, hw11⟩
  have hm11 : Mod w.heap.size w.heap.size w10 w11 := hw11 ▸ Mod.drawn _ _ w10 k11
  clear hw11 c71 c72 c73
  have s11 := hm11.size
  replace bel := hm11.below bel (by omega) bel.size
  replace hbA := hbA.mod hm11 (by omega)
  replace hxA := hxA.mod hm11 (by omega)
  replace hmA := hmA.mod hm11 (by omega)
  replace hnA := hnA.mod hm11 (by omega)
  replace hoA := hoA.mod hm11 (by omega)
  replace htA := htA.mod hm11 (by omega)
  replace hSA := hSA.mod hm11 (by omega)
  replace hfA := hfA.mod hm11 (by omega)
  go_wp2
  go_loopw [12, 102] (fun i j wr => ∃ (k : Nat), j = .int .i64 k ∧ k ≤ m ∧ Mod w.heap.size w.heap.size w11 wr) (fun _ j _ => m - (intOf j).toNat)
  case atStart => exact ⟨0, rfl, by omega, Mod.refl _ _ _⟩
  case round =>
    obtain ⟨k, rfl, hk, hm12⟩ := hrel
    obtain ⟨w12, rfl⟩ : ∃ w12 : World, w12 = wr := ⟨_, rfl⟩
    have s12 := hm12.size
    replace bel := hm12.below bel (by omega) bel.size
    replace hbA := hbA.mod hm12 (by omega)
    replace hxA := hxA.mod hm12 (by omega)
    replace hmA := hmA.mod hm12 (by omega)
    replace hnA := hnA.mod hm12 (by omega)
    replace hoA := hoA.mod hm12 (by omega)
    replace htA := htA.mod hm12 (by omega)
    replace hSA := hSA.mod hm12 (by omega)
    replace hfA := hfA.mod hm12 (by omega)
    by_cases hlt : k < m
    · obtain ⟨bn, on, rfl, _, hc1⟩ := (RowI.reads hnA).i64 (by omega)
      obtain ⟨b0, o0, rfl, _, hc2⟩ := (RowI.reads hxA).i64 (by omega)
      have hx1 := hc1 k hlt
      have hx2 := hc2 k hlt
      obtain ⟨x, hxx⟩ : ∃ x, x = xs.getD k 0 := ⟨_, rfl⟩
      rw [← hxx] at hx1 hx2
      clear hc1 hc2 hxx
      have hne : (x != x) = false := by simp
      go_wp2
      go_quiet (fail)
      go_wp2
      go_roundw
      case rel => exact ⟨k + 1, by go_num, by omega, by first | exact hm12.drewN _ | exact hm12.drew⟩
      case measure => simp [intOf]; omega
    · clear hxA hnA
      go_wp2_with (at_builtin; refine appE w12 rfl (.tmp 115) (.tmp 116) rfl w12.heap.size rfl w12.heap.size At ct _ no rfl (RowI.reads htA) (Nat.le_refl _) (by omega) (Nat.le_refl _) ?_; intro v13 w13 hown13 hb13; obtain ⟨Aw, nw, cw, rfl, hcw, hnw, -⟩ := hown13.val)
      have hwA := OwnI.rowHeld (OwnI.of hown13)
      obtain rfl : no = nw := by rw [← hnw, HNO.out]
      have s13 := hb13.size
      replace bel := bel.trans (hb13.mono bel.size)
      replace hbA := hbA.below hb13
      replace hmA := hmA.below hb13
      replace hoA := hoA.below hb13
      replace htA := htA.below hb13
      replace hSA := hSA.below hb13
      replace hfA := hfA.below hb13
      clear hown13 hb13
      have tlt := hm12.size
      go_loopw [14, 120] (fun i j wr => ∃ (k : Nat) (l' : List Int), j = .int .i64 k ∧ k ≤ n + 3 ∧ OwnI w1.heap.size w3.heap.size (.slice (some ⟨gm, 0, none⟩) (n + 3) cm) l' wr ∧ Mod w1.heap.size w3.heap.size w13 wr) (fun _ j _ => n + 3 - (intOf j).toNat)
      case atStart => exact ⟨0, _, rfl, by omega, hmA.out, Mod.refl _ _ _⟩
      case round =>
        clear hmA
        obtain ⟨k3, l3, rfl, hk3, hO, hm14⟩ := hrel
        obtain ⟨w14, rfl⟩ : ∃ w14 : World, w14 = wr := ⟨_, rfl⟩
        by_cases hlt3 : k3 < n + 3
        · obtain ⟨gq, e, _, _, _, hc1, hf1, hst⟩ := hO.store (i := k3) hlt3
          injection e with e; injection e with e; subst e
          obtain ⟨ho2, hm2⟩ := hst 99
          have HO2 := Lib.hid ho2
          have HM2 := Lib.hid (hm14.trans hm2)
          clear hst ho2 hm2 hO hm14
          go_wp2
          go_roundw
          case rel => exact ⟨k3 + 1, _, by go_num, by omega, HO2.out, HM2.out⟩
          case measure => simp [intOf]; omega
        · have s14 := hm14.size
          replace bel := hm14.below bel (by omega) bel.size
          replace hbA := hbA.mod hm14 (by omega)
          replace hoA := hoA.mod hm14 (by omega)
          replace htA := htA.mod hm14 (by omega)
          replace hSA := hSA.mod hm14 (by omega)
          replace hfA := hfA.mod hm14 (by omega)
          replace hwA := hwA.mod hm14 (by omega)
          clear hO
          go_wp2
          go_loopw [15, 129] (fun i j wr => ∃ (k : Nat) (l' : List Int), j = .int .i64 k ∧ k ≤ no ∧ OwnI w4.heap.size w5.heap.size (.slice Ao no co) l' wr ∧ Mod w4.heap.size w5.heap.size w14 wr) (fun _ j _ => no - (intOf j).toNat)
          case atStart => exact ⟨0, _, rfl, by omega, hoA.out, Mod.refl _ _ _⟩
          case round =>
            clear hoA
            obtain ⟨k4, l4, rfl, hk4, hO, hm15⟩ := hrel
            obtain ⟨w15, rfl⟩ : ∃ w15 : World, w15 = wr := ⟨_, rfl⟩
            by_cases hlt4 : k4 < no
            · obtain ⟨gq, rfl, _, _, _, hc1, hf1, hst⟩ := hO.store (i := k4) hlt4
              obtain ⟨ho2, hm2⟩ := hst 98
              have HO2 := Lib.hid ho2
              have HM2 := Lib.hid (hm15.trans hm2)
              clear hst ho2 hm2 hO hm15
              go_wp2
              go_roundw
              case rel => exact ⟨k4 + 1, _, by go_num, by omega, HO2.out, HM2.out⟩
              case measure => simp [intOf]; omega
            · have s15 := hm15.size
              replace bel := hm15.below bel (by omega) bel.size
              replace hbA := hbA.mod hm15 (by omega)
              replace htA := htA.mod hm15 (by omega)
              replace hSA := hSA.mod hm15 (by omega)
              replace hfA := hfA.mod hm15 (by omega)
              replace hwA := hwA.mod hm15 (by omega)
              obtain ⟨hob, hog⟩ := hO
              have hol : l4.length = no := by obtain ⟨A', n', c', e, _, e2, _⟩ := hob.val; injection e with e3 e4 e5; rw [e2, e4]
              go_wp2
              go_loopw [16, 17] (fun v i wr => ∃ (k : Nat) (l' : List Int), i = .int .i64 k ∧ k ≤ 40 ∧ OwnB wr w4.heap.size v l' ∧ l'.length = no + k ∧ Mod w4.heap.size w5.heap.size w15 wr ∧ ∀ g, v.ownBlock = some g → (w4.heap.size ≤ g ∧ g < w5.heap.size) ∨ w15.heap.size ≤ g) (fun _ i _ => 40 - (intOf i).toNat)
              case atStart => exact ⟨0, _, rfl, by omega, hob, by omega, Mod.refl _ _ _, fun g hg => .inl ⟨own_base hob g hg, hog g hg⟩⟩
              case round =>
                clear hob hog hol
                obtain ⟨k5, l5, rfl, hk5, hO, hol, hm16, hog⟩ := hrel
                obtain ⟨w16, rfl⟩ : ∃ w16 : World, w16 = wr := ⟨_, rfl⟩
                have s16 := hm16.size
                by_cases hlt5 : k5 < 40
                · go_wp2_with (at_builtin; refine appB _ rfl (.tmp 141) (.tmp 142) rfl w4.heap.size _ l5 rfl (hO.alloc _) (w16.heap.size + 1) _ 1 [97] 1 rfl (reads_new w16 _ _ _ 1 (bts [97]) rfl rfl (by omega)) (by omega) (by simp; omega) ?_; intro v17 w17 hown17 _ hat17 hg17)
                  have HO2 := Lib.hid hown17
                  have HM2 : Hid (Mod w4.heap.size w5.heap.size w15 w17) := (hm16.trans (Mod.of ((Below.refl _ _).alloc (Nat.le_refl _) _) _ _)).late hg17 hog
                  have HG : Hid (∀ g, v17.ownBlock = some g → (w4.heap.size ≤ g ∧ g < w5.heap.size) ∨ w15.heap.size ≤ g) := by
                    intro g hg
                    rcases hat17 with e | e
                    · exact hog g (e.symm.trans hg)
                    · rw [e] at hg; injection hg with hg; simp at hg; right; omega
                  clear hown17 hat17 hg17 hO hog hm16
                  go_wp2
                  go_roundw
                  case rel => exact ⟨k5 + 1, _, by go_num, by omega, HO2.out, by simp; omega, HM2.out, HG.out⟩
                  case measure => simp [intOf]; omega
                · obtain rfl : k5 = 40 := by omega
                  obtain ⟨Al, nl, cl, rfl, hcl, hnl, -⟩ := hO.val
                  obtain rfl : nl = no + 40 := by omega
                  replace bel := hm16.below bel (by omega) bel.size
                  replace hbA := hbA.mod hm16 (by omega)
                  replace htA := htA.mod hm16 (by omega)
                  replace hSA := hSA.mod hm16 (by omega)
                  replace hfA := hfA.mod hm16 (by omega)
                  replace hwA := hwA.mod hm16 (by omega)
                  clear hO hog hm16 hnl hol hcl
                  go_wp2_with fail
                  refine (same_any At Aw no ct no cw _ _ w16 _ _ (RowI.reads htA) (RowI.reads hwA) (by omega)).mono ?_
                  rw [decide_eq_true rfl]
                  rintro e w18 ⟨rfl, k18, hw18⟩
                  have hm18 : Mod w.heap.size w.heap.size w16 w18 := hw18 ▸ Mod.drawn _ _ w16 k18
                  clear hw18
                  have s18 := hm18.size
                  replace bel := hm18.below bel (by omega) bel.size
                  replace hbA := hbA.mod hm18 (by omega)
                  replace hSA := hSA.mod hm18 (by omega)
                  replace hfA := hfA.mod hm18 (by omega)
                  clear htA hwA
                  go_wp2_with fail
                  refine (same_any Af a n cf n c l l w18 _ _ (RowI.reads (OwnI.rowHeld hfA)) (RowI.reads hbA) (by omega)).mono ?_
                  rw [decide_eq_true rfl]
                  rintro e w19 ⟨rfl, k19, hw19⟩
                  have hm19 : Mod w.heap.size w.heap.size w18 w19 := hw19 ▸ Mod.drawn _ _ w18 k19
                  clear hw19
                  have s19 := hm19.size
                  replace bel := hm19.below bel (by omega) bel.size
                  replace hbA := hbA.mod hm19 (by omega)
                  replace hSA := hSA.mod hm19 (by omega)
                  replace hfA := hfA.mod hm19 (by omega)
                  go_wp2
                  go_loopw [18, 156] (fun i j wr => ∃ (k : Nat) (l' : List Int), j = .int .i64 k ∧ k ≤ n ∧ OwnI w8.heap.size w9.heap.size (.slice Af n cf) l' wr ∧ Mod w8.heap.size w9.heap.size w19 wr) (fun _ j _ => n - (intOf j).toNat)
                  case atStart => exact ⟨0, _, rfl, by omega, hfA.out, Mod.refl _ _ _⟩
                  case round =>
                    clear hfA
                    obtain ⟨k6, l6, rfl, hk6, hO, hm20⟩ := hrel
                    obtain ⟨w20, rfl⟩ : ∃ w20 : World, w20 = wr := ⟨_, rfl⟩
                    by_cases hlt6 : k6 < n
                    · obtain ⟨gq, rfl, _, _, _, hc1, hf1, hst⟩ := hO.store (i := k6) hlt6
                      obtain ⟨ho2, hm2⟩ := hst 55
                      have HO2 := Lib.hid ho2
                      have HM2 := Lib.hid (hm20.trans hm2)
                      clear hst ho2 hm2 hO hm20
                      go_wp2
                      go_roundw
                      case rel => exact ⟨k6 + 1, _, by go_num, by omega, HO2.out, HM2.out⟩
                      case measure => simp [intOf]; omega
                    · have s20 := hm20.size
                      replace bel := hm20.below bel (by omega) bel.size
                      replace hbA := hbA.mod hm20 (by omega)
                      replace hSA := hSA.mod hm20 (by omega)
                      clear hO hm20
                      have hte : (((no + 40 : Nat) : Int) == (no : Int) + 40) = true := by simp
                      go_wp2_with fail
                      have hpc : pcT l (n : Int) = l := pcT_all l n HL.out
                      obtain ⟨hrd, hS1, hS2⟩ := RDI.rd hSA
                      refine (bytes_any S l false n w20 hrd).mono ?_
                      rw [hpc]
                      rintro e w21 ⟨v21, rfl, hown21, hrd21, ho21⟩
                      have hm21 := Mod.only ho21 hS1 hS2
                      clear ho21 hSA
                      obtain ⟨Ag, ng, cg, rfl, hcg, hng, hrg⟩ := hown21.val
                      obtain rfl : n = ng := by rw [← hng]; exact HL.out.symm
                      have s21 := hm21.size
                      replace bel := hm21.below bel (by omega) bel.size
                      replace hbA := hbA.mod hm21 (by omega)
                      clear hown21
                      go_wp2_with fail
                      refine (same_any Ag a n cg n c l l w21 _ _ hrg (RowI.reads hbA) (by omega)).mono ?_
                      rw [decide_eq_true rfl]
                      rintro e w22 ⟨rfl, k22, hw22⟩
                      have hrd22 : RD w22 S (pcL l n) (pcB l n false) := hw22 ▸ rd_drewN hrd21 k22
                      have hm22 : Mod w.heap.size w.heap.size w21 w22 := hw22 ▸ Mod.drawn _ _ w21 k22
                      clear hw22 hrd21
                      replace bel := hm22.below bel (by omega) bel.size
                      go_wp2_with fail
                      refine (end_any S _ _ w22 hrd22).mono ?_
                      rw [pc_end l n HL.out]
                      rintro e w23 ⟨rfl, rfl⟩
                      go_wp2
                      go_ret
                      exact ⟨rfl, bel⟩
end Go.Proofs.Ytkgkiplidjoamaa.Pk
