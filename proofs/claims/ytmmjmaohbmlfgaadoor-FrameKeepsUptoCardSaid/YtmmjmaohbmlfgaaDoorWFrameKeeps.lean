/- The walk of the law FrameKeeps. -/
import Derived.Test.YtmmjmaohbmlfgaaDoorFrKeep
import Derived.Laws.BitsAllLaws
namespace Go.Proofs.YtmmjmaohbmlfgaaDoor.Pk
open Go.RowKit Go.Shelf Go.Proofs.YtmmjmaohbmlfgaaDoor.Ar Go.Proofs.YtmmjmaohbmlfgaaDoor.Crc Go.Proofs.YtmmjmaohbmlfgaaDoor.Fr
set_option linter.unusedVariables false
attribute [local go_sem] Oper.semAt_some encF

set_option maxRecDepth 100000 in
set_option maxHeartbeats 16000000 in
theorem law_FrameKeeps (encC : EncC) (endC : EndC) (allC : AllC) (framesC : FramesC) (a : Option Addr) (n c : Nat) (ps : List Piece) (w : World) (ht : Tab w) (h : ArgL w a n c ps) (hu : sumN ps ≤ 1048576) :
    Calls Tryd.prog 6 #[.slice a n c] w fun e w' => e = .returned (.bool true) ∧ Below w.heap.size w w' := by
  obtain ⟨hlen, hby, hn⟩ := argL_facts h (by omega)
  have HLen := Lib.hid hlen
  have HBy := Lib.hid hby
  obtain ⟨hr, hnc, hok⟩ := h
  have HE := Lib.hid encC
  have HD := Lib.hid endC
  have HA := Lib.hid allC
  have HFc := Lib.hid framesC
  have HT := Lib.hid ht
  have HR := Lib.hid hr
  have HK := Lib.hid hok
  have HL : Hid (ps.length = n) := Lib.hid hr.len
  clear encC endC allC framesC ht hr hok hlen hby
  refine (callsIn_wide (n := 9)).1 ?_
  refine callsIn_of_wp_marks Tryd.func6 rfl trivial ?_ rfl
  simp only [Tryd.ntmps6, List.size_toArray, List.length_cons, List.length_nil, Nat.reduceAdd, Nat.reduceSub, Array.replicate_succ, Array.replicate_zero, List.push_toArray, List.append_toArray, List.nil_append, List.cons_append]
  refine wpIn_wide.2 ?_
  obtain ⟨u, hu'⟩ : ∃ u, u = w.heap.size := ⟨_, rfl⟩
  obtain ⟨W0, hW0⟩ : ∃ W0, W0 = (w.alloc (.cells #[.slice a n c] 29)).alloc (.cells #[.bool false] 4) := ⟨_, rfl⟩
  have hb0 : Below u w W0 := by
    rw [hW0, hu']
    exact ((Below.refl _ w).alloc (Nat.le_refl _) _).alloc (by simp) _
  have ks : Blk W0 u 29 #[.slice a n c] := by rw [hW0, hu']; exact (Blk.new w _ _).alloc _
  have kr : Blk W0 (u + 1) 4 #[.bool false] := by
    have := Blk.new (w.alloc (.cells #[.slice a n c] 29)) 4 #[.bool false]
    rw [World.size_alloc, ← hu'] at this
    rw [hW0]; exact this
  have HU := Lib.hid hu'
  have HT0 : Hid (Tab W0) := Lib.hid (by rw [hW0]; exact (HT.out.alloc _).alloc _)
  have HUp : Hid (0 < u) := Lib.hid (by rw [hu']; exact HT.out.pos)
  have HB0 := Lib.hid hb0
  have HKr0 := Lib.hid kr
  have HKs0 := Lib.hid ks
  have hs0 : u + 2 ≤ W0.heap.size := kr.lt
  go_wp2_with fail
  rw [← hW0, ← hu']
  rw [← hu'] at HR
  clear hW0 hb0 kr ks hu'
  refine (wakes_any HE.out HD.out _ HT0.out).mono ?_
  rintro e w1 ⟨rfl, hb1⟩
  have HT1 := Lib.hid (HT0.out.next hb1)
  have HB1 := Lib.hid (HB0.out.trans (hb1.mono (by omega)))
  have HKr1 := Lib.hid (HKr0.out.below hb1 HKr0.out.lt)
  have HKs1 := Lib.hid (HKs0.out.below hb1 HKs0.out.lt)
  have hs1 : u + 2 ≤ w1.heap.size := Nat.le_trans hs0 hb1.size
  have HR1 := Lib.hid (HR.out.below HB1.out)
  have cp : w1.cell? ⟨u, 0, none⟩ = some (.slice a n c) := by rw [HKs1.out.cell]; rfl
  clear hb1 HKr0 HKs0 HB0 HT0 hs0 HR
  go_wp2
  go_loopw [3, 5, 6, 7, 8, 9, 24] (fun v _ _ _ _ _ j wr => ∃ (k : Nat), j = .int .i64 k ∧ k ≤ n ∧ OwnB wr w1.heap.size v (encs (Piece.bytes (ps.take k))) ∧ Below w1.heap.size w1 wr ∧ Fit (Piece.bytes (ps.take k))) (fun _ _ _ _ _ _ j _ => n - (intOf j).toNat)
  case atStart => exact ⟨0, rfl, by omega, OwnB.nil_ _ _, Below.refl _ _, fun p hp => by simp [Piece.bytes] at hp⟩
  case round =>
    clear cp
    obtain ⟨k, rfl, hk, hown, hbel, hfit⟩ := hrel
    obtain ⟨w2, rfl⟩ : ∃ w2 : World, w2 = wr := ⟨_, rfl⟩
    obtain ⟨A2, n2, c2, rfl⟩ := own_slice hown
    have hl2 := own_len hown
    have hl3 := HLen.out k
    have HO2 := Lib.hid hown
    have HB2 := Lib.hid hbel
    have HFt := Lib.hid hfit
    have hs2 := hbel.size
    clear hown hbel hfit
    by_cases hlt : k < n
    · obtain ⟨g, off, p, rfl, hpk, hpm, hgb, hx2⟩ := (HR1.out.below (HB2.out.mono (by omega))).at_ hlt
      have HPl : Hid (p.l.length = p.n) := Lib.hid (by have := (HR1.out.2 p hpm).1.1; simpa using this)
      have HPb : Hid (Bytes p.l) := Lib.hid (HK.out p hpm).2
      have HPr : Hid (Reads w2 w2.heap.size 1 p.a p.n (bts p.l)) := Lib.hid (((HR1.out.2 p hpm).1.below (HB2.out.mono (by omega))).more (by omega))
      have hpn : p.n ≤ 1048576 := by have := sumN_mem hpm; omega
      have HNx := Lib.hid (bytes_next hpk)
      have hl4 := HLen.out (k + 1)
      rw [HNx.out, encs_snoc, List.length_append, hl2.1, enc_length, HPl.out] at hl4
      have HFit : Hid (Fit (Piece.bytes (ps.take (k + 1)))) := Lib.hid (by rw [HNx.out]; exact fit_snoc HFt.out (by rw [HPl.out]; exact hpn))
      clear hpk hpm HFt
      go_wp2_with (first
        | (at_builtin; refine appE w2 rfl (.tmp 28) (.tmp 29) rfl w2.heap.size rfl w2.heap.size p.a p.c p.l p.n rfl HPr.out (Nat.le_refl _) (by omega) (Nat.le_refl _) ?_; intro v3 w3 hown3 hb3; have s3 := hb3.size)
        | (at_builtin; refine appB _ rfl (.tmp 30) (.tmp 31) rfl w2.heap.size v3 p.l rfl (hown3.alloc _) (w3.heap.size + 1) _ 2 [71, 72] 2 rfl (reads_new w3 _ _ _ 2 (bts [71, 72]) rfl rfl (by omega)) (by have := HPl.out; omega) (by simp; omega) ?_; intro v4 w4 hown4 hb4 _ _; obtain ⟨Am, nm, cm, rfl, hcm, hnm, -⟩ := hown4.val; obtain rfl : nm = p.n + 2 := (by have := HPl.out; rw [← hnm]; simp; omega); have hmA := OwnI.of hown4; have hcm0 : ¬ (cm = 0) := (by omega); have hcm1 : p.n ≤ cm := (by omega); have hcm2 : (p.n : Int) ≤ (cm : Int) := (by omega); have hb24 : Below w2.heap.size w2 w4 := (hb3.alloc s3 _).trans hb4; have s4 := hb24.size; have HB24 := Lib.hid hb24; clear hown3 hb3 hown4 hb4 hb24 hnm s3))
      have hrm := (RowI.reads (OwnI.rowHeld hmA)).take (k := p.n) (by omega)
      rw [app_take _ _ _ HPl.out] at hrm
      have HX := Lib.hid (HE.out Am p.n cm p.l w4 (HT1.out.next (HB2.out.trans (HB24.out.mono hs2))) hrm hcm1 HPb.out (by omega))
      clear hrm
      refine HX.out.mono ?_
      rintro e w5 ⟨hb5, ⟨hs, A5, n5, c5, rfl, ho5⟩ | ⟨hs, rfl⟩⟩
      case inr => have := HPl.out; omega
      have hl5 := own_len ho5
      rw [enc_length, HPl.out] at hl5
      have HO5 := Lib.hid ho5
      have hmB := hmA.below hb5
      have HB45 := Lib.hid hb5
      have s5 := hb5.size
      clear ho5 hb5 hmA HX hs
      go_wp2_with fail
      have hrm := (RowI.reads (OwnI.rowHeld hmB)).take (k := p.n) (by omega)
      rw [app_take _ _ _ HPl.out] at hrm
      have HB25 := Lib.hid (HB24.out.trans (HB45.out.mono s4))
      have HSm := Lib.hid (same_any Am p.a p.n cm p.n p.c p.l p.l w5 _ _ hrm ((HPr.out.below HB25.out).more HB25.out.size) (by omega))
      rw [decide_eq_true rfl] at HSm
      obtain ⟨gm, rfl, c71, c72⟩ := two_ hmB.out HPl.out
      clear hrm
      go_wp2_with fail
      refine HSm.out.mono ?_
      rintro e w6 ⟨rfl, z6, hw6⟩
      have hmC : Held w2.heap.size w4.heap.size (OwnI w2.heap.size w4.heap.size (.slice (some ⟨gm, 0, none⟩) (p.n + 2) cm) (p.l ++ [71, 72])) w6 := by rw [hw6]; exact hmB.drewN z6
      have HO6 : Hid (OwnB w6 w4.heap.size (.slice A5 n5 c5) (enc p.l)) := Lib.hid (by rw [hw6]; exact HO5.out)
      have HB26 : Hid (Below w2.heap.size w2 w6) := Lib.hid (by rw [hw6]; exact below_drewN HB25.out z6)
      have HQ6 := Lib.hid (HO2.out.keep HB26.out (Nat.le_refl _))
      have c71 : w6.cell? ⟨gm, p.n, none⟩ = some (.int .u8 71) := by rw [hw6]; exact c71
      have s6 : w5.heap.size ≤ w6.heap.size := by rw [hw6]; exact Nat.le_refl _
      clear hw6 HSm hmB c72 HO5 HB25 HB24 HB45
      go_wp2
      clear c71
      go_loopw [9, 63] (fun _ j wr => ∃ (i : Nat) (l' : List Int), j = .int .i64 i ∧ i ≤ p.n + 2 ∧ OwnI w2.heap.size w4.heap.size (.slice (some ⟨gm, 0, none⟩) (p.n + 2) cm) l' wr ∧ Mod w2.heap.size w4.heap.size w6 wr) (fun _ j _ => p.n + 2 - (intOf j).toNat)
      case atStart => exact ⟨0, _, rfl, by omega, hmC.out, Mod.refl _ _ _⟩
      case round =>
        clear hmC
        obtain ⟨i, l1, rfl, hi, hO, hm7⟩ := hrel
        obtain ⟨w7, rfl⟩ : ∃ w7 : World, w7 = wr := ⟨_, rfl⟩
        by_cases hi2 : i < p.n + 2
        · obtain ⟨gq, e, _, _, _, hc1, hf1, hst⟩ := hO.store (i := i) hi2
          injection e with e; injection e with e; subst e
          obtain ⟨ho2, hm2⟩ := hst 9
          have HOm := Lib.hid ho2
          have HMm := Lib.hid (hm7.trans hm2)
          clear hst ho2 hm2 hO hm7
          go_wp2
          go_roundw
          case rel => exact ⟨i + 1, _, by go_num, by omega, HOm.out, HMm.out⟩
          case measure => simp [intOf]; omega
        · have HQ7 : Hid (OwnB w7 w1.heap.size (.slice A2 n2 c2) (encs (Piece.bytes (ps.take k)))) := Lib.hid (HQ6.out.stay fun g' e => hm7.block g' (HQ6.out.lt g' e) (by have := HO2.out.lt g' e; omega))
          have HF7 : Hid (OwnB w7 w4.heap.size (.slice A5 n5 c5) (enc p.l)) := Lib.hid (HO6.out.stay fun g' e => hm7.block g' (HO6.out.lt g' e) (by have := own_base HO6.out g' e; omega))
          have HB17 : Hid (Below w1.heap.size w1 w7) := Lib.hid (hm7.below (HB2.out.trans (HB26.out.mono hs2)) hs2 (by have := HB26.out.size; omega))
          have s7 := HB17.out.size
          clear hO hm7
          go_wp2_with (at_builtin; refine appB w7 rfl (.tmp 70) (.tmp 71) rfl w1.heap.size _ _ rfl HQ7.out w7.heap.size A5 c5 (enc p.l) n5 rfl (own_reads HF7.out) (by omega) s7 ?_; intro v8 w8 hown8 hb8 _ _; obtain ⟨A8, n8, c8, rfl⟩ := own_slice hown8; have HO8 := Lib.hid hown8; have HB8 := Lib.hid (HB17.out.trans hb8); clear hown8 hb8)
          go_roundw
          case rel => exact ⟨k + 1, by go_num, by omega, by rw [HNx.out, encs_snoc]; exact HO8.out, HB8.out, HFit.out⟩
          case measure => simp [intOf]; omega
    · obtain rfl : k = n := by omega
      have hZl : ps.take k = ps := by rw [← HL.out]; exact List.take_length
      rw [hZl] at hl2 hl3 HFt HO2
      obtain ⟨Z, hZ⟩ : ∃ Z, Z = encs (Piece.bytes ps) := ⟨_, rfl⟩
      rw [← hZ] at hl2 hl3 HO2
      have HFs : Hid (frames Z = Piece.bytes ps) := Lib.hid (by rw [hZ]; exact frames_all HFt.out)
      have HZb : Hid (Bytes Z) := Lib.hid (by rw [hZ]; exact encs_bytes (fun p hp => by obtain ⟨q, hq, rfl⟩ := List.mem_map.1 hp; exact (HK.out q hq).2))
      clear hZl hZ HFt
      have HT2 := Lib.hid (HT1.out.next (HB2.out))
      have HX3 := Lib.hid (HFc.out A2 n2 c2 Z w2 HT2.out (own_reads HO2.out) hl2.2 HZb.out (by omega))
      go_wp2_with fail
      refine HX3.out.mono ?_
      rintro e w3 ⟨v3, R, rfl, hseq, hb3, hR⟩
      have HR3 := Lib.hid hR
      have SE3 := Lib.hid hseq
      have HRl : Hid (∀ g, R g → g < w3.heap.size) := Lib.hid hseq.lt
      have HB13 := Lib.hid (HB2.out.trans (hb3.mono hs2))
      have HO3 := Lib.hid (HO2.out.keep hb3 (Nat.le_refl _))
      have s3 := hb3.size
      have HT3 := Lib.hid (HT1.out.next HB13.out)
      have HX4 := Lib.hid (HA.out A2 n2 c2 Z w3 HT3.out (own_reads HO3.out) hl2.2 HZb.out (by omega))
      clear hseq hb3 hR HX3 HT2
      go_wp2_with fail
      refine HX4.out.mono ?_
      rintro e w4 ⟨hb4, A4, n4, c4, qs, rfl, ho4, hq4⟩
      have HP4 : Hid (Piece.bytes qs = Piece.bytes ps) := Lib.hid (hq4.trans HFs.out)
      have HL4 := Lib.hid ho4
      have HRd4 := Lib.hid (ho4.rd (frames_fits hq4))
      have HN4 : Hid (qs.length = n4 ∧ n4 = k) := Lib.hid (by
        have h1 := congrArg List.length HP4.out
        simp only [Piece.bytes, List.length_map] at h1
        have h2 := (own_rowlen ho4.row).1
        have h3 := HL.out
        exact ⟨h2, by omega⟩)
      have HB14 := Lib.hid (HB13.out.trans (hb4.mono (Nat.le_trans hs2 s3)))
      have HB34 := Lib.hid hb4
      have HO4 := Lib.hid (HO3.out.keep hb4 (Nat.le_refl _))
      have s4 := hb4.size
      have HT4 := Lib.hid (HT1.out.next HB14.out)
      have HX5 := Lib.hid (HA.out A2 n2 c2 Z w4 HT4.out (own_reads HO4.out) hl2.2 HZb.out (by omega))
      clear ho4 hq4 hb4 HX4 HT3
      go_wp2_with fail
      refine HX5.out.mono ?_
      rintro e w5 ⟨hb5, A5, n5, c5, rs, rfl, ho5, hq5⟩
      have HP5 : Hid (Piece.bytes rs = Piece.bytes ps) := Lib.hid (hq5.trans HFs.out)
      have HRd5 := Lib.hid (ho5.rd (frames_fits hq5))
      have HL5 := Lib.hid ho5
      have HN5 : Hid (n5 = k) := Lib.hid (by
        have h1 := congrArg List.length HP5.out
        simp only [Piece.bytes, List.length_map] at h1
        have h2 := (own_rowlen ho5.row).1
        have h3 := HL.out
        omega)
      have HB15 := Lib.hid (HB14.out.trans (hb5.mono (by omega)))
      have HB45 := Lib.hid hb5
      have HO5 := Lib.hid (HO4.out.keep hb5 (Nat.le_refl _))
      have s5 := hb5.size
      have HT5 := Lib.hid (HT1.out.next HB15.out)
      have HAl := Lib.hid (alike_any A4 a n4 c4 k c qs ps w5 w4.heap.size u (by exact HRd4.out.below HB45.out) (by exact HR1.out.below (HB15.out.mono (by omega))) (by have := HN4.out; omega))
      rw [decide_eq_true HP4.out] at HAl
      have cp5 : w5.cell? ⟨u, 0, none⟩ = some (.slice a k c) := by rw [(HKs1.out.below HB15.out (by omega)).cell]; rfl
      clear ho5 hq5 hb5 HX5 HT4
      obtain ⟨gf, pb, lb, hv3, en, hq1, hq2⟩ := SE3.out
      clear hq1 hq2
      subst hv3
      have EN := Lib.hid en
      clear en
      have hfn2 := fun (W : World) (gf : Nat) (pb cs : Array Value) => run_eql_func_nil (P := Tryd.prog) W 33 (.func gf) pb cs Tryd.underlying33
      go_wp2_with fail
      refine HAl.out.mono ?_
      rintro e w6 ⟨rfl, z6, hw6⟩
      clear HAl cp5
      have HB16 : Hid (Below w1.heap.size w1 w6) := Lib.hid (by rw [hw6]; exact below_drewN HB15.out z6)
      have HB56 : Hid (Below w5.heap.size w5 w6) := Lib.hid (by rw [hw6]; exact below_drewN (Below.refl _ _) z6)
      have HO6 : Hid (OwnI w1.heap.size w2.heap.size (.slice A2 n2 c2) Z w6) := Lib.hid ⟨HO5.out.keep HB56.out (Nat.le_refl _), HO2.out.lt⟩
      clear hw6
      go_wp2
      clear hfn2
      have s6 := HB56.out.size
      go_loopw [13, 90] (fun _ j wr => ∃ (i : Nat) (l' : List Int), j = .int .i64 i ∧ i ≤ n2 ∧ Bytes l' ∧ OwnI w1.heap.size w2.heap.size (.slice A2 n2 c2) l' wr ∧ Mod w1.heap.size w2.heap.size w6 wr) (fun _ j _ => n2 - (intOf j).toNat)
      case atStart => exact ⟨0, _, rfl, by omega, HZb.out, HO6.out, Mod.refl _ _ _⟩
      case round =>
        obtain ⟨i, l1, rfl, hi, hbl, hO, hm7⟩ := hrel
        obtain ⟨w7, rfl⟩ : ∃ w7 : World, w7 = wr := ⟨_, rfl⟩
        by_cases hi2 : i < n2
        · obtain ⟨gq, rfl, _, _, _, hc1, hf1, hst⟩ := hO.store (i := i) hi2
          have hyb := bytes_getD hbl i
          obtain ⟨z, hz⟩ : ∃ z : Nat, z = (l1.getD i 0).toNat := ⟨_, rfl⟩
          have hz2 : l1.getD i 0 = (z : Int) := by omega
          rw [hz2] at hc1
          obtain ⟨q, hq⟩ : ∃ q : Nat, q = z ^^^ 255 := ⟨_, rfl⟩
          have hzb : z < 256 := by omega
          have ex : bits .xor .u8 (z : Int) 255 = (q : Int) := by rw [hq]; exact u8_xor_nat z 255 hzb (by omega)
          have hqb : q < 256 := by rw [hq]; exact Nat.xor_lt_two_pow (n := 8) hzb (by omega)
          obtain ⟨ho2, hm2⟩ := hst (q : Int)
          have HOm := Lib.hid ho2
          have HMm := Lib.hid (hm7.trans hm2)
          have HBl : Hid (Bytes (l1.set i (q : Int))) := Lib.hid (by
            intro v hv
            rcases List.mem_or_eq_of_mem_set hv with h1 | rfl
            · exact hbl v h1
            · omega)
          clear hst ho2 hm2 hO hm7 hbl hz hz2 hq hyb
          go_wp2
          go_roundw
          case rel => exact ⟨i + 1, _, by go_num, by omega, HBl.out, HOm.out, HMm.out⟩
          case measure => simp [intOf]; omega
        · have HM7 := Lib.hid hm7
          have s7 := hm7.size
          have HRm : Hid (RemL w3.heap.size w4.heap.size A4 qs 0 w7) := Lib.hid ((RemL.of HL4.out).stay (by omega) (fun g h1 h2 h3 => (HM7.out.block g (by omega) (by omega)).trans ((HB56.out.block g (by omega)).trans (HB45.out.block g h3))))
          have HSt := Lib.hid (StatL.of HL4.out)
          have HQf : Hid (∀ p ∈ qs, p.l.length ≤ 1048576) := Lib.hid (fun p hp => by
            refine frames_fit Z p.l ?_
            rw [HFs.out, ← HP4.out]
            exact List.mem_map.2 ⟨p, hp, rfl⟩)
          clear hO hm7 hbl
          go_wp2
          have hn4 : n4 ≤ 1048576 := by have := HN4.out.2; omega
          go_loopw [14, 15, 102] (fun _ _ j wr => ∃ (t : Nat), j = .int .i64 t ∧ t ≤ n4 ∧ RemL w3.heap.size w4.heap.size A4 qs t wr ∧ Mod w3.heap.size w4.heap.size w7 wr) (fun _ _ j _ => n4 - (intOf j).toNat)
          case atStart => exact ⟨0, rfl, by omega, HRm.out, Mod.refl _ _ _⟩
          case round =>
            clear HRm
            obtain ⟨t, rfl, ht, hrm, hm8⟩ := hrel
            obtain ⟨w8, rfl⟩ : ∃ w8 : World, w8 = wr := ⟨_, rfl⟩
            have s8 := hm8.size
            by_cases ht2 : t < n4
            · obtain ⟨p, hp⟩ : ∃ p, qs[t]? = some p := ⟨qs[t]'(by have := HN4.out; omega), List.getElem?_eq_getElem _⟩
              obtain ⟨gL, rfl, h1, h2, h3, hcL, hfL⟩ := hrm.cell t p (Nat.le_refl _) hp
              have hoff : ∀ b, p.val.ownBlock = some b → b ≠ gL := fun b hb e => HSt.out.off t p hp b hb 0 none (by rw [e])
              have HOf := Lib.hid hoff
              have hpI := hrm.each t p (Nat.le_refl _) hp
              have hpl := HQf.out p (List.mem_of_getElem? hp)
              have hpn : p.n ≤ 1048576 := by
                have := (own_len (A := p.a) (n := p.n) (c := p.c) hpI.1).1
                omega
              have hcL' : w8.cell? ⟨gL, t, none⟩ = some (.slice p.a p.n p.c) := hcL
              have HRm := Lib.hid hrm
              have HM8 := Lib.hid hm8
              have HPi : Hid (OwnI w3.heap.size w4.heap.size (.slice p.a p.n p.c) p.l w8) := Lib.hid hpI
              have HPt := Lib.hid hp
              have Ht2 : Hid (t < n4) := Lib.hid ht2
              have HcL := Lib.hid hcL'
              have HfL := Lib.hid hfL
              clear hrm hm8 hpI hp hcL hoff hpl
              go_wp2
              clear hcL' hfL
              go_loopw [15, 110] (fun _ j wr => ∃ (i : Nat) (l' : List Int), j = .int .i64 i ∧ i ≤ p.n ∧ OwnI w3.heap.size w4.heap.size (.slice p.a p.n p.c) l' wr ∧ OnlyS (fun b => p.val.ownBlock = some b) w8 wr) (fun _ j _ => p.n - (intOf j).toNat)
              case atStart => exact ⟨0, _, rfl, by omega, HPi.out, OnlyS.refl _ _⟩
              case round =>
                obtain ⟨i, l1, rfl, hi, hO, ho9⟩ := hrel
                obtain ⟨w9, rfl⟩ : ∃ w9 : World, w9 = wr := ⟨_, rfl⟩
                have hbL : w9.heap[gL]? = w8.heap[gL]? := ho9.block gL h3 (fun e => HOf.out gL e rfl)
                have cL : w9.cell? ⟨gL, t, none⟩ = some (.slice p.a p.n p.c) := (World.cell?_of_block (a := ⟨gL, t, none⟩) hbL).trans HcL.out
                have fL : w9.frozen? ⟨gL, t, none⟩ = false := (World.frozen?_of_block (a := ⟨gL, t, none⟩) hbL).trans HfL.out
                have s9 := ho9.size
                by_cases hi2 : i < p.n
                · obtain ⟨gq, hpa, _, _, _, hc1, hf1, hst⟩ := hO.store (i := i) hi2
                  obtain ⟨ho2, _⟩ := hst ((t : Int) % 256)
                  have hpv : p.val.ownBlock = some gq := by
                    show (Value.slice p.a p.n p.c).ownBlock = some gq
                    rw [hpa]; rfl
                  have HOm := Lib.hid ho2
                  have HMm := Lib.hid (OnlyS.setAt ho9 (S := fun b => p.val.ownBlock = some b) (x := gq) (o := i) hpv (.int .u8 ((t : Int) % 256)))
                  rw [hpa] at cL
                  clear hbL hst ho2 hO ho9 hpv
                  go_wp2
                  go_roundw
                  case rel => exact ⟨i + 1, _, by go_num, by omega, HOm.out, HMm.out⟩
                  case measure => simp [intOf]; omega
                · have HO9 := Lib.hid hO
                  have HS9 := Lib.hid ho9
                  have hl9 := (own_len hO.1).1
                  have hlt9 := own_lt hO.1
                  have hgL9 : gL < w9.heap.size := by omega
                  clear hbL hO ho9
                  go_wp2_with (at_builtin; refine appB _ rfl (.tmp 127) (.tmp 128) rfl w3.heap.size (.slice p.a p.n p.c) l1 rfl (HO9.out.1.alloc _) (w9.heap.size + 1) _ 3 [1, 2, 3] 3 rfl (reads_new w9 _ _ _ 3 (bts [1, 2, 3]) rfl rfl (by omega)) (by omega) (by simp; omega) ?_; intro v10 w10 hown10 hb10 hbk10 hgr10; obtain ⟨A10, n10, c10, rfl⟩ := own_slice hown10; have HGr := Lib.hid hgr10; have hb10L : w10.heap[gL]? = w9.heap[gL]? := (hgr10.block gL (by simp; omega) (fun e => HOf.out gL e.symm rfl)).trans (Below.heap_alloc w9 _ gL hgL9); have cL10 : w10.cell? ⟨gL, t, none⟩ = some (.slice p.a p.n p.c) := (World.cell?_of_block (a := ⟨gL, t, none⟩) hb10L).trans cL; have fL10 : w10.frozen? ⟨gL, t, none⟩ = false := (World.frozen?_of_block (a := ⟨gL, t, none⟩) hb10L).trans fL; clear hown10 hb10 hbk10 hgr10 hb10L)
                  have HO10 : Hid (OnlyS (fun b => p.val.ownBlock = some b) w8 w10) := Lib.hid ((HS9.out.below ((Below.refl _ w9).alloc (Nat.le_refl _) _)).grown HGr.out (fun g e => e))
                  have htn : t + 1 ≤ n4 := Ht2.out
                  have HRn := Lib.hid (HRm.out.step HSt.out HPt.out HO10.out rfl (.slice A10 n10 c10))
                  have HMn : Hid (Mod w3.heap.size w4.heap.size w7 (w10.setCell ⟨gL, t, none⟩ (.slice A10 n10 c10))) := Lib.hid (HM8.out.trans (((HO10.out.weak (S' := fun b => w3.heap.size ≤ b ∧ b < w4.heap.size) (fun b hb => ⟨own_base HPi.out.1 b hb, HPi.out.2 b hb⟩)).setAt (x := gL) (o := t) ⟨h1, h2⟩ (.slice A10 n10 c10)).mod (fun b hb => hb)))
                  go_roundw
                  case rel => exact ⟨t + 1, by go_num, by omega, HRn.out, HMn.out⟩
                  case measure => simp [intOf]; omega
            · have HM8 := Lib.hid hm8
              clear hrm hm8
              go_wp2
              obtain ⟨xn, hxn⟩ : ∃ xn, xn = w8.heap.size := ⟨_, rfl⟩
              obtain ⟨W1, hW1⟩ : ∃ W1, W1 = w8.alloc (.cells #[.int .i64 0] 3) := ⟨_, rfl⟩
              have hb1 : Below w8.heap.size w8 W1 := hW1 ▸ (Below.refl _ _).alloc (Nat.le_refl _) _
              have HKn1 : Hid (Blk W1 xn 3 #[.int .i64 0]) := Lib.hid (by rw [hW1, hxn]; exact Blk.new w8 _ _)
              have HBV : Hid (Below w1.heap.size w1 W1) := Lib.hid ((HM8.out.below (HM7.out.below HB16.out (Nat.le_refl _) (by omega)) (by omega) (by omega)).trans (hb1.mono (by omega)))
              have HSame : Hid (∀ g, (g < w1.heap.size ∨ w2.heap.size ≤ g) → g < w3.heap.size → W1.heap[g]? = w3.heap[g]?) := Lib.hid (fun g h1 h2 => (hb1.block g (by omega)).trans ((HM8.out.block g (by omega) (by omega)).trans ((HM7.out.block g (by omega) (by omega)).trans ((HB56.out.block g (by omega)).trans ((HB45.out.block g (by omega)).trans (HB34.out.block g h2))))))
              have HSame5 : Hid (∀ g, w4.heap.size ≤ g → g < w5.heap.size → W1.heap[g]? = w5.heap[g]?) := Lib.hid (fun g h1 h2 => (hb1.block g (by omega)).trans ((HM8.out.block g (by omega) (by omega)).trans ((HM7.out.block g (by omega) (by omega)).trans (HB56.out.block g h2))))
              have hsW : w8.heap.size ≤ W1.heap.size := hb1.size
              have SE1 := Lib.hid (SE3.out.stay (w := w3) (W := W1) ⟨by omega, fun g hg => HSame.out g (by rcases HR3.out g hg with h | h; (· left; omega); (· right; exact h)) (HRl.out g hg)⟩)
              have HL1 : Hid (OwnL W1 w4.heap.size (.slice A5 n5 c5) rs) := Lib.hid (HL5.out.stay HSame5.out)
              have HKs := Lib.hid (HKs1.out.below HBV.out (by omega))
              have HKr := Lib.hid (HKr1.out.below HBV.out (by omega))
              have HRp := Lib.hid (HR1.out.below (HBV.out.mono (by omega)))
              have hxW : xn < W1.heap.size := HKn1.out.lt
              have HUl : Hid (u + 2 ≤ w1.heap.size) := Lib.hid hs1
              have hx1 : w1.heap.size ≤ xn ∧ w5.heap.size ≤ xn := ⟨by omega, by omega⟩
              obtain ⟨hx1, hx2⟩ := hx1
              rw [← hW1, ← hxn]
              have hRx : ∀ g, R g → g < xn := fun g hg => by have := HRl.out g hg; omega
              have HRx := Lib.hid hRx
              clear hW1 hxn hb1 hRx
              obtain ⟨S, hS⟩ : ∃ S : Nat → Prop, S = fun b => b = xn := ⟨_, rfl⟩
              have S1 : S xn := by rw [hS]
              have HSe : Hid (∀ b, S b → b = xn) := Lib.hid (fun b h => by rw [hS] at h; exact h)
              clear hS
              refine (wpIn_wide (n := 9)).1 ?_
              refine' range_boundF (α := FrX) (gf := gf) (pb := pb) (lb := lb) rfl EN.out (SE1.out.atF _) OkF.fr (fun h k => h.trans k) (stay_b SE1.out.lt) (fun _ => rfl) OkF.put
                (fun pre V => (Blk V xn 3 #[.int .i64 (pre.length : Nat)]) ∧ OnlyS S W1 V)
                (fun cc pre V => False)
                (OwnFrom.and (Own.from (I := fun (pre : List FrX) V => Blk V xn 3 #[.int .i64 (pre.length : Nat)]) (fun s A B row hs hg hr => blk_kept hs hg hr) _) (own_onlyS W1 S))
                (fun cc => fun s A B row hs hg hr => hs)
                ⟨HKn1.out, OnlyS.refl _ _⟩
                _ ?assign ?body ?done ?stop
              case assign =>
                intro lp y V K hK
                gi_wp2
                exact hK
              case body =>
                rintro lp pre ⟨yat, yA, yn, yc, yp⟩ V hlp hrec ⟨hn1, hO⟩ ⟨B', hB', _, hok⟩
                obtain ⟨q1, q2, q3, q4⟩ := hok.next
                have hoff := fun b hb => (hok.2.2 b hb).1
                have hown := hok.2.1
                dsimp only at hoff hown q3
                obtain ⟨q, hq⟩ : ∃ q, q = pre.length := ⟨_, rfl⟩
                rw [← hq] at hn1 q1 q3
                rw [HFs.out] at q1 q3
                have hqk : q < k := by
                  have h1 := q1
                  simp only [Piece.bytes, List.length_map] at h1
                  have := HL.out
                  omega
                have hyp : yp.length ≤ 1048576 := by
                  refine frames_fit Z yp ?_
                  rw [HFs.out]
                  exact List.mem_of_getElem? q3
                have hyl := own_len hown
                have hbV : Below u W1 V := OnlyS.bel (Below.refl u W1) hO (fun b hb => by have := HSe.out b hb; omega) (by omega)
                obtain ⟨g, off, p, hA, hpk, hpm, hgb, hxp⟩ := (HRp.out.below hbV).at_ hqk
                have hpl : p.l = yp := by
                  have h1 : (Piece.bytes ps)[q]? = some p.l := by unfold Piece.bytes; rw [List.getElem?_map, hpk]; rfl
                  rw [q3] at h1
                  injection h1 with h1
                  exact h1.symm
                have HSm := Lib.hid (same_any yA p.a yn yc p.n p.c yp p.l V _ _ (own_reads hown) ((HRp.out.below hbV).2 p hpm).1 (by omega))
                rw [decide_eq_true hpl.symm] at HSm
                have HQ := Lib.hid hq
                have cn : V.cell? ⟨xn, 0, none⟩ = some (.int .i64 (q : Int)) := by rw [hn1.cell]; rfl
                have fn : V.frozen? ⟨xn, 0, none⟩ = false := hn1.frozen 0
                have cb : V.cell? ⟨u, 0, none⟩ = some (.slice (some ⟨g, off, none⟩) k c) := by rw [← hA, (hO.blk HKs.out (fun h => by have := HSe.out _ h; omega)).cell]; rfl
                have hqn : (q : Int) < (k : Int) := by omega
                have HOw : Hid (OwnI B' V.heap.size (.slice yA yn yc) yp V) := Lib.hid ⟨hown, own_lt hown⟩
                have HOff : Hid (∀ b, (Value.slice yA yn yc).ownBlock = some b → B' ≤ b ∧ b < V.heap.size ∧ ¬ R b) := Lib.hid (fun b hb => ⟨own_base hown b hb, own_lt hown b hb, hoff b hb⟩)
                have HOn := Lib.hid hO
                have HKn := Lib.hid hn1
                have hyn : yn ≤ 1048576 := by omega
                have hVs := hO.size
                clear hok q1 q2 q3 q4 hoff hown hq hyp hyl hbV hpk hpm hpl hn1 hO hA
                gi_wp2_with (refine ⟨trivial, ?_⟩; gi_at_call 12; refine (CallsIn.inRound lp (callsIn_wide.2 HSm.out)).mono ?_; rintro e V1 ⟨rfl, z, hz⟩)
                have HOz : Hid (OwnI B' V.heap.size (.slice yA yn yc) yp (V.drewN z)) := Lib.hid HOw.out
                have HSz : Hid (OnlyS (fun b => (Value.slice yA yn yc).ownBlock = some b) V (V.drewN z)) := Lib.hid ((OnlyS.refl _ _).drewN z)
                clear hz cn fn cb hxp HSm HOw
                gi_loopw [19, 150] (fun _ j wr => ∃ (i : Nat) (l' : List Int), j = .int .i64 i ∧ i ≤ yn ∧ OwnI B' V.heap.size (.slice yA yn yc) l' wr ∧ OnlyS (fun b => (Value.slice yA yn yc).ownBlock = some b) V wr) (fun _ j _ => yn - (intOf j).toNat)
                case atStart => exact ⟨0, _, rfl, by omega, HOz.out, HSz.out⟩
                case round =>
                  obtain ⟨i, l1, rfl, hi, hOo, ho2⟩ := hrel
                  obtain ⟨V2, rfl⟩ : ∃ V2 : World, V2 = wr := ⟨_, rfl⟩
                  by_cases hi2 : i < yn
                  · obtain ⟨gq, rfl, _, _, _, hc1, hf1, hst⟩ := hOo.store (i := i) hi2
                    obtain ⟨hs1, _⟩ := hst 8
                    have HOm := Lib.hid hs1
                    have HMm := Lib.hid (OnlyS.setAt ho2 (S := fun b => (Value.slice (some ⟨gq, 0, none⟩) yn yc).ownBlock = some b) (x := gq) (o := i) rfl (.int .u8 8))
                    clear hst hs1 hOo ho2
                    gi_wp2
                    go_roundw
                    case rel => exact ⟨i + 1, _, by go_num, by omega, HOm.out, HMm.out⟩
                    case measure => simp [intOf]; omega
                  · have hVx : V2.heap[xn]? = V.heap[xn]? := ho2.block xn (by omega) (fun e => by have := (HOff.out xn e).1; omega)
                    have HKx : Hid (Blk V2 xn 3 #[.int .i64 (q : Nat)]) := Lib.hid (hVx.trans HKn.out)
                    have cn : V2.cell? ⟨xn, 0, none⟩ = some (.int .i64 (q : Int)) := by rw [HKx.out.cell]; rfl
                    have fn : V2.frozen? ⟨xn, 0, none⟩ = false := HKx.out.frozen 0
                    have HFin : Hid (KeepsF W1.heap.size (frB (W1.heap.size + 2) ⟨yat, yA, yn, yc, yp⟩) V (V2.setCell ⟨xn, 0, none⟩ (.int .i64 ((q : Int) + 1))) ∧ Stay R V (V2.setCell ⟨xn, 0, none⟩ (.int .i64 ((q : Int) + 1))) ∧
                        Blk (V2.setCell ⟨xn, 0, none⟩ (.int .i64 ((q : Int) + 1))) xn 3 #[.int .i64 ((pre ++ [(⟨yat, yA, yn, yc, yp⟩ : FrX)]).length : Nat)] ∧ OnlyS S W1 (V2.setCell ⟨xn, 0, none⟩ (.int .i64 ((q : Int) + 1)))) := Lib.hid (by
                      refine ⟨KeepsF.trans ⟨ho2.size, fun b h1 h2 h3 => ho2.block b h2 (fun e => h3 e)⟩ ((KeepsAll.setCell V2 hxW _).but _), Stay.trans ⟨ho2.size, fun b hb => ho2.block b (by have := HRx.out b hb; omega) (fun e => (HOff.out b e).2.2 hb)⟩ (stay_setAt (fun h => by have := HRx.out _ h; omega)), ?_, ?_⟩
                      · have := blk_put HKx.out (.int .i64 ((q : Int) + 1))
                        rw [List.length_append, ← HQ.out]; exact this
                      · refine OnlyS.set ?_ S1 _
                        exact ⟨ho2.os.trans HOn.out.os, ho2.tape.trans HOn.out.tape, ho2.output.trans HOn.out.output, Nat.le_trans HOn.out.size ho2.size, fun b h1 h2 => (ho2.block b (by have := HOn.out.size; omega) (fun e => by have := (HOff.out b e).1; omega)).trans (HOn.out.block b h1 h2)⟩)
                    clear hOo ho2 hVx
                    gi_wp2
                    exact HFin.out
              case stop =>
                rintro D cc pre V hD hpre hf hK
                exact hf.elim
              case done =>
                rintro D ys V hD hys ⟨hn1, hO⟩ hK
                have hyk : ys.length = k := by
                  have h1 := done_len hys
                  rw [HFs.out] at h1
                  simp only [Piece.bytes, List.length_map] at h1
                  have := HL.out
                  omega
                rw [hyk] at hn1
                have hbV : Below u W1 V := OnlyS.bel (Below.refl u W1) hO (fun b hb => by have := HSe.out b hb; omega) (by omega)
                have HBe := Lib.hid (HB1.out.trans ((HBV.out.mono (by omega)).trans hbV))
                have HRq := Lib.hid (HRp.out.below hbV)
                have HL2 : Hid (OwnL V w4.heap.size (.slice A5 n5 c5) rs) := Lib.hid (HL5.out.stay (fun g h1 h2 => (hO.block g (by omega) (fun e => by have := HSe.out _ e; omega)).trans (HSame5.out g h1 h2)))
                have cn : V.cell? ⟨xn, 0, none⟩ = some (.int .i64 (k : Int)) := by rw [hn1.cell]; rfl
                have kb := hO.blk HKs.out (fun h => by have := HSe.out _ h; omega)
                have kr := hO.blk HKr.out (fun h => by have := HSe.out _ h; omega)
                have cb : V.cell? ⟨u, 0, none⟩ = some (.slice a k c) := by rw [kb.cell]; rfl
                have cr : V.cell? ⟨u + 1, 0, none⟩ = some (.bool false) := by rw [kr.cell]; rfl
                have fr : V.frozen? ⟨u + 1, 0, none⟩ = false := kr.frozen 0
                have hmk : Marks w1.heap.size [{ target := .collected D, args := #[] }] V := Marks.cons (ds := []) trivial (fun d hd => by simp at hd) (by omega) hK
                have HAl := Lib.hid (alike_any A5 a n5 c5 k c rs ps V V.heap.size u (HL2.out.rd (fun p hp => by have h1 : p.l ∈ Piece.bytes ps := (by rw [← HP5.out]; exact List.mem_map.2 ⟨p, hp, rfl⟩); rw [← HFs.out] at h1; have := frames_fit Z p.l h1; omega)) HRq.out (by have := HN5.out; omega))
                rw [decide_eq_true HP5.out] at HAl
                have HKr9 := Lib.hid kr
                have HMk := Lib.hid hmk
                have hVs : w1.heap.size ≤ V.heap.size := by have := hO.size; omega
                have HVs := Lib.hid hVs
                clear hO hbV hn1 kb kr hmk hys hK
                go_wp2_with fail
                refine HAl.out.mono ?_
                rintro e V9 ⟨rfl, z9, rfl⟩
                have cr9 : (V.drewN z9).cell? ⟨u + 1, 0, none⟩ = some (.bool false) := cr
                have fr9 : (V.drewN z9).frozen? ⟨u + 1, 0, none⟩ = false := fr
                go_wp2
                have k9 : OnlyS (fun b => b = u + 1) V ((V.drewN z9).setCell ⟨u + 1, 0, none⟩ (.bool true)) := OnlyS.set (S := fun b => b = u + 1) ((OnlyS.refl (fun b => b = u + 1) V).drewN z9) (x := u + 1) rfl (.bool true)
                have hk9 := blk_put (HKr9.out.drewN z9) (.bool true)
                have hB10 := OnlyS.bel HBe.out k9 (fun b hb => by omega) (by have := HUl.out; omega)
                refine Marks.leave (B := w1.heap.size) _ _ (OnlyS.marks HMk.out k9 (fun b hb => ⟨_, _, (show Blk V b 4 #[.bool false] by rw [hb]; exact HKr9.out)⟩)) (fun W' hb => ?_)
                have c5 : W'.cell? ⟨u + 1, 0, none⟩ = some (.bool true) := by rw [hb.cell (p := ⟨u + 1, 0, none⟩) (show u + 1 < w1.heap.size by have := HUl.out; omega), hk9.cell]; rfl
                refine ⟨.bool true, by simp [results, Tryd.f6, go_sem, c5], rfl, ?_⟩
                rw [← HU.out]
                exact hB10.trans (hb.mono (by have := HUl.out; omega))
end Go.Proofs.YtmmjmaohbmlfgaaDoor.Pk
