/- The walk of the law VaultKeeps. -/
import Derived.Test.YtnpmccekkjadhaaDoorZVkKeep
import Derived.Test.YtnpmccekkjadhaaDoorZArg
import Derived.Test.YtnpmccekkjadhaaDoorZFrKeep
namespace Go.Proofs.YtnpmccekkjadhaaDoor.Pk
open Go.RowKit Go.Shelf Go.Proofs.YtnpmccekkjadhaaDoor.Ar Go.Proofs.YtnpmccekkjadhaaDoor.Crc Go.Proofs.YtnpmccekkjadhaaDoor.Fr Go.Proofs.YtnpmccekkjadhaaDoor.Dk Go.Proofs.YtnpmccekkjadhaaDoor.Vk
set_option linter.unusedVariables false

set_option maxRecDepth 100000 in
set_option maxHeartbeats 16000000 in
theorem law_VaultKeeps (openQ : OpenQ) (openC : OpenC) (appendC : AppendC) (a : Option Addr) (n c : Nat) (ps : List Piece) (b : Option Addr) (m j : Nat) (l : List Int) (w : World) (ht : Tab w) (h : ArgL w a n c ps) (h' : ArgB w b m j l) (hu : sumN ps + m ≤ 1048576) :
    Calls Tryd.prog 5 #[.slice a n c, .slice b m j] w fun e w' => e = .returned (.bool true) ∧ Below w.heap.size w w' := by
  obtain ⟨hlen, hby, hn⟩ := argL_facts h (by omega)
  have HLen := Lib.hid hlen
  obtain ⟨hr, hnc, hok⟩ := h
  obtain ⟨hr', hmd, _, hB'⟩ := h'
  have HQ := Lib.hid openQ
  have HO := Lib.hid openC
  have HA := Lib.hid appendC
  have HT := Lib.hid ht
  have HR := Lib.hid hr
  have HK := Lib.hid hok
  have HR' := Lib.hid hr'
  have HMd := Lib.hid hmd
  have HB' : Hid (Bytes l) := Lib.hid hB'
  have HL : Hid (ps.length = n) := Lib.hid hr.len
  have HL' : Hid (l.length = m) := Lib.hid (by have := hr'.1; simpa using this)
  have hp := ht.pos
  have HP := Lib.hid hp
  have HU : Hid (sumN ps + m ≤ 1048576) := Lib.hid hu
  have hm2 : m ≤ 1048576 := by omega
  have HPn : Hid (∀ p ∈ ps, p.n ≤ 1048576) := Lib.hid (fun p hp => by have := sumN_mem hp; omega)
  clear openQ openC appendC ht hr hok hr' hmd hB' hp hlen hby hu
  go_enter Tryd.func5, Tryd.ntmps5
  go_wp2_with fail
  refine (wakes_any HO.out HA.out w HT.out).mono ?_
  rintro e w1 ⟨rfl, hb1⟩
  have HB1 := Lib.hid hb1
  have hs1 := hb1.size
  clear hb1
  go_wp2
  go_loop [5, 7, 33] (fun t _ i => ∃ (k x : Nat), i = .int .i64 k ∧ k ≤ n ∧ t = .int .i64 x ∧ m ≤ x ∧ x ≤ 1048576 ∧ (k = 0 → x = m) ∧ ∀ p ∈ ps.take k, p.n ≤ x ∧ p.n ≤ 1048560) (fun _ _ i => n - (intOf i).toNat)
  case atStart => exact ⟨0, m, rfl, by omega, rfl, by omega, by omega, fun _ => rfl, fun p hp => by simp at hp⟩
  case round =>
    obtain ⟨k, x, rfl, hk, rfl, hx1, hx2, hx3, hx4⟩ := hrel
    by_cases hlt : k < n
    · obtain ⟨g, off, p, rfl, hpk, hpm, hgb, hxx⟩ := (HR.out.below HB1.out).at_ hlt
      have hpn := HPn.out p hpm
      obtain ⟨y, hy⟩ : ∃ y, y = x + p.n := ⟨_, rfl⟩
      have hwr : IntKind.i64.wrap ((x : Int) + (p.n : Int)) = (y : Int) := by rw [IntWalk.i64_in _ (by omega), hy]; simp
      have HY := Lib.hid hy
      by_cases hbig : 1048560 < y
      case pos =>
        have tb : decide ((1048560 : Int) < (y : Int)) = true := by simp; omega
        clear hpk hy
        go_wp2
        go_ret
        exact ⟨rfl, HB1.out⟩
      have tb : decide ((1048560 : Int) < (y : Int)) = false := by simp; omega
      have HN : Hid (∀ q ∈ ps.take (k + 1), q.n ≤ y ∧ q.n ≤ 1048560) := Lib.hid (by
        intro q hq
        rw [List.take_add_one, hpk] at hq
        rcases List.mem_append.1 hq with h1 | h1
        · have := hx4 q h1; omega
        · obtain rfl : q = p := by simpa using h1
          omega)
      clear hpk hy
      go_wp2
      go_round
      case rel => exact ⟨k + 1, y, by go_num, by omega, rfl, by have := HY.out; omega, by omega, fun h0 => by omega, HN.out⟩
      case measure => simp [intOf]; omega
    · obtain rfl : n = k := by omega
      by_cases hbig : 1048560 < x
      case pos =>
        have tb : decide ((1048560 : Int) < (x : Int)) = true := by simp; omega
        go_wp2
        go_ret
        exact ⟨rfl, HB1.out⟩
      have tb : decide ((1048560 : Int) < (x : Int)) = false := by simp; omega
      have hm3 : m ≤ 1048560 := by omega
      have HPm : Hid (∀ p ∈ ps, p.n ≤ 1048560) := Lib.hid (fun p hp => (hx4 p (by rw [← HL.out, List.take_length]; exact hp)).2)
      clear hx4 hx3
      go_wp2_with fail
      refine (new_any w1).mono ?_
      rintro e w2 ⟨R, S, rfl, hD, hS, hb2⟩
      have HB2 := Lib.hid (HB1.out.trans (hb2.mono HB1.out.size))
      have HS : Hid (∀ b, S b → w1.heap.size ≤ b ∧ b < w2.heap.size) := Lib.hid (fun b hb => ⟨hS b hb, hD.lt b hb⟩)
      have HD := Lib.hid hD
      have hs2 := hb2.size
      have HRb := Lib.hid ((HR'.out.below HB2.out).more HB2.out.size)
      clear hb2 hD hS
      go_wp2_with (first
        | (at_builtin; refine appE w2 rfl (.tmp 47) (.tmp 48) rfl w2.heap.size rfl w2.heap.size b j l m rfl HRb.out (Nat.le_refl _) (by omega) (Nat.le_refl _) ?_; intro v3 w3 hown3 hb3; have s3 := hb3.size)
        | (at_builtin; refine appB _ rfl (.tmp 49) (.tmp 50) rfl w2.heap.size v3 l rfl (hown3.alloc _) (w3.heap.size + 1) _ 1 [71] 1 rfl (reads_new w3 _ _ _ 1 (bts [71]) rfl rfl (by omega)) (by have := HL'.out; omega) (by simp; omega) ?_; intro v4 w4 hown4 hb4 _ _; obtain ⟨Am, nm, cm, rfl, hcm, hnm, -⟩ := hown4.val; obtain rfl : nm = m + 1 := (by have := HL'.out; rw [← hnm]; simp; omega); have hmA := OwnI.of hown4; have hcm0 : ¬ (cm = 0) := (by omega); have hcm1 : m ≤ cm := (by omega); have hcm2 : (m : Int) ≤ (cm : Int) := (by omega); have hb24 : Below w2.heap.size w2 w4 := (hb3.alloc s3 _).trans hb4; have s4 := hb24.size; have HB24 := Lib.hid hb24; clear hown3 hb3 hown4 hb4 hb24 hnm s3))
      have HB4 := Lib.hid (HB2.out.trans (HB24.out.mono HB2.out.size))
      have HMA := Lib.hid hmA
      have hrm := (RowI.reads (OwnI.rowHeld hmA)).take (k := m) (by omega)
      rw [app_take _ _ _ HL'.out] at hrm
      obtain ⟨d1, e1, f1⟩ := Vk.opn_new l (by have := HL'.out; omega)
      have fit0 : (DK.new [] []).fit 0 0 := DK.fit.new [] [] (by simp) (by simp)
      have fit1 := opn_fit fit0 l
      rw [e1] at fit1
      have HE1 := Lib.hid e1
      have HF1 := Lib.hid f1
      have HT1 : Hid (d1.fit (16 + m) 4) := Lib.hid (fit1.mono (by have := HL'.out; omega) (by omega))
      have HOp := Lib.hid (HQ.out R Am m cm l (DK.new [] []) S w4 (HT.out.next HB4.out) (fun h0 => by have := HS.out 0 h0; have := HP.out; omega) (HD.out.next (HB24.out)) hrm hcm1 HB'.out ⟨fun x hx => by simp [DK.new, FL.all] at hx, fun x hx => by simp [DK.new, FL.all] at hx⟩
        (fun h0 ad e hs => by have h1 := HMA.out.out.1.base ad.block (by rw [e]; rfl); have := HS.out _ hs; omega) (by omega) 0 0 fit0 (by omega) (by omega))
      clear hmA hrm e1 f1 fit0 fit1
      refine HOp.out.mono ?_
      rintro e w5 hop
      unfold OpnQ at hop
      rw [HE1.out] at hop
      rcases hop with ⟨hne, _⟩ | ⟨_, v, Q, vs, vr, U, lo, hi, hv, rfl, hm, ht5, hf5, hlo, hhi, hsn, hrc, hap, wB, hwB, hkB, hown, _⟩
      · exact absurd rfl hne
      injection hv with hv
      subst hv
      obtain ⟨As, ns, cs, rfl, hns, hls, hrs, _⟩ := hsn
      obtain ⟨Ar, nr, cr, ps0, rfl, _, _, _, _⟩ := hrc
      have hls : l.length = ns := hls
      obtain rfl : ns = m := by have := HL'.out; omega
      have hown2 : OwnB wB lo (.slice As ns cs) l := hown (by
        have : (DK.get (DK.new [] []) (fileOf (DK.new [] []))).all = [] := by unfold DK.get; split <;> rfl
        rw [this, gen_nil])
      have hsI : OwnI lo hi (.slice As ns cs) l w5 := ⟨hown2.stay fun g e => hkB g (own_base hown2 g e) (by have := own_lt hown2 g e; omega), fun g e => by have := own_lt hown2 g e; omega⟩
      have HSI := Lib.hid hsI
      have hs5 := ht5.size
      have HV5 : Hid (AtV w Q R d1 ⟨0, 1, l, [], 0⟩ U w5) := Lib.hid ⟨hm, from_base hf5 (fun b hb => Nat.le_trans hs1 (HS.out b hb).1) HB4.out.size, ht5.below HB4.out HB4.out.size (fun b hb => Nat.le_trans hs1 (HS.out b hb).1)⟩
      have HUm : Hid (∀ b, U b → ¬ (w2.heap.size ≤ b ∧ b < w4.heap.size)) := Lib.hid (fun b hb h1 => by
        rcases hf5 b hb with h2 | h2
        · have := HS.out b h2; omega
        · omega)
      have HUs : Hid (∀ b, U b → ¬ (lo ≤ b ∧ b < hi)) := Lib.hid hap
      have hmB : Held w2.heap.size w4.heap.size (OwnI w2.heap.size w4.heap.size (.slice Am (ns + 1) cm) (l ++ [71])) w5 :=
        HMA.out.mod (a := w1.heap.size) (b := w2.heap.size) ⟨ht5.os, ht5.tape, ht5.output, ht5.size, fun i hi hn => ht5.block i hi (fun hs => by have := HS.out i hs; omega)⟩ (.inl (Nat.le_refl _))
      have HMB := Lib.hid hmB
      obtain ⟨gm, rfl, _⟩ := one_ hmB.out HL'.out
      have HSm := Lib.hid (same_any As b ns cs ns j l l w5 _ _ ((RowI.reads (OwnI.rowHeld (hsI.held hhi)))) ((HR'.out.below HV5.out.bel).more HV5.out.bel.size) (by omega))
      rw [decide_eq_true rfl] at HSm
      clear hm ht5 hf5 hap hkB hown hown2 hrs hns hls hsI hmB HOp HE1 HB24 HMA HRb HS HD hwB
      go_wp2_with fail
      refine HSm.out.mono ?_
      rintro e w6 ⟨rfl, z6, hw6⟩
      have HV6 : Hid (AtV w Q R d1 ⟨0, 1, l, [], 0⟩ U w6) := Lib.hid (by rw [hw6]; exact HV5.out.next (below_drewN (Below.refl _ _) _))
      have HSI6 : Hid (OwnI lo hi (.slice As ns cs) l w6) := Lib.hid (by rw [hw6]; exact HSI.out)
      have HMB6 : Hid (Held w2.heap.size w4.heap.size (OwnI w2.heap.size w4.heap.size (.slice (some ⟨gm, 0, none⟩) (ns + 1) cm) (l ++ [71])) w6) := Lib.hid (by rw [hw6]; exact HMB.out.drewN _)
      have hs6 : hi ≤ w6.heap.size ∧ w4.heap.size ≤ w6.heap.size := by rw [hw6]; exact ⟨hhi, hs5⟩
      clear hw6 HSm HSI HMB HV5
      go_wp2
      go_loopw [14, 73] (fun _ j wr => ∃ (i : Nat) (l' : List Int), j = .int .i64 i ∧ i ≤ ns ∧ OwnI lo hi (.slice As ns cs) l' wr ∧ Mod lo hi w6 wr) (fun _ j _ => ns - (intOf j).toNat)
      case atStart => exact ⟨0, _, rfl, by omega, HSI6.out, Mod.refl _ _ _⟩
      case round =>
        obtain ⟨i, l1, rfl, hi1, hO, hm7⟩ := hrel
        obtain ⟨w7, rfl⟩ : ∃ w7 : World, w7 = wr := ⟨_, rfl⟩
        by_cases hi2 : i < ns
        · obtain ⟨gq, rfl, _, _, _, hc1, hf1, hst⟩ := hO.store (i := i) hi2
          obtain ⟨ho2, hm2⟩ := hst 1
          have HOm := Lib.hid ho2
          have HMm := Lib.hid (hm7.trans hm2)
          clear hst ho2 hm2 hO hm7
          go_wp2
          go_roundw
          case rel => exact ⟨i + 1, _, by go_num, by omega, HOm.out, HMm.out⟩
          case measure => simp [intOf]; omega
        obtain rfl : ns = i := by omega
        have HV7 := Lib.hid (HV6.out.mod_ hm7 (by have := HB4.out.size; omega) HUs.out)
        have HMB7 := Lib.hid (HMB6.out.mod hm7 (.inr (by omega)))
        have s7 := hm7.size
        have hs7 : w4.heap.size ≤ w7.heap.size := by omega
        clear hO hm7 HV6 HMB6 HSI6 hi2
        go_wp2
        go_loopw [16, 17, 18, 82] (fun _ _ _ i wr => ∃ (k : Nat) (d : DK) (rs : List (List Int)) (U : Nat → Prop), i = .int .i64 k ∧ k ≤ n ∧ AtV w Q R d ⟨0, 1, l, rs, 0⟩ U wr ∧ rs = Piece.bytes (ps.take k) ∧ Fresh d ⟨0, 1, l, rs, 0⟩ ∧ d.fit (16 + ns + (encs (Piece.bytes (ps.take k))).length) (4 + 2 * k) ∧
          Held w2.heap.size w4.heap.size (OwnI w2.heap.size w4.heap.size (.slice (some ⟨gm, 0, none⟩) (ns + 1) cm) (l ++ [71])) wr ∧ (∀ b, U b → ¬ (w2.heap.size ≤ b ∧ b < w4.heap.size)) ∧ w4.heap.size ≤ wr.heap.size) (fun _ _ _ i _ => n - (intOf i).toNat)
        case atStart => exact ⟨0, d1, [], U, rfl, by omega, HV7.out, rfl, HF1.out, HT1.out.mono (by omega) (by omega), HMB7.out, HUm.out, hs7⟩
        case round =>
          obtain ⟨k, d, rs, U8, rfl, hk, hV, hrs, hF, hft, hmM, hUm, hs8⟩ := hrel
          obtain ⟨w8, rfl⟩ : ∃ w8 : World, w8 = wr := ⟨_, rfl⟩
          have HV := Lib.hid hV
          have HRs := Lib.hid hrs
          have HF := Lib.hid hF
          have HFt := Lib.hid hft
          have HMM := Lib.hid hmM
          have HUM := Lib.hid hUm
          have hlk := HLen.out k
          have HWs : Hid (w.heap.size ≤ w8.heap.size) := Lib.hid hV.bel.size
          have hl8 : Hid (∀ b, U8 b → b < w8.heap.size) := Lib.hid hV.mod.lt
          clear hV hrs hF hft hmM hUm HV7 HMB7 HF1 HT1
          by_cases hlt : k < n
          · obtain ⟨g, off, p, rfl, hpk, hpm, hgb, hxx⟩ := (HR.out.below HV.out.bel).at_ hlt
            have hpn := HPm.out p hpm
            have HPl : Hid (p.l.length = p.n) := Lib.hid (by have := (HR.out.2 p hpm).1.1; simpa using this)
            have HPb : Hid (Bytes p.l) := Lib.hid (HK.out p hpm).2
            have HPr : Hid (Reads w8 w8.heap.size 1 p.a p.n (bts p.l)) := Lib.hid (((HR.out.2 p hpm).1.below HV.out.bel).more HV.out.bel.size)
            have HPr0 : Hid (Reads w w.heap.size 1 p.a p.n (bts p.l)) := Lib.hid (HR.out.2 p hpm).1
            have HNx := Lib.hid (bytes_next hpk)
            have hlk2 := HLen.out (k + 1)
            have HEn : Hid ((encs (Piece.bytes (ps.take (k + 1)))).length = (encs (Piece.bytes (ps.take k))).length + (8 + p.n)) := Lib.hid (by rw [HNx.out, encs_snoc, List.length_append, enc_length, HPl.out])
            clear hpk hpm
            go_wp2_with (first
              | (at_builtin; refine appE w8 rfl (.tmp 86) (.tmp 87) rfl w8.heap.size rfl w8.heap.size p.a p.c p.l p.n rfl HPr.out (Nat.le_refl _) (by omega) (Nat.le_refl _) ?_; intro v9 w9 hown9 hb9; have s9 := hb9.size)
              | (at_builtin; refine appB _ rfl (.tmp 88) (.tmp 89) rfl w8.heap.size v9 p.l rfl (hown9.alloc _) (w9.heap.size + 1) _ 1 [72] 1 rfl (reads_new w9 _ _ _ 1 (bts [72]) rfl rfl (by omega)) (by have := HPl.out; omega) (by simp; omega) ?_; intro v10 w10 hown10 hb10 _ _; obtain ⟨Ax, nx, cx, rfl, hcx, hnx, -⟩ := hown10.val; obtain rfl : nx = p.n + 1 := (by have := HPl.out; rw [← hnx]; simp; omega); have hxA := OwnI.of hown10; have hcx0 : ¬ (cx = 0) := (by omega); have hcx1 : p.n ≤ cx := (by omega); have hcx2 : (p.n : Int) ≤ (cx : Int) := (by omega); have hb810 : Below w8.heap.size w8 w10 := (hb9.alloc s9 _).trans hb10; have s10 := hb810.size; have HB810 := Lib.hid hb810; clear hown9 hb9 hown10 hb10 hb810 hnx s9))
            have HV10 := Lib.hid (HV.out.next HB810.out)
            have HXA := Lib.hid hxA
            obtain ⟨gx, rfl, cx72⟩ := one_ hxA.out HPl.out
            have hxm := (RowI.reads (OwnI.rowHeld hxA)).take (k := p.n) (by omega)
            rw [app_take _ _ _ HPl.out] at hxm
            obtain ⟨d9, q1, q2⟩ := apd_fresh HF.out p.l (by have := HPl.out; omega)
            have q2 : Fresh d9 ⟨0, 1, l, rs ++ [p.l], 0⟩ := q2
            have q3 := apd_fit HFt.out ⟨0, 1, l, rs, 0⟩ p.l
            have hnb := fresh_few HF.out HFt.out
            have hnb2 : rs.length ≤ 1073741824 := by have h2 : rs.length ≤ _ := hnb; omega
            have HAp := Lib.hid (HA.out Q R (some ⟨gx, 0, none⟩) p.n cx p.l d ⟨0, 1, l, rs, 0⟩ U8 w10 (HV10.out.tab HT.out) (HV10.out.zero HT.out) HV10.out.mod hxm hcx1 HPb.out
              (fun h0 ad e hs => by have h1 := HXA.out.out.1.base ad.block (by rw [e]; rfl); have := hl8.out _ hs; omega) (.inl rfl) (by omega) hnb2 _ _ HFt.out (by omega) (by omega))
            rw [q1] at HAp q3
            have HF9 := Lib.hid q2
            have HFt9 := Lib.hid q3
            clear q1 q2 q3 hnb hxA hxm cx72 hnb2
            refine HAp.out.mono ?_
            rintro e w11 ⟨rfl, U11, hm11, ht11, hf11⟩
            have hs11 := ht11.size
            have HV11 : Hid (AtV w Q R d9 ⟨0, 1, l, rs ++ [p.l], 0⟩ U11 w11) := Lib.hid (HV10.out.step hm11 ht11 hf11)
            have hxB : Held w8.heap.size w10.heap.size (OwnI w8.heap.size w10.heap.size (.slice (some ⟨gx, 0, none⟩) (p.n + 1) cx) (p.l ++ [72])) w11 := held_turned HXA.out ht11 (fun b hb h1 => by have := hl8.out b hb; omega)
            have HMM11 := Lib.hid (held_turned (HMM.out.below HB810.out) ht11 HUM.out)
            have HUx : Hid (∀ b, U11 b → ¬ (w8.heap.size ≤ b ∧ b < w10.heap.size)) := Lib.hid (fun b hb h1 => by
              rcases hf11 b hb with h2 | h2
              · have := hl8.out b h2; omega
              · omega)
            have HUm11 : Hid (∀ b, U11 b → ¬ (w2.heap.size ≤ b ∧ b < w4.heap.size)) := Lib.hid (fun b hb h1 => by
              rcases hf11 b hb with h2 | h2
              · exact HUM.out b h2 h1
              · omega)
            obtain ⟨gx2, e2, cx72⟩ := one_ hxB.out HPl.out
            injection e2 with e2; injection e2 with e2; subst e2
            have HXB := Lib.hid hxB
            have hxm := (RowI.reads (OwnI.rowHeld hxB)).take (k := p.n) (by omega)
            rw [app_take _ _ _ HPl.out] at hxm
            have HSm := Lib.hid (same_any (some ⟨gx, 0, none⟩) p.a p.n cx p.n p.c p.l p.l w11 _ _ hxm ((HPr0.out.below HV11.out.bel).more HV11.out.bel.size) (by omega))
            rw [decide_eq_true rfl] at HSm
            clear hm11 ht11 hf11 hxB hxm cx72 HAp HV10 HXA HB810 HV HMM HF
            go_wp2_with fail
            refine HSm.out.mono ?_
            rintro e w12 ⟨rfl, z12, hw12⟩
            have HV12 : Hid (AtV w Q R d9 ⟨0, 1, l, rs ++ [p.l], 0⟩ U11 w12) := Lib.hid (by rw [hw12]; exact HV11.out.next (below_drewN (Below.refl _ _) _))
            have hxC : Held w8.heap.size w10.heap.size (OwnI w8.heap.size w10.heap.size (.slice (some ⟨gx, 0, none⟩) (p.n + 1) cx) (p.l ++ [72])) w12 := by rw [hw12]; exact HXB.out.drewN _
            have HMM12 : Hid (Held w2.heap.size w4.heap.size (OwnI w2.heap.size w4.heap.size (.slice (some ⟨gm, 0, none⟩) (ns + 1) cm) (l ++ [71])) w12) := Lib.hid (by rw [hw12]; exact HMM11.out.drewN _)
            have hs12 : w11.heap.size ≤ w12.heap.size := by rw [hw12]; exact Nat.le_refl _
            obtain ⟨gx2, e2, cx72⟩ := one_ hxC.out HPl.out
            injection e2 with e2; injection e2 with e2; subst e2
            have HXC := Lib.hid hxC.out
            clear hw12 hxC HSm HXB HV11 HMM11
            go_wp2
            clear cx72
            go_loopw [18, 117] (fun _ j wr => ∃ (i : Nat) (l' : List Int), j = .int .i64 i ∧ i ≤ p.n + 1 ∧ OwnI w8.heap.size w10.heap.size (.slice (some ⟨gx, 0, none⟩) (p.n + 1) cx) l' wr ∧ Mod w8.heap.size w10.heap.size w12 wr) (fun _ j _ => p.n + 1 - (intOf j).toNat)
            case atStart => exact ⟨0, _, rfl, by omega, HXC.out, Mod.refl _ _ _⟩
            case round =>
              obtain ⟨i, l1, rfl, hi1, hO, hm13⟩ := hrel
              obtain ⟨w13, rfl⟩ : ∃ w13 : World, w13 = wr := ⟨_, rfl⟩
              by_cases hi2 : i < p.n + 1
              · obtain ⟨gq, e, _, _, _, hc1, hf1, hst⟩ := hO.store (i := i) hi2
                injection e with e; injection e with e; subst e
                obtain ⟨ho2, hm2⟩ := hst 2
                have HOm := Lib.hid ho2
                have HMm := Lib.hid (hm13.trans hm2)
                clear hst ho2 hm2 hO hm13
                go_wp2
                go_roundw
                case rel => exact ⟨i + 1, _, by go_num, by omega, HOm.out, HMm.out⟩
                case measure => simp [intOf]; omega
              · have HV13 := Lib.hid (HV12.out.mod_ hm13 HWs.out HUx.out)
                have HMM13 := Lib.hid (HMM12.out.mod hm13 (.inr hs8))
                have s13 := hm13.size
                have hs13 : w4.heap.size ≤ w13.heap.size := by omega
                clear hO hm13 HXC HV12 HMM12
                go_wp2
                go_roundw
                case rel => exact ⟨k + 1, d9, rs ++ [p.l], U11, by go_num, by omega, HV13.out, by rw [HNx.out, HRs.out], HF9.out, HFt9.out.mono (by have := HEn.out; have := HPl.out; omega) (by omega), HMM13.out, HUm11.out, hs13⟩
                case measure => simp [intOf]; omega
          · obtain rfl : n = k := by omega
            have HRp : Hid (rs = Piece.bytes ps) := Lib.hid (by rw [HRs.out, ← HL.out, List.take_length])
            obtain ⟨gm2, e2, cm71⟩ := one_ HMM.out.out HL'.out
            injection e2 with e2; injection e2 with e2; subst e2
            have hxm := (RowI.reads (OwnI.rowHeld HMM.out)).take (k := ns) (by omega)
            rw [app_take _ _ _ HL'.out] at hxm
            have HSm := Lib.hid (same_any (some ⟨gm, 0, none⟩) b ns cm ns j l l w8 _ _ hxm ((HR'.out.below HV.out.bel).more HV.out.bel.size) (by omega))
            rw [decide_eq_true rfl] at HSm
            clear hxm cm71
            go_wp2_with fail
            refine HSm.out.mono ?_
            rintro e w9 ⟨rfl, z9, hw9⟩
            have HV9 : Hid (AtV w Q R d ⟨0, 1, l, rs, 0⟩ U8 w9) := Lib.hid (by rw [hw9]; exact HV.out.next (below_drewN (Below.refl _ _) _))
            have HMM9 : Hid (Held w2.heap.size w4.heap.size (OwnI w2.heap.size w4.heap.size (.slice (some ⟨gm, 0, none⟩) (ns + 1) cm) (l ++ [71])) w9) := Lib.hid (by rw [hw9]; exact HMM.out.drewN _)
            have hs9 : w8.heap.size ≤ w9.heap.size := by rw [hw9]; exact Nat.le_refl _
            obtain ⟨gm2, e2, cm71⟩ := one_ HMM9.out.out HL'.out
            injection e2 with e2; injection e2 with e2; subst e2
            clear hw9 HSm HV HMM
            go_wp2
            clear cm71
            go_loopw [19, 142] (fun _ j wr => ∃ (i : Nat) (l' : List Int), j = .int .i64 i ∧ i ≤ ns + 1 ∧ OwnI w2.heap.size w4.heap.size (.slice (some ⟨gm, 0, none⟩) (ns + 1) cm) l' wr ∧ Mod w2.heap.size w4.heap.size w9 wr) (fun _ j _ => ns + 1 - (intOf j).toNat)
            case atStart => exact ⟨0, _, rfl, by omega, HMM9.out.out, Mod.refl _ _ _⟩
            case round =>
              obtain ⟨i, l1, rfl, hi1, hO, hm10⟩ := hrel
              obtain ⟨w10, rfl⟩ : ∃ w10 : World, w10 = wr := ⟨_, rfl⟩
              by_cases hi2 : i < ns + 1
              · obtain ⟨gq, e, _, _, _, hc1, hf1, hst⟩ := hO.store (i := i) hi2
                injection e with e; injection e with e; subst e
                obtain ⟨ho2, hm2⟩ := hst 3
                have HOm := Lib.hid ho2
                have HMm := Lib.hid (hm10.trans hm2)
                clear hst ho2 hm2 hO hm10
                go_wp2
                go_roundw
                case rel => exact ⟨i + 1, _, by go_num, by omega, HOm.out, HMm.out⟩
                case measure => simp [intOf]; omega
              have HV10 := Lib.hid (HV9.out.mod_ hm10 HB2.out.size HUM.out)
              clear hO hm10 HV9 HMM9
              have HBs : Hid (∀ r ∈ rs, Bytes r) := Lib.hid (by rw [HRp.out]; intro r hr; obtain ⟨p, hp, rfl⟩ := List.mem_map.1 hr; exact (HK.out p hp).2)
              have HFl : Hid (16 + ns + (encs (Piece.bytes (ps.take n))).length ≤ 1073741824) := Lib.hid (by omega)
              have HN4 : Hid (4 + 2 * n ≤ 1152921504606846976) := Lib.hid (by omega)
              have HX := Lib.hid (reopen_any HQ.out HT.out HV10.out HF.out HB'.out HBs.out _ _ HFt.out HFl.out HN4.out)
              go_wp2_with fail
              have hrl : rs.length = n := by rw [HRp.out, Piece.bytes, List.length_map, HL.out]
              obtain ⟨o1, o2, _⟩ := opn_fresh HF.out [] (by simp)
              have o3 := opn_fit HFt.out []
              rw [o1] at o3
              obtain ⟨d11, hd11⟩ : ∃ d11, d11 = d.syn (⟨0, 1, l, rs, 0⟩ : VK).file := ⟨_, rfl⟩
              rw [← hd11] at o2 o3
              have HF11 := Lib.hid o2
              have HFt11 := Lib.hid (o3.mono (Nat.le_refl _) (Nat.le_refl _))
              unfold ReoP at HX
              rw [← hd11] at HX
              have HRl := Lib.hid hrl
              clear o1 o2 o3 hd11 hrl
              refine HX.out.mono ?_
              rintro e w11 ⟨Q2, U11, As2, ns2, cs2, Ar2, nr2, cr2, lo2, hiB, wB2, rfl, hV11, hfr11, hls2, hrs2, hlr2, ⟨qs, hrl2, hqs⟩, hlo2, hhi2, hap2, hwB2, hkB2, ps2, hown2, hps2⟩
              have hls2 : l.length = ns2 := hls2
              have hlr2 : rs.length = nr2 := hlr2
              have hqs : Piece.bytes qs = rs := hqs
              have hps2 : Piece.bytes ps2 = rs := hps2
              have hrs2 : Reads w11 w11.heap.size 1 As2 ns2 (bts l) := hrs2
              obtain rfl : ns = ns2 := by have := HL'.out; omega
              obtain rfl : n = nr2 := by have := HRl.out; omega
              have HV11 := Lib.hid hV11
              have HAp11 := Lib.hid hap2
              have HRm11 : Hid (RemL lo2 hiB Ar2 ps2 0 w11) := Lib.hid (by
                have h1 := RemL.of hown2
                rw [hwB2] at h1
                exact h1.stay (by omega) (fun g h2 h3 _ => hkB2 g h2 h3))
              have HSt := Lib.hid (StatL.of hown2)
              have HN2 : Hid (ps2.length = n) := Lib.hid (by have h1 := congrArg List.length hps2; have := HRl.out; simp only [Piece.bytes, List.length_map] at h1; omega)
              have HQf : Hid (∀ p ∈ ps2, p.l.length ≤ 1048576) := Lib.hid (fun p hp => by
                have h1 : p.l ∈ Piece.bytes ps := by rw [← HRp.out, ← hps2]; exact List.mem_map.2 ⟨p, hp, rfl⟩
                obtain ⟨q, hq, e⟩ := List.mem_map.1 h1
                have h2 := HPm.out q hq
                have h3 : q.l.length = q.n := by have := (HR.out.2 q hq).1.1; simpa using this
                rw [← show q.l = p.l from e]; omega)
              have hsame : Hid (∀ q, Calls Tryd.prog 23 #[.slice As2 ns cs2, .slice b ns j] (w11.drewN q) fun e w' => e = .returned (.bool true) ∧ ∃ k, w' = (w11.drewN q).drewN k) := Lib.hid (fun q => by
                have h := same_any As2 b ns cs2 ns j l l (w11.drewN q) _ _ (hrs2.drewN q) (((HR'.out.below HV11.out.bel).more HV11.out.bel.size).drewN q) (by omega)
                rwa [decide_eq_true rfl] at h)
              have halike : Hid (∀ q, Calls Tryd.prog 24 #[.slice Ar2 n cr2, .slice a n c] (w11.drewN q) fun e w' => e = .returned (.bool true) ∧ ∃ k, w' = (w11.drewN q).drewN k) := Lib.hid (fun q => by
                have h := alike_any Ar2 a n cr2 n c qs ps (w11.drewN q) w11.heap.size w.heap.size hrl2 (HR.out.below (below_drewN HV11.out.bel q)) (by omega)
                rwa [decide_eq_true (hqs.trans HRp.out)] at h)
              have hz11 : w.heap.size ≤ w10.heap.size := HV10.out.bel.size
              clear hV11 hfr11 hls2 hrs2 hlr2 hrl2 hqs hap2 hwB2 hkB2 hown2 hps2 HX HV10 HF HFt
              go_wp2_with fail
              refine (hsame.out 0).mono ?_
              rintro e w12 ⟨rfl, k12, rfl⟩
              go_wp2_with fail
              refine (halike.out _).mono ?_
              rintro e w13 ⟨rfl, k13, rfl⟩
              obtain ⟨w13, hw13⟩ : ∃ w13, w13 = (w11.drewN k12).drewN k13 := ⟨_, rfl⟩
              have hb13 : Below w11.heap.size w11 w13 := by rw [hw13]; exact (below_drewN (Below.refl _ _) _).trans ((below_drewN (Below.refl _ _) _).mono (Nat.le_refl _))
              rw [← hw13]
              have HV13 := Lib.hid (HV11.out.next hb13)
              have HRm13 : Hid (RemL lo2 hiB Ar2 ps2 0 w13) := Lib.hid (HRm11.out.stay hb13.size (fun g _ h2 h3 => hb13.block g h3))
              have hz13 : w11.heap.size ≤ w13.heap.size := hb13.size
              clear hw13 hb13 hsame halike HV11 HRm11
              go_wp2
              go_loopw [22, 23, 172] (fun _ _ j wr => ∃ (t : Nat), j = .int .i64 t ∧ t ≤ n ∧ RemL lo2 hiB Ar2 ps2 t wr ∧ Mod lo2 hiB w13 wr) (fun _ _ j _ => n - (intOf j).toNat)
              case atStart => exact ⟨0, rfl, by omega, HRm13.out, Mod.refl _ _ _⟩
              case round =>
                clear HRm13
                obtain ⟨t, rfl, ht, hrm, hm14⟩ := hrel
                obtain ⟨w14, rfl⟩ : ∃ w14 : World, w14 = wr := ⟨_, rfl⟩
                have s14 := hm14.size
                by_cases ht2 : t < n
                · obtain ⟨p, hp⟩ : ∃ p, ps2[t]? = some p := ⟨ps2[t]'(by have := HN2.out; omega), List.getElem?_eq_getElem _⟩
                  obtain ⟨gL, rfl, h1, h2, h3, hcL, hfL⟩ := hrm.cell t p (Nat.le_refl _) hp
                  have hoff : ∀ b, p.val.ownBlock = some b → b ≠ gL := fun b hb e => HSt.out.off t p hp b hb 0 none (by rw [e])
                  have HOf := Lib.hid hoff
                  have hpI := hrm.each t p (Nat.le_refl _) hp
                  have hpl := HQf.out p (List.mem_of_getElem? hp)
                  have hpn : p.n ≤ 1048576 := by
                    have := (own_len (A := p.a) (n := p.n) (c := p.c) hpI.1).1
                    omega
                  have hcL' : w14.cell? ⟨gL, t, none⟩ = some (.slice p.a p.n p.c) := hcL
                  have HRm := Lib.hid hrm
                  have HM14 := Lib.hid hm14
                  have HPi : Hid (OwnI lo2 hiB (.slice p.a p.n p.c) p.l w14) := Lib.hid hpI
                  have HPt := Lib.hid hp
                  have Ht2 : Hid (t < n) := Lib.hid ht2
                  have HcL := Lib.hid hcL'
                  have HfL := Lib.hid hfL
                  clear hrm hm14 hpI hp hcL hoff hpl
                  go_wp2
                  clear hcL' hfL
                  go_loopw [23, 180] (fun _ j wr => ∃ (i : Nat) (l' : List Int), j = .int .i64 i ∧ i ≤ p.n ∧ OwnI lo2 hiB (.slice p.a p.n p.c) l' wr ∧ OnlyS (fun b => p.val.ownBlock = some b) w14 wr) (fun _ j _ => p.n - (intOf j).toNat)
                  case atStart => exact ⟨0, _, rfl, by omega, HPi.out, OnlyS.refl _ _⟩
                  case round =>
                    obtain ⟨i, l1, rfl, hi, hO, ho9⟩ := hrel
                    obtain ⟨w15, rfl⟩ : ∃ w15 : World, w15 = wr := ⟨_, rfl⟩
                    have hbL : w15.heap[gL]? = w14.heap[gL]? := ho9.block gL h3 (fun e => HOf.out gL e rfl)
                    have cL : w15.cell? ⟨gL, t, none⟩ = some (.slice p.a p.n p.c) := (World.cell?_of_block (a := ⟨gL, t, none⟩) hbL).trans HcL.out
                    have fL : w15.frozen? ⟨gL, t, none⟩ = false := (World.frozen?_of_block (a := ⟨gL, t, none⟩) hbL).trans HfL.out
                    have s15 := ho9.size
                    by_cases hi2 : i < p.n
                    · obtain ⟨gq, hpa, _, _, _, hc1, hf1, hst⟩ := hO.store (i := i) hi2
                      obtain ⟨ho2, _⟩ := hst ((t : Int) % 256)
                      have hpv : p.val.ownBlock = some gq := by
                        show (Value.slice p.a p.n p.c).ownBlock = some gq
                        rw [hpa]; rfl
                      have HOm := Lib.hid ho2
                      have HMm := Lib.hid (OnlyS.setAt ho9 (S := fun b => p.val.ownBlock = some b) (x := gq) (o := i) hpv (.int .u8 ((t : Int) % 256)))
                      rw [hpa] at cL
                      clear hbL hst ho2 hO ho9 hpv
                      go_wp2
                      go_roundw
                      case rel => exact ⟨i + 1, _, by go_num, by omega, HOm.out, HMm.out⟩
                      case measure => simp [intOf]; omega
                    · have HO9 := Lib.hid hO
                      have HS9 := Lib.hid ho9
                      have hl9 := (own_len hO.1).1
                      have hlt9 := own_lt hO.1
                      have hgL9 : gL < w15.heap.size := by omega
                      clear hbL hO ho9
                      go_wp2_with (at_builtin; refine appB _ rfl (.tmp 197) (.tmp 198) rfl lo2 (.slice p.a p.n p.c) l1 rfl (HO9.out.1.alloc _) (w15.heap.size + 1) _ 2 [4, 5] 2 rfl (reads_new w15 _ _ _ 2 (bts [4, 5]) rfl rfl (by omega)) (by omega) (by simp; omega) ?_; intro v10 w16 hown10 hb10 hbk10 hgr10; obtain ⟨A10, n10, c10, rfl⟩ := own_slice hown10; have HGr := Lib.hid hgr10; have hb10L : w16.heap[gL]? = w15.heap[gL]? := (hgr10.block gL (by simp; omega) (fun e => HOf.out gL e.symm rfl)).trans (Below.heap_alloc w15 _ gL hgL9); have cL10 : w16.cell? ⟨gL, t, none⟩ = some (.slice p.a p.n p.c) := (World.cell?_of_block (a := ⟨gL, t, none⟩) hb10L).trans cL; have fL10 : w16.frozen? ⟨gL, t, none⟩ = false := (World.frozen?_of_block (a := ⟨gL, t, none⟩) hb10L).trans fL; clear hown10 hb10 hbk10 hgr10 hb10L)
                      have HO10 : Hid (OnlyS (fun b => p.val.ownBlock = some b) w14 w16) := Lib.hid ((HS9.out.below ((Below.refl _ w15).alloc (Nat.le_refl _) _)).grown HGr.out (fun g e => e))
                      have htn : t + 1 ≤ n := Ht2.out
                      have HRn := Lib.hid (HRm.out.step HSt.out HPt.out HO10.out rfl (.slice A10 n10 c10))
                      have HMn : Hid (Mod lo2 hiB w13 (w16.setCell ⟨gL, t, none⟩ (.slice A10 n10 c10))) := Lib.hid (HM14.out.trans (((HO10.out.weak (S' := fun b => lo2 ≤ b ∧ b < hiB) (fun b hb => ⟨own_base HPi.out.1 b hb, HPi.out.2 b hb⟩)).setAt (x := gL) (o := t) ⟨h1, h2⟩ (.slice A10 n10 c10)).mod (fun b hb => hb)))
                      go_roundw
                      case rel => exact ⟨t + 1, by go_num, by omega, HRn.out, HMn.out⟩
                      case measure => simp [intOf]; omega
                · have HV14 := Lib.hid (HV13.out.mod_ hm14 (by have := HV13.out.bel.size; omega) HAp11.out)
                  clear hrm hm14 HV13
                  have HX2 := Lib.hid (reopen_any HQ.out HT.out HV14.out HF11.out HB'.out HBs.out _ _ HFt11.out (by have := HFl.out; simp; omega) (by omega))
                  go_wp2_with fail
                  refine HX2.out.mono ?_
                  rintro e w15 ⟨Q3, U15, As3, ns3, cs3, Ar3, nr3, cr3, lo3, hi3, wB3, rfl, hV15, hfr15, hls3, hrs3, hlr3, ⟨qs3, hrl3, hqs3⟩, hlo3, hhi3, hap3, hwB3, hkB3, ps3, hown3, hps3⟩
                  have hls3 : l.length = ns3 := hls3
                  have hlr3 : rs.length = nr3 := hlr3
                  have hqs3 : Piece.bytes qs3 = rs := hqs3
                  have hrs3 : Reads w15 w15.heap.size 1 As3 ns3 (bts l) := hrs3
                  obtain rfl : ns = ns3 := by have := HL'.out; omega
                  obtain rfl : n = nr3 := by have := HRl.out; omega
                  have HV15 := Lib.hid hV15
                  have hsame : Hid (∀ q, Calls Tryd.prog 23 #[.slice As3 ns cs3, .slice b ns j] (w15.drewN q) fun e w' => e = .returned (.bool true) ∧ ∃ k, w' = (w15.drewN q).drewN k) := Lib.hid (fun q => by
                    have h := same_any As3 b ns cs3 ns j l l (w15.drewN q) _ _ (hrs3.drewN q) (((HR'.out.below HV15.out.bel).more HV15.out.bel.size).drewN q) (by omega)
                    rwa [decide_eq_true rfl] at h)
                  have halike : Hid (∀ q, Calls Tryd.prog 24 #[.slice Ar3 n cr3, .slice a n c] (w15.drewN q) fun e w' => e = .returned (.bool true) ∧ ∃ k, w' = (w15.drewN q).drewN k) := Lib.hid (fun q => by
                    have h := alike_any Ar3 a n cr3 n c qs3 ps (w15.drewN q) w15.heap.size w.heap.size hrl3 (HR.out.below (below_drewN HV15.out.bel q)) (by omega)
                    rwa [decide_eq_true (hqs3.trans HRp.out)] at h)
                  clear hV15 hfr15 hls3 hrs3 hlr3 hrl3 hqs3 hlo3 hhi3 hap3 hwB3 hkB3 hown3 hps3 HX2 HV14
                  go_wp2_with fail
                  refine (hsame.out 0).mono ?_
                  rintro e w16 ⟨rfl, k16, rfl⟩
                  go_wp2_with fail
                  refine (halike.out _).mono ?_
                  rintro e w17 ⟨rfl, k17, rfl⟩
                  obtain ⟨w17, hw17⟩ : ∃ w17, w17 = (w15.drewN k16).drewN k17 := ⟨_, rfl⟩
                  have hb17 : Below w15.heap.size w15 w17 := by rw [hw17]; exact (below_drewN (Below.refl _ _) _).trans ((below_drewN (Below.refl _ _) _).mono (Nat.le_refl _))
                  rw [← hw17]
                  have HV17 := Lib.hid (HV15.out.next hb17)
                  clear hw17 hb17 hsame halike HV15
                  go_wp2_with fail
                  refine (appNil w17).mono ?_
                  rintro e w18 ⟨rfl, rfl⟩
                  go_wp2_with fail
                  refine (ckpNil w18).mono ?_
                  rintro e w19 ⟨rfl, rfl⟩
                  go_wp2_with fail
                  refine (cntNil w19).mono ?_
                  rintro e w20 ⟨rfl, rfl⟩
                  go_wp2_with fail
                  refine (genNil w20).mono ?_
                  rintro e w21 ⟨rfl, rfl⟩
                  go_wp2
                  go_ret
                  exact ⟨rfl, HV17.out.bel⟩
end Go.Proofs.YtnpmccekkjadhaaDoor.Pk
