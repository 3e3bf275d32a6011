/- The walk of the law TableApart, from a table's promises. -/
import Derived.Test.YtgkmlggcmmdafaaTabBox
import Derived.Test.YtgkmlggcmmdafaaTabBack
import Derived.Test.YtgkmlggcmmdafaaTreeNil
import Derived.Test.YtgkmlggcmmdafaaSameMath
import Derived.Deep.RegionHeld3
import Derived.Deep.DeepMust
namespace Go.Proofs.Ytgkmlggcmmdafaa.Pk
open Go.RowKit Go.Shelf Go.Proofs.Ytgkmlggcmmdafaa.Tb Go.Proofs.Ytgkmlggcmmdafaa.Ar
set_option linter.unusedVariables false
attribute [local go_sem] Oper.semAt_some

/-- Where the first script's loop stands: the rows in the box g; the blocks F stay. -/
def AtBoxF (Tb : World → Nat → List Rw → (Nat → Prop) → (Nat → Prop) → Prop) (T g : Nat) (F : Nat → Prop) (i : Nat) (w w2 wr : World) : Prop :=
  ∃ l A n c S D, Blk wr g 26 #[.slice A n c] ∧ n ≤ c ∧ Reads wr wr.heap.size 2 A n (rws l) ∧ Free S A n ∧ Tb wr T l S D ∧ n ≤ i ∧ Below w.heap.size w wr ∧ Stay F w2 wr ∧ (∀ b, D b → w.heap.size ≤ b ∧ b ≠ g ∧ ¬ F b)
/-- Where the second script's loop stands: the rows in a slot; the blocks G stay. -/
def AtNow (Tb : World → Nat → List Rw → (Nat → Prop) → (Nat → Prop) → Prop) (T : Nat) (G : Nat → Prop) (i : Nat) (v : Value) (w w7 wr : World) : Prop :=
  ∃ l A n c S D, v = .slice A n c ∧ n ≤ c ∧ Reads wr wr.heap.size 2 A n (rws l) ∧ Free S A n ∧ Tb wr T l S D ∧ n ≤ 1048576 + 2 * i ∧ Below w.heap.size w wr ∧ Stay G w7 wr ∧ (∀ b, S b → w.heap.size ≤ b ∧ ¬ G b)
theorem pre_no' {β : Type} {rows pre : List β} {x r : β} (hr : rows[pre.length]? = some r) (e : r ≠ x) : ¬ pre ++ [x] <+: rows := by
  rintro ⟨s, rfl⟩
  rw [List.append_assoc, List.getElem?_append_right (Nat.le_refl _), Nat.sub_self] at hr
  simp at hr
  exact e hr.symm
theorem Stay.imp {D E : Nat → Prop} {w w' : World} (h : Stay D w w') (k : ∀ b, E b → D b) : Stay E w w' := ⟨h.1, fun b hb => h.2 b (k b hb)⟩
/-- Rows of any slice behind none, in a region that keeps its order. -/
theorem appRs {ops : Array Oper} {rest : List Oper} {o : Oper} {a : Act} {Q : Exit → Act → World → Prop} (w : World) (hgd : o.guard = none) (s x : Operand)
    (ho : o.op = .call { callee := .builtin .append, args := #[s, x], argTypes := #[26, 26] }) (hs : a.eval s = .slice none 0 0)
    (B' : Nat) (A : Option Addr) (c : Nat) (r : List Rw) (n : Nat) (hx : a.eval x = .slice A n c) (hr : Reads w B' 2 A n (rws r)) (hlen : n * 24 ≤ 140737488355328)
    (h : ∀ v' w', OwnR w' w.heap.size v' r → Below w.heap.size w w' → wpList Try.prog ops Q rest (a.put o.dst v') w') : wpList Try.prog ops Q (o :: rest) a w := by
  obtain ⟨i0, hi0, hz0, hz1, hz2⟩ := info_parts row_info
  refine wpList_append_any w hgd s x _ ho w.heap.size 34 i0 _ 2 24 Try.underlying26 hi0 hz0 hz1 hz2 rfl (by omega) _ 0 [] hs (OwnR.none_ w w.heap.size) B' A n c (rws r) hx hr (rws_one r)
    (by unfold maxLen; omega) (by omega) (Nat.le_refl _) ?_
  intro v' w' ho hg _
  refine h v' w' ?_ ((Below.refl _ _).grown hg (Nat.le_refl _) (fun k e => by simp [Value.ownBlock] at e))
  unfold OwnR
  rw [hr.rlen]
  simpa using ho

set_option maxRecDepth 100000 in
set_option maxHeartbeats 8000000 in
theorem law_TableApart {Tb : World → Nat → List Rw → (Nat → Prop) → (Nat → Prop) → Prop} (C : TableC Tb) (P : SeqP Tb) (K : SeqK Tb) (a : Option Addr) (m d : Nat) (os : List Cl) (a2 : Option Addr) (m2 d2 : Nat) (os2 : List Cl) (fr : Int) (w : World)
    (h : ArgC w a m d os) (h2 : ArgC w a2 m2 d2 os2) (hfr : -9223372036854775808 ≤ fr ∧ fr ≤ 9223372036854775807) (hup : m ≤ 1048576 ∧ m2 ≤ 1048576) :
    Calls Try.prog 6 #[.slice a m d, .slice a2 m2 d2, .int .i64 fr] w fun e w' => e = .returned (.bool true) ∧ Below w.heap.size w w' := by
  obtain ⟨hr, hmd, hd, hk⟩ := h
  obtain ⟨hr2, hmd2, hd2, hk2⟩ := h2
  obtain ⟨hfr1, hfr2⟩ := hfr
  obtain ⟨hm1, hm2⟩ := hup
  have HC := Lib.hid C
  have HP := Lib.hid P
  have HBk := Lib.hid K
  have HR := Lib.hid hr
  have HK := Lib.hid hk
  have HM := Lib.hid hr.clen
  have HR2 := Lib.hid hr2
  have HK2 := Lib.hid hk2
  have HM2 := Lib.hid hr2.clen
  clear C P K hr hk hr2 hk2 hd hd2
  refine (callsIn_wide (n := 9)).1 ?_
  refine callsIn_of_wp_marks Try.func6 rfl trivial ?_ rfl
  simp only [Try.ntmps6, List.size_toArray, List.length_cons, List.length_nil, Nat.reduceAdd, Nat.reduceSub, Array.replicate_succ, Array.replicate_zero, List.push_toArray, List.append_toArray, List.nil_append, List.cons_append]
  refine wpIn_wide.2 ?_
  have kf0 := (Blk.new w 3 #[.int .i64 fr]).alloc (.cells #[.bool false] 4)
  have kr0 := Blk.new (w.alloc (.cells #[.int .i64 fr] 3)) 4 #[.bool false]
  rw [World.size_alloc] at kr0
  have hb0 : Below w.heap.size w ((w.alloc (.cells #[.int .i64 fr] 3)).alloc (.cells #[.bool false] 4)) := ((Below.refl _ _).alloc (Nat.le_refl _) _).alloc (by simp) _
  go_wp2_with fail
  refine (wakes_any HC.out _).mono ?_
  rintro e w1 ⟨rfl, hb1⟩
  have hs1 : w.heap.size + 2 ≤ w1.heap.size := by have := hb1.size; simpa using this
  have HKF1 := Lib.hid (kf0.below hb1 (by simp; omega))
  have HKR1 := Lib.hid (kr0.below hb1 (by simp))
  have HB1 := Lib.hid (hb0.trans (hb1.mono (by simp; omega)))
  clear kf0 kr0 hb0 hb1
  go_wp2_with fail
  refine (HC.out.new w1).mono ?_
  rintro e wT ⟨T, S, D, rfl, h2, hb2, hD2⟩
  have hs2 := hb2.size
  have HB2 := Lib.hid (HB1.out.trans (hb2.mono (by omega)))
  have HKF2 := Lib.hid (HKF1.out.below hb2 (by omega))
  have HKR2 := Lib.hid (HKR1.out.below hb2 (by omega))
  have HT2 := Lib.hid h2
  have HD2 : Hid (∀ b, D b → w1.heap.size ≤ b ∧ b < wT.heap.size) := Lib.hid fun b hb => ⟨hD2 b hb, HC.out.lt h2 b hb⟩
  clear hb2 h2 hD2
  go_wp2_with fail
  refine (HC.out.new wT).mono ?_
  rintro e wU ⟨U, Su, Du, rfl, h3, hb3, hD3⟩
  have hs3 := hb3.size
  have HB3 := Lib.hid (HB2.out.trans (hb3.mono (by omega)))
  have HKF3 := Lib.hid (HKF2.out.below hb3 (by omega))
  have HKR3 := Lib.hid (HKR2.out.below hb3 (by omega))
  have HT3 := Lib.hid (HC.out.next HT2.out hb3)
  have HU3 := Lib.hid h3
  have HD3 : Hid (∀ b, Du b → wT.heap.size ≤ b ∧ b < wU.heap.size) := Lib.hid fun b hb => ⟨hD3 b hb, HC.out.lt h3 b hb⟩
  clear hb3 h3 hD3
  go_wp2
  -- the first script's loop
  obtain ⟨w2, hw2⟩ : ∃ w2, w2 = wU.alloc (.cells #[.slice none 0 0] 26) := ⟨_, rfl⟩
  have hbU : Below wU.heap.size wU w2 := hw2 ▸ (Below.refl _ _).alloc (Nat.le_refl _) _
  have hs4 : w2.heap.size = wU.heap.size + 1 := by rw [hw2, World.size_alloc]
  have hkg : Blk w2 wU.heap.size 26 #[.slice none 0 0] := hw2 ▸ Blk.new wU _ _
  rw [← hw2]
  have HS4 := Lib.hid hs4
  have HKF4 := Lib.hid (HKF3.out.below hbU (by omega))
  have HKR4 := Lib.hid (HKR3.out.below hbU (by omega))
  have HU4 := Lib.hid (HC.out.next HU3.out hbU)
  obtain ⟨F, hF⟩ : ∃ F : Nat → Prop, F = fun b => b = w.heap.size ∨ b = w.heap.size + 1 ∨ Du b := ⟨_, rfl⟩
  have HFe := Lib.hid hF
  have hFlt : ∀ b, F b → b < wU.heap.size := by
    rw [hF]; rintro b (rfl | rfl | hb)
    · omega
    · omega
    · exact (HD3.out b hb).2
  have HFlt := Lib.hid hFlt
  have HA0 : Hid (AtBoxF Tb T wU.heap.size F 0 w w2 w2) := Lib.hid ⟨[], none, 0, 0, S, D, hkg, Nat.le_refl _, Reads.none_, fun h => absurd h (by omega), HC.out.next HT3.out hbU, Nat.le_refl _, HB3.out.trans (hbU.mono HB3.out.size), Stay.refl _ _, fun b hb => by
    have h1 := HD2.out b hb
    refine ⟨by omega, by omega, ?_⟩
    rw [hF]; rintro (rfl | rfl | h2)
    · omega
    · omega
    · have := HD3.out b h2; omega⟩
  clear hF hFlt hkg hbU hw2 hs4
  go_loopw [43] (fun j wr => ∃ i : Nat, j = .int .i64 i ∧ i ≤ m ∧ AtBoxF Tb T wU.heap.size F i w w2 wr) (fun j _ => m - (intOf j).toNat)
  case atStart => exact ⟨0, rfl, by omega, HA0.out⟩
  case round =>
    obtain ⟨i, rfl, hi, l, A, n, c, S3, D3, hkb, hnc, hr3, hf3, ht3, hni, hb3, hst3, hd3⟩ := hrel
    obtain ⟨w3, rfl⟩ : ∃ w3 : World, w3 = wr := ⟨_, rfl⟩
    have HKB := Lib.hid hkb
    have HR3 := Lib.hid hr3
    have HF3 := Lib.hid hf3
    have HT3 := Lib.hid ht3
    have HB3 := Lib.hid hb3
    have HST3 := Lib.hid hst3
    have HD3' := Lib.hid hd3
    have cb : w3.cell? ⟨wU.heap.size, 0, none⟩ = some (.slice A n c) := by rw [hkb.cell]; rfl
    have hgl := hkb.lt
    clear hkb hr3 hf3 ht3 hb3 hst3 hd3
    by_cases hlt : i < m
    · obtain ⟨b, off, rfl, hbb, hc⟩ := (HR.out.below HB3.out).calls (by omega)
      obtain ⟨r, hr⟩ : ∃ r, os[i]? = some r := ⟨_, List.getElem?_eq_getElem (by rw [HM.out]; exact hlt)⟩
      obtain ⟨x0, x1, x2⟩ := hc i r hr
      obtain ⟨kd, k, s⟩ := r
      have hkr := HK.out _ (List.mem_of_getElem? hr)
      simp only at x0 x1 x2 hkr
      have HKR' := Lib.hid hkr
      clear hc hr hkr
      have s3 := HB3.out.size
      have HB4 := Lib.hid (HB3.out.alloc s3 (.cells #[.int .i64 kd, .int .i64 k, .string s] 28))
      have HR4 : Hid (Reads (w3.alloc (.cells #[.int .i64 kd, .int .i64 k, .string s] 28)) (w3.alloc (.cells #[.int .i64 kd, .int .i64 k, .string s] 28)).heap.size 2 A n (rws l)) := Lib.hid ((HR3.out.alloc (Nat.le_refl _) _).more (by simp))
      have HT4 := Lib.hid (HC.out.stay HT3.out (Stay.below ((Below.refl w3.heap.size w3).alloc (Nat.le_refl _) (.cells #[.int .i64 kd, .int .i64 k, .string s] 28)) (HC.out.lt HT3.out)))
      go_wp2_with fail
      refine (one_any HC.out _ T l S3 D3 A n c kd k s HT4.out HR4.out HF3.out HKR'.out (by omega) hnc).mono ?_
      rintro e w5 ⟨A5, n5, c5, S5, D5, rfl, hnc5, hr5, hf5, ht5, tu5, fs5, fd5⟩
      have hl5 : n5 ≤ i + 1 := by have h1 := hr5.rlen; have h2 := does_length kd k s l; have h3 := HR3.out.rlen; omega
      have hSne : ∀ b, S3 b → b ≠ wU.heap.size ∧ ¬ F b := fun b hb => (HD3'.out b (HC.out.sub HT3.out b hb)).2
      have hkb5 := (HKB.out.alloc (.cells #[.int .i64 kd, .int .i64 k, .string s] 28)).turned tu5 (fun h => (hSne _ h).1 rfl)
      have cb5 : w5.cell? ⟨wU.heap.size, 0, none⟩ = some (.slice A n c) := by rw [hkb5.cell]; rfl
      have cf5 : w5.frozen? ⟨wU.heap.size, 0, none⟩ = false := hkb5.frozen 0
      have s23 := HST3.out.1
      have HFin : Hid (AtBoxF Tb T wU.heap.size F (i + 1) w w2 (w5.setCell ⟨wU.heap.size, 0, none⟩ (.slice A5 n5 c5))) := Lib.hid (by
        have hD5 : ∀ b, D5 b → w.heap.size ≤ b ∧ b ≠ wU.heap.size ∧ ¬ F b := fun b hb => by
          rcases fd5 b hb with h1 | h1
          · exact HD3'.out b h1
          · simp at h1
            exact ⟨by omega, by omega, fun hf => by have := HFlt.out b hf; omega⟩
        have hb5 := tu5.below HB4.out HB4.out.size (fun b hb => (HD3'.out b (HC.out.sub HT3.out b hb)).1)
        have hst5 : Stay F w2 w5 := HST3.out.trans ((Stay.below ((Below.refl w3.heap.size w3).alloc (Nat.le_refl _) (.cells #[.int .i64 kd, .int .i64 k, .string s] 28)) (fun b hb => by have := HFlt.out b hb; omega)).trans (Stay.turned tu5 (fun b hb => ⟨by have := HFlt.out b hb; simp; omega, fun hs => (hSne b hs).2 hb⟩)))
        refine ⟨_, A5, n5, c5, S5, D5, blk_put hkb5 _, hnc5, ?_, hf5, HC.out.stay ht5 ⟨by simp [World.setCell], fun b hb => Below.heap_setCell _ ⟨wU.heap.size, 0, none⟩ _ b (by simp; exact (hD5 b hb).2.1)⟩, hl5, hb5.setCell (p := ⟨wU.heap.size, 0, none⟩) (by simp; omega) _, hst5.trans (stay_set (fun h => by have := HFlt.out _ h; omega)), hD5⟩
        have := hr5.setFar (g := wU.heap.size) (u := .slice A5 n5 c5) (reads_ne_box hkb5 hr5)
        exact this.more (by simp [World.setCell]))
      clear hr5 hf5 ht5 tu5 fs5 fd5 hkb5 hSne
      go_wp2
      go_roundw
      case rel => exact ⟨i + 1, by go_num, by omega, HFin.out⟩
      case measure => simp [intOf]; omega
    · have HN := Lib.hid HR3.out.rlen
      have hn20 : n ≤ 1048576 := by omega
      have s23 := HST3.out.1
      have hs4' := HS4.out
      have HKF5 := Lib.hid (show Blk w3 w.heap.size 3 #[.int .i64 fr] from (HST3.out.2 _ (by rw [HFe.out]; exact .inl rfl)).trans HKF4.out)
      have HKR5 := Lib.hid (show Blk w3 (w.heap.size + 1) 4 #[.bool false] from (HST3.out.2 _ (by rw [HFe.out]; exact .inr (.inl rfl))).trans HKR4.out)
      have HU5 := Lib.hid (HC.out.stay HU4.out (HST3.out.imp (fun b hb => by rw [HFe.out]; exact .inr (.inr hb))))
      have cf : w3.cell? ⟨w.heap.size, 0, none⟩ = some (.int .i64 fr) := by rw [HKF5.out.cell]; rfl
      clear hs4'
      have HA := Lib.hid (fun w4 (hb : Below w3.heap.size w3 w4) => HP.out.qall w4 T l S3 D3 (HC.out.next HT3.out hb) (by rw [HN.out]; omega))
      have HS := Lib.hid (fun w4 (hb : Below w3.heap.size w3 w4) => HP.out.qfrom w4 T l S3 D3 fr (HC.out.next HT3.out hb) hfr1 hfr2 (by rw [HN.out]; omega))
      have HQ := Lib.hid (fun w4 (hb : Below w3.heap.size w3 w4) => HBk.out.qback w4 T l S3 D3 (HC.out.next HT3.out hb) (by rw [HN.out]; omega))
      have HCF := Lib.hid (fun w4 (hb : Below w3.heap.size w3 w4) => (show w4.cell? ⟨w.heap.size, 0, none⟩ = some (.int .i64 fr) by rw [(HKF5.out.below hb HKF5.out.lt).cell]; rfl))
      go_wp2
      refine wp_region_noPanic ?_
      go_region_held3 (fun w' => w'.cell? ⟨w.heap.size, 0, none⟩ = some (.int .i64 fr)) (first | exact cf | exact Z1 | exact Z2 | exact Z3 | go_keep) (first
        | (go_at_call 15; go_must (refine (HA.out _ (below_dn (Below.refl _ w3) 1)).mono ?_); rintro e w4 ⟨va, Ra, rfl, sa, ba, ga, ra⟩; have B4 := (below_dn (Below.refl w3.heap.size w3) 1).trans ba; have Z1 := HCF.out w4 B4)
        | (go_at_call 16; go_must (refine (HS.out w4 B4).mono ?_); rintro e w5 ⟨vs, Rs, rfl, ss, bs, gs, rs⟩; have B5 := B4.trans (bs.mono B4.size); have Z2 := HCF.out w5 B5)
        | (go_at_call 14; go_must (refine (HQ.out w5 B5).mono ?_); rintro e w6 ⟨vb, Rb, rfl, sb, bb, gb, rb⟩; have B6 := B5.trans (bb.mono B5.size); have Z3 := HCF.out w6 B6))
      all_goals refine NoPanic.normal ?_
      have sa6 : SeqC va l Ra w6 := sa.stay ((Stay.below bs sa.lt).trans (Stay.below bb (fun b hb => Nat.lt_of_lt_of_le (sa.lt b hb) bs.size)))
      have ss6 : SeqC vs (l.filter fun x => decide (fr ≤ x.1)) Rs w6 := ss.stay (Stay.below bb ss.lt)
      obtain ⟨gfa, lba, rfl, ena, hRa, hqa⟩ := sa6
      obtain ⟨gfs, lbs, rfl, ens, hRs, hqs⟩ := ss6
      obtain ⟨gfb, pbb, rfl, enb, hRb, hqb⟩ := sb
      have SA6 : Hid (SeqC (.func (.func gfa) #[] lba) l Ra w6) := Lib.hid ⟨gfa, lba, rfl, ena, hRa, hqa⟩
      have SS6 : Hid (SeqC (.func (.func gfs) #[] lbs) (l.filter fun x => decide (fr ≤ x.1)) Rs w6) := Lib.hid ⟨gfs, lbs, rfl, ens, hRs, hqs⟩
      have SB6 : Hid (SeqB (.func (.func gfb) pbb #[]) l.reverse Rb w6) := Lib.hid ⟨gfb, pbb, rfl, enb, hRb, hqb⟩
      have ENA := Lib.hid ena
      have ENS := Lib.hid ens
      have ENB := Lib.hid enb
      have HB6 := Lib.hid B6
      have HRA := Lib.hid ra
      have HRS := Lib.hid rs
      have HRB := Lib.hid rb
      have s36 := B6.size
      have HKB6 := Lib.hid (HKB.out.below B6 hgl)
      have HKF6 := Lib.hid (HKF5.out.below B6 HKF5.out.lt)
      have HKR6 := Lib.hid (HKR5.out.below B6 HKR5.out.lt)
      have HU6 := Lib.hid (HC.out.next HU5.out B6)
      have HT6 := Lib.hid (HC.out.next HT3.out B6)
      have HR6 := Lib.hid ((HR3.out.below B6).more s36)
      have HW6 := Lib.hid (HB3.out.trans (B6.mono HB3.out.size))
      have hfn1 := fun (W : World) (gf : Nat) (cs : Array Value) => run_eql_func_nil (P := Try.prog) W 37 (.func gf) #[] cs Try.underlying37
      have hfn2 := fun (W : World) (gf : Nat) (cs : Array Value) => run_eql_func_nil (P := Try.prog) W 37 (.func gf) cs #[] Try.underlying37
      have cb6 : w6.cell? ⟨wU.heap.size, 0, none⟩ = some (.slice A n c) := by rw [HKB6.out.cell]; rfl
      have hn24 : n * 24 ≤ 140737488355328 := Nat.le_trans (Nat.mul_le_mul_right 24 hn20) (by decide)
      clear sa ss ba ga ra B4 Z1 bs gs rs B5 Z2 ena hRa hqa ens hRs hqs enb hRb hqb bb gb rb B6 Z3 cf cb HA HS HQ HCF
      go_wp2_with (first | (at_builtin; go_must (refine appRs _ rfl (.tmp 72) (.tmp 73) rfl rfl w6.heap.size A c l n rfl HR6.out hn24 ?_); rintro v7 w7 hown7 hb7))
      obtain ⟨A7, c7, rfl, hc7, hr7⟩ := hown7.reads
      have s67 := hb7.size
      have HF7 : Hid (Free S3 A7 l.length) := Lib.hid (free_own hown7 rfl (fun b hb => HC.out.lt HT6.out b (HC.out.sub HT6.out b hb)))
      have HR7 := Lib.hid hr7
      have HT7 := Lib.hid (HC.out.next HT6.out hb7)
      have HW7 := Lib.hid (HW6.out.trans (hb7.mono HW6.out.size))
      have HKB7 := Lib.hid (HKB6.out.below hb7 HKB6.out.lt)
      have HKF7 := Lib.hid (HKF6.out.below hb7 HKF6.out.lt)
      have HKR7 := Lib.hid (HKR6.out.below hb7 HKR6.out.lt)
      have HU7 := Lib.hid (HC.out.next HU6.out hb7)
      have HRw7 := Lib.hid ((HR6.out.below hb7).more s67)
      have SA7 := Lib.hid (SA6.out.stay (Stay.below hb7 SA6.out.lt))
      have SS7 := Lib.hid (SS6.out.stay (Stay.below hb7 SS6.out.lt))
      have SB7 := Lib.hid (SB6.out.stay (Stay.below hb7 SB6.out.lt))
      obtain ⟨G, hG⟩ : ∃ G : Nat → Prop, G = fun b => F b ∨ b = wU.heap.size ∨ Ra b ∨ Rs b ∨ Rb b ∨ (0 < n ∧ ∃ ad, A = some ad ∧ b = ad.block) := ⟨_, rfl⟩
      have HGe := Lib.hid hG
      have hGlt : ∀ b, G b → b < w7.heap.size := by
        rw [hG]; rintro b (hb | rfl | hb | hb | hb | ⟨h0, ad, e, rfl⟩)
        · have := HFlt.out b hb; omega
        · omega
        · have := SA6.out.lt b hb; omega
        · have := SS6.out.lt b hb; omega
        · have := SB6.out.lt b hb; omega
        · obtain ⟨ad', e', hb', _⟩ := HR6.out.2 h0
          rw [e] at e'; injection e' with e'; subst e'
          omega
      have HGlt := Lib.hid hGlt
      have hSG : ∀ b, S3 b → w.heap.size ≤ b ∧ ¬ G b := fun b hb => by
        have h1 := HD3'.out b (HC.out.sub HT3.out b hb)
        refine ⟨h1.1, ?_⟩
        rw [hG]; rintro (h | h | h | h | h | ⟨h0, ad, e, rfl⟩)
        · exact h1.2.2 h
        · exact h1.2.1 h
        · exact HRA.out b h hb
        · exact HRS.out b h hb
        · exact HRB.out b h hb
        · exact HF3.out h0 ad e hb
      have HSG := Lib.hid hSG
      have HLn : Hid (l.length = n) := HN
      have HTl := HT3
      clear hown7 hr7 hb7 hG hGlt hSG cb6 hfn1 hfn2
      go_wp2
      go_loopw [15, 77] (fun v j wr => ∃ i : Nat, j = .int .i64 i ∧ i ≤ m2 ∧ AtNow Tb T G i v w w7 wr) (fun _ j _ => m2 - (intOf j).toNat)
      case atStart => exact ⟨0, rfl, by omega, l, A7, l.length, c7, S3, D3, rfl, hc7, HR7.out, HF7.out, HT7.out, by rw [HLn.out]; omega, HW7.out, Stay.refl _ _, HSG.out⟩
      case round =>
        obtain ⟨i2, rfl, hi2, l2, A2, n2, c2, S8, D8, rfl, hnc2, hr8, hf8, ht8, hn8, hb8, hst8, hsg8⟩ := hrel
        obtain ⟨w8, rfl⟩ : ∃ w8 : World, w8 = wr := ⟨_, rfl⟩
        have HR8 := Lib.hid hr8
        have HF8 := Lib.hid hf8
        have HT8 := Lib.hid ht8
        have HB8 := Lib.hid hb8
        have HST8 := Lib.hid hst8
        have HSG8 := Lib.hid hsg8
        have HL8 := Lib.hid hr8.rlen
        clear hr8 hf8 ht8 hb8 hst8 hsg8
        by_cases hlt2 : i2 < m2
        · obtain ⟨b, off, rfl, hbb, hc⟩ := (HR2.out.below HB8.out).calls (by omega)
          obtain ⟨r, hr⟩ : ∃ r, os2[i2]? = some r := ⟨_, List.getElem?_eq_getElem (by rw [HM2.out]; exact hlt2)⟩
          obtain ⟨x0, x1, x2⟩ := hc i2 r hr
          obtain ⟨kd, k, s⟩ := r
          have hkr := HK2.out _ (List.mem_of_getElem? hr)
          simp only at x0 x1 x2 hkr
          have HKR' := Lib.hid hkr
          clear hc hr hkr
          have s3 := HB8.out.size
          have hal : Below w8.heap.size w8 (w8.alloc (.cells #[.int .i64 kd, .int .i64 k, .string s] 28)) := (Below.refl _ _).alloc (Nat.le_refl _) _
          have hob := Blk.new w8 28 #[.int .i64 kd, .int .i64 k, .string s]
          have HAL := Lib.hid hal
          have HOB := Lib.hid hob
          have HR9 : Hid (Reads (w8.alloc (.cells #[.int .i64 kd, .int .i64 k, .string s] 28)) (w8.alloc (.cells #[.int .i64 kd, .int .i64 k, .string s] 28)).heap.size 2 A2 n2 (rws l2)) := Lib.hid ((HR8.out.alloc (Nat.le_refl _) _).more (by simp))
          have HT9 := Lib.hid (HC.out.stay HT8.out (Stay.below hal (HC.out.lt HT8.out)))
          clear hal hob
          go_wp2_with fail
          refine (one_any HC.out _ T l2 S8 D8 A2 n2 c2 kd k s HT9.out HR9.out HF8.out HKR'.out (by omega) hnc2).mono ?_
          rintro e w9 ⟨A9, n9, c9, S9, D9, rfl, hnc9, hr9, hf9, ht9, tu9, fs9, fd9⟩
          have hS8lt : ∀ b, S8 b → b < w8.heap.size := fun b hb => HC.out.lt HT8.out b (HC.out.sub HT8.out b hb)
          have hob9 := HOB.out.turned tu9 (fun h => by have := hS8lt _ h; omega)
          have cK9 : w9.cell? ⟨w8.heap.size, 1, none⟩ = some (.int .i64 k) := by rw [hob9.cell]; rfl
          have HR10 := Lib.hid hr9
          have HF10 := Lib.hid hf9
          have HT10 := Lib.hid ht9
          have HOB9 := Lib.hid hob9
          have HL9 := Lib.hid hr9.rlen
          have hl9 : n9 ≤ n2 + 1 := by have h1 := hr9.rlen; have h2 := does_length kd k s l2; have h3 := HL8.out; omega
          have s7G := HST8.out.1
          have HST9 : Hid (Stay G w7 w9) := Lib.hid (HST8.out.trans ((Stay.below HAL.out (fun b hb => by have := HGlt.out b hb; omega)).trans (Stay.turned tu9 (fun b hb => ⟨by have := HGlt.out b hb; simp; omega, fun hs => (HSG8.out b hs).2 hb⟩))))
          have HB9 := Lib.hid (tu9.below (HB8.out.alloc s3 _) (by simp; omega) (fun b hb => (HSG8.out b hb).1))
          have s89 := tu9.size
          have HSG9 : Hid (∀ b, S9 b → w.heap.size ≤ b ∧ ¬ G b) := Lib.hid (fun b hb => by
            rcases fs9 b hb with h1 | h1
            · exact HSG8.out b h1
            · simp at h1
              exact ⟨by omega, fun hg => by have := HGlt.out b hg; omega⟩)
          have hS9w : ∀ b, S9 b → b ≠ w8.heap.size := fun b hb => by
            rcases fs9 b hb with h1 | h1
            · have := hS8lt b h1; omega
            · simp at h1; omega
          have HS9w := Lib.hid hS9w
          have hsz9 : w8.heap.size < w9.heap.size := by simp at s89; omega
          clear hr9 hf9 ht9 tu9 fs9 fd9 hob9 hS8lt s89 hS9w
          go_wp2_with fail
          refine (HC.out.put w9 T _ S9 D9 k _ HT10.out HKR'.out.1 HKR'.out.2 (by have := HL9.out; omega)).mono ?_
          rintro e w10 ⟨rfl, S10, D10, ht10, tu10, fs10, fd10⟩
          have hob10 := HOB9.out.turned tu10 (fun h => HS9w.out _ h rfl)
          have cK10 : w10.cell? ⟨w8.heap.size, 1, none⟩ = some (.int .i64 k) := by rw [hob10.cell]; rfl
          have HR11 := Lib.hid (HR10.out.turned HF10.out tu10)
          have HF11 := Lib.hid (HF10.out.next HR10.out fs10)
          have HT11 := Lib.hid ht10
          have HRi := Lib.hid (HC.out.rises HT10.out)
          have HST10 : Hid (Stay G w7 w10) := Lib.hid (HST9.out.trans (Stay.turned tu10 (fun b hb => ⟨by have := HGlt.out b hb; omega, fun hs => (HSG9.out b hs).2 hb⟩)))
          have HB10 := Lib.hid (tu10.below HB9.out HB9.out.size (fun b hb => (HSG9.out b hb).1))
          have HSG10 : Hid (∀ b, S10 b → w.heap.size ≤ b ∧ ¬ G b) := Lib.hid (fun b hb => by
            rcases fs10 b hb with h1 | h1
            · exact HSG9.out b h1
            · exact ⟨by omega, fun hg => by have := HGlt.out b hg; omega⟩)
          have s910 := tu10.size
          have hn24' : (n9 + 1) * 24 ≤ 140737488355328 := Nat.le_trans (Nat.mul_le_mul_right 24 (show n9 + 1 ≤ 4398046511104 by omega)) (by decide)
          clear ht10 tu10 fs10 fd10 hob10 cK9
          go_wp2_with fail
          refine (put_any A9 n9 c9 _ k _ w10 w10.heap.size HR11.out (Nat.le_refl _) hn24').mono ?_
          rintro e w11 ⟨v11, rfl, hown11, hlen11, hb11⟩
          rw [putL_eq _ _ HRi.out] at hown11 hlen11
          obtain ⟨A11, c11, rfl, hc11, hr11⟩ := hown11.reads
          have HFin : Hid (AtNow Tb T G (i2 + 1) (.slice A11 (ins k _ (does kd k s l2)).length c11) w w7 w11) := Lib.hid
            ⟨_, A11, _, c11, S10, D10, rfl, hc11, hr11, free_own hown11 rfl (fun b hb => HC.out.lt HT11.out b (HC.out.sub HT11.out b hb)), HC.out.next HT11.out hb11, by simp only at hlen11; omega, HB10.out.trans (hb11.mono HB10.out.size), HST10.out.trans (Stay.below hb11 (fun b hb => by have := HGlt.out b hb; omega)), HSG10.out⟩
          clear hown11 hlen11 hb11 hc11 hr11 cK10
          go_wp2
          go_roundw
          case rel => exact ⟨i2 + 1, by go_num, by omega, HFin.out⟩
          case measure => simp [intOf]; omega
        · have hn21 : n2 ≤ 4398046511104 := by omega
          have s78 := HST8.out.1
          have hFG : ∀ b, F b → w8.heap[b]? = w7.heap[b]? := fun b hb => HST8.out.2 b (by rw [HGe.out]; exact .inl hb)
          have KB8 : Hid (Blk w8 wU.heap.size 26 #[.slice A n c]) := Lib.hid ((HST8.out.2 _ (by rw [HGe.out]; exact .inr (.inl rfl))).trans HKB7.out)
          have KF8 : Hid (Blk w8 w.heap.size 3 #[.int .i64 fr]) := Lib.hid ((hFG _ (by rw [HFe.out]; exact .inl rfl)).trans HKF7.out)
          have KR8 : Hid (Blk w8 (w.heap.size + 1) 4 #[.bool false]) := Lib.hid ((hFG _ (by rw [HFe.out]; exact .inr (.inl rfl))).trans HKR7.out)
          have U8 := Lib.hid (HC.out.stay HU7.out (HST8.out.imp (fun b hb => by rw [HGe.out, HFe.out]; exact .inl (.inr (.inr hb)))))
          have SA8 := Lib.hid (SA7.out.stay (HST8.out.imp (fun b hb => by rw [HGe.out]; exact .inr (.inr (.inl hb)))))
          have SS8 := Lib.hid (SS7.out.stay (HST8.out.imp (fun b hb => by rw [HGe.out]; exact .inr (.inr (.inr (.inl hb))))))
          have SB8 := Lib.hid (SB7.out.stay (HST8.out.imp (fun b hb => by rw [HGe.out]; exact .inr (.inr (.inr (.inr (.inl hb)))))))
          have RD8 : Hid (Reads w8 w8.heap.size 2 A n (rws l)) := Lib.hid ⟨HRw7.out.1, fun h0 => by
            obtain ⟨ad, e, hb, hc⟩ := HRw7.out.2 h0
            refine ⟨ad, e, by omega, fun j u hu => ?_⟩
            rw [← hc j u hu]
            exact World.cell?_of_block (by rw [block_of_add]; exact HST8.out.2 _ (by rw [HGe.out]; exact .inr (.inr (.inr (.inr (.inr ⟨h0, ad, e, rfl⟩))))))⟩
          have HSR : Hid (∀ b, S8 b → w.heap.size ≤ b ∧ b ≠ w.heap.size + 1 ∧ b < w8.heap.size) := Lib.hid (fun b hb => ⟨(HSG8.out b hb).1, fun e => (HSG8.out b hb).2 (by rw [HGe.out, HFe.out, e]; exact .inl (.inr (.inl rfl))), HC.out.lt HT8.out b (HC.out.sub HT8.out b hb)⟩)
          have hgB : wU.heap.size < w8.heap.size := KB8.out.lt
          have hrB : w.heap.size + 1 < w8.heap.size := KR8.out.lt
          clear hFG HST8 HRw7 SA7 SS7 SB7 HU7 HKB7 HKF7 HKR7 HW7 HT7 HR7 HF7 HSG HGlt HGe SA6 SS6 SB6 HB6 HRA HRS HRB HKB6 HKF6 HKR6 HU6 HT6 HR6 HW6 HKF5 HKR5 HU5 HR3 HF3 HT3 HB3 HST3 HD3' HKB HKF4 HKR4 HU4 HA0
          go_wp2
          -- the range over All
          have hat := Blk.new w8 3 #[.int .i64 0]
          obtain ⟨W1, hW1⟩ : ∃ W1, W1 = w8.alloc (.cells #[.int .i64 0] 3) := ⟨_, rfl⟩
          obtain ⟨x0, hx0⟩ : ∃ x0, x0 = w8.heap.size := ⟨_, rfl⟩
          have hb1 : Below w8.heap.size w8 W1 := hW1 ▸ (Below.refl _ _).alloc (Nat.le_refl _) _
          have hxl : x0 < W1.heap.size := by rw [hW1, hx0]; simp
          rw [← hW1] at hat ⊢
          rw [← hx0] at hat hb1 hgB hrB ⊢
          have HB1' := Lib.hid hb1
          have HAt := Lib.hid hat
          have HX0e := Lib.hid hx0
          have SA1 := Lib.hid (SA8.out.stay (Stay.below hb1 (by rw [hx0]; exact SA8.out.lt)))
          have hRAx : ∀ b, Ra b → b < x0 := by rw [hx0]; exact SA8.out.lt
          have HRAx := Lib.hid hRAx
          clear hW1 hx0 hb1 hat hRAx
          refine (wpIn_wide (n := 9)).1 ?_
          refine' wpIn_rangeFunc_ownG (α := Rw) rfl (by omega) (gf := gfa) (lb := lba) rfl trivial ENA.out
            SA1.out.seq (fun h k => h.trans k) (stay_b SA1.out.lt) (Below.refl _ _) (fun _ => rfl)
            (fun pre W => AtN l x0 pre W ∧ Only W1 W x0)
            (fun c pre W => c = .ret ∧ ¬ pre <+: l)
            (OwnFrom.and (Own.from (fun s A B row hs hg hr => ⟨hs.1, blk_kept hs.2 hg hr⟩) _) (own_only W1 x0))
            (fun c => fun s A B row hs hg hr => hs)
            ⟨⟨⟨l, rfl⟩, HAt.out⟩, Only.refl _ _⟩
            _ ?assign ?body ?done ?stop
          case assign =>
            intro l x W K hK
            gi_wp2
            exact hK
          case stop =>
            rintro D cc pre V hD hpre ⟨rfl, hw⟩ hK
            exact absurd hpre hw
          case body =>
            rintro lp pre ⟨y1, y2⟩ V ⟨⟨hpre, hao⟩, hOnly⟩ hlt
            have bl : Below x0 w8 V := Only.below HB1'.out hOnly (Nat.le_refl _) (by omega)
            have kb : Blk V wU.heap.size 26 #[.slice A n c] := KB8.out.below bl (by omega)
            have kr : Blk V (w.heap.size + 1) 4 #[.bool false] := KR8.out.below bl (by omega)
            have hrd : Reads V x0 2 A n (rws l) := (HX0e.out ▸ RD8.out : Reads w8 x0 2 A n (rws l)).below bl
            have cb : V.cell? ⟨wU.heap.size, 0, none⟩ = some (.slice A n c) := by rw [kb.cell]; rfl
            have cr : V.cell? ⟨w.heap.size + 1, 0, none⟩ = some (.bool false) := by rw [kr.cell]; rfl
            have frr : V.frozen? ⟨w.heap.size + 1, 0, none⟩ = false := kr.frozen 0
            obtain ⟨q, hq⟩ : ∃ q, q = pre.length := ⟨_, rfl⟩
            have HQ := Lib.hid hq
            rw [← hq] at hao hlt
            have cat : V.cell? ⟨x0, 0, none⟩ = some (.int .i64 (q : Int)) := by rw [hao.cell]; rfl
            have fat : V.frozen? ⟨x0, 0, none⟩ = false := hao.frozen 0
            rw [HLn.out] at hlt
            obtain ⟨b, off, rfl, hbb, hcell⟩ := hrd.rows (by omega)
            obtain ⟨⟨rk, rv⟩, hr2'⟩ : ∃ r2, l[q]? = some r2 := ⟨_, List.getElem?_eq_getElem (by rw [HLn.out]; exact hlt)⟩
            obtain ⟨c1, c2⟩ := hcell q _ hr2'
            have HPr := Lib.hid hpre
            have HAo := Lib.hid hao
            have HV := Lib.hid hr2'
            simp only at c1 c2
            have hnl : decide (n ≤ q) = false := by simp; omega
            have hnl2 : (q : Int) < (n : Int) := by omega
            clear hpre hao hcell hr2' hq kb kr hrd bl
            by_cases h1 : rk = y1
            · have t1 : (rk != y1) = false := by simp [h1]
              by_cases h2 : rv = y2
              · have HI : Hid (pre ++ [(y1, y2)] <+: l) := Lib.hid (pre_more HPr.out (by rw [← HQ.out]; exact HV.out) (by rw [h1, h2]))
                subst h2
                clear h1
                gi_wp2
                exact ⟨(KeepsOthers.setCell _ _ _).from _, stay_set (fun h => by have := HRAx.out _ h; omega), ⟨⟨HI.out, by rw [List.length_append, ← HQ.out]; exact blk_put HAo.out _⟩, hOnly.set _ _⟩⟩
              · have HI : Hid (¬ pre ++ [(y1, y2)] <+: l) := Lib.hid (pre_wrong (by rw [← HQ.out]; exact HV.out) (fun e => h2 (congrArg Prod.snd e).symm))
                have t2 := text_ne h2
                clear h1 h2
                gi_wp2
                exact ⟨(KeepsOthers.setCell _ _ _).from _, rfl, HI.out⟩
            · have t1 : (rk != y1) = true := by simp [h1]
              have HI : Hid (¬ pre ++ [(y1, y2)] <+: l) := Lib.hid (pre_wrong (by rw [← HQ.out]; exact HV.out) (fun e => h1 (congrArg Prod.fst e).symm))
              clear h1
              gi_wp2
              exact ⟨(KeepsOthers.setCell _ _ _).from _, rfl, HI.out⟩
          case done =>
            rintro D1 ys V1 hD1 hys ⟨⟨hpre, hao⟩, hOnly⟩ hK1
            have hys' := hys.symm
            subst hys'
            clear hys
            have bl : Below x0 w8 V1 := Only.below HB1'.out hOnly (Nat.le_refl _) (by omega)
            have kb : Blk V1 wU.heap.size 26 #[.slice A n c] := KB8.out.below bl (by omega)
            have cb : V1.cell? ⟨wU.heap.size, 0, none⟩ = some (.slice A n c) := by rw [kb.cell]; rfl
            rw [HLn.out] at hao
            have hx1l : x0 < V1.heap.size := hao.lt
            have HX0 := Lib.hid hao
            have HBL1 := Lib.hid bl
            have hm0 : Marks x0 [] V1 := trivial
            have HMk1 := Lib.hid (hm0.cons (D := D1) (fun d hd => by cases hd) (by omega) hK1)
            clear kb hpre hao hOnly hK1 bl hm0 HB1' HAt SA1
            go_wp2
            -- the range over Back
            have hat := Blk.new V1 3 #[.int .i64 (n : Int)]
            obtain ⟨W2, hW2⟩ : ∃ W2, W2 = V1.alloc (.cells #[.int .i64 (n : Int)] 3) := ⟨_, rfl⟩
            obtain ⟨x1, hx1⟩ : ∃ x1, x1 = V1.heap.size := ⟨_, rfl⟩
            have hb2 : Below V1.heap.size V1 W2 := hW2 ▸ (Below.refl _ _).alloc (Nat.le_refl _) _
            have hx2l : x1 < W2.heap.size := by rw [hW2, hx1]; simp
            have hx01 : x0 < x1 := by omega
            rw [← hW2] at hat ⊢
            have HBL2 : Hid (Below x0 w8 W2) := Lib.hid (HBL1.out.trans (hb2.mono (by omega)))
            have HX02 := Lib.hid (HX0.out.below hb2 HX0.out.lt)
            have HMk2 := Lib.hid (HMk1.out.below hb2)
            rw [← hx1] at hat ⊢
            have HAt2 := Lib.hid hat
            have SB2 := Lib.hid (SB8.out.stay (Stay.below HBL2.out (by rw [HX0e.out]; exact SB8.out.lt)))
            have hRBx : ∀ b, Rb b → b < x0 := by rw [HX0e.out]; exact SB8.out.lt
            have HRBx := Lib.hid hRBx
            clear hW2 hx1 hb2 hat hRBx cb HBL1 HX0 HMk1
            obtain ⟨LK, hLK⟩ : ∃ LK, LK = l.reverse.map (·.1) := ⟨_, rfl⟩
            have HLK := Lib.hid hLK
            clear hLK
            refine (wpIn_wide (n := 9)).1 ?_
            refine' range_bound (α := Rw) (gf := gfb) (pb := pbb) (lb := #[]) rfl ENB.out
              (SB2.out.at_ _) (fun h k => h.trans k) (stay_b SB2.out.lt) (fun _ => rfl)
              (fun pre W => (pre.map (·.1) <+: LK ∧ Blk W x1 3 #[.int .i64 ((n : Int) - (pre.length : Nat))]) ∧ Only W2 W x1)
              (fun c pre W => c = .ret ∧ ¬ pre.map (·.1) <+: LK)
              (OwnFrom.and (Own.from (fun s A B row hs hg hr => ⟨hs.1, blk_kept hs.2 hg hr⟩) _) (own_only W2 x1))
              (fun c => fun s A B row hs hg hr => hs)
              ⟨⟨⟨LK, rfl⟩, by simpa using HAt2.out⟩, Only.refl _ _⟩
              _ ?assign2 ?body2 ?done2 ?stop2
            case assign2 =>
              intro l x W K hK
              gi_wp2
              exact hK
            case stop2 =>
              rintro D cc pre V hD hpre ⟨rfl, hw⟩ hK
              rw [HLK.out] at hw
              exact absurd (hpre.map _) hw
            case body2 =>
              rintro lp pre ⟨y1, y2⟩ V hlp hlr ⟨⟨hpre, hao⟩, hOnly⟩ hlt
              clear hlr
              have bl : Below x0 w8 V := Only.below HBL2.out hOnly (by omega) (by omega)
              have kb : Blk V wU.heap.size 26 #[.slice A n c] := KB8.out.below bl (by omega)
              have kr : Blk V (w.heap.size + 1) 4 #[.bool false] := KR8.out.below bl (by omega)
              have hrd : Reads V x0 2 A n (rws l) := (HX0e.out ▸ RD8.out : Reads w8 x0 2 A n (rws l)).below bl
              obtain ⟨q, hq⟩ : ∃ q, q = pre.length := ⟨_, rfl⟩
              have HQ := Lib.hid hq
              rw [← hq] at hao hlt
              rw [List.length_reverse, HLn.out] at hlt
              obtain ⟨z, hz⟩ : ∃ z : Nat, n = q + 1 + z := ⟨n - q - 1, by omega⟩
              have e1 : ((n : Int) - (q : Int)) = (z : Int) + 1 := by omega
              rw [e1] at hao
              have cat : V.cell? ⟨x1, 0, none⟩ = some (.int .i64 ((z : Int) + 1)) := by rw [hao.cell]; rfl
              have fat : V.frozen? ⟨x1, 0, none⟩ = false := hao.frozen 0
              have cb : V.cell? ⟨wU.heap.size, 0, none⟩ = some (.slice A n c) := by rw [kb.cell]; rfl
              have cr : V.cell? ⟨w.heap.size + 1, 0, none⟩ = some (.bool false) := by rw [kr.cell]; rfl
              have frr : V.frozen? ⟨w.heap.size + 1, 0, none⟩ = false := kr.frozen 0
              obtain ⟨b, off, rfl, hbb, hcell⟩ := hrd.rows (by omega)
              obtain ⟨⟨rk, rv⟩, hr2'⟩ : ∃ r2, l[z]? = some r2 := ⟨_, List.getElem?_eq_getElem (by rw [HLn.out]; omega)⟩
              obtain ⟨c1, c2⟩ := hcell z _ hr2'
              have HVk : Hid ((LK)[(pre.map (·.1)).length]? = some rk) := Lib.hid (by rw [HLK.out, List.length_map, ← HQ.out, List.getElem?_map, List.getElem?_reverse (by rw [HLn.out]; omega), HLn.out, show n - 1 - q = z by omega, hr2']; rfl)
              have ew : (z : Int) + 1 - 1 = (z : Int) := by omega
              have hzn : (z : Int) < (n : Int) := by omega
              have hne1 : x1 ≠ wU.heap.size := by omega
              have hne2 : x1 ≠ w.heap.size + 1 := by omega
              have hnb : x1 ≠ b := by omega
              have hne3 : wU.heap.size ≠ x1 := by omega
              have hne4 : w.heap.size + 1 ≠ x1 := by omega
              have hnb2 : b ≠ x1 := by omega
              have HPr := Lib.hid hpre
              have HAo := Lib.hid hao
              simp only at c1 c2
              have hlen : ((n : Int) - ((pre ++ [(y1, y2)]).length : Nat)) = (z : Int) := by rw [List.length_append, ← HQ.out]; simp; omega
              have HLn2 := Lib.hid hlen
              clear hpre hao hcell hr2' hq kb kr hrd bl hz e1 hlen c2
              by_cases h1 : rk = y1
              · have t1 : (rk != y1) = false := by simp [h1]
                have HI : Hid ((pre ++ [(y1, y2)]).map (·.1) <+: LK) := Lib.hid (by
                  rw [List.map_append]
                  obtain ⟨s, hs⟩ := HPr.out
                  have hk := HVk.out
                  rw [← hs, List.getElem?_append_right (Nat.le_refl _), Nat.sub_self] at hk
                  cases s with
                  | nil => simp at hk
                  | cons y s => simp at hk; subst hk; exact ⟨s, by rw [← hs]; simp [h1]⟩)
                clear h1
                gi_wp2
                exact ⟨KeepsAll.setCell _ (by omega) _, stay_set (fun h => by have := HRBx.out _ h; omega), ⟨⟨HI.out, by rw [HLn2.out]; exact blk_put HAo.out _⟩, hOnly.set _ _⟩⟩
              · have t1 : (rk != y1) = true := by simp [h1]
                have HI : Hid (¬ (pre ++ [(y1, y2)]).map (·.1) <+: LK) := Lib.hid (by
                  rw [List.map_append]
                  exact pre_no' HVk.out h1)
                clear h1
                gi_wp2
                exact ⟨(KeepsAll.setCell _ (by omega) _).trans (KeepsAll.setCell _ (by omega) _), rfl, HI.out⟩
            case done2 =>
              rintro D2 zs V2 hD2 rfl ⟨⟨hpre, hao⟩, hOnly⟩ hK2
              have bl : Below x0 w8 V2 := Only.below HBL2.out hOnly (by omega) (by omega)
              rw [List.length_reverse, HLn.out] at hao
              have e0 : ((n : Int) - (n : Int)) = 0 := by omega
              rw [e0] at hao
              have HX03 : Hid (Blk V2 x0 3 #[.int .i64 (n : Int)]) := Lib.hid ((hOnly.block x0 (by omega) (fun e => by injection e with e; omega)).trans HX02.out)
              have HX13 := Lib.hid hao
              have HBL3 := Lib.hid bl
              have hx3l : x1 < V2.heap.size := hao.lt
              have hm1 := HMk2.out.only hOnly HAt2.out
              have HMk3 := Lib.hid (hm1.cons (D := D2) (fun d hd k e => Nat.lt_of_lt_of_le (HMk2.out.lt d hd k e) hD2) (by omega) hK2)
              have SS3 := Lib.hid (SS8.out.stay (Stay.below HBL3.out (by rw [HX0e.out]; exact SS8.out.lt)))
              clear hpre hao hOnly hK2 bl hm1 e0 HMk2 HX02 HAt2 SB2 HBL2
              go_wp2
              -- the range over From
              refine (wpIn_wide (n := 9)).1 ?_
              refine' wpIn_rangeFunc_ownG (α := Rw) rfl (by omega) (gf := gfs) (lb := lbs) rfl trivial ENS.out
                SS3.out.seq (fun h k => h.trans k) (stay_b SS3.out.lt) (Below.refl _ _) (fun _ => rfl)
                (fun pre W => Below V2.heap.size V2 W)
                (fun c pre W => c = .ret ∧ ¬ pre <+: l.filter fun x => decide (fr ≤ x.1))
                (ownFrom_below (Nat.le_refl _) (Nat.le_refl _))
                (fun c => fun s A B row hs hg hr => hs)
                (Below.refl _ _)
                _ ?assign3 ?body3 ?done3 ?stop3
              case assign3 =>
                intro l x W K hK
                gi_wp2
                exact hK
              case stop3 =>
                rintro D cc pre V hD hpre ⟨rfl, hw⟩ hK
                exact absurd hpre hw
              case body3 =>
                rintro lp pre ⟨y1, y2⟩ V hVb hlt
                have bl : Below x0 w8 V := HBL3.out.trans (hVb.mono (by omega))
                have kb : Blk V wU.heap.size 26 #[.slice A n c] := KB8.out.below bl (by omega)
                have cb : V.cell? ⟨wU.heap.size, 0, none⟩ = some (.slice A n c) := by rw [kb.cell]; rfl
                have hrd : Reads V x0 2 A n (rws l) := (HX0e.out ▸ RD8.out : Reads w8 x0 2 A n (rws l)).below bl
                have HFd := Lib.hid (find_any A n c l y1 V x0 hrd (by have := bl.size; have := hVb.size; omega) (by omega))
                have HBLV := Lib.hid bl
                have HVb := Lib.hid hVb
                clear bl kb hrd hVb
                gi_wp2_with fail
                refine ⟨trivial, ?_⟩
                refine (CallsIn.inRound lp (callsIn_wide.2 HFd.out)).mono ?_
                rintro e U1 ⟨rfl, hbU⟩
                have hs1 := hbU.size
                have hV1 := HVb.out.size
                have hV2 := HBLV.out.size
                have HBU := Lib.hid (HBLV.out.trans (hbU.mono (by omega)))
                have HKF : Hid (KeepsFrom V2.heap.size V U1) := Lib.hid ⟨hbU.size, fun k o _ hk ho => (hbU.block k (Array.getElem?_eq_some_iff.1 hk).1).trans hk⟩
                have HSt : Hid (Stay Rs V U1) := Lib.hid (Stay.below hbU (fun b hb => by have := SS3.out.lt b hb; omega))
                have HVU := Lib.hid (HVb.out.trans (hbU.mono hV1))
                have kb : Blk U1 wU.heap.size 26 #[.slice A n c] := KB8.out.below HBU.out (by omega)
                have kr : Blk U1 (w.heap.size + 1) 4 #[.bool false] := KR8.out.below HBU.out (by omega)
                have kf : Blk U1 w.heap.size 3 #[.int .i64 fr] := KF8.out.below HBU.out (by omega)
                have hrd : Reads U1 x0 2 A n (rws l) := (HX0e.out ▸ RD8.out : Reads w8 x0 2 A n (rws l)).below HBU.out
                have cb2 : U1.cell? ⟨wU.heap.size, 0, none⟩ = some (.slice A n c) := by rw [kb.cell]; rfl
                have cf : U1.cell? ⟨w.heap.size, 0, none⟩ = some (.int .i64 fr) := by rw [kf.cell]; rfl
                have cr : U1.cell? ⟨w.heap.size + 1, 0, none⟩ = some (.bool false) := by rw [kr.cell]; rfl
                have frr : U1.frozen? ⟨w.heap.size + 1, 0, none⟩ = false := kr.frozen 0
                have bad : (y1, y2) ∉ (l.filter fun x => decide (fr ≤ x.1)) → ¬ (pre ++ [(y1, y2)]) <+: l.filter fun x => decide (fr ≤ x.1) := fun hn hp => hn (by
                  obtain ⟨s, hs⟩ := hp
                  rw [← hs]; simp)
                have HBad := Lib.hid bad
                clear bad hbU kb kr kf
                by_cases hlow : y1 < fr
                · have HI := Lib.hid (HBad.out (by simp; intro _; omega))
                  clear hrd
                  gi_wp2
                  exact ⟨HKF.out.trans ((KeepsOthers.setCell _ _ _).from _), rfl, HI.out⟩
                · have hlow2 : fr ≤ y1 := by omega
                  clear hlow
                  cases hat : at_ y1 l with
                  | none =>
                    have HI := Lib.hid (HBad.out (fun hm => by
                      have h1 := (List.mem_filter.1 hm).1
                      obtain ⟨j, hj⟩ := List.getElem?_of_mem h1
                      have h2 := look_at.2 hat
                      rw [under_of_get (HC.out.rises HTl.out) hj] at h2
                      cases h2))
                    rw [findI_none hat]
                    clear hrd hat
                    gi_wp2
                    exact ⟨HKF.out.trans ((KeepsOthers.setCell _ _ _).from _), rfl, HI.out⟩
                  | some j =>
                    obtain ⟨z, hz1, hz2⟩ := at_get hat
                    have hjn : j < n := by rw [← HLn.out]; exact at_lt hat
                    obtain ⟨b, off, rfl, hbb, hcell⟩ := hrd.rows (by omega)
                    obtain ⟨c1, c2⟩ := hcell j _ hz1
                    simp only at c1 c2
                    have hj1 : (0 : Int) ≤ (j : Int) := by omega
                    have hj2 : (j : Int) < (n : Int) := by omega
                    rw [findI_some hat]
                    by_cases h2 : z = y2
                    · subst h2
                      have t2 : (z.toList != z.toList) = false := by simp
                      clear hrd hat hz1 hz2 hcell
                      gi_wp2
                      exact ⟨HKF.out, HSt.out, HVU.out⟩
                    · have HI := Lib.hid (HBad.out (fun hm => by
                        have h1 := (List.mem_filter.1 hm).1
                        obtain ⟨j', hj'⟩ := List.getElem?_of_mem h1
                        rw [under_of_get (HC.out.rises HTl.out) hj'] at hz2
                        injection hz2 with hz2
                        exact h2 hz2.symm))
                      have t2 := text_ne h2
                      clear hrd hat hz1 hz2 hcell h2
                      gi_wp2
                      exact ⟨HKF.out.trans ((KeepsOthers.setCell _ _ _).from _), rfl, HI.out⟩
              case done3 =>
                rintro D3' vs3 V3 hD3 rfl hV3 hK3
                have HX04 := Lib.hid (HX03.out.below hV3 (by omega))
                have HX14 := Lib.hid (HX13.out.below hV3 hx3l)
                have HBL4 := Lib.hid (HBL3.out.trans (hV3.mono (by omega)))
                have HMk4 := Lib.hid ((HMk3.out.below hV3).cons (D := D3') (fun d hd k e => Nat.lt_of_lt_of_le (HMk3.out.lt d hd k e) hD3) (by omega) hK3)
                clear hV3 hK3 HMk3 HX03 HX13 HBL3 SS3
                go_wp2_with fail
                refine (get_nil 1 V3).mono ?_
                rintro e w' ⟨rfl, hw⟩
                rw [hw]
                clear hw w'
                go_wp2_with fail
                refine (nth_nil V3).mono ?_
                rintro e w' ⟨rfl, hw⟩
                rw [hw]
                clear hw w'
                go_wp2_with fail
                refine (put_nil 1 _ V3).mono ?_
                rintro e w' ⟨rfl, hw⟩
                rw [hw]
                clear hw w'
                go_wp2_with fail
                refine (delete_nil 1 V3).mono ?_
                rintro e w' ⟨rfl, hw⟩
                rw [hw]
                clear hw w'
                go_wp2_with fail
                refine (len_nil V3).mono ?_
                rintro e w' ⟨rfl, hw⟩
                rw [hw]
                clear hw w'
                go_wp2_with fail
                refine (up_val nilV V3 [] (fun _ => False) (fun _ => False) 0 true [] none 0 0 ⟨rfl, fun _ h => h, fun _ h => h⟩ ⟨by omega, by omega⟩ (by simp) (by simp) Reads.none_ (fun h => absurd h (by omega)) (Nat.le_refl _)).mono ?_
                rintro e V4 ⟨rfl, -, -, -, tu, -, -⟩
                have hbn : Below V3.heap.size V3 V4 := ⟨tu.os, tu.tape, tu.output, tu.size, fun i hi => tu.block i hi (fun h => h)⟩
                have HX05 := Lib.hid (HX04.out.below hbn HX04.out.lt)
                have HX15 := Lib.hid (HX14.out.below hbn HX14.out.lt)
                have hs4x := hbn.size
                have HBL5 := Lib.hid (HBL4.out.trans (hbn.mono (by have := HX04.out.lt; omega)))
                have HMk5 := Lib.hid (HMk4.out.below hbn)
                clear tu hbn HX04 HX14 HBL4 HMk4
                go_wp2_with fail
                refine (up_val nilV V4 [] (fun _ => False) (fun _ => False) 0 false [] none 0 0 ⟨rfl, fun _ h => h, fun _ h => h⟩ ⟨by omega, by omega⟩ (by simp) (by simp) Reads.none_ (fun h => absurd h (by omega)) (Nat.le_refl _)).mono ?_
                rintro e V5 ⟨rfl, -, -, -, tu, -, -⟩
                have hbn : Below V4.heap.size V4 V5 := ⟨tu.os, tu.tape, tu.output, tu.size, fun i hi => tu.block i hi (fun h => h)⟩
                have HX06 := Lib.hid (HX05.out.below hbn HX05.out.lt)
                have HX16 := Lib.hid (HX15.out.below hbn HX15.out.lt)
                have hs5x := hbn.size
                have HBL6 := Lib.hid (HBL5.out.trans (hbn.mono (by have := HX05.out.lt; omega)))
                have HMk6 := Lib.hid (HMk5.out.below hbn)
                clear tu hbn HX05 HX15 HBL5 HMk5
                have kb5 : Blk V5 wU.heap.size 26 #[.slice A n c] := KB8.out.below HBL6.out (by omega)
                have cb5 : V5.cell? ⟨wU.heap.size, 0, none⟩ = some (.slice A n c) := by rw [kb5.cell]; rfl
                have cx0 : V5.cell? ⟨x0, 0, none⟩ = some (.int .i64 (n : Int)) := by rw [HX06.out.cell]; rfl
                have cx1 : V5.cell? ⟨x1, 0, none⟩ = some (.int .i64 0) := by rw [HX16.out.cell]; rfl
                have U5 := Lib.hid (HC.out.stay U8.out (Stay.below HBL6.out (by rw [HX0e.out]; exact HC.out.lt U8.out)))
                clear kb5
                go_wp2_with fail
                refine (HC.out.qlen V5 U [] Su Du U5.out (by simp)).mono ?_
                rintro e V6 ⟨rfl, hb6⟩
                have s6x := hb6.size
                have HBL7 := Lib.hid (HBL6.out.trans (hb6.mono (by have := HX06.out.lt; omega)))
                have HMk7 := Lib.hid (HMk6.out.below hb6)
                have T6 := Lib.hid (HC.out.stay HT8.out (Stay.below HBL7.out (by rw [HX0e.out]; exact HC.out.lt HT8.out)))
                clear hb6 cb5 cx0 cx1 HBL6 HMk6 HX06 HX16
                go_wp2_with fail
                refine (HC.out.qlen V6 T l2 S8 D8 T6.out (by rw [HL8.out]; omega)).mono ?_
                rintro e V7 ⟨rfl, hb7⟩
                have HBL8 := Lib.hid (HBL7.out.trans (hb7.mono (by have := HBL7.out.size; have := HX0e.out; omega)))
                have HMk8 := Lib.hid (HMk7.out.below hb7)
                have T7 := Lib.hid (HC.out.stay HT8.out (Stay.below HBL8.out (by rw [HX0e.out]; exact HC.out.lt HT8.out)))
                have RN7 : Hid (Reads V7 V7.heap.size 2 A2 n2 (rws l2)) := Lib.hid ((HR8.out.below (HX0e.out ▸ HBL8.out)).more HBL8.out.size)
                clear hb7 HBL7 HMk7 T6
                rw [HL8.out]
                go_wp2_with fail
                refine (up_any HC.out HP.out V7 T l2 S8 D8 0 true l2 A2 n2 c2 T7.out ⟨by omega, by omega⟩ (by rw [HL8.out]; omega) (by simp) RN7.out HF8.out hnc2).mono ?_
                rintro e V9 ⟨rfl, S9, D9, -, tu9, -, -⟩
                have hsr9 : x0 ≤ V7.heap.size := by have := HBL8.out.size; have := HX0e.out; omega
                have kr9 : Blk V9 (w.heap.size + 1) 4 #[.bool false] := (KR8.out.below HBL8.out (by omega)).turned tu9 (fun h => (HSR.out _ h).2.1 rfl)
                have HM9 := Lib.hid (HMk8.out.keep tu9.size (fun k ⟨dd, hdd, he⟩ => by
                  obtain ⟨Dk, e1, h1, h2, h3⟩ := HMk8.out.mem dd hdd
                  rw [e1] at he
                  injection he with he
                  injection he with he
                  subst he
                  refine tu9.block _ h2 (fun hs => ?_)
                  have h4 := (HSR.out _ hs).2.2
                  have h5 := HX0e.out
                  omega))
                have HB9 := Lib.hid (tu9.below (HB8.out.trans (HBL8.out.mono (by have := HB8.out.size; have := HX0e.out; omega))) (by have := HB8.out.size; have := HX0e.out; omega) (fun b hb => (HSR.out b hb).1))
                have KR9 := Lib.hid kr9
                have cr9 : V9.cell? ⟨w.heap.size + 1, 0, none⟩ = some (.bool false) := by rw [kr9.cell]; rfl
                have fr9 : V9.frozen? ⟨w.heap.size + 1, 0, none⟩ = false := kr9.frozen 0
                clear tu9 kr9 HBL8 HMk8 T7 RN7
                go_wp2
                have kr2 := blk_put KR9.out (.bool true)
                have ho : Only V9 (V9.setCell ⟨w.heap.size + 1, 0, none⟩ (.bool true)) (w.heap.size + 1) := (Only.refl _ _).set _ _
                refine Marks.leave (B := x0) _ _ (HM9.out.only ho KR9.out) (fun W' hb => ?_)
                have c5 : W'.cell? ⟨w.heap.size + 1, 0, none⟩ = some (.bool true) := by
                  rw [hb.cell (p := ⟨w.heap.size + 1, 0, none⟩) (by simp; omega), kr2.cell]; rfl
                refine ⟨.bool true, ?_, rfl, (HB9.out.setCell (p := ⟨w.heap.size + 1, 0, none⟩) (by simp) _).trans (hb.mono (by omega))⟩
                simp [results, Try.f6, go_sem, c5]
end Go.Proofs.Ytgkmlggcmmdafaa.Pk
