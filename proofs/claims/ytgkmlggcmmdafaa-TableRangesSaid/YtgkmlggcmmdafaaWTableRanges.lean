/- The walk of the law TableRanges, from a table's promises. -/
import Derived.Test.YtgkmlggcmmdafaaTabBox
import Derived.Test.YtgkmlggcmmdafaaTabBack
namespace Go.Proofs.Ytgkmlggcmmdafaa.Pk
open Go.RowKit Go.Shelf Go.Proofs.Ytgkmlggcmmdafaa.Tb Go.Proofs.Ytgkmlggcmmdafaa.Ar
set_option linter.unusedVariables false
attribute [local go_sem] Oper.semAt_some

set_option maxRecDepth 100000 in
set_option maxHeartbeats 8000000 in
theorem law_TableRanges {Tb : World → Nat → List Rw → (Nat → Prop) → (Nat → Prop) → Prop} (C : TableC Tb) (P : SeqP Tb) (K : SeqK Tb) (a : Option Addr) (m d : Nat) (os : List Cl) (fr : Int) (w : World) (h : ArgC w a m d os) (hfr : -9223372036854775808 ≤ fr ∧ fr ≤ 9223372036854775807) :
    Calls Try.prog 4 #[.slice a m d, .int .i64 fr] w fun e w' => e = .returned (.bool true) ∧ Below w.heap.size w w' := by
  obtain ⟨hr, hmd, hd, hk⟩ := h
  obtain ⟨hfr1, hfr2⟩ := hfr
  have HC := Lib.hid C
  have HP := Lib.hid P
  have HBk := Lib.hid K
  have HR := Lib.hid hr
  have HK := Lib.hid hk
  have HM := Lib.hid hr.clen
  clear C P K hr hk
  refine (callsIn_wide (n := 9)).1 ?_
  refine callsIn_of_wp_marks Try.func4 rfl trivial ?_ rfl
  simp only [Try.ntmps4, List.size_toArray, List.length_cons, List.length_nil, Nat.reduceAdd, Nat.reduceSub, Array.replicate_succ, Array.replicate_zero, List.push_toArray, List.append_toArray, List.nil_append, List.cons_append]
  refine wpIn_wide.2 ?_
  have kr0 := Blk.new w 4 #[.bool false]
  have hb0 : Below w.heap.size w (w.alloc (.cells #[.bool false] 4)) := (Below.refl _ _).alloc (Nat.le_refl _) _
  go_wp2_with fail
  refine (wakes_any HC.out _).mono ?_
  rintro e w1 ⟨rfl, hb1⟩
  have kr1 := kr0.below hb1 (by simp)
  have hb1' := hb0.trans (hb1.mono (by simp))
  have hs1 : w.heap.size + 1 ≤ w1.heap.size := by have := hb1.size; simpa using this
  have HKR1 := Lib.hid kr1
  have HB1 := Lib.hid hb1'
  clear kr0 hb0 hb1 kr1 hb1'
  go_wp2_with fail
  refine (HC.out.new w1).mono ?_
  rintro e w2 ⟨T, S, D, rfl, h2, hb2, hD2⟩
  have hs2 := hb2.size
  have HB2 := Lib.hid (HB1.out.trans (hb2.mono (by omega)))
  have HKR2 := Lib.hid (HKR1.out.below hb2 (by omega))
  have HT2 := Lib.hid h2
  have HD2 : Hid (∀ b, D b → w.heap.size ≤ b ∧ b ≠ w2.heap.size ∧ b ≠ w.heap.size) := Lib.hid fun b hb => by
    have h3 := hD2 b hb
    have h4 := HC.out.lt h2 b hb
    exact ⟨by omega, by omega, by omega⟩
  clear hb2 h2 hD2
  go_wp2
  have hat0 : AtBox Tb T w2.heap.size w.heap.size 0 w (w2.alloc (.cells #[.slice none 0 0] 26)) :=
    ⟨[], none, 0, 0, S, D, Blk.new w2 _ _, HKR2.out.alloc _, Nat.le_refl _, Reads.none_, fun h => absurd h (by omega), HC.out.stay HT2.out (Stay.below ((Below.refl w2.heap.size w2).alloc (Nat.le_refl _) _) (HC.out.lt HT2.out)), Nat.le_refl _, HB2.out.alloc HB2.out.size _, HD2.out⟩
  have HA0 := Lib.hid hat0
  clear hat0
  have hg1 : w.heap.size < w2.heap.size := by omega
  go_loopw [8, 23] (fun _ j wr => ∃ i : Nat, j = .int .i64 i ∧ i ≤ m ∧ AtBox Tb T w2.heap.size w.heap.size i w wr) (fun _ j _ => m - (intOf j).toNat)
  case atStart => exact ⟨0, rfl, by omega, HA0.out⟩
  case round =>
    obtain ⟨i, rfl, hi, l, A, n, c, S3, D3, hkb, hkr, hnc, hr3, hf3, ht3, hni, hb3, hd3⟩ := hrel
    obtain ⟨w3, rfl⟩ : ∃ w3 : World, w3 = wr := ⟨_, rfl⟩
    have HKB := Lib.hid hkb
    have HKR := Lib.hid hkr
    have HR3 := Lib.hid hr3
    have HF3 := Lib.hid hf3
    have HT3 := Lib.hid ht3
    have HB3 := Lib.hid hb3
    have HD3 := Lib.hid hd3
    have cb : w3.cell? ⟨w2.heap.size, 0, none⟩ = some (.slice A n c) := by rw [hkb.cell]; rfl
    have hgl := hkb.lt
    clear hkb hkr hr3 hf3 ht3 hb3 hd3
    by_cases hlt : i < m
    · obtain ⟨b, off, rfl, hbb, hc⟩ := (HR.out.below HB3.out).calls (by omega)
      obtain ⟨r, hr⟩ : ∃ r, os[i]? = some r := ⟨_, List.getElem?_eq_getElem (by rw [HM.out]; exact hlt)⟩
      obtain ⟨x0, x1, x2⟩ := hc i r hr
      obtain ⟨kd, k, s⟩ := r
      have hkr := HK.out _ (List.mem_of_getElem? hr)
      simp only at x0 x1 x2 hkr
      have HKR' := Lib.hid hkr
      clear hc hr hkr
      have s3 := HB3.out.size
      have HB4 := Lib.hid (HB3.out.alloc s3 (.cells #[.int .i64 kd, .int .i64 k, .string s] 28))
      have HR4 : Hid (Reads (w3.alloc (.cells #[.int .i64 kd, .int .i64 k, .string s] 28)) (w3.alloc (.cells #[.int .i64 kd, .int .i64 k, .string s] 28)).heap.size 2 A n (rws l)) := Lib.hid ((HR3.out.alloc (Nat.le_refl _) _).more (by simp))
      have HT4 := Lib.hid (HC.out.stay HT3.out (Stay.below ((Below.refl w3.heap.size w3).alloc (Nat.le_refl _) (.cells #[.int .i64 kd, .int .i64 k, .string s] 28)) (HC.out.lt HT3.out)))
      go_wp2_with fail
      refine (one_any HC.out _ T l S3 D3 A n c kd k s HT4.out HR4.out HF3.out HKR'.out (by omega) hnc).mono ?_
      rintro e w5 ⟨A5, n5, c5, S5, D5, rfl, hnc5, hr5, hf5, ht5, tu5, fs5, fd5⟩
      have hl5 : n5 ≤ i + 1 := by have h1 := hr5.rlen; have h2 := does_length kd k s l; have h3 := HR3.out.rlen; omega
      have hSne : ∀ b, S3 b → b ≠ w2.heap.size ∧ b ≠ w.heap.size := fun b hb => (HD3.out b (HC.out.sub HT3.out b hb)).2
      have hkb5 := (HKB.out.alloc (.cells #[.int .i64 kd, .int .i64 k, .string s] 28)).turned tu5 (fun h => (hSne _ h).1 rfl)
      have hkr5 := (HKR.out.alloc (.cells #[.int .i64 kd, .int .i64 k, .string s] 28)).turned tu5 (fun h => (hSne _ h).2 rfl)
      have cb5 : w5.cell? ⟨w2.heap.size, 0, none⟩ = some (.slice A n c) := by rw [hkb5.cell]; rfl
      have cf5 : w5.frozen? ⟨w2.heap.size, 0, none⟩ = false := hkb5.frozen 0
      have HFin : Hid (AtBox Tb T w2.heap.size w.heap.size (i + 1) w (w5.setCell ⟨w2.heap.size, 0, none⟩ (.slice A5 n5 c5))) := Lib.hid (by
        have hD5 := from_box fd5 HD3.out (by simp; omega) (by simp; omega) (by simp; omega)
        have hb5 := tu5.below HB4.out HB4.out.size (fun b hb => (HD3.out b (HC.out.sub HT3.out b hb)).1)
        refine ⟨_, A5, n5, c5, S5, D5, blk_put hkb5 _, hkr5.far (p := ⟨w2.heap.size, 0, none⟩) (by simp; omega) _, hnc5, ?_, hf5, HC.out.stay ht5 ⟨by simp [World.setCell], fun b hb => Below.heap_setCell _ ⟨w2.heap.size, 0, none⟩ _ b (by simp; exact (hD5 b hb).2.1)⟩, hl5, hb5.setCell (p := ⟨w2.heap.size, 0, none⟩) (by simp; omega) _, hD5⟩
        have := hr5.setFar (g := w2.heap.size) (u := .slice A5 n5 c5) (reads_ne_box hkb5 hr5)
        exact this.more (by simp [World.setCell]))
      clear hr5 hf5 ht5 tu5 fs5 fd5 hkb5 hkr5 hSne
      go_wp2
      go_roundw
      case rel => exact ⟨i + 1, by go_num, by omega, HFin.out⟩
      case measure => simp [intOf]; omega
    · have hFi : ∀ x : Rw, (decide (fr ≤ x.1)) = (decide (fr ≤ x.1)) := fun _ => rfl
      have HN := Lib.hid HR3.out.rlen
      have hn42 : n < 4398046511104 := by omega
      clear hFi
      go_wp2
      clear cb
      go_loopw [9, 11, 37] (fun v _ j wr => ∃ q : Nat, j = .int .i64 q ∧ q ≤ n ∧ OwnR wr w3.heap.size v ((l.take q).filter fun x => decide (fr ≤ x.1)) ∧ Below w3.heap.size w3 wr) (fun _ _ j _ => n - (intOf j).toNat)
      case atStart => exact ⟨0, rfl, by omega, OwnR.none_ _ _, Below.refl _ _⟩
      case round =>
        obtain ⟨q, rfl, hq, hown, hb4⟩ := hrel
        obtain ⟨w4, rfl⟩ : ∃ w4 : World, w4 = wr := ⟨_, rfl⟩
        have HO4 := Lib.hid hown
        have HB4 := Lib.hid hb4
        clear hown hb4
        by_cases hlq : q < n
        · obtain ⟨b, off, rfl, hbb, hc⟩ := (HR3.out.below HB4.out).rows (by omega)
          obtain ⟨r, hr⟩ : ∃ r, l[q]? = some r := ⟨_, List.getElem?_eq_getElem (by rw [HN.out]; exact hlq)⟩
          obtain ⟨hx, hy⟩ := hc q r hr
          obtain ⟨rk, rv⟩ := r
          simp only at hx hy
          have HT1 : Hid (l.take (q + 1) = l.take q ++ [(rk, rv)]) := Lib.hid (by rw [List.take_add_one, hr]; rfl)
          have hlen : ((l.take q).filter fun x => decide (fr ≤ x.1)).length + 1 ≤ 4398046511104 := by
            have h1 := List.length_filter_le (fun x : Rw => decide (fr ≤ x.1)) (l.take q)
            have h2 := List.length_take_le q l
            omega
          have HL1 := Lib.hid (Nat.le_trans (Nat.mul_le_mul_right 24 hlen) (show 4398046511104 * 24 ≤ 140737488355328 by decide))
          clear hc hr hlen
          by_cases hge : fr ≤ rk
          · have HF1 : Hid ((l.take (q + 1)).filter (fun x => decide (fr ≤ x.1)) = (l.take q).filter (fun x => decide (fr ≤ x.1)) ++ [(rk, rv)]) := Lib.hid (by rw [HT1.out, List.filter_append]; simp [hge])
            go_wp2_with (at_builtin; refine appR (w4.alloc (.cells #[.int .i64 rk, .string rv] 34)) rk rv _ rfl (.tmp 45) (.tmp 47) rfl w3.heap.size _ _ rfl (HO4.out.alloc _) (w4.heap.size + 1) (by simp) rfl HL1.out (by have := HB4.out.size; simp; omega) ?_; intro v5 w5 hown5 hb5 _; have HO5 := Lib.hid hown5; have HB5 := Lib.hid ((HB4.out.alloc HB4.out.size _).trans hb5); clear hown5 hb5)
            go_roundw
            case rel => exact ⟨q + 1, by go_num, by omega, by rw [HF1.out]; exact HO5.out, HB5.out⟩
            case measure => simp [intOf]; omega
          · have HF1 : Hid ((l.take (q + 1)).filter (fun x => decide (fr ≤ x.1)) = (l.take q).filter (fun x => decide (fr ≤ x.1))) := Lib.hid (by rw [HT1.out, List.filter_append]; simp [hge])
            go_wp2
            go_roundw
            case rel => exact ⟨q + 1, by go_num, by omega, by rw [HF1.out]; exact HO4.out.alloc _, HB4.out.alloc HB4.out.size _⟩
            case measure => simp [intOf]; omega
        · have HT1 : Hid (l.take q = l) := Lib.hid (List.take_of_length_le (by rw [HN.out]; omega))
          rw [HT1.out] at HO4
          obtain ⟨A4, c4, rfl, hc4, hr4⟩ := HO4.out.reads
          have HRl := Lib.hid hr4
          have hDl : ∀ b, S3 b → b < w3.heap.size := fun b hb => HC.out.lt HT3.out b (HC.out.sub HT3.out b hb)
          have HFl : Hid (Free S3 A4 (l.filter fun x => decide (fr ≤ x.1)).length) := Lib.hid (free_own HO4.out rfl hDl)
          have HKB4 := Lib.hid (HKB.out.below HB4.out hgl)
          have HKR4 := Lib.hid (HKR.out.below HB4.out (by omega))
          have HT4 := Lib.hid (HC.out.stay HT3.out (Stay.below HB4.out (HC.out.lt HT3.out)))
          have HR4 := Lib.hid ((HR3.out.below HB4.out).more HB4.out.size)
          have HB40 := Lib.hid (HB3.out.trans (HB4.out.mono HB3.out.size))
          have cb4 : w4.cell? ⟨w2.heap.size, 0, none⟩ = some (.slice A n c) := by rw [HKB4.out.cell]; rfl
          clear hr4 hDl
          go_wp2_with fail
          refine (up_any HC.out HP.out w4 T l S3 D3 fr true l A n c HT4.out ⟨hfr1, hfr2⟩ (by rw [HN.out]; omega) (by simp) HR4.out HF3.out hnc).mono ?_
          rintro e w5 ⟨rfl, S5, D5, h5, t5, f5, g5⟩
          have hSne : ∀ b, S3 b → b ≠ w2.heap.size ∧ b ≠ w.heap.size := fun b hb => (HD3.out b (HC.out.sub HT3.out b hb)).2
          have HKB5 := Lib.hid (HKB4.out.turned t5 (fun h => (hSne _ h).1 rfl))
          have HKR5 := Lib.hid (HKR4.out.turned t5 (fun h => (hSne _ h).2 rfl))
          have HT5 := Lib.hid h5
          have HR5 := Lib.hid (HR4.out.turned HF3.out t5)
          have HF5 := Lib.hid (HF3.out.next HR4.out f5)
          have HRl5 := Lib.hid (HRl.out.turned HFl.out t5)
          have HFl5 := Lib.hid (HFl.out.next HRl.out f5)
          have HB5 := Lib.hid (t5.below HB40.out HB40.out.size (fun b hb => (HD3.out b (HC.out.sub HT3.out b hb)).1))
          have HD5 := Lib.hid (from_box g5 HD3.out (by have := HB40.out.size; omega) (by have := HB4.out.size; omega) (by have := HB4.out.size; omega))
          clear h5 t5 f5 g5 hSne cb4
          go_wp2_with fail
          refine (up_any HC.out HP.out w5 T l S5 D5 fr false _ A4 _ c4 HT5.out ⟨hfr1, hfr2⟩ (by rw [HN.out]; omega) (by simp) HRl5.out HFl5.out hc4).mono ?_
          rintro e w6 ⟨rfl, S6, D6, h6, t6, f6, g6⟩
          have hSne : ∀ b, S5 b → b ≠ w2.heap.size ∧ b ≠ w.heap.size := fun b hb => (HD5.out b (HC.out.sub HT5.out b hb)).2
          have HKB6 := Lib.hid (HKB5.out.turned t6 (fun h => (hSne _ h).1 rfl))
          have HKR6 := Lib.hid (HKR5.out.turned t6 (fun h => (hSne _ h).2 rfl))
          have HT6 := Lib.hid h6
          have HR6 := Lib.hid (HR5.out.turned HF5.out t6)
          have HF6 := Lib.hid (HF5.out.next HR5.out f6)
          have HB6 := Lib.hid (t6.below HB5.out HB5.out.size (fun b hb => (HD5.out b (HC.out.sub HT5.out b hb)).1))
          have hs65 := t6.size
          have HD6 := Lib.hid (from_box g6 HD5.out (by have := HB5.out.size; omega) HKB5.out.lt HKR5.out.lt)
          clear h6 t6 f6 g6 hSne
          go_wp2_with fail
          refine (HBk.out.back HC.out w6 T l S6 D6 HT6.out (by rw [HN.out]; omega)).mono ?_
          rintro e w7 ⟨v7, R, S7, D7, rfl, hq7, h7, t7, f7, g7, gr7, rs7⟩
          obtain ⟨gf, pb, rfl, en7, hR7, hq7'⟩ := hq7
          have SQ : Hid (SeqB (.func (.func gf) pb #[]) l.reverse R w7) := Lib.hid ⟨gf, pb, rfl, en7, hR7, hq7'⟩
          have EN := Lib.hid en7
          have hSne : ∀ b, S6 b → b ≠ w2.heap.size ∧ b ≠ w.heap.size := fun b hb => (HD6.out b (HC.out.sub HT6.out b hb)).2
          have HKB7 := Lib.hid (HKB6.out.turned t7 (fun h => (hSne _ h).1 rfl))
          have HKR7 := Lib.hid (HKR6.out.turned t7 (fun h => (hSne _ h).2 rfl))
          have HR7 := Lib.hid (HR6.out.turned HF6.out t7)
          have HB7 := Lib.hid (t7.below HB6.out HB6.out.size (fun b hb => (HD6.out b (HC.out.sub HT6.out b hb)).1))
          have hfn := fun (W : World) (gf : Nat) (cs : Array Value) => run_eql_func_nil (P := Try.prog) W 37 (.func gf) cs #[] Try.underlying37
          have cb7 : w7.cell? ⟨w2.heap.size, 0, none⟩ = some (.slice A n c) := by rw [HKB7.out.cell]; rfl
          have hg7 := HKB7.out.lt
          clear hq7' h7 t7 f7 g7 gr7 rs7 hSne en7 hR7 hs65
          go_wp2
          have hat := Blk.new w7 3 #[.int .i64 (n : Int)]
          obtain ⟨W1, hW1⟩ : ∃ W1, W1 = w7.alloc (.cells #[.int .i64 (n : Int)] 3) := ⟨_, rfl⟩
          obtain ⟨x0, hx0⟩ : ∃ x0, x0 = w7.heap.size := ⟨_, rfl⟩
          have hb1 : Below w7.heap.size w7 W1 := hW1 ▸ (Below.refl _ _).alloc (Nat.le_refl _) _
          have hxl : x0 < W1.heap.size := by rw [hW1, hx0]; simp
          rw [← hW1] at hat ⊢
          rw [← hx0] at hat hb1 hg7 ⊢
          have HKB1' := Lib.hid (HKB7.out.below hb1 hg7)
          have HKR1' := Lib.hid (HKR7.out.below hb1 (by omega))
          have HR1' := Lib.hid ((HR7.out.below (hx0 ▸ hb1)).more (B' := x0) (by rw [hx0]; exact Nat.le_refl _))
          have SQ1 := Lib.hid (SQ.out.stay (Stay.below hb1 (fun b hb => by have := SQ.out.lt b hb; rw [hx0]; exact this)))
          have HRx : Hid (∀ b, R b → b < x0) := Lib.hid fun b hb => by have := SQ.out.lt b hb; rw [hx0]; exact this
          have HB1' := Lib.hid (HB7.out.trans (hb1.mono (by have := HB7.out.size; omega)))
          have HAt := Lib.hid hat
          clear hW1 hx0 hb1 hat cb7
          refine (wpIn_wide (n := 9)).1 ?_
          refine' range_bound (α := Rw) (gf := gf) (pb := pb) (lb := #[]) rfl EN.out
            (SQ1.out.at_ _) (fun h k => h.trans k) (stay_b SQ1.out.lt) (fun _ => rfl)
            (fun pre W => (pre <+: l.reverse ∧ Blk W x0 3 #[.int .i64 ((n : Int) - (pre.length : Nat))]) ∧ Only W1 W x0)
            (fun c pre W => c = .ret ∧ ¬ pre <+: l.reverse)
            (OwnFrom.and (Own.from (fun s A B row hs hg hr => ⟨hs.1, blk_kept hs.2 hg hr⟩) _) (own_only W1 x0))
            (fun c => fun s A B row hs hg hr => hs)
            ⟨⟨⟨l.reverse, rfl⟩, by simpa using HAt.out⟩, Only.refl _ _⟩
            _ ?assign ?body ?done ?stop
          case assign =>
            intro l x W K hK
            gi_wp2
            exact hK
          case body =>
            rintro lp pre ⟨x1, x2⟩ V hlp hlr ⟨⟨hpre, hao⟩, hOnly⟩ hlt
            clear hlr
            have bl : ∀ k, k < x0 → V.heap[k]? = W1.heap[k]? := fun k hk => hOnly.block k (by omega) (fun e => by injection e with e; omega)
            have kb : Blk V w2.heap.size 26 #[.slice A n c] := (bl _ hg7).trans HKB1'.out
            have kr : Blk V w.heap.size 4 #[.bool false] := (bl _ (by omega)).trans HKR1'.out
            have hrd : Reads V x0 2 A n (rws l) := HR1'.out.keep (fun p hp => World.cell?_of_block (bl _ hp))
            obtain ⟨q, hq⟩ : ∃ q, q = pre.length := ⟨_, rfl⟩
            have HQ := Lib.hid hq
            rw [← hq] at hao hlt
            rw [List.length_reverse, HN.out] at hlt
            obtain ⟨z, hz⟩ : ∃ z : Nat, n = q + 1 + z := ⟨n - q - 1, by omega⟩
            have e1 : ((n : Int) - (q : Int)) = (z : Int) + 1 := by omega
            rw [e1] at hao
            have cat : V.cell? ⟨x0, 0, none⟩ = some (.int .i64 ((z : Int) + 1)) := by rw [hao.cell]; rfl
            have fat : V.frozen? ⟨x0, 0, none⟩ = false := hao.frozen 0
            have cb : V.cell? ⟨w2.heap.size, 0, none⟩ = some (.slice A n c) := by rw [kb.cell]; rfl
            have cr : V.cell? ⟨w.heap.size, 0, none⟩ = some (.bool false) := by rw [kr.cell]; rfl
            have frr : V.frozen? ⟨w.heap.size, 0, none⟩ = false := kr.frozen 0
            obtain ⟨b, off, rfl, hbb, hcell⟩ := hrd.rows (by omega)
            obtain ⟨r2, hr2'⟩ : ∃ r2, l[z]? = some r2 := ⟨_, List.getElem?_eq_getElem (by rw [HN.out]; omega)⟩
            obtain ⟨c1, c2⟩ := hcell z r2 hr2'
            have HV : Hid (l.reverse[q]? = some r2) := Lib.hid (by rw [List.getElem?_reverse (by rw [HN.out]; omega), HN.out, show n - 1 - q = z by omega]; exact hr2')
            have ew : (z : Int) + 1 - 1 = (z : Int) := by omega
            have hzn : (z : Int) < (n : Int) := by omega
            have hne1 : x0 ≠ w2.heap.size := by omega
            have hne2 : x0 ≠ w.heap.size := by omega
            have hnb : x0 ≠ b := by omega
            have hne3 : w2.heap.size ≠ x0 := by omega
            have hne4 : w.heap.size ≠ x0 := by omega
            have hnb2 : b ≠ x0 := by omega
            have HPr := Lib.hid hpre
            have HAo := Lib.hid hao
            obtain ⟨rk, rv⟩ := r2
            simp only at c1 c2
            have hlen : ((n : Int) - ((pre ++ [(x1, x2)]).length : Nat)) = (z : Int) := by rw [List.length_append, ← HQ.out]; simp; omega
            have HLn := Lib.hid hlen
            clear hpre hao hcell hr2' hq kb kr hrd bl hfn hz e1 hlen
            by_cases h1 : rk = x1
            · have t1 : (rk != x1) = false := by simp [h1]
              by_cases h2 : rv = x2
              · have HI : Hid (pre ++ [(x1, x2)] <+: l.reverse) := Lib.hid (pre_more HPr.out (by rw [← HQ.out]; exact HV.out) (by rw [h1, h2]))
                subst h2
                clear h1
                gi_wp2
                exact ⟨KeepsAll.setCell _ (by omega) _, stay_set (fun h => by have := HRx.out _ h; omega), ⟨⟨HI.out, by rw [HLn.out]; exact blk_put HAo.out _⟩, hOnly.set _ _⟩⟩
              · have HI : Hid (¬ pre ++ [(x1, x2)] <+: l.reverse) := Lib.hid (pre_wrong (by rw [← HQ.out]; exact HV.out) (fun e => h2 (congrArg Prod.snd e).symm))
                have t2 := text_ne h2
                clear h1 h2
                gi_wp2
                exact ⟨(KeepsAll.setCell _ (by omega) _).trans (KeepsAll.setCell _ (by omega) _), rfl, HI.out⟩
            · have t1 : (rk != x1) = true := by simp [h1]
              have HI : Hid (¬ pre ++ [(x1, x2)] <+: l.reverse) := Lib.hid (pre_wrong (by rw [← HQ.out]; exact HV.out) (fun e => h1 (congrArg Prod.fst e).symm))
              clear h1
              gi_wp2
              exact ⟨(KeepsAll.setCell _ (by omega) _).trans (KeepsAll.setCell _ (by omega) _), rfl, HI.out⟩
          case stop =>
            rintro D cc pre V hD hpre ⟨rfl, hw⟩ hK
            exact absurd hpre hw
          case done =>
            rintro D ys V hD rfl ⟨⟨hpre, hao⟩, hOnly⟩ hK
            have bl : ∀ k, k < x0 → V.heap[k]? = W1.heap[k]? := fun k hk => hOnly.block k (by omega) (fun e => by injection e with e; omega)
            have kr : Blk V w.heap.size 4 #[.bool false] := (bl _ (by omega)).trans HKR1'.out
            rw [List.length_reverse, HN.out] at hao
            have e0 : ((n : Int) - (n : Int)) = 0 := by omega
            rw [e0] at hao
            have cat : V.cell? ⟨x0, 0, none⟩ = some (.int .i64 0) := by rw [hao.cell]; rfl
            have cr : V.cell? ⟨w.heap.size, 0, none⟩ = some (.bool false) := by rw [kr.cell]; rfl
            have frr : V.frozen? ⟨w.heap.size, 0, none⟩ = false := kr.frozen 0
            have KR := Lib.hid kr
            have HBV : Hid (Below w.heap.size w V) := Lib.hid (Only.below HB1'.out hOnly (by omega) HB1'.out.size)
            have hm0 : Marks (w.heap.size + 1) [] V := trivial
            have HMk := Lib.hid (hm0.cons (D := D) (fun d hd => by cases hd) (by omega) hK)
            clear kr hao hOnly hpre hK hfn bl hm0
            go_wp2
            have kr2 := blk_put KR.out (.bool true)
            have ho : Only V (V.setCell ⟨w.heap.size, 0, none⟩ (.bool true)) w.heap.size := (Only.refl _ _).set _ _
            refine Marks.leave (B := w.heap.size + 1) _ _ (HMk.out.only ho KR.out) (fun W' hb => ?_)
            have c5 : W'.cell? ⟨w.heap.size, 0, none⟩ = some (.bool true) := by
              rw [hb.cell (p := ⟨w.heap.size, 0, none⟩) (by simp), kr2.cell]; rfl
            refine ⟨.bool true, ?_, rfl, (HBV.out.setCell (p := ⟨w.heap.size, 0, none⟩) (by simp) _).trans (hb.mono (by omega))⟩
            simp [results, Try.f4, go_sem, c5]
end Go.Proofs.Ytgkmlggcmmdafaa.Pk
