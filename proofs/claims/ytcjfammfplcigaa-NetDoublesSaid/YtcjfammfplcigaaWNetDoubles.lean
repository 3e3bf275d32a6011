/- The walk of the law NetDoubles. -/
import Derived.Test.YtcjfammfplcigaaNtAll
namespace Go.Proofs.Ytcjfammfplcigaa.Pk
open Go.RowKit Go.Shelf Go.Proofs.Ytcjfammfplcigaa.Ar Go.Proofs.Ytcjfammfplcigaa.Nt
set_option linter.unusedVariables false
attribute [local go_sem] Oper.semAt_some encN
set_option maxRecDepth 100000 in
set_option maxHeartbeats 16000000 in
theorem law_NetDoubles {Nb : Nat → World → Nat → Li → (Nat → Prop) → (Nat → Prop) → Prop} (C : NetC Nb) (a : Option Addr) (n c : Nat) (ps : List Piece) (i : Int) (w : World) (h : ArgL w a n c ps) (hn : n ≤ 140737488351232) (hps : ∀ p ∈ ps, p.n ≤ 140737488351232) (hi : -9223372036854775808 ≤ i ∧ i ≤ 9223372036854775807) :
    Calls Try.prog 6 #[.slice a n c, .int .i64 i] w fun e w' => e = .returned (.bool true) ∧ Below w.heap.size w w' := by
  obtain ⟨hr, hnc, hok⟩ := h
  have HC := Lib.hid C
  have HR := Lib.hid hr
  have HK := Lib.hid hok
  have HPn := Lib.hid hps
  have HL : Hid (ps.length = n) := Lib.hid hr.len
  obtain ⟨hi1, hi2⟩ := hi
  clear C hr hok hps
  refine (callsIn_wide (n := 9)).1 ?_
  refine callsIn_of_wp_marks Try.func6 rfl trivial ?_ rfl
  simp only [Try.ntmps6, List.size_toArray, List.length_cons, List.length_nil, Nat.reduceAdd, Nat.reduceSub, Array.replicate_succ, Array.replicate_zero, List.push_toArray, List.append_toArray, List.nil_append, List.cons_append]
  refine wpIn_wide.2 ?_
  obtain ⟨u, hu'⟩ : ∃ u, u = w.heap.size := ⟨_, rfl⟩
  obtain ⟨W0, hW0⟩ : ∃ W0, W0 = w.alloc (.cells #[.bool false] 4) := ⟨_, rfl⟩
  have HB0 : Hid (Below u w W0) := Lib.hid (by
    rw [hW0, hu']
    exact (Below.refl _ w).alloc (Nat.le_refl _) _)
  have HK0 : Hid (Blk W0 u 4 #[.bool false]) := Lib.hid (by rw [hW0, hu']; exact Blk.new w _ _)
  have HU := Lib.hid hu'
  go_wp2_with fail
  rw [← hW0, ← hu']
  clear hW0 hu'
  refine (wakes_any HC.out _).mono ?_
  rintro e w1 ⟨rfl, hb1⟩
  have HK1 : Hid (Blk w1 u 4 #[.bool false]) := Lib.hid (HK0.out.below hb1 HK0.out.lt)
  have HB1 : Hid (Below u w w1) := Lib.hid (HB0.out.trans (hb1.mono (Nat.le_of_lt HK0.out.lt)))
  clear hb1 HK0 HB0
  have hu1 : u < w1.heap.size := HK1.out.lt
  have c1 : w1.cell? ⟨u, 0, none⟩ = some (.bool false) := by rw [HK1.out.cell]; rfl
  have f1 : w1.frozen? ⟨u, 0, none⟩ = false := HK1.out.frozen 0
  rcases Nat.lt_or_ge 400 n with hbig | hbig
  · have hb : ¬ ((n : Int) ≤ 400) := by omega
    go_wp2
    have k9 : OnlyS (fun b => b = u) w1 (w1.setCell ⟨u, 0, none⟩ (.bool true)) := OnlyS.set (S := fun b => b = u) (OnlyS.refl (fun b => b = u) w1) (x := u) rfl (.bool true)
    have hk9 := blk_put HK1.out (.bool true)
    have hB10 := OnlyS.bel HB1.out k9 (fun b hb => by omega) (Nat.le_of_lt (show u < w1.heap.size from HK1.out.lt))
    refine Marks.leave (B := (u + 1)) [] _ trivial (fun W' hb => ?_)
    have c5 : W'.cell? ⟨u, 0, none⟩ = some (.bool true) := by rw [hb.cell (p := ⟨u, 0, none⟩) (show u < (u + 1) by omega), hk9.cell]; rfl
    refine ⟨.bool true, by simp [results, Try.f6, go_sem, c5], rfl, ?_⟩
    rw [← HU.out]
    exact hB10.trans (hb.mono (by omega))
  go_wp2_with fail
  refine (AtNt.new HC.out _).mono ?_
  rintro e w2 ⟨T, rfl, h2⟩
  have H2 := Lib.hid h2
  have HB3 : Hid (∀ {kd l} W, AtNt (Nb kd) w1 T l W → Below w.heap.size w W) := Lib.hid (fun W h => by
    have := HB1.out
    rw [HU.out] at this
    exact this.trans (h.bel.mono this.size))
  have HS3 : Hid (∀ {kd l} W, AtNt (Nb kd) w1 T l W → w.heap.size ≤ W.heap.size) := Lib.hid (fun W h => (HB3.out W h).size)
  have HSh : Hid (∀ k, Short LM (Piece.bytes (ps.take k))) := Lib.hid (fun k => short_take HR.out HPn.out k)
  have HFw : Hid (∀ k, (Piece.bytes (ps.take k)).length < 512) := Lib.hid (fun k => by have := HL.out; simp [Piece.bytes]; omega)
  have HUS := Lib.hid h2.bel.size
  clear h2
  go_wp2
  go_loopw [7, 23] (fun _ j wr => ∃ (k : Nat), j = .int .i64 k ∧ k ≤ n ∧ AtNt (Nb k) w1 T (Piece.bytes (ps.take k)) wr) (fun _ j _ => n - (intOf j).toNat)
  case atStart => exact ⟨0, rfl, by omega, H2.out⟩
  case round =>
    obtain ⟨k, rfl, hk, hat⟩ := hrel
    obtain ⟨w3, rfl⟩ : ∃ w3 : World, w3 = wr := ⟨_, rfl⟩
    have H3 := Lib.hid hat
    have hs3 := hat.bel.size
    clear hat
    by_cases hlt : k < n
    · obtain ⟨g, off, p, rfl, hpk, hpm, hgb, hx3⟩ := (HR.out.below (HB3.out w3 H3.out)).at_ hlt
      have HPr : Hid (Reads w3 w3.heap.size 1 p.a p.n (bts p.l)) := Lib.hid (((HR.out.2 p hpm).1.below (HB3.out w3 H3.out)).more (HS3.out w3 H3.out))
      have HPc : Hid (p.n ≤ p.c) := Lib.hid (HK.out p hpm).1
      have HPm := Lib.hid (HPn.out p hpm)
      have HSd := Lib.hid (H3.out.send HC.out (km (by omega)) (A := p.a) (n := p.n) (c := p.c) (HSh.out k) HPr.out HPc.out (Nat.le_trans HPm.out (by show _ ≤ 140737488355328; omega)) (HK.out p hpm).2)
      have HNx := Lib.hid (bytes_next hpk)
      clear hpk hpm
      go_wp2_with fail
      refine HSd.out.mono ?_
      rintro e w4 ⟨rfl, h4⟩
      rw [send_few (HFw.out k), ← HNx.out] at h4
      have H4 := Lib.hid h4
      clear h4
      go_wp2
      go_roundw
      case rel => exact ⟨k + 1, by go_num, by omega, H4.out⟩
      case measure => simp [intOf]; omega
    · obtain rfl : k = n := by omega
      rw [List.take_of_length_le (Nat.le_of_eq HL.out)] at H3
      have HBw := Lib.hid (HB3.out w3 H3.out)
      have hs4 : u < w3.heap.size := Nat.lt_of_lt_of_le hu1 hs3
      have HDb := Lib.hid (H3.out.double HC.out (km (by omega)) i (by have := HSh.out k; rwa [List.take_of_length_le (Nat.le_of_eq HL.out)] at this) hi1 hi2)
      have HFb : Hid ((Piece.bytes ps).length = k) := Lib.hid (by rw [← HL.out]; simp [Piece.bytes])
      rcases Int.lt_or_le i 0 with hneg | hpos
      · have HI : Hid (inN (Piece.bytes ps) i = false) := Lib.hid (by unfold inN; rw [HFb.out]; simp; omega)
        have HJ : Hid (dblB (Piece.bytes ps) i = false) := Lib.hid (by unfold dblB; rw [HI.out]; simp)
        rw [HJ.out] at HDb
        go_wp2_with fail
        refine HDb.out.mono ?_
        rintro e w5 ⟨rfl, h5⟩
        have H5 := Lib.hid h5
        clear h5 HDb
        have HB5 := Lib.hid (HB3.out w5 H5.out)
        have HR5 := Lib.hid ((HR.out.below HB5.out).more HB5.out.size)
        have hs5 : u < w5.heap.size := Nat.lt_of_lt_of_le hu1 H5.out.bel.size
        have HK5 := Lib.hid (HK1.out.below H5.out.bel HK1.out.lt)
        go_wp2_with (first
          | (at_builtin; refine appPE w5 rfl (.tmp 44) (.tmp 45) rfl w5.heap.size rfl w5.heap.size a c ps k rfl HR5.out.1 (Nat.le_refl _) (by omega) (Nat.le_refl _) ?_; intro v6 w6 hown6 hb6; have hs6 := hb6.size; obtain ⟨A6, c6, hv6, hc6, hr6⟩ := hown6.reads; rw [HL.out] at hv6 hc6 hr6; subst hv6; have HO6 := Lib.hid hown6; have HB6 := Lib.hid hb6; have HR6 := Lib.hid hr6; clear hown6 hb6 hr6)
          | fail)
        obtain ⟨xb, hxb⟩ : ∃ xb, xb = w6.heap.size := ⟨_, rfl⟩
        obtain ⟨W7, hW7⟩ : ∃ W7, W7 = w6.alloc (.cells #[.slice A6 k c6] 28) := ⟨_, rfl⟩
        obtain ⟨A7, hA7⟩ : ∃ A7, A7 = A6 := ⟨_, rfl⟩
        obtain ⟨c7, hc7⟩ : ∃ c7, c7 = c6 := ⟨_, rfl⟩
        obtain ⟨qs, hqs⟩ : ∃ qs, qs = ps := ⟨_, rfl⟩
        have HPu : Hid (Blk W7 xb 28 #[.slice A7 k c7] ∧ OwnP W7 w5.heap.size (.slice A7 k c7) qs ∧ Below w5.heap.size w5 W7) := Lib.hid (by
          have hba : Below w6.heap.size w6 W7 := hW7 ▸ (Below.refl _ _).alloc (Nat.le_refl _) _
          rw [hA7, hc7, hqs]
          exact ⟨by rw [hW7, hxb]; exact Blk.new w6 _ _, HO6.out.next hba, HB6.out.trans (hba.mono hs6)⟩)
        have HQp : Hid (∀ p ∈ qs, p ∈ ps) := Lib.hid (by rw [hqs]; exact fun p h => h)
        have HQb : Hid (Piece.bytes qs = dblN (Piece.bytes ps) i) := Lib.hid (by rw [hqs]; unfold dblN; rw [HI.out]; rfl)
        have hxb7 : w5.heap.size ≤ xb := by omega
        have hql : qs.length ≤ 401 := by rw [hqs, HL.out]; omega
        have hw7s : w6.heap.size + 1 = W7.heap.size := by rw [hW7, World.size_alloc]
        rw [← hW7, ← hA7, ← hc7, hw7s, ← hxb]
        clear hW7 hA7 hc7 hqs hw7s hxb
        have hs9 : w5.heap.size ≤ W7.heap.size := HPu.out.2.2.size
        have hxw : xb < W7.heap.size := HPu.out.1.lt
        have HSh5 : Hid (Short LM (dblN (Piece.bytes ps) i)) := Lib.hid (Short.dbl (by have := HSh.out k; rwa [List.take_of_length_le (Nat.le_of_eq HL.out)] at this) _)
        obtain ⟨l5, hl5⟩ : ∃ l5, l5 = dblN (Piece.bytes ps) i := ⟨_, rfl⟩
        rw [← hl5] at H5 HQb HSh5
        obtain ⟨x8, hx8⟩ : ∃ x8, x8 = W7.heap.size := ⟨_, rfl⟩
        obtain ⟨W8, hW8⟩ : ∃ W8, W8 = W7.alloc (.cells #[.int .i64 0] 3) := ⟨_, rfl⟩
        have HKk8 : Hid (Blk W8 x8 3 #[.int .i64 0]) := Lib.hid (by rw [hW8, hx8]; exact Blk.new W7 _ _)
        have HB78 : Hid (Below x8 W7 W8) := Lib.hid (by rw [hW8, hx8]; exact (Below.refl _ _).alloc (Nat.le_refl _) _)
        have HAll := Lib.hid (H5.out.all HC.out (W := W8) HSh5.out (HPu.out.2.2.trans (HB78.out.mono (by omega))))
        have hx8l : x8 < W8.heap.size := HKk8.out.lt
        rw [← hW8, ← hx8]
        have hxx : xb < x8 := by omega
        have h58 : w5.heap.size ≤ x8 := by omega
        have HX8 := Lib.hid hx8
        have hbk : k ≤ 401 := by have := (own_rdl HPu.out.2.1 HR.out (HB5.out.trans (HPu.out.2.2.mono HB5.out.size)) HQp.out).2.1; omega
        clear hW8 hl5 hx8
        refine HAll.out.mono ?_
        rintro e w9 ⟨v9, R, rfl, hseq, hb9, hR⟩
        have HB79 : Hid (Below x8 W7 w9) := Lib.hid (HB78.out.trans (hb9.mono (by omega)))
        have HKk9 : Hid (Blk w9 x8 3 #[.int .i64 0]) := Lib.hid (HKk8.out.below hb9 HKk8.out.lt)
        have HRx : Hid (¬ R x8) := Lib.hid (fun h => by rcases hR _ h with h1 | h1 <;> omega)
        have hx9 : x8 < w9.heap.size := HKk9.out.lt
        have SE9 := Lib.hid hseq
        have HU9 : Hid (Below x8 W7 w9) := HB79
        clear hseq hb9 hR HAll HKk8 HB78
        obtain ⟨gf, pb, lb, hv9, en, hq1, hq2⟩ := SE9.out
        clear hq1 hq2
        subst hv9
        have EN := Lib.hid en
        clear en
        go_wp2
        obtain ⟨S, hS⟩ : ∃ S : Nat → Prop, S = fun b => b = x8 := ⟨_, rfl⟩
        have S1 : S x8 := by rw [hS]
        have HSe : Hid (∀ b, S b → b = x8) := Lib.hid (fun b h => by rw [hS] at h; exact h)
        clear hS
        refine (wpIn_wide (n := 9)).1 ?_
        refine' range_boundWS (α := NtX) (gf := gf) (pb := pb) (lb := lb) rfl EN.out (SE9.out.at_ _) (fun h k => h.trans k) (stay_b SE9.out.lt) (fun _ => rfl) OkN.put
          (fun pre W => Blk W x8 3 #[.int .i64 (pre.length : Nat)] ∧ OnlyS S w9 W)
          (fun cc pre W => False)
          (Std.and (std_blk (x := x8) (by omega)) (std_onlyS w9 S))
          (fun cc => fun s A B hs ht => hs)
          ⟨HKk9.out, OnlyS.refl _ _⟩
          _ ?assign ?body ?done ?stop
        case stop =>
          rintro D3 cc pre V hD3 hpre hF hK
          exact hF.elim
        case assign =>
          intro lp y V K hK
          gi_wp2
          exact hK
        case body =>
          rintro lp pre ⟨yat, yA, yn, yc, yp⟩ V hlp hrec ⟨hbn, hO⟩ ⟨B', hB', hok⟩
          obtain ⟨hqlt, hyat, hyp⟩ := hok.next
          obtain ⟨q', hq'⟩ : ∃ q', q' = pre.length := ⟨_, rfl⟩
          rw [← hq'] at hbn hqlt hyat hyp
          obtain rfl : q' = yat := hyat.symm
          have HBV : Hid (Below x8 W7 V) := Lib.hid (OnlyS.bel HB79.out hO (fun b hb => by have := HSe.out b hb; omega) (by omega))
          have HRd := Lib.hid (own_rdl (HPu.out.2.1.stay (fun g e => HBV.out.block g (by have := HPu.out.2.1.lt g e; have := HX8.out; omega))) HR.out (HB5.out.trans ((HPu.out.2.2.trans (HBV.out.mono (by omega))).mono HB5.out.size)) HQp.out)
          have hqn : q' < k := by have h1 := HRd.out.2.1; have h2 := congrArg List.length HQb.out; simp [Piece.bytes] at h2; omega
          obtain ⟨b', off', p', rfl, hpk', hpm', hgb', hx'⟩ := HRd.out.1.at_ hqn
          have HPk' := Lib.hid hpk'
          have HYp : Hid (yp = p'.l) := Lib.hid (by rw [← HQb.out, bytes_get hpk'] at hyp; injection hyp with hyp; exact hyp.symm)
          have kb := HPu.out.1.below HBV.out (by omega)
          have cn : V.cell? ⟨x8, 0, none⟩ = some (.int .i64 (q' : Int)) := by rw [hbn.cell]; rfl
          have fn : V.frozen? ⟨x8, 0, none⟩ = false := hbn.frozen 0
          have cb : V.cell? ⟨xb, 0, none⟩ = some (.slice (some ⟨b', off', none⟩) k c7) := by rw [kb.cell]; rfl
          have HYr := Lib.hid (owr_reads hok.2.1)
          have HYl := Lib.hid (owr_len hok.2.1)
          have HPr' := Lib.hid (HRd.out.1.2 p' hpm')
          have HBn := Lib.hid hbn
          have HOs := Lib.hid hO
          have HQq := Lib.hid hq'
          have hnc7 := HRd.out.2.2
          clear hbn hO hq' kb hok hpk' hpm' hyp HRd
          have HSm := Lib.hid (same_any yA p'.a yn yc p'.n p'.c yp p'.l V _ _ HYr.out HPr'.out.1 (by have h1 : yp.length = yn := HYl.out.1; have h2 : p'.l.length = p'.n := (by simpa using HPr'.out.1.1); have h3 : p'.n ≤ 4611686018427387904 := HPr'.out.2; rw [HYp.out] at h1; omega))
          rw [decide_eq_true HYp.out] at HSm
          gi_wp2_with (refine ⟨trivial, ?_⟩; refine (CallsIn.inRound lp (callsIn_wide.2 HSm.out)).mono ?_; rintro e V1 ⟨rfl, z, hz⟩; have cn1 : V1.cell? ⟨x8, 0, none⟩ = some (.int .i64 (q' : Int)) := hz ▸ cn; have fn1 : V1.frozen? ⟨x8, 0, none⟩ = false := hz ▸ fn; have HZ := Lib.hid hz; clear hz)
          refine ⟨KeepsAll.trans (HZ.out ▸ (KeepsAll.refl _ V).drewN z) (KeepsAll.setCell _ hx9 _), Stay.trans (HZ.out ▸ Stay.refl_ _ _) (stay_setAt HRx.out), ?_, (HZ.out ▸ HOs.out.drewN z).set S1 _⟩
          have h1 : Blk V1 x8 3 #[.int .i64 (q' : Int)] := HZ.out ▸ HBn.out
          have := blk_put h1 (.int .i64 ((q' : Int) + 1))
          rw [List.length_append, ← HQq.out]; exact this
        case done =>
          rintro D3 ys V hD3 hys ⟨hbn, hO⟩ hK
          have hyl : ys.length = k := by
            have h1 := congrArg List.length hys
            have h2 := congrArg List.length HQb.out
            have h3 := (own_rdl HPu.out.2.1 HR.out (HB5.out.trans (HPu.out.2.2.mono HB5.out.size)) HQp.out).2.1
            simp [Piece.bytes] at h1 h2
            omega
          have hLen5 : l5.length = k := by
            have h1 := congrArg List.length hys
            simp at h1
            omega
          have HLn := Lib.hid hLen5
          rw [hyl] at hbn
          have hmk : Marks w9.heap.size ({ target := .collected D3, args := #[] } :: []) V := Marks.cons (ds := []) trivial (fun d hd => by cases hd) hD3 hK
          have HMk := Lib.hid hmk
          have HBV : Hid (Below x8 W7 V) := Lib.hid (OnlyS.bel HB79.out hO (fun b hb => by have := HSe.out b hb; omega) (by omega))
          have HBV5 := Lib.hid (HPu.out.2.2.trans (HBV.out.mono h58))
          have HBVw := Lib.hid (HB5.out.trans (HBV5.out.mono HB5.out.size))
          have HBuV : Hid (Below u w V) := Lib.hid (by have := HBVw.out; rw [← HU.out] at this; exact this)
          have HKV : Hid (Blk V u 4 #[.bool false]) := Lib.hid (HK5.out.below HBV5.out hs5)
          have HLn5 := Lib.hid (fun z => (H5.out.next HC.out HBV5.out).drewN HC.out z |>.len HC.out)
          have kb := HPu.out.1.below HBV.out (by omega)
          have cn : V.cell? ⟨x8, 0, none⟩ = some (.int .i64 (k : Int)) := by rw [hbn.cell]; rfl
          have cb : V.cell? ⟨xb, 0, none⟩ = some (.slice A7 k c7) := by rw [kb.cell]; rfl
          have cu : V.cell? ⟨u, 0, none⟩ = some (.bool false) := by rw [HKV.out.cell]; rfl
          have fu : V.frozen? ⟨u, 0, none⟩ = false := HKV.out.frozen 0
          have huV : u < V.heap.size := HKV.out.lt
          have HBn := Lib.hid hbn
          have HKb := Lib.hid kb
          clear hbn hO hK hmk hys hyl hLen5 kb
          go_wp2
          have e7 : decide (l5.length = k) = true := decide_eq_true HLn.out
          have hx8V : x8 < V.heap.size := HBn.out.lt
          have hxbV : xb < V.heap.size := HKb.out.lt
          have hx8u : x8 ≠ u := by omega
          have hxbu : xb ≠ u := by omega
          refine wp_region_noPanic ?_
          go_region_held3 (fun w' => w'.cell? ⟨x8, 0, none⟩ = some (.int .i64 (k : Int)) ∧ w'.cell? ⟨xb, 0, none⟩ = some (.slice A7 k c7)) (first | exact ⟨cn, cb⟩ | exact Z1 | exact Z6 | go_keep) (first | (go_at_call 19; go_must (refine (HLn5.out 1).mono ?_; rw [HLn.out]; rintro e w10 ⟨rfl, hb10⟩; have HC10 : Hid (Below V.heap.size V w10) := Lib.hid ⟨hb10.os, hb10.tape, hb10.output, hb10.size, hb10.block⟩; have Z1 : w10.cell? ⟨x8, 0, none⟩ = some (.int .i64 (k : Int)) ∧ w10.cell? ⟨xb, 0, none⟩ = some (.slice A7 k c7) := ⟨(HC10.out.cell (p := ⟨x8, 0, none⟩) hx8V).trans cn, (HC10.out.cell (p := ⟨xb, 0, none⟩) hxbV).trans cb⟩; have cu10 : w10.cell? ⟨u, 0, none⟩ = some (.bool false) := (HC10.out.cell (p := ⟨u, 0, none⟩) huV).trans cu; have HK10 := Lib.hid (HKV.out.below HC10.out huV); have fu10 : w10.frozen? ⟨u, 0, none⟩ = false := HK10.out.frozen 0; have Z6 : (w10.setCell ⟨u, 0, none⟩ (.bool true)).cell? ⟨x8, 0, none⟩ = some (.int .i64 (k : Int)) ∧ (w10.setCell ⟨u, 0, none⟩ (.bool true)).cell? ⟨xb, 0, none⟩ = some (.slice A7 k c7) := ⟨(by rw [((HBn.out.below HC10.out hx8V).far (p := ⟨u, 0, none⟩) (by simpa using hx8u) (.bool true)).cell]; rfl), (by rw [((HKb.out.below HC10.out hxbV).far (p := ⟨u, 0, none⟩) (by simpa using hxbu) (.bool true)).cell]; rfl)⟩; clear hb10)))
          all_goals refine NoPanic.normal ?_
          all_goals go_wp2
          all_goals
            have k9 : OnlyS (fun b => b = u) w10 (w10.setCell ⟨u, 0, none⟩ (.bool true)) := OnlyS.set (S := fun b => b = u) (OnlyS.refl (fun b => b = u) w10) (x := u) rfl (.bool true)
            have hk9 := blk_put HK10.out (.bool true)
            have hB10 := OnlyS.bel (HBuV.out.trans (HC10.out.mono (Nat.le_of_lt huV))) k9 (fun b hb => by omega) (Nat.le_of_lt (show u < w10.heap.size from HK10.out.lt))
            refine Marks.leave (B := w9.heap.size) _ _ (OnlyS.marks (HMk.out.below HC10.out) k9 (fun b hb => ⟨_, _, (show Blk w10 b 4 #[.bool false] by rw [hb]; exact HK10.out)⟩)) (fun W' hb => ?_)
            have c5 : W'.cell? ⟨u, 0, none⟩ = some (.bool true) := by rw [hb.cell (p := ⟨u, 0, none⟩) (show u < w9.heap.size by omega), hk9.cell]; rfl
            refine ⟨.bool true, by simp [results, Try.f6, go_sem, c5], rfl, ?_⟩
            rw [← HU.out]
            exact hB10.trans (hb.mono (by omega))
      rcases Nat.lt_or_ge i.toNat k with hin | hout
      · have HI : Hid (inN (Piece.bytes ps) i = true) := Lib.hid (by unfold inN; rw [HFb.out]; simp; omega)
        have HJ : Hid (dblB (Piece.bytes ps) i = true) := Lib.hid (by unfold dblB; rw [HI.out]; simp; rw [HFb.out]; omega)
        rw [HJ.out] at HDb
        obtain ⟨q, rfl⟩ : ∃ q : Nat, i = (q : Int) := ⟨i.toNat, by omega⟩
        rw [Int.toNat_natCast] at hin
        go_wp2_with fail
        refine HDb.out.mono ?_
        rintro e w5 ⟨rfl, h5⟩
        have H5 := Lib.hid h5
        clear h5 HDb
        have HB5 := Lib.hid (HB3.out w5 H5.out)
        have HR5 := Lib.hid ((HR.out.below HB5.out).more HB5.out.size)
        have hs5 : u < w5.heap.size := Nat.lt_of_lt_of_le hu1 H5.out.bel.size
        have HK5 := Lib.hid (HK1.out.below H5.out.bel HK1.out.lt)
        go_wp2_with (first
          | (at_builtin; refine appPE w5 rfl (.tmp 44) (.tmp 45) rfl w5.heap.size rfl w5.heap.size a c ps k rfl HR5.out.1 (Nat.le_refl _) (by omega) (Nat.le_refl _) ?_; intro v6 w6 hown6 hb6; have hs6 := hb6.size; obtain ⟨A6, c6, hv6, hc6, hr6⟩ := hown6.reads; rw [HL.out] at hv6 hc6 hr6; subst hv6; have HO6 := Lib.hid hown6; have HB6 := Lib.hid hb6; have HR6 := Lib.hid hr6; clear hown6 hb6 hr6)
          | fail)
        obtain ⟨b, off, p, rfl, hpk, hpm, hgb, hx6⟩ := (HR5.out.below HB6.out).at_ hin
        have HPk := Lib.hid hpk
        have HPm := Lib.hid hpm
        clear hpk hpm
        obtain ⟨xb, hxb⟩ : ∃ xb, xb = w6.heap.size := ⟨_, rfl⟩
        obtain ⟨Wa, hWa⟩ : ∃ Wa, Wa = w6.alloc (.cells #[.slice A6 k c6] 28) := ⟨_, rfl⟩
        have hba : Below w6.heap.size w6 Wa := hWa ▸ (Below.refl _ _).alloc (Nat.le_refl _) _
        have HKa : Hid (Blk Wa xb 28 #[.slice A6 k c6]) := Lib.hid (by rw [hWa, hxb]; exact Blk.new w6 _ _)
        have HOa := Lib.hid (HO6.out.next hba)
        have xa := (hba.cell (p := ⟨b, off + q, none⟩) (show b < w6.heap.size by omega)).trans hx6
        have x9 : Wa.cell? ⟨xb, 0, none⟩ = some (.slice A6 k c6) := by rw [HKa.out.cell]; rfl
        rw [← hWa, ← hxb]
        have HWa := Lib.hid hWa
        have HXb := Lib.hid hxb
        have HBa := Lib.hid hba
        have f9 : Wa.frozen? ⟨xb, 0, none⟩ = false := HKa.out.frozen 0
        clear hWa hxb hba hx6
        have hxa : xb < Wa.heap.size := HKa.out.lt
        have z9 : (Wa.alloc (.cells #[.slice p.a p.n p.c] 31)).cell? ⟨xb, 0, none⟩ = some (.slice A6 k c6) := (World.cell?_alloc_lt Wa _ ⟨xb, 0, none⟩ hxa).trans x9
        have HOb : Hid (OwnP (Wa.alloc (.cells #[.slice p.a p.n p.c] 31)) w5.heap.size (.slice A6 k c6) ps) := Lib.hid (HOa.out.next ((Below.refl _ _).alloc (Nat.le_refl _) _))
        have HRb : Hid (Reads (Wa.alloc (.cells #[.slice p.a p.n p.c] 31)) (Wa.heap.size + 1) 1 (some ⟨Wa.heap.size, 0, none⟩) 1 ([p].map Piece.val)) := Lib.hid (reads_new Wa _ _ _ 1 _ rfl rfl (by omega))
        have HLp := HL.out
        have hs7 : w5.heap.size ≤ Wa.heap.size := Nat.le_trans hs6 HBa.out.size
        have HNe : Hid ((Value.slice A6 k c6).ownBlock ≠ some xb) := Lib.hid (own_blk_ne HOa.out HKa.out (by decide))
        refine wp_region_noPanic ?_
        go_region_law (
          (refine stepP _ rfl (.tmp 48) (.tmp 53) rfl w5.heap.size (.slice A6 k c6) ps rfl (by exact HOb.out) (Wa.heap.size + 1) (some ⟨Wa.heap.size, 0, none⟩) 1 [p] 1 rfl (by exact HRb.out) (by omega) (Nat.le_trans hs7 (by simp)) ?_; intro A7 n7 c7 w7 hown7 hgr7 hat7; have hgg := grown_from (below_drew_alloc Wa (.cells #[.slice p.a p.n p.c] 31)) hgr7; have y7 : Blk w7 xb 28 #[.slice A6 k c6] := HKa.out.grown hgg (fun e => HNe.out e.symm); have y0 : w7.cell? ⟨xb, 0, none⟩ = some (.slice A6 k c6) := y7.cell 0; have g0 : w7.frozen? ⟨xb, 0, none⟩ = false := y7.frozen 0; have HG7 := Lib.hid hgg; have HO7 := Lib.hid hown7; clear hgg hown7 hgr7 hat7 y7))
        all_goals
          refine NoPanic.normal ?_
          have HPu := Lib.hid (want_push (HB6.out.trans (HBa.out.mono hs6)) hs7 HOa.out HKa.out (by have := HXb.out; omega) HG7.out HO7.out)
          obtain ⟨W7, hW7⟩ : ∃ W7, W7 = w7.setCell ⟨xb, 0, none⟩ (.slice A7 n7 c7) := ⟨_, rfl⟩
          rw [← hW7] at HPu ⊢
          obtain ⟨qs, hqs⟩ : ∃ qs, qs = ps ++ [p] := ⟨_, rfl⟩
          rw [← hqs] at HPu
          have HQp : Hid (∀ p ∈ qs, p ∈ ps) := Lib.hid (by rw [hqs]; intro y hy; rcases List.mem_append.1 hy with h | h; exact h; rw [List.mem_singleton.1 h]; exact HPm.out)
          have HQb : Hid (Piece.bytes qs = dblN (Piece.bytes ps) (q : Int)) := Lib.hid (by
            rw [hqs]; unfold dblN sendN
            rw [HI.out, if_pos rfl, if_pos (by rw [HFb.out]; omega), bytes_at HPk.out]
            simp [Piece.bytes])
          have hxb7 : w5.heap.size ≤ xb := by have := HXb.out; omega
          have hql : qs.length ≤ 401 := by rw [hqs]; simp; have := HL.out; omega
          clear hW7 hqs HG7 HO7 HOa HOb HRb HKa HNe xa x9 z9 f9 y0 g0
          have hs9 : w5.heap.size ≤ W7.heap.size := HPu.out.2.2.size
          have hxw : xb < W7.heap.size := HPu.out.1.lt
          have HSh5 : Hid (Short LM (dblN (Piece.bytes ps) (q : Int))) := Lib.hid (Short.dbl (by have := HSh.out k; rwa [List.take_of_length_le (Nat.le_of_eq HL.out)] at this) _)
          obtain ⟨l5, hl5⟩ : ∃ l5, l5 = dblN (Piece.bytes ps) (q : Int) := ⟨_, rfl⟩
          rw [← hl5] at H5 HQb HSh5
          obtain ⟨x8, hx8⟩ : ∃ x8, x8 = W7.heap.size := ⟨_, rfl⟩
          obtain ⟨W8, hW8⟩ : ∃ W8, W8 = W7.alloc (.cells #[.int .i64 0] 3) := ⟨_, rfl⟩
          have HKk8 : Hid (Blk W8 x8 3 #[.int .i64 0]) := Lib.hid (by rw [hW8, hx8]; exact Blk.new W7 _ _)
          have HB78 : Hid (Below x8 W7 W8) := Lib.hid (by rw [hW8, hx8]; exact (Below.refl _ _).alloc (Nat.le_refl _) _)
          have HAll := Lib.hid (H5.out.all HC.out (W := W8) HSh5.out (HPu.out.2.2.trans (HB78.out.mono (by omega))))
          have hx8l : x8 < W8.heap.size := HKk8.out.lt
          go_wp2_with fail
          rw [← hW8, ← hx8]
          have hxx : xb < x8 := by omega
          have h58 : w5.heap.size ≤ x8 := by omega
          have HX8 := Lib.hid hx8
          have hbn7 : n7 ≤ 401 := by have := (own_rdl HPu.out.2.1 HR.out (HB5.out.trans (HPu.out.2.2.mono HB5.out.size)) HQp.out).2.1; omega
          clear hW8 hl5 hx8
          refine HAll.out.mono ?_
          rintro e w9 ⟨v9, R, rfl, hseq, hb9, hR⟩
          have HB79 : Hid (Below x8 W7 w9) := Lib.hid (HB78.out.trans (hb9.mono (by omega)))
          have HKk9 : Hid (Blk w9 x8 3 #[.int .i64 0]) := Lib.hid (HKk8.out.below hb9 HKk8.out.lt)
          have HRx : Hid (¬ R x8) := Lib.hid (fun h => by rcases hR _ h with h1 | h1 <;> omega)
          have hx9 : x8 < w9.heap.size := HKk9.out.lt
          have SE9 := Lib.hid hseq
          have HU9 : Hid (Below x8 W7 w9) := HB79
          clear hseq hb9 hR HAll HKk8 HB78
          obtain ⟨gf, pb, lb, hv9, en, hq1, hq2⟩ := SE9.out
          clear hq1 hq2
          subst hv9
          have EN := Lib.hid en
          clear en
          go_wp2
          obtain ⟨S, hS⟩ : ∃ S : Nat → Prop, S = fun b => b = x8 := ⟨_, rfl⟩
          have S1 : S x8 := by rw [hS]
          have HSe : Hid (∀ b, S b → b = x8) := Lib.hid (fun b h => by rw [hS] at h; exact h)
          clear hS
          refine (wpIn_wide (n := 9)).1 ?_
          refine' range_boundWS (α := NtX) (gf := gf) (pb := pb) (lb := lb) rfl EN.out (SE9.out.at_ _) (fun h k => h.trans k) (stay_b SE9.out.lt) (fun _ => rfl) OkN.put
            (fun pre W => Blk W x8 3 #[.int .i64 (pre.length : Nat)] ∧ OnlyS S w9 W)
            (fun cc pre W => False)
            (Std.and (std_blk (x := x8) (by omega)) (std_onlyS w9 S))
            (fun cc => fun s A B hs ht => hs)
            ⟨HKk9.out, OnlyS.refl _ _⟩
            _ ?assign ?body ?done ?stop
          case stop =>
            rintro D3 cc pre V hD3 hpre hF hK
            exact hF.elim
          case assign =>
            intro lp y V K hK
            gi_wp2
            exact hK
          case body =>
            rintro lp pre ⟨yat, yA, yn, yc, yp⟩ V hlp hrec ⟨hbn, hO⟩ ⟨B', hB', hok⟩
            obtain ⟨hqlt, hyat, hyp⟩ := hok.next
            obtain ⟨q', hq'⟩ : ∃ q', q' = pre.length := ⟨_, rfl⟩
            rw [← hq'] at hbn hqlt hyat hyp
            obtain rfl : q' = yat := hyat.symm
            have HBV : Hid (Below x8 W7 V) := Lib.hid (OnlyS.bel HB79.out hO (fun b hb => by have := HSe.out b hb; omega) (by omega))
            have HRd := Lib.hid (own_rdl (HPu.out.2.1.stay (fun g e => HBV.out.block g (by have := HPu.out.2.1.lt g e; have := HX8.out; omega))) HR.out (HB5.out.trans ((HPu.out.2.2.trans (HBV.out.mono (by omega))).mono HB5.out.size)) HQp.out)
            have hqn : q' < n7 := by have h1 := HRd.out.2.1; have h2 := congrArg List.length HQb.out; simp [Piece.bytes] at h2; omega
            obtain ⟨b', off', p', rfl, hpk', hpm', hgb', hx'⟩ := HRd.out.1.at_ hqn
            have HPk' := Lib.hid hpk'
            have HYp : Hid (yp = p'.l) := Lib.hid (by rw [← HQb.out, bytes_get hpk'] at hyp; injection hyp with hyp; exact hyp.symm)
            have kb := HPu.out.1.below HBV.out (by omega)
            have cn : V.cell? ⟨x8, 0, none⟩ = some (.int .i64 (q' : Int)) := by rw [hbn.cell]; rfl
            have fn : V.frozen? ⟨x8, 0, none⟩ = false := hbn.frozen 0
            have cb : V.cell? ⟨xb, 0, none⟩ = some (.slice (some ⟨b', off', none⟩) n7 c7) := by rw [kb.cell]; rfl
            have HYr := Lib.hid (owr_reads hok.2.1)
            have HYl := Lib.hid (owr_len hok.2.1)
            have HPr' := Lib.hid (HRd.out.1.2 p' hpm')
            have HBn := Lib.hid hbn
            have HOs := Lib.hid hO
            have HQq := Lib.hid hq'
            have hnc7 := HRd.out.2.2
            clear hbn hO hq' kb hok hpk' hpm' hyp HRd
            have HSm := Lib.hid (same_any yA p'.a yn yc p'.n p'.c yp p'.l V _ _ HYr.out HPr'.out.1 (by have h1 : yp.length = yn := HYl.out.1; have h2 : p'.l.length = p'.n := (by simpa using HPr'.out.1.1); have h3 : p'.n ≤ 4611686018427387904 := HPr'.out.2; rw [HYp.out] at h1; omega))
            rw [decide_eq_true HYp.out] at HSm
            gi_wp2_with (refine ⟨trivial, ?_⟩; refine (CallsIn.inRound lp (callsIn_wide.2 HSm.out)).mono ?_; rintro e V1 ⟨rfl, z, hz⟩; have cn1 : V1.cell? ⟨x8, 0, none⟩ = some (.int .i64 (q' : Int)) := hz ▸ cn; have fn1 : V1.frozen? ⟨x8, 0, none⟩ = false := hz ▸ fn; have HZ := Lib.hid hz; clear hz)
            refine ⟨KeepsAll.trans (HZ.out ▸ (KeepsAll.refl _ V).drewN z) (KeepsAll.setCell _ hx9 _), Stay.trans (HZ.out ▸ Stay.refl_ _ _) (stay_setAt HRx.out), ?_, (HZ.out ▸ HOs.out.drewN z).set S1 _⟩
            have h1 : Blk V1 x8 3 #[.int .i64 (q' : Int)] := HZ.out ▸ HBn.out
            have := blk_put h1 (.int .i64 ((q' : Int) + 1))
            rw [List.length_append, ← HQq.out]; exact this
          case done =>
            rintro D3 ys V hD3 hys ⟨hbn, hO⟩ hK
            have hyl : ys.length = n7 := by
              have h1 := congrArg List.length hys
              have h2 := congrArg List.length HQb.out
              have h3 := (own_rdl HPu.out.2.1 HR.out (HB5.out.trans (HPu.out.2.2.mono HB5.out.size)) HQp.out).2.1
              simp [Piece.bytes] at h1 h2
              omega
            have hLen5 : l5.length = n7 := by
              have h1 := congrArg List.length hys
              simp at h1
              omega
            have HLn := Lib.hid hLen5
            rw [hyl] at hbn
            have hmk : Marks w9.heap.size ({ target := .collected D3, args := #[] } :: []) V := Marks.cons (ds := []) trivial (fun d hd => by cases hd) hD3 hK
            have HMk := Lib.hid hmk
            have HBV : Hid (Below x8 W7 V) := Lib.hid (OnlyS.bel HB79.out hO (fun b hb => by have := HSe.out b hb; omega) (by omega))
            have HBV5 := Lib.hid (HPu.out.2.2.trans (HBV.out.mono h58))
            have HBVw := Lib.hid (HB5.out.trans (HBV5.out.mono HB5.out.size))
            have HBuV : Hid (Below u w V) := Lib.hid (by have := HBVw.out; rw [← HU.out] at this; exact this)
            have HKV : Hid (Blk V u 4 #[.bool false]) := Lib.hid (HK5.out.below HBV5.out hs5)
            have HLn5 := Lib.hid (fun z => (H5.out.next HC.out HBV5.out).drewN HC.out z |>.len HC.out)
            have kb := HPu.out.1.below HBV.out (by omega)
            have cn : V.cell? ⟨x8, 0, none⟩ = some (.int .i64 (n7 : Int)) := by rw [hbn.cell]; rfl
            have cb : V.cell? ⟨xb, 0, none⟩ = some (.slice A7 n7 c7) := by rw [kb.cell]; rfl
            have cu : V.cell? ⟨u, 0, none⟩ = some (.bool false) := by rw [HKV.out.cell]; rfl
            have fu : V.frozen? ⟨u, 0, none⟩ = false := HKV.out.frozen 0
            have huV : u < V.heap.size := HKV.out.lt
            have HBn := Lib.hid hbn
            have HKb := Lib.hid kb
            clear hbn hO hK hmk hys hyl hLen5 kb
            go_wp2
            have e7 : decide (l5.length = n7) = true := decide_eq_true HLn.out
            have hx8V : x8 < V.heap.size := HBn.out.lt
            have hxbV : xb < V.heap.size := HKb.out.lt
            have hx8u : x8 ≠ u := by omega
            have hxbu : xb ≠ u := by omega
            refine wp_region_noPanic ?_
            go_region_held3 (fun w' => w'.cell? ⟨x8, 0, none⟩ = some (.int .i64 (n7 : Int)) ∧ w'.cell? ⟨xb, 0, none⟩ = some (.slice A7 n7 c7)) (first | exact ⟨cn, cb⟩ | exact Z1 | exact Z6 | go_keep) (first | (go_at_call 19; go_must (refine (HLn5.out 1).mono ?_; rw [HLn.out]; rintro e w10 ⟨rfl, hb10⟩; have HC10 : Hid (Below V.heap.size V w10) := Lib.hid ⟨hb10.os, hb10.tape, hb10.output, hb10.size, hb10.block⟩; have Z1 : w10.cell? ⟨x8, 0, none⟩ = some (.int .i64 (n7 : Int)) ∧ w10.cell? ⟨xb, 0, none⟩ = some (.slice A7 n7 c7) := ⟨(HC10.out.cell (p := ⟨x8, 0, none⟩) hx8V).trans cn, (HC10.out.cell (p := ⟨xb, 0, none⟩) hxbV).trans cb⟩; have cu10 : w10.cell? ⟨u, 0, none⟩ = some (.bool false) := (HC10.out.cell (p := ⟨u, 0, none⟩) huV).trans cu; have HK10 := Lib.hid (HKV.out.below HC10.out huV); have fu10 : w10.frozen? ⟨u, 0, none⟩ = false := HK10.out.frozen 0; have Z6 : (w10.setCell ⟨u, 0, none⟩ (.bool true)).cell? ⟨x8, 0, none⟩ = some (.int .i64 (n7 : Int)) ∧ (w10.setCell ⟨u, 0, none⟩ (.bool true)).cell? ⟨xb, 0, none⟩ = some (.slice A7 n7 c7) := ⟨(by rw [((HBn.out.below HC10.out hx8V).far (p := ⟨u, 0, none⟩) (by simpa using hx8u) (.bool true)).cell]; rfl), (by rw [((HKb.out.below HC10.out hxbV).far (p := ⟨u, 0, none⟩) (by simpa using hxbu) (.bool true)).cell]; rfl)⟩; clear hb10)))
            all_goals refine NoPanic.normal ?_
            all_goals go_wp2
            all_goals
              have k9 : OnlyS (fun b => b = u) w10 (w10.setCell ⟨u, 0, none⟩ (.bool true)) := OnlyS.set (S := fun b => b = u) (OnlyS.refl (fun b => b = u) w10) (x := u) rfl (.bool true)
              have hk9 := blk_put HK10.out (.bool true)
              have hB10 := OnlyS.bel (HBuV.out.trans (HC10.out.mono (Nat.le_of_lt huV))) k9 (fun b hb => by omega) (Nat.le_of_lt (show u < w10.heap.size from HK10.out.lt))
              refine Marks.leave (B := w9.heap.size) _ _ (OnlyS.marks (HMk.out.below HC10.out) k9 (fun b hb => ⟨_, _, (show Blk w10 b 4 #[.bool false] by rw [hb]; exact HK10.out)⟩)) (fun W' hb => ?_)
              have c5 : W'.cell? ⟨u, 0, none⟩ = some (.bool true) := by rw [hb.cell (p := ⟨u, 0, none⟩) (show u < w9.heap.size by omega), hk9.cell]; rfl
              refine ⟨.bool true, by simp [results, Try.f6, go_sem, c5], rfl, ?_⟩
              rw [← HU.out]
              exact hB10.trans (hb.mono (by omega))
      · have HI : Hid (inN (Piece.bytes ps) i = false) := Lib.hid (by unfold inN; rw [HFb.out]; simp; omega)
        have HJ : Hid (dblB (Piece.bytes ps) i = false) := Lib.hid (by unfold dblB; rw [HI.out]; simp)
        rw [HJ.out] at HDb
        go_wp2_with fail
        refine HDb.out.mono ?_
        rintro e w5 ⟨rfl, h5⟩
        have H5 := Lib.hid h5
        clear h5 HDb
        have HB5 := Lib.hid (HB3.out w5 H5.out)
        have HR5 := Lib.hid ((HR.out.below HB5.out).more HB5.out.size)
        have hs5 : u < w5.heap.size := Nat.lt_of_lt_of_le hu1 H5.out.bel.size
        have HK5 := Lib.hid (HK1.out.below H5.out.bel HK1.out.lt)
        go_wp2_with (first
          | (at_builtin; refine appPE w5 rfl (.tmp 44) (.tmp 45) rfl w5.heap.size rfl w5.heap.size a c ps k rfl HR5.out.1 (Nat.le_refl _) (by omega) (Nat.le_refl _) ?_; intro v6 w6 hown6 hb6; have hs6 := hb6.size; obtain ⟨A6, c6, hv6, hc6, hr6⟩ := hown6.reads; rw [HL.out] at hv6 hc6 hr6; subst hv6; have HO6 := Lib.hid hown6; have HB6 := Lib.hid hb6; have HR6 := Lib.hid hr6; clear hown6 hb6 hr6)
          | fail)
        obtain ⟨xb, hxb⟩ : ∃ xb, xb = w6.heap.size := ⟨_, rfl⟩
        obtain ⟨W7, hW7⟩ : ∃ W7, W7 = w6.alloc (.cells #[.slice A6 k c6] 28) := ⟨_, rfl⟩
        obtain ⟨A7, hA7⟩ : ∃ A7, A7 = A6 := ⟨_, rfl⟩
        obtain ⟨c7, hc7⟩ : ∃ c7, c7 = c6 := ⟨_, rfl⟩
        obtain ⟨qs, hqs⟩ : ∃ qs, qs = ps := ⟨_, rfl⟩
        have HPu : Hid (Blk W7 xb 28 #[.slice A7 k c7] ∧ OwnP W7 w5.heap.size (.slice A7 k c7) qs ∧ Below w5.heap.size w5 W7) := Lib.hid (by
          have hba : Below w6.heap.size w6 W7 := hW7 ▸ (Below.refl _ _).alloc (Nat.le_refl _) _
          rw [hA7, hc7, hqs]
          exact ⟨by rw [hW7, hxb]; exact Blk.new w6 _ _, HO6.out.next hba, HB6.out.trans (hba.mono hs6)⟩)
        have HQp : Hid (∀ p ∈ qs, p ∈ ps) := Lib.hid (by rw [hqs]; exact fun p h => h)
        have HQb : Hid (Piece.bytes qs = dblN (Piece.bytes ps) i) := Lib.hid (by rw [hqs]; unfold dblN; rw [HI.out]; rfl)
        have hxb7 : w5.heap.size ≤ xb := by omega
        have hql : qs.length ≤ 401 := by rw [hqs, HL.out]; omega
        have hw7s : w6.heap.size + 1 = W7.heap.size := by rw [hW7, World.size_alloc]
        rw [← hW7, ← hA7, ← hc7, hw7s, ← hxb]
        clear hW7 hA7 hc7 hqs hw7s hxb
        have hs9 : w5.heap.size ≤ W7.heap.size := HPu.out.2.2.size
        have hxw : xb < W7.heap.size := HPu.out.1.lt
        have HSh5 : Hid (Short LM (dblN (Piece.bytes ps) i)) := Lib.hid (Short.dbl (by have := HSh.out k; rwa [List.take_of_length_le (Nat.le_of_eq HL.out)] at this) _)
        obtain ⟨l5, hl5⟩ : ∃ l5, l5 = dblN (Piece.bytes ps) i := ⟨_, rfl⟩
        rw [← hl5] at H5 HQb HSh5
        obtain ⟨x8, hx8⟩ : ∃ x8, x8 = W7.heap.size := ⟨_, rfl⟩
        obtain ⟨W8, hW8⟩ : ∃ W8, W8 = W7.alloc (.cells #[.int .i64 0] 3) := ⟨_, rfl⟩
        have HKk8 : Hid (Blk W8 x8 3 #[.int .i64 0]) := Lib.hid (by rw [hW8, hx8]; exact Blk.new W7 _ _)
        have HB78 : Hid (Below x8 W7 W8) := Lib.hid (by rw [hW8, hx8]; exact (Below.refl _ _).alloc (Nat.le_refl _) _)
        have HAll := Lib.hid (H5.out.all HC.out (W := W8) HSh5.out (HPu.out.2.2.trans (HB78.out.mono (by omega))))
        have hx8l : x8 < W8.heap.size := HKk8.out.lt
        rw [← hW8, ← hx8]
        have hxx : xb < x8 := by omega
        have h58 : w5.heap.size ≤ x8 := by omega
        have HX8 := Lib.hid hx8
        have hbk : k ≤ 401 := by have := (own_rdl HPu.out.2.1 HR.out (HB5.out.trans (HPu.out.2.2.mono HB5.out.size)) HQp.out).2.1; omega
        clear hW8 hl5 hx8
        refine HAll.out.mono ?_
        rintro e w9 ⟨v9, R, rfl, hseq, hb9, hR⟩
        have HB79 : Hid (Below x8 W7 w9) := Lib.hid (HB78.out.trans (hb9.mono (by omega)))
        have HKk9 : Hid (Blk w9 x8 3 #[.int .i64 0]) := Lib.hid (HKk8.out.below hb9 HKk8.out.lt)
        have HRx : Hid (¬ R x8) := Lib.hid (fun h => by rcases hR _ h with h1 | h1 <;> omega)
        have hx9 : x8 < w9.heap.size := HKk9.out.lt
        have SE9 := Lib.hid hseq
        have HU9 : Hid (Below x8 W7 w9) := HB79
        clear hseq hb9 hR HAll HKk8 HB78
        obtain ⟨gf, pb, lb, hv9, en, hq1, hq2⟩ := SE9.out
        clear hq1 hq2
        subst hv9
        have EN := Lib.hid en
        clear en
        go_wp2
        obtain ⟨S, hS⟩ : ∃ S : Nat → Prop, S = fun b => b = x8 := ⟨_, rfl⟩
        have S1 : S x8 := by rw [hS]
        have HSe : Hid (∀ b, S b → b = x8) := Lib.hid (fun b h => by rw [hS] at h; exact h)
        clear hS
        refine (wpIn_wide (n := 9)).1 ?_
        refine' range_boundWS (α := NtX) (gf := gf) (pb := pb) (lb := lb) rfl EN.out (SE9.out.at_ _) (fun h k => h.trans k) (stay_b SE9.out.lt) (fun _ => rfl) OkN.put
          (fun pre W => Blk W x8 3 #[.int .i64 (pre.length : Nat)] ∧ OnlyS S w9 W)
          (fun cc pre W => False)
          (Std.and (std_blk (x := x8) (by omega)) (std_onlyS w9 S))
          (fun cc => fun s A B hs ht => hs)
          ⟨HKk9.out, OnlyS.refl _ _⟩
          _ ?assign ?body ?done ?stop
        case stop =>
          rintro D3 cc pre V hD3 hpre hF hK
          exact hF.elim
        case assign =>
          intro lp y V K hK
          gi_wp2
          exact hK
        case body =>
          rintro lp pre ⟨yat, yA, yn, yc, yp⟩ V hlp hrec ⟨hbn, hO⟩ ⟨B', hB', hok⟩
          obtain ⟨hqlt, hyat, hyp⟩ := hok.next
          obtain ⟨q', hq'⟩ : ∃ q', q' = pre.length := ⟨_, rfl⟩
          rw [← hq'] at hbn hqlt hyat hyp
          obtain rfl : q' = yat := hyat.symm
          have HBV : Hid (Below x8 W7 V) := Lib.hid (OnlyS.bel HB79.out hO (fun b hb => by have := HSe.out b hb; omega) (by omega))
          have HRd := Lib.hid (own_rdl (HPu.out.2.1.stay (fun g e => HBV.out.block g (by have := HPu.out.2.1.lt g e; have := HX8.out; omega))) HR.out (HB5.out.trans ((HPu.out.2.2.trans (HBV.out.mono (by omega))).mono HB5.out.size)) HQp.out)
          have hqn : q' < k := by have h1 := HRd.out.2.1; have h2 := congrArg List.length HQb.out; simp [Piece.bytes] at h2; omega
          obtain ⟨b', off', p', rfl, hpk', hpm', hgb', hx'⟩ := HRd.out.1.at_ hqn
          have HPk' := Lib.hid hpk'
          have HYp : Hid (yp = p'.l) := Lib.hid (by rw [← HQb.out, bytes_get hpk'] at hyp; injection hyp with hyp; exact hyp.symm)
          have kb := HPu.out.1.below HBV.out (by omega)
          have cn : V.cell? ⟨x8, 0, none⟩ = some (.int .i64 (q' : Int)) := by rw [hbn.cell]; rfl
          have fn : V.frozen? ⟨x8, 0, none⟩ = false := hbn.frozen 0
          have cb : V.cell? ⟨xb, 0, none⟩ = some (.slice (some ⟨b', off', none⟩) k c7) := by rw [kb.cell]; rfl
          have HYr := Lib.hid (owr_reads hok.2.1)
          have HYl := Lib.hid (owr_len hok.2.1)
          have HPr' := Lib.hid (HRd.out.1.2 p' hpm')
          have HBn := Lib.hid hbn
          have HOs := Lib.hid hO
          have HQq := Lib.hid hq'
          have hnc7 := HRd.out.2.2
          clear hbn hO hq' kb hok hpk' hpm' hyp HRd
          have HSm := Lib.hid (same_any yA p'.a yn yc p'.n p'.c yp p'.l V _ _ HYr.out HPr'.out.1 (by have h1 : yp.length = yn := HYl.out.1; have h2 : p'.l.length = p'.n := (by simpa using HPr'.out.1.1); have h3 : p'.n ≤ 4611686018427387904 := HPr'.out.2; rw [HYp.out] at h1; omega))
          rw [decide_eq_true HYp.out] at HSm
          gi_wp2_with (refine ⟨trivial, ?_⟩; refine (CallsIn.inRound lp (callsIn_wide.2 HSm.out)).mono ?_; rintro e V1 ⟨rfl, z, hz⟩; have cn1 : V1.cell? ⟨x8, 0, none⟩ = some (.int .i64 (q' : Int)) := hz ▸ cn; have fn1 : V1.frozen? ⟨x8, 0, none⟩ = false := hz ▸ fn; have HZ := Lib.hid hz; clear hz)
          refine ⟨KeepsAll.trans (HZ.out ▸ (KeepsAll.refl _ V).drewN z) (KeepsAll.setCell _ hx9 _), Stay.trans (HZ.out ▸ Stay.refl_ _ _) (stay_setAt HRx.out), ?_, (HZ.out ▸ HOs.out.drewN z).set S1 _⟩
          have h1 : Blk V1 x8 3 #[.int .i64 (q' : Int)] := HZ.out ▸ HBn.out
          have := blk_put h1 (.int .i64 ((q' : Int) + 1))
          rw [List.length_append, ← HQq.out]; exact this
        case done =>
          rintro D3 ys V hD3 hys ⟨hbn, hO⟩ hK
          have hyl : ys.length = k := by
            have h1 := congrArg List.length hys
            have h2 := congrArg List.length HQb.out
            have h3 := (own_rdl HPu.out.2.1 HR.out (HB5.out.trans (HPu.out.2.2.mono HB5.out.size)) HQp.out).2.1
            simp [Piece.bytes] at h1 h2
            omega
          have hLen5 : l5.length = k := by
            have h1 := congrArg List.length hys
            simp at h1
            omega
          have HLn := Lib.hid hLen5
          rw [hyl] at hbn
          have hmk : Marks w9.heap.size ({ target := .collected D3, args := #[] } :: []) V := Marks.cons (ds := []) trivial (fun d hd => by cases hd) hD3 hK
          have HMk := Lib.hid hmk
          have HBV : Hid (Below x8 W7 V) := Lib.hid (OnlyS.bel HB79.out hO (fun b hb => by have := HSe.out b hb; omega) (by omega))
          have HBV5 := Lib.hid (HPu.out.2.2.trans (HBV.out.mono h58))
          have HBVw := Lib.hid (HB5.out.trans (HBV5.out.mono HB5.out.size))
          have HBuV : Hid (Below u w V) := Lib.hid (by have := HBVw.out; rw [← HU.out] at this; exact this)
          have HKV : Hid (Blk V u 4 #[.bool false]) := Lib.hid (HK5.out.below HBV5.out hs5)
          have HLn5 := Lib.hid (fun z => (H5.out.next HC.out HBV5.out).drewN HC.out z |>.len HC.out)
          have kb := HPu.out.1.below HBV.out (by omega)
          have cn : V.cell? ⟨x8, 0, none⟩ = some (.int .i64 (k : Int)) := by rw [hbn.cell]; rfl
          have cb : V.cell? ⟨xb, 0, none⟩ = some (.slice A7 k c7) := by rw [kb.cell]; rfl
          have cu : V.cell? ⟨u, 0, none⟩ = some (.bool false) := by rw [HKV.out.cell]; rfl
          have fu : V.frozen? ⟨u, 0, none⟩ = false := HKV.out.frozen 0
          have huV : u < V.heap.size := HKV.out.lt
          have HBn := Lib.hid hbn
          have HKb := Lib.hid kb
          clear hbn hO hK hmk hys hyl hLen5 kb
          go_wp2
          have e7 : decide (l5.length = k) = true := decide_eq_true HLn.out
          have hx8V : x8 < V.heap.size := HBn.out.lt
          have hxbV : xb < V.heap.size := HKb.out.lt
          have hx8u : x8 ≠ u := by omega
          have hxbu : xb ≠ u := by omega
          refine wp_region_noPanic ?_
          go_region_held3 (fun w' => w'.cell? ⟨x8, 0, none⟩ = some (.int .i64 (k : Int)) ∧ w'.cell? ⟨xb, 0, none⟩ = some (.slice A7 k c7)) (first | exact ⟨cn, cb⟩ | exact Z1 | exact Z6 | go_keep) (first | (go_at_call 19; go_must (refine (HLn5.out 1).mono ?_; rw [HLn.out]; rintro e w10 ⟨rfl, hb10⟩; have HC10 : Hid (Below V.heap.size V w10) := Lib.hid ⟨hb10.os, hb10.tape, hb10.output, hb10.size, hb10.block⟩; have Z1 : w10.cell? ⟨x8, 0, none⟩ = some (.int .i64 (k : Int)) ∧ w10.cell? ⟨xb, 0, none⟩ = some (.slice A7 k c7) := ⟨(HC10.out.cell (p := ⟨x8, 0, none⟩) hx8V).trans cn, (HC10.out.cell (p := ⟨xb, 0, none⟩) hxbV).trans cb⟩; have cu10 : w10.cell? ⟨u, 0, none⟩ = some (.bool false) := (HC10.out.cell (p := ⟨u, 0, none⟩) huV).trans cu; have HK10 := Lib.hid (HKV.out.below HC10.out huV); have fu10 : w10.frozen? ⟨u, 0, none⟩ = false := HK10.out.frozen 0; have Z6 : (w10.setCell ⟨u, 0, none⟩ (.bool true)).cell? ⟨x8, 0, none⟩ = some (.int .i64 (k : Int)) ∧ (w10.setCell ⟨u, 0, none⟩ (.bool true)).cell? ⟨xb, 0, none⟩ = some (.slice A7 k c7) := ⟨(by rw [((HBn.out.below HC10.out hx8V).far (p := ⟨u, 0, none⟩) (by simpa using hx8u) (.bool true)).cell]; rfl), (by rw [((HKb.out.below HC10.out hxbV).far (p := ⟨u, 0, none⟩) (by simpa using hxbu) (.bool true)).cell]; rfl)⟩; clear hb10)))
          all_goals refine NoPanic.normal ?_
          all_goals go_wp2
          all_goals
            have k9 : OnlyS (fun b => b = u) w10 (w10.setCell ⟨u, 0, none⟩ (.bool true)) := OnlyS.set (S := fun b => b = u) (OnlyS.refl (fun b => b = u) w10) (x := u) rfl (.bool true)
            have hk9 := blk_put HK10.out (.bool true)
            have hB10 := OnlyS.bel (HBuV.out.trans (HC10.out.mono (Nat.le_of_lt huV))) k9 (fun b hb => by omega) (Nat.le_of_lt (show u < w10.heap.size from HK10.out.lt))
            refine Marks.leave (B := w9.heap.size) _ _ (OnlyS.marks (HMk.out.below HC10.out) k9 (fun b hb => ⟨_, _, (show Blk w10 b 4 #[.bool false] by rw [hb]; exact HK10.out)⟩)) (fun W' hb => ?_)
            have c5 : W'.cell? ⟨u, 0, none⟩ = some (.bool true) := by rw [hb.cell (p := ⟨u, 0, none⟩) (show u < w9.heap.size by omega), hk9.cell]; rfl
            refine ⟨.bool true, by simp [results, Try.f6, go_sem, c5], rfl, ?_⟩
            rw [← HU.out]
            exact hB10.trans (hb.mono (by omega))
end Go.Proofs.Ytcjfammfplcigaa.Pk
