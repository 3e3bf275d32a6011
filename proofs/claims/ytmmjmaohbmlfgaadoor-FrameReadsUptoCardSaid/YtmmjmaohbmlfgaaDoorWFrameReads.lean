/- The walk of the law FrameReads. -/
import Derived.Test.YtmmjmaohbmlfgaaDoorFrRange
namespace Go.Proofs.YtmmjmaohbmlfgaaDoor.Pk
open Go.RowKit Go.Shelf Go.Proofs.YtmmjmaohbmlfgaaDoor.Ar Go.Proofs.YtmmjmaohbmlfgaaDoor.Crc Go.Proofs.YtmmjmaohbmlfgaaDoor.Fr
set_option linter.unusedVariables false
attribute [local go_sem] Oper.semAt_some encF

/-- The frame and the memory ahead of a round: all that lay below stays. -/
def RdI (a : Option Addr) (n c : Nat) (x : Int) (u xb : Nat) (f : Nat) (gf : Nat) (pb lb : Array Value) (u2 : Value) (w4 : World) (A : Act) (W : World) : Prop :=
  ∃ (r : Nat) (ds : List Deferred) (u9 u10 u11 u12 u13 u14 u15 u16 u17 u18 u19 u20 u21 u22 u23 u24 u25 u26 u27 u28 u29 u30 u31 u32 u33 u34 u35 u36 u37 u38 u39 u40 u41 u42 u43 u44 u45 u46 u47 u48 u49 u50 u51 u52 u53 u54 u55 u56 u57 u58 u59 u60 u61 u62 u63 u64 u65 u66 u67 u68 u69 u70 u71 u72 u73 u74 u75 u76 u77 u78 u79 u80 u81 u82 u83 u84 : Value), A = { tmps := #[.slice a n c, .int .i64 x, u2, .pointer (some ⟨u, 0, none⟩), .pointer (some ⟨u + 1, 0, none⟩), .pointer (some ⟨xb, 0, none⟩), .int .i64 (f : Int), .func (.func gf) pb lb, .int .i64 (r : Int), u9, u10, u11, u12, u13, u14, u15, u16, u17, u18, u19, u20, u21, u22, u23, u24, u25, u26, u27, u28, u29, u30, u31, u32, u33, u34, u35, u36, u37, u38, u39, u40, u41, u42, u43, u44, u45, u46, u47, u48, u49, u50, u51, u52, u53, u54, u55, u56, u57, u58, u59, u60, u61, u62, u63, u64, u65, u66, u67, u68, u69, u70, u71, u72, u73, u74, u75, u76, u77, u78, u79, u80, u81, u82, u83, u84], defers := ds } ∧ r ≤ 2 ∧ Marks w4.heap.size ds W ∧ Below w4.heap.size w4 W
theorem RdI.mk {a : Option Addr} {n c : Nat} {x : Int} {u xb : Nat} {f : Nat} {gf : Nat} {pb lb : Array Value} {u2 : Value} {w4 W : World} (r : Nat) {ds : List Deferred} {u9 u10 u11 u12 u13 u14 u15 u16 u17 u18 u19 u20 u21 u22 u23 u24 u25 u26 u27 u28 u29 u30 u31 u32 u33 u34 u35 u36 u37 u38 u39 u40 u41 u42 u43 u44 u45 u46 u47 u48 u49 u50 u51 u52 u53 u54 u55 u56 u57 u58 u59 u60 u61 u62 u63 u64 u65 u66 u67 u68 u69 u70 u71 u72 u73 u74 u75 u76 u77 u78 u79 u80 u81 u82 u83 u84 : Value} (h1 : r ≤ 2) (h2 : Marks w4.heap.size ds W) (h3 : Below w4.heap.size w4 W) :
    RdI a n c x u xb f gf pb lb u2 w4 { tmps := #[.slice a n c, .int .i64 x, u2, .pointer (some ⟨u, 0, none⟩), .pointer (some ⟨u + 1, 0, none⟩), .pointer (some ⟨xb, 0, none⟩), .int .i64 (f : Int), .func (.func gf) pb lb, .int .i64 (r : Int), u9, u10, u11, u12, u13, u14, u15, u16, u17, u18, u19, u20, u21, u22, u23, u24, u25, u26, u27, u28, u29, u30, u31, u32, u33, u34, u35, u36, u37, u38, u39, u40, u41, u42, u43, u44, u45, u46, u47, u48, u49, u50, u51, u52, u53, u54, u55, u56, u57, u58, u59, u60, u61, u62, u63, u64, u65, u66, u67, u68, u69, u70, u71, u72, u73, u74, u75, u76, u77, u78, u79, u80, u81, u82, u83, u84], defers := ds } W :=
  ⟨r, ds, u9, u10, u11, u12, u13, u14, u15, u16, u17, u18, u19, u20, u21, u22, u23, u24, u25, u26, u27, u28, u29, u30, u31, u32, u33, u34, u35, u36, u37, u38, u39, u40, u41, u42, u43, u44, u45, u46, u47, u48, u49, u50, u51, u52, u53, u54, u55, u56, u57, u58, u59, u60, u61, u62, u63, u64, u65, u66, u67, u68, u69, u70, u71, u72, u73, u74, u75, u76, u77, u78, u79, u80, u81, u82, u83, u84, rfl, h1, h2, h3⟩

set_option maxRecDepth 100000 in
set_option maxHeartbeats 16000000 in
theorem law_FrameReads (encC : EncC) (endC : EndC) (allC : AllC) (framesC : FramesC) (a : Option Addr) (n c : Nat) (l : List Int) (x : Int) (w : World) (ht : Tab w) (h : ArgB w a n c l) (hx : -9223372036854775808 ≤ x ∧ x ≤ 9223372036854775807) (hu : n ≤ 1048576) :
    Calls Tryd.prog 4 #[.slice a n c, .int .i64 x] w fun e w' => e = .returned (.bool true) ∧ Below w.heap.size w w' := by
  obtain ⟨hr, hnc, hc, hB⟩ := h
  have HE := Lib.hid encC
  have HD := Lib.hid endC
  have HA := Lib.hid allC
  have HFc := Lib.hid framesC
  have HT := Lib.hid ht
  have HR := Lib.hid hr
  have HB : Hid (Bytes l) := Lib.hid hB
  have HL : Hid (l.length = n) := Lib.hid (by have := hr.1; simpa using this)
  have HNC := Lib.hid hnc
  clear encC endC allC framesC ht hr hB
  refine (callsIn_wide (n := 9)).1 ?_
  refine callsIn_of_wp_marks Tryd.func4 rfl trivial ?_ rfl
  simp only [Tryd.ntmps4, List.size_toArray, List.length_cons, List.length_nil, Nat.reduceAdd, Nat.reduceSub, Array.replicate_succ, Array.replicate_zero, List.push_toArray, List.append_toArray, List.nil_append, List.cons_append]
  refine wpIn_wide.2 ?_
  obtain ⟨u, hu'⟩ : ∃ u, u = w.heap.size := ⟨_, rfl⟩
  obtain ⟨W0, hW0⟩ : ∃ W0, W0 = (w.alloc (.cells #[.int .i64 x] 3)).alloc (.cells #[.bool false] 4) := ⟨_, rfl⟩
  have hb0 : Below u w W0 := by
    rw [hW0, hu']
    exact ((Below.refl _ w).alloc (Nat.le_refl _) _).alloc (by simp) _
  have ks : Blk W0 u 3 #[.int .i64 x] := by rw [hW0, hu']; exact (Blk.new w _ _).alloc _
  have kr : Blk W0 (u + 1) 4 #[.bool false] := by
    have := Blk.new (w.alloc (.cells #[.int .i64 x] 3)) 4 #[.bool false]
    rw [World.size_alloc, ← hu'] at this
    rw [hW0]; exact this
  have HU := Lib.hid hu'
  have HT0 : Hid (Tab W0) := Lib.hid (by rw [hW0]; exact (HT.out.alloc _).alloc _)
  have HUp : Hid (0 < u) := Lib.hid (by rw [hu']; exact HT.out.pos)
  have HB0 := Lib.hid hb0
  have HKr0 := Lib.hid kr
  have HKs0 := Lib.hid ks
  have hs0 : u + 2 ≤ W0.heap.size := kr.lt
  go_wp2_with fail
  rw [← hW0, ← hu']
  rw [← hu'] at HR
  clear hW0 hb0 kr ks hu'
  refine (wakes_any HE.out HD.out _ HT0.out).mono ?_
  rintro e w1 ⟨rfl, hb1⟩
  have HT1 := Lib.hid (HT0.out.next hb1)
  have HB1 := Lib.hid (HB0.out.trans (hb1.mono (by omega)))
  have HKr1 := Lib.hid (HKr0.out.below hb1 HKr0.out.lt)
  have HKs1 := Lib.hid (HKs0.out.below hb1 HKs0.out.lt)
  have hs1 : u + 2 ≤ w1.heap.size := Nat.le_trans hs0 hb1.size
  clear hb1 HKr0 HKs0 HB0
  have HX1 := Lib.hid (refAll_any a n c l w1 ((HR.out.below HB1.out).more (by omega)) HNC.out HB.out (by omega))
  go_wp2_with fail
  refine HX1.out.mono ?_
  rintro e w2 ⟨hb2, A2, n2, c2, ps, rfl, ho2, hp2⟩
  have hl2 := own_rowlen ho2.row
  have hN2 : n2 = (frames l).length := by
    have h1 := congrArg List.length hp2
    simp only [Piece.bytes, List.length_map] at h1
    omega
  have HN2 := Lib.hid hN2
  have hn2 : n2 ≤ 1048576 := by have h1 := frames_count l; have h2 := HL.out; omega
  have HRd2 := Lib.hid (ho2.rd (frames_fits hp2))
  have HP2 := Lib.hid hp2
  obtain ⟨f, hf⟩ : ∃ f, f = fend l := ⟨_, rfl⟩
  have hfn : f ≤ n := by rw [hf, ← HL.out]; exact fend_le l
  have HF := Lib.hid hf
  have HT2 := Lib.hid (HT1.out.next hb2)
  have HB2 := Lib.hid (HB1.out.trans (hb2.mono (by omega)))
  have HKr2 := Lib.hid (HKr1.out.below hb2 HKr1.out.lt)
  have HKs2 := Lib.hid (HKs1.out.below hb2 HKs1.out.lt)
  have hs2 : u + 2 ≤ w2.heap.size := Nat.le_trans hs1 hb2.size
  rw [← hf]
  obtain ⟨xb, hxb⟩ : ∃ xb, xb = w2.heap.size := ⟨_, rfl⟩
  obtain ⟨W3, hW3⟩ : ∃ W3, W3 = w2.alloc (.cells #[.slice A2 n2 c2] 29) := ⟨_, rfl⟩
  have hb3 : Below w2.heap.size w2 W3 := hW3 ▸ (Below.refl _ _).alloc (Nat.le_refl _) _
  have HKb3 : Hid (Blk W3 xb 29 #[.slice A2 n2 c2]) := Lib.hid (by rw [hW3, hxb]; exact Blk.new w2 _ _)
  have HB3 := Lib.hid (HB2.out.trans (hb3.mono (by omega)))
  have HX3 := Lib.hid (HFc.out a n c l W3 (HT2.out.next hb3) ((HR.out.below HB3.out).more (by have := hb3.size; omega)) HNC.out HB.out (by omega))
  have HT3 := Lib.hid (HT2.out.next hb3)
  have HKr3 := Lib.hid (HKr2.out.below hb3 HKr2.out.lt)
  have HKs3 := Lib.hid (HKs2.out.below hb3 HKs2.out.lt)
  have HRd3 := Lib.hid (HRd2.out.below hb3)
  have hs3 : u + 2 ≤ xb ∧ xb < W3.heap.size := ⟨by omega, HKb3.out.lt⟩
  have HSx : Hid (w2.heap.size ≤ W3.heap.size) := Lib.hid hb3.size
  clear hb2 ho2 hp2 hl2 hN2 hf HX1 HT0 HT1 HB1 HKr1 HKs1 HB2 HKr2 HKs2 HRd2 hb3 HT2
  go_wp2_with fail
  rw [← hW3, ← hxb]
  refine HX3.out.mono ?_
  rintro e w4 ⟨v4, R, rfl, hseq, hb4, hR⟩
  have HT4 := Lib.hid (HT3.out.next hb4)
  have HKr4 := Lib.hid (HKr3.out.below hb4 HKr3.out.lt)
  have HKs4 := Lib.hid (HKs3.out.below hb4 HKs3.out.lt)
  have HKb4 := Lib.hid (HKb3.out.below hb4 HKb3.out.lt)
  have HRd4 := Lib.hid (((HRd3.out.more HSx.out).below hb4).more hb4.size)
  have HB4 := Lib.hid (HB3.out.trans (hb4.mono (by omega)))
  have HRl : Hid (∀ g, R g → g < w4.heap.size) := Lib.hid hseq.lt
  have SE4 := Lib.hid hseq
  have hs4 : xb < w4.heap.size := HKb4.out.lt
  have hs5 : u + 2 ≤ xb := hs3.1
  have HSz : Hid (W3.heap.size ≤ w4.heap.size) := Lib.hid hb4.size
  clear hseq hb4 hR hW3 hxb HX3 HT3 HKr3 HKs3 HKb3 HRd3 HB3 hs3 hs2 hs1 hs0
  obtain ⟨gf, pb, lb, hv4, en, hq1, hq2⟩ := SE4.out
  clear hq1 hq2
  subst hv4
  have EN := Lib.hid en
  clear en
  have hfn2 := fun (W : World) (gf : Nat) (pb cs : Array Value) => run_eql_func_nil (P := Tryd.prog) W 33 (.func gf) pb cs Tryd.underlying33
  go_wp2
  clear hfn2
  refine wp_loop (RdI a n c x u xb f gf pb lb undef w4) (fun A _ => 2 - (intOf (A.tmps.getD 8 undef)).toNat) ?start ?round
  case start => exact RdI.mk 0 (by omega) trivial (Below.refl _ _)
  case round =>
    rintro A W ⟨r, ds, u9, u10, u11, u12, u13, u14, u15, u16, u17, u18, u19, u20, u21, u22, u23, u24, u25, u26, u27, u28, u29, u30, u31, u32, u33, u34, u35, u36, u37, u38, u39, u40, u41, u42, u43, u44, u45, u46, u47, u48, u49, u50, u51, u52, u53, u54, u55, u56, u57, u58, u59, u60, u61, u62, u63, u64, u65, u66, u67, u68, u69, u70, u71, u72, u73, u74, u75, u76, u77, u78, u79, u80, u81, u82, u83, u84, rfl, hr2, hM, hbW⟩
    have HBW := Lib.hid hbW
    have HM := Lib.hid hM
    have hsW : w4.heap.size ≤ W.heap.size := hbW.size
    clear hM hbW
    by_cases hr : r < 2
    · go_wp2
      obtain ⟨xn, hxn⟩ : ∃ xn, xn = W.heap.size := ⟨_, rfl⟩
      obtain ⟨xa, hxa⟩ : ∃ xa, xa = xn + 1 := ⟨_, rfl⟩
      obtain ⟨W1, hW1⟩ : ∃ W1, W1 = (W.alloc (.cells #[.int .i64 0] 3)).alloc (.cells #[.int .i64 0] 3) := ⟨_, rfl⟩
      have hb1 : Below W.heap.size W W1 := hW1 ▸ ((Below.refl _ _).alloc (Nat.le_refl _) _).alloc (by simp) _
      have kn1 : Blk W1 xn 3 #[.int .i64 0] := by rw [hW1, hxn]; exact (Blk.new W _ _).alloc _
      have ka1 : Blk W1 xa 3 #[.int .i64 0] := by
        have := Blk.new (W.alloc (.cells #[.int .i64 0] 3)) 3 #[.int .i64 0]
        rw [World.size_alloc, ← hxn, ← hxa] at this
        rw [hW1]; exact this
      have HBW1 := Lib.hid (HBW.out.trans (hb1.mono hsW))
      have HM1 := Lib.hid (HM.out.below hb1)
      have HKn1 := Lib.hid kn1
      have HKa1 := Lib.hid ka1
      have SE1 := Lib.hid (SE4.out.stay (w := w4) (W := W1) ⟨HBW1.out.size, fun g hg => HBW1.out.block g (HRl.out g hg)⟩)
      have hx1 : w4.heap.size ≤ xn ∧ xa < W1.heap.size ∧ xn < xa := ⟨by omega, ka1.lt, by omega⟩
      obtain ⟨hx1, hx2, hx3⟩ := hx1
      rw [← hW1, ← hxn, ← hxa]
      clear hW1 hxn hxa hb1 kn1 ka1
      obtain ⟨S, hS⟩ : ∃ S : Nat → Prop, S = fun b => b = xn ∨ b = xa := ⟨_, rfl⟩
      have S1 : S xn := by rw [hS]; exact .inl rfl
      have S2 : S xa := by rw [hS]; exact .inr rfl
      have HSe : Hid (∀ b, S b → b = xn ∨ b = xa) := Lib.hid (fun b h => by rw [hS] at h; exact h)
      clear hS
      have hne1 : xn ≠ xa := by omega
      have hne2 : xa ≠ xn := by omega
      refine (wpIn_wide (n := 9)).1 ?_
      refine' range_boundW (α := FrX) (gf := gf) (pb := pb) (lb := lb) rfl EN.out (SE1.out.at_ _) (fun h k => h.trans k) (stay_b SE1.out.lt) (fun _ => rfl) OkF.put
        (fun pre V => (Blk V xn 3 #[.int .i64 (pre.length : Nat)] ∧ Blk V xa 3 #[.int .i64 (atN l pre.length : Nat)]) ∧ OnlyS S W1 V)
        (fun cc pre V => False)
        (OwnFrom.and (Own.from (I := fun (pre : List FrX) V => Blk V xn 3 #[.int .i64 (pre.length : Nat)] ∧ Blk V xa 3 #[.int .i64 (atN l pre.length : Nat)]) (fun s A B row hs hg hr => ⟨blk_kept hs.1 hg hr, blk_kept hs.2 hg hr⟩) _) (own_onlyS W1 S))
        (fun cc => fun s A B row hs hg hr => hs)
        ⟨⟨HKn1.out, HKa1.out⟩, OnlyS.refl _ _⟩
        _ ?assign ?body ?done ?stop
      case assign =>
        intro lp y V K hK
        gi_wp2
        exact hK
      case body =>
        rintro lp pre ⟨yat, yA, yn, yc, yp⟩ V hlp hrec ⟨⟨hn, ha⟩, hO⟩ ⟨B', hB', hok⟩
        obtain ⟨q1, q2, q3, q4⟩ := hok.next
        obtain ⟨q, hq⟩ : ∃ q, q = pre.length := ⟨_, rfl⟩
        rw [← hq] at hn ha q1 q2 q3 q4
        dsimp only at q2 q3
        have hm1 := (at_more q3).2
        have hm2 := atN_le l (q + 1)
        have hyp := frames_fit l yp (List.mem_of_getElem? q3)
        have hyo := own_len hok.2.1
        dsimp only at hyo
        have hbV := OnlyS.bel HBW1.out hO (fun b hb => by have := HSe.out b hb; omega) (by omega)
        rw [← HN2.out] at q1 q4
        have HRdV := HRd4.out.below hbV
        obtain ⟨g, off, p, hA2, hpk, hpm, hgb, hxp⟩ := HRdV.at_ q1
        have hpl : p.l = yp := by
          have h1 : (Piece.bytes ps)[q]? = some p.l := by unfold Piece.bytes; rw [List.getElem?_map, hpk]; rfl
          rw [HP2.out, q3] at h1
          injection h1 with h1
          exact h1.symm
        have HSm := Lib.hid (same_any yA p.a yn yc p.n p.c yp p.l V _ _ (own_reads hok.2.1) (HRdV.2 p hpm).1 (by omega))
        rw [decide_eq_true hpl.symm] at HSm
        obtain ⟨t, ht⟩ : ∃ t, t = atN l q := ⟨_, rfl⟩
        rw [← ht] at ha q2 hm1
        subst q2
        have HT := Lib.hid ht
        have HQ := Lib.hid hq
        have HMo : Hid (atN l (q + 1) = yat + (8 + yn)) := Lib.hid (by rw [hm1, hyo.1])
        have hty : yat + (8 + yn) ≤ 1048576 := by have := HL.out; omega
        have cn : V.cell? ⟨xn, 0, none⟩ = some (.int .i64 (q : Int)) := by rw [hn.cell]; rfl
        have fn : V.frozen? ⟨xn, 0, none⟩ = false := hn.frozen 0
        have ca : V.cell? ⟨xa, 0, none⟩ = some (.int .i64 (yat : Int)) := by rw [ha.cell]; rfl
        have fa : V.frozen? ⟨xa, 0, none⟩ = false := ha.frozen 0
        have cb : V.cell? ⟨xb, 0, none⟩ = some (.slice (some ⟨g, off, none⟩) n2 c2) := by rw [← hA2, (HKb4.out.below hbV HKb4.out.lt).cell]; rfl
        have hqn : (q : Int) < (n2 : Int) := by omega
        have HFin : Hid (∀ z, (KeepsAll W1.heap.size V (((V.drewN z).setCell ⟨xa, 0, none⟩ (.int .i64 ((yat : Int) + (8 + (yn : Int))))).setCell ⟨xn, 0, none⟩ (.int .i64 ((q : Int) + 1))) ∧ Stay R V (((V.drewN z).setCell ⟨xa, 0, none⟩ (.int .i64 ((yat : Int) + (8 + (yn : Int))))).setCell ⟨xn, 0, none⟩ (.int .i64 ((q : Int) + 1))) ∧
            (Blk (((V.drewN z).setCell ⟨xa, 0, none⟩ (.int .i64 ((yat : Int) + (8 + (yn : Int))))).setCell ⟨xn, 0, none⟩ (.int .i64 ((q : Int) + 1))) xn 3 #[.int .i64 ((pre ++ [(⟨yat, yA, yn, yc, yp⟩ : FrX)]).length : Nat)] ∧ Blk (((V.drewN z).setCell ⟨xa, 0, none⟩ (.int .i64 ((yat : Int) + (8 + (yn : Int))))).setCell ⟨xn, 0, none⟩ (.int .i64 ((q : Int) + 1))) xa 3 #[.int .i64 (atN l (pre ++ [(⟨yat, yA, yn, yc, yp⟩ : FrX)]).length : Nat)]) ∧
            OnlyS S W1 (((V.drewN z).setCell ⟨xa, 0, none⟩ (.int .i64 ((yat : Int) + (8 + (yn : Int))))).setCell ⟨xn, 0, none⟩ (.int .i64 ((q : Int) + 1))))) := Lib.hid (fun z => by
          refine ⟨((((KeepsAll.refl _ V).drewN z).trans (KeepsAll.setCell _ hx2 _)).trans (KeepsAll.setCell _ (by omega) _)), ?_, ⟨?_, ?_⟩, ((hO.drewN z).set S2 _).set S1 _⟩
          · exact ((show Stay R V (V.drewN z) from ⟨Nat.le_refl _, fun _ _ => rfl⟩).trans (stay_setAt (fun h => by have := HRl.out _ h; omega))).trans (stay_setAt (fun h => by have := HRl.out _ h; omega))
          · have := blk_put ((hn.drewN z).far (p := ⟨xa, 0, none⟩) (by simpa using hne1) (.int .i64 ((yat : Int) + (8 + (yn : Int))))) (.int .i64 ((q : Int) + 1))
            rw [List.length_append, ← HQ.out]; exact this
          · have := (blk_put (ha.drewN z) (.int .i64 ((yat : Int) + (8 + (yn : Int))))).far (p := ⟨xn, 0, none⟩) (by simpa using hne2) (.int .i64 ((q : Int) + 1))
            rw [List.length_append, ← HQ.out, List.length_singleton, HMo.out]
            exact this)
        clear hok q3 hq hm1 hm2 hyp hyo hbV HRdV hpk hpm hpl ht hn ha hO hA2
        gi_wp2_with (refine ⟨trivial, ?_⟩; gi_at_call 12; refine (CallsIn.inRound lp (callsIn_wide.2 HSm.out)).mono ?_; rintro e V1 ⟨rfl, z, rfl⟩; have cn2 : (V.drewN z).cell? ⟨xn, 0, none⟩ = some (.int .i64 (q : Int)) := cn; have fn2 : (V.drewN z).frozen? ⟨xn, 0, none⟩ = false := fn; have ca2 : (V.drewN z).cell? ⟨xa, 0, none⟩ = some (.int .i64 (yat : Int)) := ca; have fa2 : (V.drewN z).frozen? ⟨xa, 0, none⟩ = false := fa)
        exact HFin.out _
      case stop =>
        rintro D cc pre V hD hpre hf hK
        exact hf.elim
      case done =>
        rintro D ys V hD hys ⟨⟨hn, ha⟩, hO⟩ hK
        rw [done_len hys, ← HN2.out] at hn
        have hbV := OnlyS.bel HBW1.out hO (fun b hb => by have := HSe.out b hb; omega) (by omega)
        have hmk := OnlyS.marks HM1.out hO (fun b hb => by
          rcases HSe.out b hb with rfl | rfl
          · exact ⟨_, _, HKn1.out⟩
          · exact ⟨_, _, HKa1.out⟩)
        have HMV := Lib.hid (hmk.cons (fun d hd k e => by have := HM1.out.lt d hd k e; omega) (by omega) hK)
        have cn : V.cell? ⟨xn, 0, none⟩ = some (.int .i64 (n2 : Int)) := by rw [hn.cell]; rfl
        have cb : V.cell? ⟨xb, 0, none⟩ = some (.slice A2 n2 c2) := by rw [(HKb4.out.below hbV HKb4.out.lt).cell]; rfl
        have HBV := Lib.hid hbV
        clear hn ha hO hK hmk hbV hys
        go_wp2
        exact ⟨RdI.mk (r + 1) (by omega) HMV.out HBV.out, by simp [intOf]; omega⟩
    · obtain rfl : r = 2 := by omega
      have cbW : W.cell? ⟨xb, 0, none⟩ = some (.slice A2 n2 c2) := by rw [(HKb4.out.below HBW.out HKb4.out.lt).cell]; rfl
      go_wp2
      obtain ⟨x3, hx3⟩ : ∃ x3, x3 = W.heap.size := ⟨_, rfl⟩
      obtain ⟨V1, hV1⟩ : ∃ V1, V1 = W.alloc (.cells #[.int .i64 0] 3) := ⟨_, rfl⟩
      have hb1 : Below W.heap.size W V1 := hV1 ▸ (Below.refl _ _).alloc (Nat.le_refl _) _
      have HKx1 : Hid (Blk V1 x3 3 #[.int .i64 0]) := Lib.hid (by rw [hV1, hx3]; exact Blk.new W _ _)
      have HB1' := Lib.hid (HBW.out.trans (hb1.mono hsW))
      have HM1 := Lib.hid (HM.out.below hb1)
      have SE1 := Lib.hid (SE4.out.stay (w := w4) (W := V1) ⟨HB1'.out.size, fun g hg => HB1'.out.block g (HRl.out g hg)⟩)
      have hx4 : w4.heap.size ≤ x3 ∧ x3 < V1.heap.size := ⟨by omega, HKx1.out.lt⟩
      obtain ⟨hx4, hx5⟩ := hx4
      rw [← hV1, ← hx3]
      clear hV1 hx3 hb1 cbW
      have hx6 : x3 ≠ u := by omega
      have hx7 : x3 ≠ u + 1 := by omega
      have hx8 : x3 ≠ xb := by omega
      have HKs1 := Lib.hid (HKs4.out.below HB1'.out HKs4.out.lt)
      have HKr1 := Lib.hid (HKr4.out.below HB1'.out HKr4.out.lt)
      have HKb1 := Lib.hid (HKb4.out.below HB1'.out HKb4.out.lt)
      have HSV1 := Lib.hid HB1'.out.size
      have HUl : Hid (u = w.heap.size) := HU
      have hx9 : xb ≠ u + 1 := by omega
      obtain ⟨S, hS⟩ : ∃ S : Nat → Prop, S = fun b => b = x3 := ⟨_, rfl⟩
      have S1 : S x3 := by rw [hS]
      have HSe : Hid (∀ b, S b → b = x3) := Lib.hid (fun b h => by rw [hS] at h; exact h)
      clear hS
      refine (wpIn_wide (n := 9)).1 ?_
      refine' range_boundW (α := FrX) (gf := gf) (pb := pb) (lb := lb) rfl EN.out (SE1.out.at_ _) (fun h k => h.trans k) (stay_b SE1.out.lt) (fun _ => rfl) OkF.put
        (fun pre W => ((pre.length = 0 ∨ (pre.length : Int) < x) ∧ Blk W x3 3 #[.int .i64 (pre.length : Nat)]) ∧ OnlyS S V1 W)
        (fun cc pre W => cc = .exit 4 ∧ (Blk W x3 3 #[.int .i64 (pre.length : Nat)]) ∧ OnlyS S V1 W)
        (OwnFrom.and (Own.from (I := fun (pre : List FrX) W => (pre.length = 0 ∨ (pre.length : Int) < x) ∧ Blk W x3 3 #[.int .i64 (pre.length : Nat)]) (fun s A B row hs hg hr => ⟨hs.1, blk_kept hs.2 hg hr⟩) _) (own_onlyS V1 S))
        (fun cc => fun s A B row hs hg hr => ⟨hs.1, blk_kept hs.2.1 hg (fun r e => (hr r e).2), own_onlyS (β := Unit) V1 S () A B row hs.2.2 hg hr⟩)
        ⟨⟨.inl rfl, HKx1.out⟩, OnlyS.refl _ _⟩
        _ ?assign ?body ?done ?stop
      case assign =>
        intro lp y V K hK
        gi_wp2
        exact hK
      case body =>
        rintro lp pre ⟨yat, yA, yn, yc, yp⟩ V hlp hrec ⟨⟨hpz, hbn⟩, hO⟩ ⟨B', hB', hok⟩
        have ks := hO.blk HKs1.out (fun h => by have := HSe.out _ h; omega)
        have hlt := hok.next.1
        rw [← HN2.out] at hlt
        obtain ⟨q, hq⟩ : ∃ q, q = pre.length := ⟨_, rfl⟩
        rw [← hq] at hbn hlt hpz
        have HQq := Lib.hid hq
        have cn : V.cell? ⟨x3, 0, none⟩ = some (.int .i64 (q : Int)) := by rw [hbn.cell]; rfl
        have fn : V.frozen? ⟨x3, 0, none⟩ = false := hbn.frozen 0
        have cs : V.cell? ⟨u, 0, none⟩ = some (.int .i64 x) := by rw [ks.cell]; rfl
        have HBn := Lib.hid hbn
        have HOs := Lib.hid hO
        clear hbn hO hq ks hpz hok
        by_cases hst : x ≤ (q : Int) + 1
        · gi_wp2
          refine ⟨KeepsAll.setCell _ hx5 _, rfl, ?_, HOs.out.set S1 _⟩
          have := blk_put HBn.out (.int .i64 ((q : Int) + 1))
          rw [List.length_append, ← HQq.out]; exact this
        · have hst' : (q : Int) + 1 < x := by omega
          clear hst
          gi_wp2
          refine ⟨KeepsAll.setCell _ hx5 _, stay_setAt (fun h => by have := HRl.out _ h; omega), ⟨.inr (by rw [List.length_append, ← HQq.out]; simpa using hst'), ?_⟩, HOs.out.set S1 _⟩
          have := blk_put HBn.out (.int .i64 ((q : Int) + 1))
          rw [List.length_append, ← HQq.out]; exact this
      case stop =>
        rintro D3 cc pre V hD3 hpre ⟨rfl, hbn, hO⟩ hK
        obtain ⟨q, hq⟩ : ∃ q, q = pre.length := ⟨_, rfl⟩
        have hql : q ≤ n2 := by rw [hq, HN2.out]; exact pre_len hpre
        rw [← hq] at hbn
        have hmk := (OnlyS.marks HM1.out hO (fun b hb => by rcases HSe.out b hb with rfl; exact ⟨_, _, HKx1.out⟩)).cons (fun d hd k e => by have := HM1.out.lt d hd k e; omega) (by omega) hK
        have HMk := Lib.hid hmk
        have HFn := Lib.hid (OnlyS.bel HB1'.out hO (fun b hb => by have := HSe.out b hb; omega) HSV1.out)
        have kx := hbn
        have kr := hO.blk HKr1.out (fun h => by have := HSe.out _ h; omega)
        have kb := hO.blk HKb1.out (fun h => by have := HSe.out _ h; omega)
        clear hmk hpre hq hO hK
        refine wpIn_wide.2 ?_
        go_wp2
        have cx : V.cell? ⟨x3, 0, none⟩ = some (.int .i64 (q : Int)) := by rw [kx.cell]; rfl
        have cb : V.cell? ⟨xb, 0, none⟩ = some (.slice A2 n2 c2) := by rw [kb.cell]; rfl
        have cr : V.cell? ⟨u + 1, 0, none⟩ = some (.bool false) := by rw [kr.cell]; rfl
        have fr : V.frozen? ⟨u + 1, 0, none⟩ = false := kr.frozen 0
        have hxV : x3 < V.heap.size := kx.lt
        have HKr := Lib.hid kr
        have HKx := Lib.hid kx
        have HKb := Lib.hid kb
        have HBV := Lib.hid (HB4.out.trans (HFn.out.mono (by have := HB4.out.size; have := HUl.out; omega)))
        have hVu : u ≤ V.heap.size := by have := HBV.out.size; have := HUl.out; omega
        have hVu2 : ∀ k, u ≤ (V.drewN k).heap.size := fun k => hVu
        have HX := Lib.hid (fun k => HA.out a n c l (V.drewN k) ((HT4.out.next HFn.out).drewN k) ((HR.out.below HBV.out).more (hVu2 k)) HNC.out HB.out (by omega))
        have HRV := Lib.hid (HRd4.out.below HFn.out)
        have HV := Lib.hid (fun (w' : World) (hb : Below V.heap.size V w') => HD.out a n c l w' (HT4.out.next (HFn.out.trans (hb.mono HFn.out.size))) ((HR.out.below (HBV.out.trans (hb.mono hVu))).more (Nat.le_trans hVu hb.size)) HNC.out HB.out (by omega))
        unfold EndP at HV
        rw [← HF.out] at HV
        have gt : decide (q ≤ n2) = true := decide_eq_true hql
        clear hbn kx kr kb
        refine wp_region_noPanic ?_
        go_region_held3 (fun w' => w'.cell? ⟨x3, 0, none⟩ = some (.int .i64 (q : Int)) ∧ w'.cell? ⟨xb, 0, none⟩ = some (.slice A2 n2 c2)) (first | exact ⟨cx, cb⟩ | exact Z1 | exact Z5 | exact Z6 | go_keep) (first
          | (go_at_call 16; go_must (refine (HX.out 1).mono ?_; rintro e w7 ⟨hb7, A3, n3, c3, qs, rfl, ho3, hq3⟩; have HC7 : Hid (Below V.heap.size V w7) := Lib.hid ⟨hb7.os, hb7.tape, hb7.output, hb7.size, hb7.block⟩; have HRd := Lib.hid (ho3.rd (frames_fits hq3)); have HQ3 : Hid (Piece.bytes qs = Piece.bytes ps) := Lib.hid (hq3.trans HP2.out.symm); have hn3 : n3 ≤ 4611686018427387904 := (by have h1 := congrArg List.length HQ3.out; simp only [Piece.bytes, List.length_map] at h1; have h2 := (own_rowlen ho3.row).1; have h3 := HRV.out.len; omega); have Z1 : w7.cell? ⟨x3, 0, none⟩ = some (.int .i64 (q : Int)) ∧ w7.cell? ⟨xb, 0, none⟩ = some (.slice A2 n2 c2) := ⟨(HC7.out.cell (p := ⟨x3, 0, none⟩) hxV).trans cx, (HC7.out.cell (p := ⟨xb, 0, none⟩) (show xb < V.heap.size by omega)).trans cb⟩; clear hb7 ho3 hq3))
          | (go_at_call 15; go_must (refine (alike_any A3 A2 n3 c3 n2 c2 qs ps _ w7.heap.size w4.heap.size (by exact HRd.out) (by exact HRV.out.below (HC7.out.mono HFn.out.size)) hn3).mono ?_; rw [decide_eq_true HQ3.out]; rintro e w8 ⟨rfl, z, rfl⟩))
          | (go_at_call 17; go_must (refine (HV.out _ (by exact below_drewN HC7.out z)).mono ?_; rintro e w9 ⟨rfl, hb9⟩; have HC9 : Hid (Below V.heap.size V w9) := Lib.hid ((below_drewN HC7.out z).trans (hb9.mono HC7.out.size)); have Z5 : w9.cell? ⟨x3, 0, none⟩ = some (.int .i64 (q : Int)) ∧ w9.cell? ⟨xb, 0, none⟩ = some (.slice A2 n2 c2) := ⟨(HC9.out.cell (p := ⟨x3, 0, none⟩) hxV).trans cx, (HC9.out.cell (p := ⟨xb, 0, none⟩) (show xb < V.heap.size by omega)).trans cb⟩; have HKx9 := HKx.out.below HC9.out HKx.out.lt; have HKb9 := HKb.out.below HC9.out HKb.out.lt; have Z6 : (w9.setCell ⟨u + 1, 0, none⟩ (.bool true)).cell? ⟨x3, 0, none⟩ = some (.int .i64 (q : Int)) ∧ (w9.setCell ⟨u + 1, 0, none⟩ (.bool true)).cell? ⟨xb, 0, none⟩ = some (.slice A2 n2 c2) := ⟨(by rw [(HKx9.far (p := ⟨u + 1, 0, none⟩) (by simpa using hx7) (.bool true)).cell]; rfl), (by rw [(HKb9.far (p := ⟨u + 1, 0, none⟩) (by simpa using hx9) (.bool true)).cell]; rfl)⟩; clear HKx9 HKb9; have HK9 : Hid (Blk w9 (u + 1) 4 #[.bool false]) := Lib.hid (HKr.out.below HC9.out HKr.out.lt); have cr9 : w9.cell? ⟨u + 1, 0, none⟩ = some (.bool false) := (by rw [HK9.out.cell]; rfl); have fr9 : w9.frozen? ⟨u + 1, 0, none⟩ = false := HK9.out.frozen 0; clear hb9)))
        all_goals refine NoPanic.normal ?_
        all_goals go_wp2
        have k9 : OnlyS (fun b => b = u + 1) w9 (w9.setCell ⟨u + 1, 0, none⟩ (.bool true)) := OnlyS.set (S := fun b => b = u + 1) (OnlyS.refl (fun b => b = u + 1) w9) (x := u + 1) rfl (.bool true)
        have hk9 := blk_put HK9.out (.bool true)
        have hB9 : Below u w w9 := HBV.out.trans (HC9.out.mono hVu)
        have hB10 := OnlyS.bel hB9 k9 (fun b hb => by omega) (Nat.le_trans hVu HC9.out.size)
        refine Marks.leave (B := w4.heap.size) _ _ (OnlyS.marks (HMk.out.below HC9.out) k9 (fun b hb => ⟨_, _, (show Blk w9 b 4 #[.bool false] by rw [hb]; exact HK9.out)⟩)) (fun W' hb => ?_)
        have c5 : W'.cell? ⟨u + 1, 0, none⟩ = some (.bool true) := by rw [hb.cell (p := ⟨u + 1, 0, none⟩) (show u + 1 < w4.heap.size by omega), hk9.cell]; rfl
        refine ⟨.bool true, by simp [results, Tryd.f4, go_sem, c5], rfl, ?_⟩
        rw [← HUl.out]
        exact hB10.trans (hb.mono (by omega))
      case done =>
        rintro D3 ys V hD3 hys ⟨⟨hpz, hbn⟩, hO⟩ hK
        rw [done_len hys, ← HN2.out] at hbn hpz
        obtain ⟨q, hq⟩ : ∃ q, q = n2 := ⟨_, rfl⟩
        have hql : q ≤ n2 := by omega
        rw [← hq] at hbn
        have hmk := (OnlyS.marks HM1.out hO (fun b hb => by rcases HSe.out b hb with rfl; exact ⟨_, _, HKx1.out⟩)).cons (fun d hd k e => by have := HM1.out.lt d hd k e; omega) (by omega) hK
        have HMk := Lib.hid hmk
        have HFn := Lib.hid (OnlyS.bel HB1'.out hO (fun b hb => by have := HSe.out b hb; omega) HSV1.out)
        have kx := hbn
        have kr := hO.blk HKr1.out (fun h => by have := HSe.out _ h; omega)
        have kb := hO.blk HKb1.out (fun h => by have := HSe.out _ h; omega)
        clear hmk hys hpz hq hO hK
        go_wp2
        have cx : V.cell? ⟨x3, 0, none⟩ = some (.int .i64 (q : Int)) := by rw [kx.cell]; rfl
        have cb : V.cell? ⟨xb, 0, none⟩ = some (.slice A2 n2 c2) := by rw [kb.cell]; rfl
        have cr : V.cell? ⟨u + 1, 0, none⟩ = some (.bool false) := by rw [kr.cell]; rfl
        have fr : V.frozen? ⟨u + 1, 0, none⟩ = false := kr.frozen 0
        have hxV : x3 < V.heap.size := kx.lt
        have HKr := Lib.hid kr
        have HKx := Lib.hid kx
        have HKb := Lib.hid kb
        have HBV := Lib.hid (HB4.out.trans (HFn.out.mono (by have := HB4.out.size; have := HUl.out; omega)))
        have hVu : u ≤ V.heap.size := by have := HBV.out.size; have := HUl.out; omega
        have hVu2 : ∀ k, u ≤ (V.drewN k).heap.size := fun k => hVu
        have HX := Lib.hid (fun k => HA.out a n c l (V.drewN k) ((HT4.out.next HFn.out).drewN k) ((HR.out.below HBV.out).more (hVu2 k)) HNC.out HB.out (by omega))
        have HRV := Lib.hid (HRd4.out.below HFn.out)
        have HV := Lib.hid (fun (w' : World) (hb : Below V.heap.size V w') => HD.out a n c l w' (HT4.out.next (HFn.out.trans (hb.mono HFn.out.size))) ((HR.out.below (HBV.out.trans (hb.mono hVu))).more (Nat.le_trans hVu hb.size)) HNC.out HB.out (by omega))
        unfold EndP at HV
        rw [← HF.out] at HV
        have gt : decide (q ≤ n2) = true := decide_eq_true hql
        clear hbn kx kr kb
        refine wp_region_noPanic ?_
        go_region_held3 (fun w' => w'.cell? ⟨x3, 0, none⟩ = some (.int .i64 (q : Int)) ∧ w'.cell? ⟨xb, 0, none⟩ = some (.slice A2 n2 c2)) (first | exact ⟨cx, cb⟩ | exact Z1 | exact Z5 | exact Z6 | go_keep) (first
          | (go_at_call 16; go_must (refine (HX.out 1).mono ?_; rintro e w7 ⟨hb7, A3, n3, c3, qs, rfl, ho3, hq3⟩; have HC7 : Hid (Below V.heap.size V w7) := Lib.hid ⟨hb7.os, hb7.tape, hb7.output, hb7.size, hb7.block⟩; have HRd := Lib.hid (ho3.rd (frames_fits hq3)); have HQ3 : Hid (Piece.bytes qs = Piece.bytes ps) := Lib.hid (hq3.trans HP2.out.symm); have hn3 : n3 ≤ 4611686018427387904 := (by have h1 := congrArg List.length HQ3.out; simp only [Piece.bytes, List.length_map] at h1; have h2 := (own_rowlen ho3.row).1; have h3 := HRV.out.len; omega); have Z1 : w7.cell? ⟨x3, 0, none⟩ = some (.int .i64 (q : Int)) ∧ w7.cell? ⟨xb, 0, none⟩ = some (.slice A2 n2 c2) := ⟨(HC7.out.cell (p := ⟨x3, 0, none⟩) hxV).trans cx, (HC7.out.cell (p := ⟨xb, 0, none⟩) (show xb < V.heap.size by omega)).trans cb⟩; clear hb7 ho3 hq3))
          | (go_at_call 15; go_must (refine (alike_any A3 A2 n3 c3 n2 c2 qs ps _ w7.heap.size w4.heap.size (by exact HRd.out) (by exact HRV.out.below (HC7.out.mono HFn.out.size)) hn3).mono ?_; rw [decide_eq_true HQ3.out]; rintro e w8 ⟨rfl, z, rfl⟩))
          | (go_at_call 17; go_must (refine (HV.out _ (by exact below_drewN HC7.out z)).mono ?_; rintro e w9 ⟨rfl, hb9⟩; have HC9 : Hid (Below V.heap.size V w9) := Lib.hid ((below_drewN HC7.out z).trans (hb9.mono HC7.out.size)); have Z5 : w9.cell? ⟨x3, 0, none⟩ = some (.int .i64 (q : Int)) ∧ w9.cell? ⟨xb, 0, none⟩ = some (.slice A2 n2 c2) := ⟨(HC9.out.cell (p := ⟨x3, 0, none⟩) hxV).trans cx, (HC9.out.cell (p := ⟨xb, 0, none⟩) (show xb < V.heap.size by omega)).trans cb⟩; have HKx9 := HKx.out.below HC9.out HKx.out.lt; have HKb9 := HKb.out.below HC9.out HKb.out.lt; have Z6 : (w9.setCell ⟨u + 1, 0, none⟩ (.bool true)).cell? ⟨x3, 0, none⟩ = some (.int .i64 (q : Int)) ∧ (w9.setCell ⟨u + 1, 0, none⟩ (.bool true)).cell? ⟨xb, 0, none⟩ = some (.slice A2 n2 c2) := ⟨(by rw [(HKx9.far (p := ⟨u + 1, 0, none⟩) (by simpa using hx7) (.bool true)).cell]; rfl), (by rw [(HKb9.far (p := ⟨u + 1, 0, none⟩) (by simpa using hx9) (.bool true)).cell]; rfl)⟩; clear HKx9 HKb9; have HK9 : Hid (Blk w9 (u + 1) 4 #[.bool false]) := Lib.hid (HKr.out.below HC9.out HKr.out.lt); have cr9 : w9.cell? ⟨u + 1, 0, none⟩ = some (.bool false) := (by rw [HK9.out.cell]; rfl); have fr9 : w9.frozen? ⟨u + 1, 0, none⟩ = false := HK9.out.frozen 0; clear hb9)))
        all_goals refine NoPanic.normal ?_
        all_goals go_wp2
        have k9 : OnlyS (fun b => b = u + 1) w9 (w9.setCell ⟨u + 1, 0, none⟩ (.bool true)) := OnlyS.set (S := fun b => b = u + 1) (OnlyS.refl (fun b => b = u + 1) w9) (x := u + 1) rfl (.bool true)
        have hk9 := blk_put HK9.out (.bool true)
        have hB9 : Below u w w9 := HBV.out.trans (HC9.out.mono hVu)
        have hB10 := OnlyS.bel hB9 k9 (fun b hb => by omega) (Nat.le_trans hVu HC9.out.size)
        refine Marks.leave (B := w4.heap.size) _ _ (OnlyS.marks (HMk.out.below HC9.out) k9 (fun b hb => ⟨_, _, (show Blk w9 b 4 #[.bool false] by rw [hb]; exact HK9.out)⟩)) (fun W' hb => ?_)
        have c5 : W'.cell? ⟨u + 1, 0, none⟩ = some (.bool true) := by rw [hb.cell (p := ⟨u + 1, 0, none⟩) (show u + 1 < w4.heap.size by omega), hk9.cell]; rfl
        refine ⟨.bool true, by simp [results, Tryd.f4, go_sem, c5], rfl, ?_⟩
        rw [← HUl.out]
        exact hB10.trans (hb.mono (by omega))
end Go.Proofs.YtmmjmaohbmlfgaaDoor.Pk
