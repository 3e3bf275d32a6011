/- The walk of the law ArrowKeeps. -/
import Derived.Test.YtcomiininaemhaaZArPush
namespace Go.Proofs.Ytcomiininaemhaa.Pk
open Go.RowKit Go.Shelf Go.Proofs.Ytcomiininaemhaa.Gr Go.Proofs.Ytcomiininaemhaa.Ar
set_option linter.unusedVariables false
attribute [local go_sem] Oper.semAt_some encA
theorem run_headN {P : Program} {t e : TypeId} (ht : P.underlying t = some (.slice e)) (hi : (P.info? e).map (·.size) = some 1) (a : Option Addr) (n c j : Nat) (h2 : j ≤ c) (w : World) :
    (Instr.slice t (.slice a n c) none (some (.int .i64 (j : Int))) none).run P w = .ok (.slice a j c) w := by
  obtain ⟨f, hi1, hi2⟩ := Option.map_eq_some_iff.1 hi
  have e3 : (0 : Int) ≤ (j : Int) := by omega
  have e4 : (j : Int) ≤ (c : Int) := by omega
  cases a <;> simp [Instr.slice, run_underlying ht, go_sem, Instr.sliceBounds, sizeOf, typeInfo, hi1, h2, Addr.add]
theorem pair_reads (w : World) (T : TypeId) (a b : Int) : Reads (w.alloc (.cells #[.int .i64 a, .int .i64 b] T)) (w.heap.size + 1) 1 (some ⟨w.heap.size, 0, none⟩) 2 (nms [a, b]) := by
  refine ⟨rfl, fun _ => ⟨_, rfl, by simp, fun j u hj => ?_⟩⟩
  match j, hj with
  | 0, hj => simp [nms] at hj; subst hj; simp [Addr.add]
  | 1, hj => simp [nms] at hj; subst hj; simp [Addr.add]
  | j + 2, hj => simp [nms] at hj
/-- The first ones of a list that was made of what came in and two more. -/
theorem OwnN.head_ {w : World} {B n c : Nat} {A : Option Addr} {ar r : List Int} (h : OwnN w B (.slice A (n + r.length) c) (ar ++ r)) (hl : ar.length = n) (hi : Ints ar) (hf : n ≤ 17592186044416) : InA w ar A n c := by
  obtain ⟨A', c', e, hc, hr⟩ := h.reads
  injection e with e1 e2 e3
  subst e1; subst e3
  refine ⟨⟨by simp [nms, hl], fun hn => ?_⟩, by rw [List.length_append, hl] at hc; omega, hf, hi⟩
  obtain ⟨ad, e, hb, hx⟩ := hr.2 (by rw [List.length_append]; omega)
  refine ⟨ad, e, hb, fun j u hj => hx j u ?_⟩
  rw [← nms_append, List.getElem?_append_left (List.getElem?_eq_some_iff.1 hj).1]
  exact hj
theorem folF_len (ar : List Int) : ∀ (k : Nat) (met : List Int) (x : Int), (folF ar k met x).length ≤ k := by
  intro k
  induction k with
  | zero => intro met x; simp [folF]
  | succ k ih =>
    intro met x
    rw [folF]
    split
    · simpa using ih _ _
    · simp
theorem runI_len {ps : List Int} (G : Gr.Good ps) (ar : List Int) (f : Int) : (runI ps ar f).1.length ≤ 32 := by
  unfold runI
  split
  · show (towardN ps f.toNat).length ≤ 32
    rw [towardN_len]; exact G.few
  · simp
theorem onlyS_grownS {S : Nat → Prop} {w V W : World} {row : Option Nat} (h : OnlyS S w V) (hg : V.grownBy W row) (hr : ∀ g, row = some g → S g) : OnlyS S w W :=
  ⟨hg.os.trans h.os, hg.tape.trans h.tape, hg.output.trans h.output, Nat.le_trans h.size hg.size, fun i hi hn => (hg.block i (Nat.lt_of_lt_of_le hi h.size) (fun e => hn (hr i e.symm))).trans (h.block i hi hn)⟩
theorem ownN_blk {w : World} {B b : Nat} {v : Value} {l : List Int} (h : OwnN w B v l) (hb : v.ownBlock = some b) : ∃ t cs, Blk w b t cs := by
  rcases h.2 with ⟨rfl, _⟩ | ⟨g, cap, cur, rfl, _, hh, _⟩
  · simp [Value.ownBlock] at hb
  · simp [Value.ownBlock] at hb
    subst hb
    exact ⟨_, _, hh⟩
set_option maxRecDepth 100000 in
set_option maxHeartbeats 16000000 in
theorem law_ArrowKeeps (HFo : FollowG) (HTo : TowardA) (HSi : SinksA) (HRu : RunA) (A : Option Addr) (n c : Nat) (ps : List Int) (A' : Option Addr) (n' c' : Nat) (ar : List Int) (f : Int) (w : World) (hk : ArgN w A n c ps) (hk' : ArgN w A' n' c' ar) (hf : -9223372036854775808 ≤ f ∧ f ≤ 9223372036854775807) :
    Calls Try.prog 8 #[.slice A n c, .slice A' n' c', .int .i64 f] w fun e w' => e = .returned (.bool true) ∧ Below w.heap.size w w' := by
  have HW := Lib.hid (fun w => wakes_any HRu w)
  have HIn := Lib.hid (argN_inA hk')
  have HRd := Lib.hid hk.1
  have hn : n ≤ 4611686018427387904 := by have h1 := hk.2.1; have h2 := hk.2.2.1; omega
  have hn' : n' + 2 ≤ 17592186044416 := by have h1 := hk'.2.1; have h2 := hk'.2.2.1; omega
  have HL' := Lib.hid HIn.out.len
  have HFo := Lib.hid HFo
  have HTo := Lib.hid HTo
  have HSi := Lib.hid HSi
  have HRu := Lib.hid HRu
  have HF := Lib.hid hf
  clear hk hk' hf
  refine (callsIn_wide (n := 9)).1 ?_
  refine callsIn_of_wp_marks Try.func8 rfl trivial ?_ rfl
  simp only [Try.ntmps8, List.size_toArray, List.length_cons, List.length_nil, Nat.reduceAdd, Nat.reduceSub, Array.replicate_succ, Array.replicate_zero, List.push_toArray, List.append_toArray, List.nil_append, List.cons_append]
  refine wpIn_wide.2 ?_
  obtain ⟨xr, hxr⟩ : ∃ x, x = w.heap.size := ⟨_, rfl⟩
  obtain ⟨w0, hw0⟩ : ∃ v, v = w.alloc (.cells #[.bool false] 4) := ⟨_, rfl⟩
  have HB0 : Hid (Below w.heap.size w w0) := Lib.hid (hw0 ▸ (Below.refl _ _).alloc (by omega) _)
  have HR0 : Hid (Blk w0 xr 4 #[.bool false]) := Lib.hid (by rw [hw0, hxr]; exact Blk.new w _ _)
  have HX : Hid (w.heap.size ≤ xr) := Lib.hid (by omega)
  go_wp2_with fail
  rw [← hw0, ← hxr]
  clear hw0 hxr
  refine (HW.out w0).mono ?_
  rintro e w1 ⟨rfl, hb⟩
  have HB1 := Lib.hid (HB0.out.trans (hb.mono HB0.out.size))
  have HR1 := Lib.hid (HR0.out.below hb HR0.out.lt)
  have HN := Lib.hid (new_any A n c ps w1 w.heap.size (HRd.out.below HB1.out) HB1.out.size hn)
  clear hb HB0 HR0 HW
  go_wp2_with fail
  refine HN.out.mono ?_
  rintro e w2 ⟨hb2, ⟨T, gt, rfl, hch, ht, hT, hg, hTg⟩ | ⟨p, er, rfl, hch, her⟩⟩
  case inr =>
    have t1 : (er == 0) = false := by simpa using her
    have t2 : (er != 0) = true := by simpa using her
    have HB2 := Lib.hid (HB1.out.trans (hb2.mono HB1.out.size))
    have HR2 := Lib.hid (HR1.out.below hb2 HR1.out.lt)
    have her9 := hch.code
    have cr : w2.cell? ⟨xr, 0, none⟩ = some (.bool false) := HR2.out.cell 0
    have fr : w2.frozen? ⟨xr, 0, none⟩ = false := HR2.out.frozen 0
    clear hb2 hch her
    go_wp2
    have k9 : OnlyS (fun b => b = xr) w2 (w2.setCell ⟨xr, 0, none⟩ (.bool true)) := OnlyS.set (S := fun b => b = xr) (OnlyS.refl (fun b => b = xr) w2) (x := xr) rfl (.bool true)
    have hk9 := blk_put HR2.out (.bool true)
    have hB10 := OnlyS.bel HB2.out k9 (fun b hb => by have := HX.out; omega) HB2.out.size
    have hlr : xr < w2.heap.size := HR2.out.lt
    refine Marks.leave (B := w2.heap.size) [] _ trivial (fun W' hb => ?_)
    have c5 : W'.cell? ⟨xr, 0, none⟩ = some (.bool true) := by rw [hb.cell (p := ⟨xr, 0, none⟩) (show xr < w2.heap.size by omega), hk9.cell]; rfl
    refine ⟨.bool true, by simp [results, Try.f8, go_sem, c5], rfl, ?_⟩
    exact hB10.trans (hb.mono HB2.out.size)
  case inl =>
  have HG := Lib.hid hch.good.1
  have HB2 := Lib.hid (HB1.out.trans (hb2.mono HB1.out.size))
  have HR2 := Lib.hid (HR1.out.below hb2 HR1.out.lt)
  have HT2 := Lib.hid ht
  clear hb2 ht hch hT hg hTg HN HB1 HR1
  have HLm : Hid ((ar ++ [71, 72]).length = n' + 2) := Lib.hid (by simp [HL'.out])
  go_wp2_with (first
    | (at_builtin; go_loud (refine appNE w2 rfl (.tmp 36) (.tmp 37) rfl rfl w.heap.size A' c' ar n' rfl (HIn.out.rd.below HB2.out) HB2.out.size (by omega) ?_); intro v3 w3 ho3 hb3; obtain ⟨A3, c3, rfl⟩ := ho3.sl; rw [HL'.out] at ho3 ⊢; have HO3 := Lib.hid ho3; have HB23 := Lib.hid hb3; clear ho3 hb3)
    | (at_builtin; go_loud (refine appNs (w3.alloc (.cells #[.int .i64 71, .int .i64 72] 3)) rfl (.tmp 38) (.tmp 39) rfl w2.heap.size _ ar rfl (HO3.out.alloc _) (w3.heap.size + 1) (some ⟨w3.heap.size, 0, none⟩) 2 [71, 72] 2 rfl (pair_reads w3 _ 71 72) (by rw [HL'.out]; omega) (by have := HB23.out.size; rw [World.size_alloc]; omega) ?_); intro v4 w4 ho4 hb4 _ hg4; obtain ⟨g4, c4, rfl⟩ := ho4.row_ (by rw [HLm.out]; omega); rw [HLm.out] at ho4 ⊢; have HM4 := Lib.hid ho4; have HB24 : Hid (Below w2.heap.size w2 w4) := Lib.hid ((HB23.out.alloc HB23.out.size _).trans hb4); have hcc : n' + 2 ≤ c4 := by { obtain ⟨_, _, e, hc, _⟩ := ho4.reads; injection e with e1 e2 e3; rw [HLm.out] at hc; omega }; have kt := fun u : World => run_headN (P := Try.prog) Try.underlying26 (by kernel_rfl) (some ⟨g4, 0, none⟩) (n' + 2) c4 n' (by omega) u; clear ho4 hb4 hg4)
    | fail)
  have HB4 := Lib.hid (HB2.out.trans (HB24.out.mono HB2.out.size))
  have HR4 := Lib.hid (HR2.out.below HB24.out HR2.out.lt)
  have HT4 := Lib.hid (HT2.out.below_ HB24.out)
  have HXm : Hid (xr < w2.heap.size) := Lib.hid HR2.out.lt
  have HG4 : Hid (w2.heap.size ≤ g4 ∧ g4 < w4.heap.size) := Lib.hid ⟨ownN_base HM4.out g4 rfl, ownN_lt HM4.out g4 rfl⟩
  have HTg : Hid (∀ b, TrB T gt b → b ≠ g4) := Lib.hid (fun b h => by have h1 := HT2.out.lt b h; have h2 := ownN_base HM4.out g4 rfl; omega)
  have HLa := Lib.hid (runI_len HG.out ar f)
  have HLc := Lib.hid (towardI_len HG.out f)
  have hlen2 : n' + ([71, 72] : List Int).length = n' + 2 := rfl
  have HMi : Hid (∀ (B : Nat) (W : World), OwnN W B (.slice (some ⟨g4, 0, none⟩) (n' + 2) c4) (ar ++ [71, 72]) → InA W ar (some ⟨g4, 0, none⟩) n' c4) := Lib.hid (fun B W h => OwnN.head_ (r := [71, 72]) h HL'.out HIn.out.i (by omega))
  clear HB23 HB24 HO3 hlen2 HB2 HR2 HT2
  refine (HFo.out (some ⟨g4, 0, none⟩) n' c4 ar f w4 (HMi.out _ _ HM4.out) HF.out).mono ?_
  rintro e w5 ⟨vw, R, rfl, hseq, hb, hR⟩
  have SE5 := Lib.hid hseq
  have HRf := Lib.hid hR
  clear hseq hR
  have HB5 := Lib.hid (HB4.out.trans (hb.mono HB4.out.size))
  have HR5 := Lib.hid (HR4.out.below hb HR4.out.lt)
  have HT5 := Lib.hid (HT4.out.below_ hb)
  have HM5 := Lib.hid (HM4.out.below hb)
  have HZ5 := Lib.hid hb.size
  clear hb HB4 HR4 HT4 HM4
  obtain ⟨gf, pb, lb, hv6, en, hq1, hq2⟩ := SE5.out
  clear hq1 hq2
  subst hv6
  have EN := Lib.hid en
  clear en
  go_wp2_with fail
  refine (HRu.out T gt ps (some ⟨g4, 0, none⟩) n' c4 ar f w5 HT5.out HG.out (HMi.out _ _ HM5.out) HF.out).mono ?_
  rintro e w6 ⟨va, rfl, ho, hb⟩
  obtain ⟨Aa, ca, rfl⟩ := ho.sl
  have HOa_6 := Lib.hid ho
  have HSa : Hid (∀ b, (Value.slice Aa _ ca).ownBlock = some b → w5.heap.size ≤ b ∧ b < w6.heap.size) := Lib.hid (fun b h => ⟨ownN_base ho b h, ownN_lt ho b h⟩)
  clear ho
  have HB6 := Lib.hid (HB5.out.trans (hb.mono HB5.out.size))
  have HR6 := Lib.hid (HR5.out.below hb HR5.out.lt)
  have HT6 := Lib.hid (HT5.out.below_ hb)
  have HM6 := Lib.hid (HM5.out.below hb)
  have SE6 := Lib.hid (SE5.out.stay (w := w5) (W := w6) ⟨hb.size, fun g hg => hb.block g (SE5.out.lt g hg)⟩)
  have HZ6 := Lib.hid hb.size
  clear hb HB5 HR5 HT5 HM5 SE5
  go_wp2_with fail
  refine (HRu.out T gt ps (some ⟨g4, 0, none⟩) n' c4 ar f w6 HT6.out HG.out (HMi.out _ _ HM6.out) HF.out).mono ?_
  rintro e w7 ⟨vb, rfl, ho, hb⟩
  obtain ⟨Ab, cb, rfl⟩ := ho.sl
  have HOb_7 := Lib.hid ho
  have HSb : Hid (∀ b, (Value.slice Ab _ cb).ownBlock = some b → w6.heap.size ≤ b ∧ b < w7.heap.size) := Lib.hid (fun b h => ⟨ownN_base ho b h, ownN_lt ho b h⟩)
  clear ho
  have HB7 := Lib.hid (HB6.out.trans (hb.mono HB6.out.size))
  have HR7 := Lib.hid (HR6.out.below hb HR6.out.lt)
  have HT7 := Lib.hid (HT6.out.below_ hb)
  have HM7 := Lib.hid (HM6.out.below hb)
  have HOa_7 := Lib.hid (HOa_6.out.below hb)
  have SE7 := Lib.hid (SE6.out.stay (w := w6) (W := w7) ⟨hb.size, fun g hg => hb.block g (SE6.out.lt g hg)⟩)
  have HZ7 := Lib.hid hb.size
  clear hb HB6 HR6 HT6 HM6 HOa_6 SE6
  go_wp2_with fail
  refine (HTo.out T gt ps f w7 HT7.out HG.out HF.out).mono ?_
  rintro e w8 ⟨vc, rfl, ho, hb⟩
  obtain ⟨Ac, cc, rfl⟩ := ho.sl
  have HOc_8 := Lib.hid ho
  have HSc : Hid (∀ b, (Value.slice Ac _ cc).ownBlock = some b → w7.heap.size ≤ b ∧ b < w8.heap.size) := Lib.hid (fun b h => ⟨ownN_base ho b h, ownN_lt ho b h⟩)
  clear ho
  have HB8 := Lib.hid (HB7.out.trans (hb.mono HB7.out.size))
  have HR8 := Lib.hid (HR7.out.below hb HR7.out.lt)
  have HT8 := Lib.hid (HT7.out.below_ hb)
  have HM8 := Lib.hid (HM7.out.below hb)
  have HOa_8 := Lib.hid (HOa_7.out.below hb)
  have HOb_8 := Lib.hid (HOb_7.out.below hb)
  have SE8 := Lib.hid (SE7.out.stay (w := w7) (W := w8) ⟨hb.size, fun g hg => hb.block g (SE7.out.lt g hg)⟩)
  have HZ8 := Lib.hid hb.size
  clear hb HB7 HR7 HT7 HM7 HOa_7 HOb_7 SE7
  go_wp2_with fail
  refine (HTo.out T gt ps f w8 HT8.out HG.out HF.out).mono ?_
  rintro e w9 ⟨vd, rfl, ho, hb⟩
  obtain ⟨Ad, cd, rfl⟩ := ho.sl
  have HOd_9 := Lib.hid ho
  have HSd : Hid (∀ b, (Value.slice Ad _ cd).ownBlock = some b → w8.heap.size ≤ b ∧ b < w9.heap.size) := Lib.hid (fun b h => ⟨ownN_base ho b h, ownN_lt ho b h⟩)
  clear ho
  have HB9 := Lib.hid (HB8.out.trans (hb.mono HB8.out.size))
  have HR9 := Lib.hid (HR8.out.below hb HR8.out.lt)
  have HT9 := Lib.hid (HT8.out.below_ hb)
  have HM9 := Lib.hid (HM8.out.below hb)
  have HOa_9 := Lib.hid (HOa_8.out.below hb)
  have HOb_9 := Lib.hid (HOb_8.out.below hb)
  have HOc_9 := Lib.hid (HOc_8.out.below hb)
  have SE9 := Lib.hid (SE8.out.stay (w := w8) (W := w9) ⟨hb.size, fun g hg => hb.block g (SE8.out.lt g hg)⟩)
  have HZ9 := Lib.hid hb.size
  clear hb HB8 HR8 HT8 HM8 HOa_8 HOb_8 HOc_8 SE8
  go_wp2_with fail
  refine (HSi.out (some ⟨g4, 0, none⟩) n' c4 ar w9 (HMi.out _ _ HM9.out)).mono ?_
  rintro e w10 ⟨vs, rfl, ho, hb⟩
  clear ho
  have HB10 := Lib.hid (HB9.out.trans (hb.mono HB9.out.size))
  have HR10 := Lib.hid (HR9.out.below hb HR9.out.lt)
  have HT10 := Lib.hid (HT9.out.below_ hb)
  have HM10 := Lib.hid (HM9.out.below hb)
  have HOa_10 := Lib.hid (HOa_9.out.below hb)
  have HOb_10 := Lib.hid (HOb_9.out.below hb)
  have HOc_10 := Lib.hid (HOc_9.out.below hb)
  have HOd_10 := Lib.hid (HOd_9.out.below hb)
  have SE10 := Lib.hid (SE9.out.stay (w := w9) (W := w10) ⟨hb.size, fun g hg => hb.block g (SE9.out.lt g hg)⟩)
  have HZ10 := Lib.hid hb.size
  clear hb HB9 HR9 HT9 HM9 HOa_9 HOb_9 HOc_9 HOd_9 SE9
  have hfn2 := fun (W : World) (gf : Nat) (pb cs : Array Value) => run_eql_func_nil (P := Try.prog) W 42 (.func gf) pb cs Try.underlying42
  have HSm := Lib.hid (same_refl (some ⟨g4, 0, none⟩) A' n' c4 n' c' ar w10 _ _ (HMi.out _ _ HM10.out).rd (HIn.out.rd.below HB10.out) (by omega))
  obtain ⟨-, -, -, hm1, -⟩ := HM10.out.at_
  have ib1 : (n' : Int) < (n' : Int) + 2 := by omega
  have ib2 : (0 : Int) ≤ (n' : Int) := by omega
  have ib3 : (0 : Int) ≤ (n' : Int) + 1 := by omega
  have ib4 : (n' : Int) + 1 < (n' : Int) + 2 := by omega
  have c71 : ∀ k, (w10.drewN k).cell? ⟨g4, n', none⟩ = some (.int .i64 71) := fun k => by
    have := hm1 n' (by omega)
    rw [List.getD_eq_getElem?_getD, List.getElem?_append_right (by rw [HL'.out]; omega), HL'.out, Nat.sub_self] at this
    exact this
  have c72 : ∀ k, (w10.drewN k).cell? ⟨g4, n' + 1, none⟩ = some (.int .i64 72) := fun k => by
    have := hm1 (n' + 1) (by omega)
    rw [List.getD_eq_getElem?_getD, List.getElem?_append_right (by rw [HL'.out]; omega), HL'.out, show n' + 1 - n' = 1 by omega] at this
    exact this
  clear hm1
  go_wp2_with fail
  refine HSm.out.mono ?_
  rintro e w11 ⟨rfl, kd, hw⟩
  have hb : Below w10.heap.size w10 w11 := hw ▸ below_drewA (Below.refl _ _) kd
  have d71 := c71 kd
  have d72 := c72 kd
  rw [← hw] at d71 d72
  clear hw c71 c72 HSm
  have HB11 := Lib.hid (HB10.out.trans (hb.mono HB10.out.size))
  have HR11 := Lib.hid (HR10.out.below hb HR10.out.lt)
  have HT11 := Lib.hid (HT10.out.below_ hb)
  have HM11 := Lib.hid (HM10.out.below hb)
  have HOa_11 := Lib.hid (HOa_10.out.below hb)
  have HOb_11 := Lib.hid (HOb_10.out.below hb)
  have HOc_11 := Lib.hid (HOc_10.out.below hb)
  have HOd_11 := Lib.hid (HOd_10.out.below hb)
  have SE11 := Lib.hid (SE10.out.stay (w := w10) (W := w11) ⟨hb.size, fun g hg => hb.block g (SE10.out.lt g hg)⟩)
  have HZ11 := Lib.hid hb.size
  clear hb HB10 HR10 HT10 HM10 HOa_10 HOb_10 HOc_10 HOd_10 SE10
  go_wp2_with fail
  clear d71 d72 ib1 ib2 ib3 ib4 kt hfn2
  obtain ⟨xf, hxf⟩ : ∃ x, x = w11.heap.size := ⟨_, rfl⟩
  obtain ⟨w12, hw⟩ : ∃ v, v = w11.alloc (.cells #[.slice none 0 0] 26) := ⟨_, rfl⟩
  have hb : Below w11.heap.size w11 w12 := hw ▸ (Below.refl _ _).alloc (Nat.le_refl _) _
  have HKf : Hid (Blk w12 xf 26 #[.slice none 0 0]) := Lib.hid (by rw [hw, hxf]; exact Blk.new w11 _ _)
  have HRx : Hid (∀ b, R b → b < w12.heap.size ∧ b ≠ xf) := Lib.hid (fun b h => by have h1 := SE11.out.lt b h; have h2 := hb.size; omega)
  have HXf : Hid (xf < w12.heap.size) := Lib.hid HKf.out.lt
  have HXf3 : Hid (w.heap.size ≤ xf) := Lib.hid (by rw [hxf]; exact HB11.out.size)
  have HXt : Hid (∀ b, TrB T gt b → b ≠ xf) := Lib.hid (fun b h => by have := HT11.out.lt b h; omega)
  have HXr : Hid (xr ≠ xf) := Lib.hid (by have := HR11.out.lt; omega)
  have HXf2 : Hid (∀ b, b < w11.heap.size → b ≠ xf) := Lib.hid (fun b h => by omega)
  rw [← hw, ← hxf]
  clear hw hxf
  have HB12 := Lib.hid (HB11.out.trans (hb.mono HB11.out.size))
  have HR12 := Lib.hid (HR11.out.below hb HR11.out.lt)
  have HT12 := Lib.hid (HT11.out.below_ hb)
  have HM12 := Lib.hid (HM11.out.below hb)
  have HOa_12 := Lib.hid (HOa_11.out.below hb)
  have HOb_12 := Lib.hid (HOb_11.out.below hb)
  have HOc_12 := Lib.hid (HOc_11.out.below hb)
  have HOd_12 := Lib.hid (HOd_11.out.below hb)
  have SE12 := Lib.hid (SE11.out.stay (w := w11) (W := w12) ⟨hb.size, fun g hg => hb.block g (SE11.out.lt g hg)⟩)
  have HZ12 := Lib.hid hb.size
  clear hb HB11 HR11 HT11 HM11 HOa_11 HOb_11 HOc_11 HOd_11 SE11
  obtain ⟨l, hl⟩ : ∃ l, l = followI ar f := ⟨_, rfl⟩
  have HLf : Hid (l.length ≤ n' + 1) := Lib.hid (by rw [hl, ← HL'.out]; exact folF_len _ _ _ _)
  rw [← hl] at SE12
  clear hl
  refine (wpIn_wide (n := 9)).1 ?_
  refine' range_boundG (α := Int) (gf := gf) (pb := pb) (lb := lb) rfl EN.out (SE12.out.at_ _) (fun h k => Stay.trans h k) (stay_b SE12.out.lt) (fun _ => rfl) OkA.put
    (fun F pre V => BoxF w12 xf F pre V) (fun cc F pre V => False)
    (BoxF.foot HXf.out) (fun cc => fun F s A B hs ht => hs)
    ⟨⟨none, 0, 0, HKf.out, OwnN.none_ _ _, fun b hb => by simp [Value.ownBlock] at hb⟩, OnlyS.refl _ _⟩
    _ ?assign1 ?body1 ?done1 ?stop1
  case assign1 =>
    intro lp y V K hK
    gi_wp2
    exact hK
  case stop1 =>
    rintro D cc F pre V hD hpre hFl hf hK
    exact hf.elim
  case body1 =>
    rintro lp F pre y V hlp hrec hFl hI ⟨B', hB', hok⟩
    obtain ⟨⟨Af, nf, cf, h1, h2, h3⟩, hO⟩ := hI
    obtain ⟨hlt, hgt⟩ := OkA.next (B := 0) (W := V) hok
    have cx : V.cell? ⟨xf, 0, none⟩ = some (.slice Af nf cf) := h1.cell 0
    have hlen : (pre.length + 1) * 8 ≤ 140737488355328 := by have := HLf.out; omega
    have hVs : w12.heap.size ≤ V.heap.size := hO.size
    have H1 := Lib.hid h1
    have H2 := Lib.hid h2
    have H3 := Lib.hid h3
    have HO := Lib.hid hO
    have HFl := Lib.hid hFl
    clear h1 h2 h3 hO hFl hok hgt
    gi_wp2_with (first
      | (gi_at_builtin; refine appNAt V y rfl (.tmp 108) (.tmp 110) rfl w12.heap.size (.slice Af nf cf) pre rfl H2.out rfl hlen hVs ?_; intro v5 w5 hown5 hg5 hat5; obtain ⟨A5, n5, c5, rfl⟩ := ownN_slice' hown5; have k5 := (H1.out.alloc (.cells #[.int .i64 y] 3)).grown hg5 (fun e => ownN_neT (by decide) H2.out H1.out e.symm); have HPu := Lib.hid (BoxF.push HXf.out H1.out H2.out H3.out HO.out (fun b hb => (HFl.out b hb).2) hown5 hg5 hat5 HRx.out); have cx5 : w5.cell? ⟨xf, 0, none⟩ = some (.slice Af nf cf) := k5.cell 0; have fx5 : w5.frozen? ⟨xf, 0, none⟩ = false := k5.frozen 0; clear k5 hown5 hg5 hat5 cx)
      | fail)
    exact HPu.out
  case done1 =>
    rintro D1 F ys w13 hD hys hFl ⟨⟨Af, nf, cf, h1, h2, h3⟩, hO⟩ hK
    obtain rfl : ys = l := hys
    have HKf13 := Lib.hid h1
    have HF13 := Lib.hid h2
    have HMk : Hid (Marks w12.heap.size [{ target := .collected D1, args := #[] }] w13) := Lib.hid (Marks.cons (ds := []) trivial (fun d hd => by simp at hd) (by omega) hK)
    clear h1 h2 h3 hFl hK
    have ht : Turned _ w12 w13 := ⟨hO.os, hO.tape, hO.output, hO.size, hO.block⟩
    have HB13 : Hid (Below w.heap.size w w13) := Lib.hid (OnlyS.bel HB12.out hO (fun b e => by have := HXf3.out; omega) HB12.out.size)
    have HR13 := Lib.hid (hO.blk HR12.out HXr.out)
    have HT13 := Lib.hid (HT12.out.stay ⟨ht.size, fun b hb => ht.block b (HT12.out.lt b hb) ((fun b hb => HXt.out b hb) b hb)⟩)
    have SE13 := Lib.hid (SE12.out.stay (w := w12) (W := w13) ⟨ht.size, fun b hb => ht.block b (SE12.out.lt b hb) (HRx.out b hb).2⟩)
    have HM13 := Lib.hid (HM12.out.turned ht (fun b hb e => ownN_neT (by decide) HM12.out HKf.out (by rw [← (show b = xf from e)]; exact hb)))
    have HOa_13 := Lib.hid (HOa_12.out.turned ht (fun b hb e => ownN_neT (by decide) HOa_12.out HKf.out (by rw [← (show b = xf from e)]; exact hb)))
    have HOb_13 := Lib.hid (HOb_12.out.turned ht (fun b hb e => ownN_neT (by decide) HOb_12.out HKf.out (by rw [← (show b = xf from e)]; exact hb)))
    have HOc_13 := Lib.hid (HOc_12.out.turned ht (fun b hb e => ownN_neT (by decide) HOc_12.out HKf.out (by rw [← (show b = xf from e)]; exact hb)))
    have HOd_13 := Lib.hid (HOd_12.out.turned ht (fun b hb e => ownN_neT (by decide) HOd_12.out HKf.out (by rw [← (show b = xf from e)]; exact hb)))
    have HZ13 := Lib.hid ht.size
    clear ht hO HB12 HR12 HT12 SE12 HM12 HOa_12 HOb_12 HOc_12 HOd_12
    clear HKf
    go_wp2
    go_loopw [19, 114] (fun _ j wr => ∃ (i : Nat) (lm : List Int), j = .int .i64 i ∧ i ≤ n' + 2 ∧ lm.length = n' + 2 ∧ OwnN wr w2.heap.size (.slice (some ⟨g4, 0, none⟩) (n' + 2) c4) lm ∧ OnlyS (fun b => b = g4) w13 wr) (fun _ j _ => n' + 2 - (intOf j).toNat)
    case atStart => exact ⟨0, _, rfl, by omega, HLm.out, HM13.out, OnlyS.refl _ _⟩
    case round =>
      obtain ⟨i, lm, rfl, hi, hlm, hown, hO⟩ := hrel
      obtain ⟨w14, rfl⟩ : ∃ w5 : World, w5 = wr := ⟨_, rfl⟩
      have HM14 := Lib.hid hown
      have HO14 := Lib.hid hO
      have HLm4 := Lib.hid hlm
      obtain ⟨-, -, -, q3, q4⟩ := hown.at_
      clear hown hO hlm
      by_cases hlt : i < n' + 2
      · have ci := q3 i hlt
        have fi := q4 i
        have t1 : (i : Int) < (n' : Int) + 2 := by omega
        have t2 : (0 : Int) ≤ (i : Int) := by omega
        clear q3 q4
        go_wp2
        go_roundw
        case rel => exact ⟨i + 1, _, by go_num, by omega, by rw [List.length_set]; exact HLm4.out, HM14.out.set_ i 0, onlyS_setAt' HO14.out rfl i _⟩
        case measure => simp [intOf]; omega
      · have t1 : ¬ (i : Int) < (n' : Int) + 2 := by omega
        have hO := HO14.out
        clear q3 q4 HO14 HLm4 HM14 hlt
        have HKf14 : Hid (Blk w14 xf 26 #[.slice Af nf cf]) := Lib.hid (hO.blk HKf13.out (fun e => ownN_neT (by decide) HM13.out HKf13.out (by rw [show xf = g4 from e]; rfl)))
        have HF14 : Hid (OwnN w14 w12.heap.size (.slice Af nf cf) ys) := Lib.hid (HF13.out.turned ⟨hO.os, hO.tape, hO.output, hO.size, hO.block⟩ (fun b hb e => by have h1 := ownN_base HF13.out b hb; have h2 := HG4.out; have := HZ5.out; have := HZ6.out; have := HZ7.out; have := HZ8.out; have := HZ9.out; have := HZ10.out; have := HZ11.out; have := HZ12.out; have e : b = g4 := e; omega))
        have HMk4 : Hid (Marks w12.heap.size [{ target := .collected D1, args := #[] }] w14) := Lib.hid (OnlyS.marks HMk.out hO (fun b hb => by
          obtain ⟨h1, ⟨e, _⟩ | ⟨g', cap, cur, e, h2, h3, _⟩⟩ := HM13.out
          · simp at e
          · injection e with e
            injection e with e
            injection e with e
            exact ⟨_, _, by rw [show b = g4 from hb, e]; exact h3⟩))
        clear HKf13 HF13 HMk
        have ht : Turned _ w13 w14 := ⟨hO.os, hO.tape, hO.output, hO.size, hO.block⟩
        have HB14 : Hid (Below w.heap.size w w14) := Lib.hid (OnlyS.bel HB13.out hO (fun b e => by have h1 := HG4.out; have h2 := HX.out; have h3 := HXm.out; have e : b = g4 := e; omega) HB13.out.size)
        have HR14 := Lib.hid (hO.blk HR13.out (fun e => by have h1 := HG4.out; have h3 := HXm.out; have e : xr = g4 := e; omega))
        have HT14 := Lib.hid (HT13.out.stay ⟨ht.size, fun b hb => ht.block b (HT13.out.lt b hb) ((fun b hb => HTg.out b hb) b hb)⟩)
        have SE14 := Lib.hid (SE13.out.stay (w := w13) (W := w14) ⟨ht.size, fun b hb => ht.block b (SE13.out.lt b hb) (fun e => by have h1 := HRf.out b hb; have h2 := HG4.out; have e : b = g4 := e; omega)⟩)
        have HOa_14 := Lib.hid (HOa_13.out.turned ht (fun b hb e => by have h1 := ownN_base HOa_13.out b hb; have h2 := HG4.out; have := HZ5.out; have := HZ6.out; have := HZ7.out; have := HZ8.out; have e : b = g4 := e; omega))
        have HOb_14 := Lib.hid (HOb_13.out.turned ht (fun b hb e => by have h1 := ownN_base HOb_13.out b hb; have h2 := HG4.out; have := HZ5.out; have := HZ6.out; have := HZ7.out; have := HZ8.out; have e : b = g4 := e; omega))
        have HOc_14 := Lib.hid (HOc_13.out.turned ht (fun b hb e => by have h1 := ownN_base HOc_13.out b hb; have h2 := HG4.out; have := HZ5.out; have := HZ6.out; have := HZ7.out; have := HZ8.out; have e : b = g4 := e; omega))
        have HOd_14 := Lib.hid (HOd_13.out.turned ht (fun b hb e => by have h1 := ownN_base HOd_13.out b hb; have h2 := HG4.out; have := HZ5.out; have := HZ6.out; have := HZ7.out; have := HZ8.out; have e : b = g4 := e; omega))
        have HZ14 := Lib.hid ht.size
        clear ht hO HB13 HR13 HT13 SE13 HM13 HOa_13 HOb_13 HOc_13 HOd_13
        go_wp2
        obtain ⟨xk, hxk⟩ : ∃ x, x = w14.heap.size := ⟨_, rfl⟩
        obtain ⟨w15, hw⟩ : ∃ v, v = w14.alloc (.cells #[.int .i64 0] 3) := ⟨_, rfl⟩
        have hb : Below w14.heap.size w14 w15 := hw ▸ (Below.refl _ _).alloc (Nat.le_refl _) _
        have HKn : Hid (Blk w15 xk 3 #[.int .i64 0]) := Lib.hid (by rw [hw, hxk]; exact Blk.new w14 _ _)
        have HXk : Hid (∀ b, b < w14.heap.size → b ≠ xk) := Lib.hid (fun b h => by omega)
        have Hxk : Hid (w14.heap.size ≤ xk) := Lib.hid (by omega)
        have hx1 : w14.heap.size ≤ xk := by omega
        have HKf15 := Lib.hid (HKf14.out.below hb HKf14.out.lt)
        have HF15 := Lib.hid (HF14.out.below hb)
        have HMk5 := Lib.hid (HMk4.out.below hb)
        have Hb45 := Lib.hid hb
        rw [← hw, ← hxk]
        clear hw hxk HMk4 HKf14
        have HW14 : Hid (w.heap.size ≤ w14.heap.size) := Lib.hid HB14.out.size
        have HRlt : Hid (xr < w14.heap.size) := Lib.hid HR14.out.lt
        have HTlt : Hid (∀ b, TrB T gt b → b < w14.heap.size) := Lib.hid HT14.out.lt
        have HNF := Lib.hid (fun b hb => ownN_lt HF14.out b hb)
        have HNa := Lib.hid (fun b hb => ownN_lt HOa_14.out b hb)
        have HNb := Lib.hid (fun b hb => ownN_lt HOb_14.out b hb)
        have HNc := Lib.hid (fun b hb => ownN_lt HOc_14.out b hb)
        have HNd := Lib.hid (fun b hb => ownN_lt HOd_14.out b hb)
        have HB15 := Lib.hid (HB14.out.trans (hb.mono HB14.out.size))
        have HR15 := Lib.hid (HR14.out.below hb HR14.out.lt)
        have HT15 := Lib.hid (HT14.out.below_ hb)
        have SE15 := Lib.hid (SE14.out.stay (w := w14) (W := w15) ⟨hb.size, fun g hg => hb.block g (SE14.out.lt g hg)⟩)
        have HOa_15 := Lib.hid (HOa_14.out.below hb)
        have HOb_15 := Lib.hid (HOb_14.out.below hb)
        have HOc_15 := Lib.hid (HOc_14.out.below hb)
        have HOd_15 := Lib.hid (HOd_14.out.below hb)
        have HZ15 := Lib.hid hb.size
        clear hb HB14 HR14 HT14 SE14 HOa_14 HOb_14 HOc_14 HOd_14
        have hx2 : xk < w15.heap.size := HKn.out.lt
        have HNw : Hid (ys.length = nf) := Lib.hid (ownN_len' HF15.out)
        have hnw : nf ≤ 17592186044416 := by have h1 := HNw.out; have h2 := HLf.out; omega
        obtain ⟨S, hS⟩ : ∃ S : Nat → Prop, S = fun b => b = xk := ⟨_, rfl⟩
        have S1 : S xk := by rw [hS]
        have HSe : Hid (∀ b, S b → b = xk) := Lib.hid (fun b h => by rw [hS] at h; exact h)
        have HSn : Hid (¬ S xf) := Lib.hid (fun h => by rw [hS] at h; exact HXk.out xf (by have h1 := HXf.out; have := HZ13.out; have := HZ14.out; omega) h)
        clear hS
        have HRl : Hid (∀ g, R g → g < w14.heap.size) := Lib.hid (fun g hg => by have h1 := (HRx.out g hg).1; have := HZ13.out; have := HZ14.out; omega)
        refine (wpIn_wide (n := 9)).1 ?_
        refine' range_boundWS (α := Int) (gf := gf) (pb := pb) (lb := lb) rfl EN.out (SE15.out.std.at_ _) (fun h k => Stay.trans h k) (stay_b SE15.out.lt) (fun _ => rfl) OkA.put
          (fun pre V => Blk V xk 3 #[.int .i64 (pre.length : Nat)] ∧ OnlyS S w15 V)
          (fun cc pre V => False)
          (Std.and (std_blk (x := xk) (by omega)) (std_onlyS w15 S))
          (fun cc => fun s A B hs ht => hs)
          ⟨HKn.out, OnlyS.refl _ _⟩
          _ ?assign2 ?body2 ?done2 ?stop2
        case assign2 =>
          intro lp y V K hK
          gi_wp2
          exact hK
        case stop2 =>
          rintro D cc pre V hD hpre hf hK
          exact hf.elim
        case body2 =>
          rintro lp pre y V hlp hrec ⟨hbn, hO⟩ ⟨B', hB', hok⟩
          obtain ⟨hlt, hgt⟩ := OkA.next (B := 0) (W := V) hok
          obtain ⟨m, hm⟩ : ∃ m, m = pre.length := ⟨_, rfl⟩
          rw [← hm] at hbn hlt hgt
          have HBV : Hid (Below w14.heap.size w14 V) := Lib.hid (OnlyS.bel Hb45.out hO (fun b hb => by have := HSe.out b hb; omega) Hb45.out.size)
          obtain ⟨gw, ow, hAw, hbw, hcw⟩ := ((ownN_reads' HF14.out).below HBV.out).i64 (by have := HNw.out; omega)
          subst hAw
          have cw0 := hcw m (by have := HNw.out; omega)
          rw [List.getD_eq_getElem?_getD, hgt] at cw0
          have cw1 : V.cell? ⟨gw, ow + m, none⟩ = some (.int .i64 y) := cw0
          have cn : V.cell? ⟨xk, 0, none⟩ = some (.int .i64 (m : Int)) := by rw [hbn.cell]; rfl
          have fn : V.frozen? ⟨xk, 0, none⟩ = false := hbn.frozen 0
          have ew : V.cell? ⟨xf, 0, none⟩ = some (.slice (some ⟨gw, ow, none⟩) nf cf) := (hO.blk HKf15.out HSn.out).cell 0
          have hmn : m < nf := by have := HNw.out; omega
          have hmw1 : (0 : Int) ≤ (m : Int) := by omega
          have hmw2 : (m : Int) < (nf : Int) := by omega
          have tn : decide (nf ≤ m) = false := by simp; omega
          have tq : (y != y) = false := by simp
          have HBn := Lib.hid hbn
          have HOs := Lib.hid hO
          have HQq := Lib.hid hm
          have HRx2 : Hid (¬ R xk) := Lib.hid (fun h => by have := HRl.out _ h; omega)
          clear hbn hO hm hok hgt hcw cw0 hbw
          gi_wp2
          refine ⟨KeepsAll.setCell _ hx2 _, stay_setAt HRx2.out, ?_, HOs.out.set S1 _⟩
          have := blk_put HBn.out (.int .i64 ((m : Int) + 1))
          rw [List.length_append, ← HQq.out]; exact this
        case done2 =>
          rintro D2 zs w16 hD2 hys ⟨hbn, hO⟩ hK
          have hyl : zs.length = nf := by rw [hys]; exact HNw.out
          rw [hyl] at hbn
          have HKn16 := Lib.hid hbn
          have HKf16 := Lib.hid (hO.blk HKf15.out HSn.out)
          have HF16 := Lib.hid (HF15.out.turned ⟨hO.os, hO.tape, hO.output, hO.size, hO.block⟩ (fun b hb e => HXk.out b (HNF.out b hb) (HSe.out b e)))
          have hmk := OnlyS.marks HMk5.out hO (fun b hb => by rw [HSe.out b hb]; exact ⟨_, _, HKn.out⟩)
          have HMk6 := Lib.hid (hmk.cons (fun d hd k e => by have h1 := HMk5.out.lt d hd k e; omega) (by have := HZ13.out; have := HZ14.out; have := HZ15.out; omega) hK)
          clear hbn hmk hK hys hyl HMk5
          have ht : Turned _ w15 w16 := ⟨hO.os, hO.tape, hO.output, hO.size, hO.block⟩
          have HB16 : Hid (Below w.heap.size w w16) := Lib.hid (OnlyS.bel HB15.out hO (fun b e => by have := HSe.out b e; have := HW14.out; omega) HB15.out.size)
          have HR16 := Lib.hid (hO.blk HR15.out (fun e => HXk.out xr HRlt.out (HSe.out xr e)))
          have HT16 := Lib.hid (HT15.out.stay ⟨ht.size, fun b hb => ht.block b (HT15.out.lt b hb) ((fun b hb e => HXk.out b (HTlt.out b hb) (HSe.out b e)) b hb)⟩)
          have SE16 := Lib.hid (SE15.out.stay (w := w15) (W := w16) ⟨ht.size, fun b hb => ht.block b (SE15.out.lt b hb) (fun e => HXk.out b (HRl.out b hb) (HSe.out b e))⟩)
          have HOa_16 := Lib.hid (HOa_15.out.turned ht (fun b hb e => HXk.out b (HNa.out b hb) (HSe.out b e)))
          have HOb_16 := Lib.hid (HOb_15.out.turned ht (fun b hb e => HXk.out b (HNb.out b hb) (HSe.out b e)))
          have HOc_16 := Lib.hid (HOc_15.out.turned ht (fun b hb e => HXk.out b (HNc.out b hb) (HSe.out b e)))
          have HOd_16 := Lib.hid (HOd_15.out.turned ht (fun b hb e => HXk.out b (HNd.out b hb) (HSe.out b e)))
          have HZ16 := Lib.hid ht.size
          clear ht hO HB15 HR15 HT15 SE15 HOa_15 HOb_15 HOc_15 HOd_15
          clear HKf15 HF15 HKn S1 HSe HSn hx2
          have HZw : Hid (w.heap.size ≤ w16.heap.size) := Lib.hid HB16.out.size
          go_wp2_with (first
            | (at_builtin; go_loud (refine appNE w16 rfl (.tmp 137) (.tmp 138) rfl rfl w16.heap.size Ab cb (runI ps ar f).1 (runI ps ar f).1.length rfl HOb_16.out.rd_.2 (Nat.le_refl _) (by have := HLa.out; omega) ?_); intro v17 w17 ho17 hb17; obtain ⟨A17, c17, rfl⟩ := ho17.sl; have HWt17 := Lib.hid ho17; have Hb17 := Lib.hid hb17; clear ho17 hb17)
            | fail)
          have hb := Hb17.out
          have HMk7 := Lib.hid (HMk6.out.below hb)
          have HKn17 := Lib.hid (HKn16.out.below hb HKn16.out.lt)
          have HKf17 := Lib.hid (HKf16.out.below hb HKf16.out.lt)
          have HWb : Hid (∀ b, (Value.slice A17 _ c17).ownBlock = some b → w16.heap.size ≤ b) := Lib.hid (ownN_base HWt17.out)
          have HXk16 : Hid (xk < w16.heap.size ∧ xf < w16.heap.size ∧ xr < w16.heap.size) := Lib.hid ⟨HKn16.out.lt, HKf16.out.lt, HR16.out.lt⟩
          have hmlt := HMk6.out.lt
          have HB17 := Lib.hid (HB16.out.trans (hb.mono HB16.out.size))
          have HR17 := Lib.hid (HR16.out.below hb HR16.out.lt)
          have HT17 := Lib.hid (HT16.out.below_ hb)
          have SE17 := Lib.hid (SE16.out.stay (w := w16) (W := w17) ⟨hb.size, fun g hg => hb.block g (SE16.out.lt g hg)⟩)
          have HOa_17 := Lib.hid (HOa_16.out.below hb)
          have HOb_17 := Lib.hid (HOb_16.out.below hb)
          have HOc_17 := Lib.hid (HOc_16.out.below hb)
          have HOd_17 := Lib.hid (HOd_16.out.below hb)
          have HZ17 := Lib.hid hb.size
          clear hb HB16 HR16 HT16 SE16 HOa_16 HOb_16 HOc_16 HOd_16
          have HLb : Hid (ar.length = n') := HL'
          obtain ⟨ra, hra⟩ : ∃ r, r = (runI ps ar f).1 := ⟨_, rfl⟩
          obtain ⟨rs, hrs⟩ : ∃ r, r = (runI ps ar f).2 := ⟨_, rfl⟩
          obtain ⟨rc, hrc⟩ : ∃ r, r = towardI ps f := ⟨_, rfl⟩
          rw [← hra] at HOa_17 HOb_17 HWt17 HLa HSa HSb HWb
          rw [← hrc] at HOc_17 HOd_17 HLc HSc HSd
          have HRc := Lib.hid hrc
          rw [← hra, ← hrs, ← hrc]
          clear hra hrs hrc HNa HNb HNc HNd
          obtain ⟨la, hla⟩ : ∃ n, n = ra.length := ⟨_, rfl⟩
          obtain ⟨lc, hlc⟩ : ∃ n, n = rc.length := ⟨_, rfl⟩
          have HLra := Lib.hid hla.symm
          have HLrc := Lib.hid hlc.symm
          rw [← hla] at HOa_17 HOb_17 HWt17 HLa HSa HSb HWb
          rw [← hlc] at HOc_17 HOd_17 HLc HSc HSd
          rw [← hla, ← hlc]
          clear hla hlc
          have HDa : Hid (∀ b, (Value.slice Aa la ca).ownBlock = some b → w.heap.size ≤ b ∧ b ≠ xr ∧ b ≠ xk ∧ b ≠ xf ∧ (Value.slice Ab la cb).ownBlock ≠ some b ∧ (Value.slice Ac lc cc).ownBlock ≠ some b ∧ (Value.slice Ad lc cd).ownBlock ≠ some b ∧ (Value.slice A17 la c17).ownBlock ≠ some b) := Lib.hid (fun b h => by
            have h1 := HSa.out b h
            have h2 := HG4.out
            have h3 := HXm.out
            have h4 := HX.out
            have h5 := HZ5.out
            have z6 := HZ6.out
            have z7 := HZ7.out
            have z8 := HZ8.out
            have z9 := HZ9.out
            have z10 := HZ10.out
            have z11 := HZ11.out
            have z12 := HZ12.out
            have z13 := HZ13.out
            have z14 := HZ14.out
            have z15 := HZ15.out
            have z16 := HZ16.out
            refine ⟨by omega, by omega, HXk.out b (by omega), HXf2.out b (by omega), fun e => ?_, fun e => ?_, fun e => ?_, fun e => ?_⟩
            · have := HSb.out b e; omega
            · have := HSc.out b e; omega
            · have := HSd.out b e; omega
            · have := HWb.out b e; omega)
          have HDc : Hid (∀ b, (Value.slice Ac lc cc).ownBlock = some b → w.heap.size ≤ b ∧ b ≠ xr ∧ b ≠ xk ∧ b ≠ xf ∧ (Value.slice Ab la cb).ownBlock ≠ some b ∧ (Value.slice Aa la ca).ownBlock ≠ some b ∧ (Value.slice Ad lc cd).ownBlock ≠ some b ∧ (Value.slice A17 la c17).ownBlock ≠ some b) := Lib.hid (fun b h => by
            have h1 := HSc.out b h
            have h2 := HG4.out
            have h3 := HXm.out
            have h4 := HX.out
            have h5 := HZ5.out
            have z6 := HZ6.out
            have z7 := HZ7.out
            have z8 := HZ8.out
            have z9 := HZ9.out
            have z10 := HZ10.out
            have z11 := HZ11.out
            have z12 := HZ12.out
            have z13 := HZ13.out
            have z14 := HZ14.out
            have z15 := HZ15.out
            have z16 := HZ16.out
            refine ⟨by omega, by omega, HXk.out b (by omega), HXf2.out b (by omega), fun e => ?_, fun e => ?_, fun e => ?_, fun e => ?_⟩
            · have := HSb.out b e; omega
            · have := HSa.out b e; omega
            · have := HSd.out b e; omega
            · have := HWb.out b e; omega)
          have HSz5 : Hid (w5.heap.size ≤ w17.heap.size) := Lib.hid (by have := HZ6.out; have := HZ7.out; have := HZ8.out; have := HZ9.out; have := HZ10.out; have := HZ11.out; have := HZ12.out; have := HZ13.out; have := HZ14.out; have := HZ15.out; have := HZ16.out; have := HZ17.out; omega)
          have HSz7 : Hid (w7.heap.size ≤ w17.heap.size) := Lib.hid (by have := HZ8.out; have := HZ9.out; have := HZ10.out; have := HZ11.out; have := HZ12.out; have := HZ13.out; have := HZ14.out; have := HZ15.out; have := HZ16.out; have := HZ17.out; omega)
          have HXr9 : Hid (xr < w12.heap.size ∧ w.heap.size ≤ w12.heap.size) := Lib.hid (by have := HXm.out; have := HG4.out; have := HX.out; have := HZ5.out; have := HZ6.out; have := HZ7.out; have := HZ8.out; have := HZ9.out; have := HZ10.out; have := HZ11.out; have := HZ12.out; omega)
          have HWw : Hid (w.heap.size ≤ w5.heap.size ∧ w.heap.size ≤ w7.heap.size) := Lib.hid (by
            have h2 := HG4.out
            have h3 := HXm.out
            have h4 := HX.out
            have h5 := HZ5.out
            have z6 := HZ6.out
            have z7 := HZ7.out
            omega)
          clear HT17 SE17 HSa HSc HSd HSb HWb HF16 HKn16 HKf16 Hb17 HMk6 HF14 HXk HXf2 HXt HRl HTlt HMi HTg
          clear HZ5 HZ6 HZ7 HZ8 HZ9 HZ10 HZ11 HZ12 HZ13 HZ14 HZ15 HZ16 HZ17
          go_loopw [23, 142] (fun _ j wr => ∃ (i : Nat) (lma : List Int), j = .int .i64 i ∧ i ≤ la ∧ lma.length = la ∧ OwnN wr w5.heap.size (.slice Aa la ca) lma ∧ OnlyS (fun b => (Value.slice Aa la ca).ownBlock = some b) w17 wr) (fun _ j _ => la - (intOf j).toNat)
          case atStart => exact ⟨0, _, rfl, by omega, HLra.out, HOa_17.out, OnlyS.refl _ _⟩
          case round =>
            obtain ⟨i, lma, rfl, hi, hlm, hown, hO⟩ := hrel
            obtain ⟨w18, rfl⟩ : ∃ w5 : World, w5 = wr := ⟨_, rfl⟩
            have HM18 := Lib.hid hown
            have HO18 := Lib.hid hO
            have HLm18 := Lib.hid hlm
            clear hlm
            have hl32 : la ≤ 32 := HLa.out
            by_cases hlt : i < la
            · obtain ⟨gg, cg, eg⟩ := hown.row_ (by rw [HLm18.out]; omega)
              injection eg with e1 e2 e3
              subst e1
              clear e2 e3
              obtain ⟨-, -, -, q3, q4⟩ := hown.at_
              have ci := q3 i hlt
              have fi := q4 i
              have t1 : (i : Int) < (la : Int) := by omega
              have t2 : (0 : Int) ≤ (i : Int) := by omega
              clear q3 q4 hown hO
              go_wp2
              go_roundw
              case rel => exact ⟨i + 1, _, by go_num, by omega, by rw [List.length_set]; exact HLm18.out, HM18.out.set_ i (-7), onlyS_setAt' HO18.out (x := gg) rfl i _⟩
              case measure => simp [intOf]; omega
            · have t1 : ¬ (i : Int) < (la : Int) := by omega
              have ht : Turned _ w17 w18 := ⟨hO.os, hO.tape, hO.output, hO.size, hO.block⟩
              go_wp2
              have HSz18 : Hid (w17.heap.size ≤ w18.heap.size) := Lib.hid hO.size
              have HB18 : Hid (Below w.heap.size w w18) := Lib.hid (OnlyS.bel HB17.out hO (fun b h => (HDa.out b h).1) HB17.out.size)
              have HR18 := Lib.hid (hO.blk HR17.out (fun h => (HDa.out _ h).2.1 rfl))
              have HKn18 := Lib.hid (hO.blk HKn17.out (fun h => (HDa.out _ h).2.2.1 rfl))
              have HKf18 := Lib.hid (hO.blk HKf17.out (fun h => (HDa.out _ h).2.2.2.1 rfl))
              have HWt18 := Lib.hid (HWt17.out.turned ht (fun b hb h => (HDa.out b h).2.2.2.2.2.2.2 hb))
              have HOb_18 := Lib.hid (HOb_17.out.turned ht (fun b hb h => (HDa.out b h).2.2.2.2.1 hb))
              have HOc_18 := Lib.hid (HOc_17.out.turned ht (fun b hb h => (HDa.out b h).2.2.2.2.2.1 hb))
              have HOd_18 := Lib.hid (HOd_17.out.turned ht (fun b hb h => (HDa.out b h).2.2.2.2.2.2.1 hb))
              have HOa_18 := HM18
              have HLla := HLm18
              have HMk8 := Lib.hid (OnlyS.marks HMk7.out hO (fun b hb => ownN_blk HOa_17.out hb))
              clear ht hO hown HB17 HR17 HKn17 HKf17 HWt17 HOa_17 HM18 HO18 HLm18 hlt hi HMk7 HOb_17 HOc_17 HOd_17
              go_loopw [24, 151] (fun _ j wr => ∃ (i : Nat) (lmc : List Int), j = .int .i64 i ∧ i ≤ lc ∧ lmc.length = lc ∧ OwnN wr w7.heap.size (.slice Ac lc cc) lmc ∧ OnlyS (fun b => (Value.slice Ac lc cc).ownBlock = some b) w18 wr) (fun _ j _ => lc - (intOf j).toNat)
              case atStart => exact ⟨0, _, rfl, by omega, HLrc.out, HOc_18.out, OnlyS.refl _ _⟩
              case round =>
                obtain ⟨i, lmc, rfl, hi, hlm, hown, hO⟩ := hrel
                obtain ⟨w19, rfl⟩ : ∃ w5 : World, w5 = wr := ⟨_, rfl⟩
                have HM19 := Lib.hid hown
                have HO19 := Lib.hid hO
                have HLm19 := Lib.hid hlm
                clear hlm
                have hl32 : lc ≤ 32 := HLc.out
                by_cases hlt : i < lc
                · obtain ⟨gg, cg, eg⟩ := hown.row_ (by rw [HLm19.out]; omega)
                  injection eg with e1 e2 e3
                  subst e1
                  clear e2 e3
                  obtain ⟨-, -, -, q3, q4⟩ := hown.at_
                  have ci := q3 i hlt
                  have fi := q4 i
                  have t1 : (i : Int) < (lc : Int) := by omega
                  have t2 : (0 : Int) ≤ (i : Int) := by omega
                  clear q3 q4 hown hO
                  go_wp2
                  go_roundw
                  case rel => exact ⟨i + 1, _, by go_num, by omega, by rw [List.length_set]; exact HLm19.out, HM19.out.set_ i (-8), onlyS_setAt' HO19.out (x := gg) rfl i _⟩
                  case measure => simp [intOf]; omega
                · have t1 : ¬ (i : Int) < (lc : Int) := by omega
                  have ht : Turned _ w18 w19 := ⟨hO.os, hO.tape, hO.output, hO.size, hO.block⟩
                  have HSz19 : Hid (w18.heap.size ≤ w19.heap.size) := Lib.hid hO.size
                  have HB19 : Hid (Below w.heap.size w w19) := Lib.hid (OnlyS.bel HB18.out hO (fun b h => (HDc.out b h).1) HB18.out.size)
                  have HR19 := Lib.hid (hO.blk HR18.out (fun h => (HDc.out _ h).2.1 rfl))
                  have HKn19 := Lib.hid (hO.blk HKn18.out (fun h => (HDc.out _ h).2.2.1 rfl))
                  have HKf19 := Lib.hid (hO.blk HKf18.out (fun h => (HDc.out _ h).2.2.2.1 rfl))
                  have HWt19 := Lib.hid (HWt18.out.turned ht (fun b hb h => (HDc.out b h).2.2.2.2.2.2.2 hb))
                  have HOb_19 := Lib.hid (HOb_18.out.turned ht (fun b hb h => (HDc.out b h).2.2.2.2.1 hb))
                  have HOa_19 := Lib.hid (HOa_18.out.turned ht (fun b hb h => (HDc.out b h).2.2.2.2.2.1 hb))
                  have HOd_19 := Lib.hid (HOd_18.out.turned ht (fun b hb h => (HDc.out b h).2.2.2.2.2.2.1 hb))
                  have HOc_19 := HM19
                  have HLlc := HLm19
                  have HMk9 := Lib.hid (OnlyS.marks HMk8.out hO (fun b hb => ownN_blk HOc_18.out hb))
                  clear ht hO hown HB18 HR18 HKn18 HKf18 HWt18 HOc_18 HM19 HO19 HLm19 hlt hi HMk8 HOb_18 HOa_18 HOd_18
                  have HBsa : Hid (w5.heap.size ≤ w19.heap.size) := Lib.hid (by have := HSz5.out; have := HSz18.out; have := HSz19.out; omega)
                  have ta : (2 : Int) ≤ (la : Int) + 2 := by omega
                  have tc : (2 : Int) ≤ (lc : Int) + 2 := by omega
                  go_wp2_with (first
                      | (at_builtin; have HL2a : Hid ((lma ++ [1, 2]).length = la + 2) := Lib.hid (by have h9 := HLla.out; simp [h9]); have hw2a : w5.heap.size ≤ w19.heap.size := (by have := HBsa.out; omega); go_loud (refine appNs (w19.alloc (.cells #[.int .i64 1, .int .i64 2] 3)) rfl (.tmp 158) (.tmp 159) rfl w5.heap.size (.slice Aa la ca) lma rfl (HOa_19.out.alloc _) (w19.heap.size + 1) (some ⟨w19.heap.size, 0, none⟩) 2 [1, 2] 2 rfl (pair_reads w19 _ 1 2) (by have h8 := HLla.out; have h9 := HLa.out; omega) (by have h9 := World.size_alloc w19 (.cells #[.int .i64 1, .int .i64 2] 3); omega) ?_); intro v20 w20 ho20 hb20 hat20 hg20; obtain ⟨Aa2, ca2, rfl⟩ := ho20.sl; rw [HL2a.out]; have hO : OnlyS (fun b => (Value.slice Aa la ca).ownBlock = some b) w19 w20 := onlyS_grownS ((OnlyS.refl _ _).below ((Below.refl _ _).alloc (Nat.le_refl _) (.cells #[.int .i64 1, .int .i64 2] 3))) hg20 (fun g e => e); have ht : Turned _ w19 w20 := ⟨hO.os, hO.tape, hO.output, hO.size, hO.block⟩; have HSz20 : Hid (w19.heap.size ≤ w20.heap.size) := Lib.hid hO.size; have HB20 : Hid (Below w.heap.size w w20) := Lib.hid (OnlyS.bel HB19.out hO (fun b h => (HDa.out b h).1) HB19.out.size); have HR20 := Lib.hid (hO.blk HR19.out (fun h => (HDa.out _ h).2.1 rfl)); have HKn20 := Lib.hid (hO.blk HKn19.out (fun h => (HDa.out _ h).2.2.1 rfl)); have HKf20 := Lib.hid (hO.blk HKf19.out (fun h => (HDa.out _ h).2.2.2.1 rfl)); have HWt20 := Lib.hid (HWt19.out.turned ht (fun b hb h => (HDa.out b h).2.2.2.2.2.2.2 hb)); have HOb_20 := Lib.hid (HOb_19.out.turned ht (fun b hb h => (HDa.out b h).2.2.2.2.1 hb)); have HOc_20 := Lib.hid (HOc_19.out.turned ht (fun b hb h => (HDa.out b h).2.2.2.2.2.1 hb)); have HOd_20 := Lib.hid (HOd_19.out.turned ht (fun b hb h => (HDa.out b h).2.2.2.2.2.2.1 hb)); have HMk10 := Lib.hid (OnlyS.marks HMk9.out hO (fun b hb => ownN_blk HOa_19.out hb)); have HBsc : Hid (w7.heap.size ≤ w20.heap.size) := Lib.hid (by have := HSz7.out; have := HSz18.out; have := HSz19.out; have := HSz20.out; omega); clear ht hO hw2a ho20 hb20 hat20 hg20 HB19 HR19 HKn19 HKf19 HWt19 HOa_19 HMk9 HOb_19 HOc_19 HOd_19)
                      | (at_builtin; have HL2c : Hid ((lmc ++ [3, 4]).length = lc + 2) := Lib.hid (by have h9 := HLlc.out; simp [h9]); have hw2c : w7.heap.size ≤ w20.heap.size := (by have := HBsc.out; omega); go_loud (refine appNs (w20.alloc (.cells #[.int .i64 3, .int .i64 4] 3)) rfl (.tmp 161) (.tmp 162) rfl w7.heap.size (.slice Ac lc cc) lmc rfl (HOc_20.out.alloc _) (w20.heap.size + 1) (some ⟨w20.heap.size, 0, none⟩) 2 [3, 4] 2 rfl (pair_reads w20 _ 3 4) (by have h8 := HLlc.out; have h9 := HLc.out; omega) (by have h9 := World.size_alloc w20 (.cells #[.int .i64 3, .int .i64 4] 3); omega) ?_); intro v21 w21 ho21 hb21 hat21 hg21; obtain ⟨Ac2, cc2, rfl⟩ := ho21.sl; rw [HL2c.out]; have hO : OnlyS (fun b => (Value.slice Ac lc cc).ownBlock = some b) w20 w21 := onlyS_grownS ((OnlyS.refl _ _).below ((Below.refl _ _).alloc (Nat.le_refl _) (.cells #[.int .i64 3, .int .i64 4] 3))) hg21 (fun g e => e); have ht : Turned _ w20 w21 := ⟨hO.os, hO.tape, hO.output, hO.size, hO.block⟩; have HSz21 : Hid (w20.heap.size ≤ w21.heap.size) := Lib.hid hO.size; have HB21 : Hid (Below w.heap.size w w21) := Lib.hid (OnlyS.bel HB20.out hO (fun b h => (HDc.out b h).1) HB20.out.size); have HR21 := Lib.hid (hO.blk HR20.out (fun h => (HDc.out _ h).2.1 rfl)); have HKn21 := Lib.hid (hO.blk HKn20.out (fun h => (HDc.out _ h).2.2.1 rfl)); have HKf21 := Lib.hid (hO.blk HKf20.out (fun h => (HDc.out _ h).2.2.2.1 rfl)); have HWt21 := Lib.hid (HWt20.out.turned ht (fun b hb h => (HDc.out b h).2.2.2.2.2.2.2 hb)); have HOb_21 := Lib.hid (HOb_20.out.turned ht (fun b hb h => (HDc.out b h).2.2.2.2.1 hb)); have HOd_21 := Lib.hid (HOd_20.out.turned ht (fun b hb h => (HDc.out b h).2.2.2.2.2.2.1 hb)); have HMk11 := Lib.hid (OnlyS.marks HMk10.out hO (fun b hb => ownN_blk HOc_20.out hb)); have cn : w21.cell? ⟨xk, 0, none⟩ = some (.int .i64 (nf : Int)) := HKn21.out.cell 0; have cf9 : w21.cell? ⟨xf, 0, none⟩ = some (.slice Af nf cf) := HKf21.out.cell 0; clear ht hO hw2c ho21 hb21 hat21 hg21 HB20 HR20 HKn20 HKf20 HWt20 HOc_20 HMk10 HOb_20 HOd_20)
                      | fail)
                  have HSm := Lib.hid (same_refl Ab A17 la cb la c17 ra w21 _ _ (ownN_reads' HOb_21.out) (ownN_reads' HWt21.out) (by have := HLa.out; omega))
                  refine HSm.out.mono ?_
                  rintro e w22 ⟨rfl, kd, hw⟩
                  have hb : Below w21.heap.size w21 w22 := hw ▸ below_drewA (Below.refl _ _) kd
                  clear hw HSm cn cf9
                  have HB22 := Lib.hid (HB21.out.trans (hb.mono HB21.out.size))
                  have HR22 := Lib.hid (HR21.out.below hb HR21.out.lt)
                  have HOd_22 := Lib.hid (OwnN.below HOd_21.out hb)
                  have HMk22 := Lib.hid (HMk11.out.below hb)
                  clear hb HB21 HR21 HOd_21 HMk11 HOb_21 HWt21 HKn21 HKf21
                  have HTw := Lib.hid (reftoward_any A n c ps f w22 w.heap.size (HRd.out.below HB22.out) HB22.out.size HG.out HF.out)
                  rw [← HRc.out] at HTw
                  go_wp2_with fail
                  refine HTw.out.mono ?_
                  rintro e w23 ⟨v9, rfl, ho9, hb⟩
                  obtain ⟨A9, c9, rfl⟩ := ho9.sl
                  rw [HLrc.out] at ho9 ⊢
                  have HO9 := Lib.hid ho9
                  have HB23 := Lib.hid (HB22.out.trans (hb.mono HB22.out.size))
                  have HR23 := Lib.hid (HR22.out.below hb HR22.out.lt)
                  have HOd_23 := Lib.hid (OwnN.below HOd_22.out hb)
                  have HMk23 := Lib.hid (HMk22.out.below hb)
                  clear hb ho9 HB22 HR22 HOd_22 HMk22 HTw
                  have HSm := Lib.hid (same_refl Ad A9 lc cd lc c9 rc w23 _ _ (ownN_reads' HOd_23.out) (ownN_reads' HO9.out) (by have := HLc.out; omega))
                  go_wp2_with fail
                  refine HSm.out.mono ?_
                  rintro e w24 ⟨rfl, kd, hw⟩
                  have hb : Below w23.heap.size w23 w24 := hw ▸ below_drewA (Below.refl _ _) kd
                  clear hw HSm
                  have HB24 := Lib.hid (HB23.out.trans (hb.mono HB23.out.size))
                  have HR24 := Lib.hid (HR23.out.below hb HR23.out.lt)
                  have HMk24 := Lib.hid (HMk23.out.below hb)
                  have cr : w24.cell? ⟨xr, 0, none⟩ = some (.bool false) := HR24.out.cell 0
                  have fr : w24.frozen? ⟨xr, 0, none⟩ = false := HR24.out.frozen 0
                  have HXr12 : Hid (xr < w12.heap.size ∧ w.heap.size ≤ w12.heap.size) := Lib.hid ⟨HXr9.out.1, HXr9.out.2⟩
                  clear hb HB23 HR23 HMk23
                  go_wp2
                  have k9 : OnlyS (fun b => b = xr) w24 (w24.setCell ⟨xr, 0, none⟩ (.bool true)) := OnlyS.set (S := fun b => b = xr) (OnlyS.refl (fun b => b = xr) w24) (x := xr) rfl (.bool true)
                  have hk9 := blk_put HR24.out (.bool true)
                  have hB10 := OnlyS.bel HB24.out k9 (fun b hb => by have h1 := HX.out; have hb : b = xr := hb; omega) HB24.out.size
                  refine Marks.leave (B := w12.heap.size) _ _ (OnlyS.marks HMk24.out k9 (fun b hb => ⟨_, _, (show Blk w24 b 4 #[.bool false] by rw [show b = xr from hb]; exact HR24.out)⟩)) (fun W' hb => ?_)
                  have c5 : W'.cell? ⟨xr, 0, none⟩ = some (.bool true) := by rw [hb.cell (p := ⟨xr, 0, none⟩) (show xr < w12.heap.size from HXr12.out.1), hk9.cell]; rfl
                  refine ⟨.bool true, by simp [results, Try.f8, go_sem, c5], rfl, ?_⟩
                  exact hB10.trans (hb.mono HXr12.out.2)
end Go.Proofs.Ytcomiininaemhaa.Pk
