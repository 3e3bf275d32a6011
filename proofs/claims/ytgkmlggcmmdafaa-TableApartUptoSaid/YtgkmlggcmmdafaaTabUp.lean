/- The contract of the statements' own 'up', from a table's promises. -/
import Derived.Test.YtgkmlggcmmdafaaTabSeq
namespace Go.Proofs.Ytgkmlggcmmdafaa.Pk
open Go.RowKit Go.Shelf Go.Proofs.Ytgkmlggcmmdafaa.Tb
set_option linter.unusedVariables false
attribute [local go_sem] Oper.semAt_some

theorem Blk.turned {S : Nat → Prop} {w w' : World} {g : Nat} {t : TypeId} {cs : Array Value} (h : Blk w g t cs) (ht : Turned S w w') (hg : ¬ S g) : Blk w' g t cs := (ht.block g h.lt hg).trans h
/-- What up's rounds find in memory. -/
def UpMem (w W2 : World) (A : Option Addr) (n c : Nat) (rows : List Rw) (v : Value) (R : Nat → Prop) (W : World) : Prop :=
  Blk W w.heap.size 26 #[.slice A n c] ∧ Blk W (w.heap.size + 1) 4 #[.bool false] ∧ Reads W W2.heap.size 2 A n (rws rows) ∧ SeqC v rows R W ∧ Below W2.heap.size W2 W
theorem UpMem.only {w W2 : World} {A : Option Addr} {n c : Nat} {rows : List Rw} {v : Value} {R : Nat → Prop} {W W' : World} {x : Nat} (h : UpMem w W2 A n c rows v R W) (hb : Only W W' x) (hx : W2.heap.size ≤ x) (h2 : w.heap.size + 2 ≤ W2.heap.size) (hR : ∀ b, R b → b < W2.heap.size) : UpMem w W2 A n c rows v R W' := by
  obtain ⟨h1, h3, h4, h5, h6⟩ := h
  have hs := h6.size
  have bl : ∀ k, k < W2.heap.size → W'.heap[k]? = W.heap[k]? := fun k hk => hb.block k (by omega) (fun e => by injection e with e; omega)
  exact ⟨(bl _ (by omega)).trans h1, (bl _ (by omega)).trans h3, h4.keep (fun p hp => World.cell?_of_block (bl _ hp)), h5.stay ⟨hb.size, fun b hb' => bl b (hR b hb')⟩, Only.below h6 hb hx hs⟩
theorem UpMem.keep {w W2 : World} {A : Option Addr} {n c : Nat} {rows : List Rw} {v : Value} {R : Nat → Prop} {W W' : World} (h : UpMem w W2 A n c rows v R W) (hb : Below W2.heap.size W W') (h2 : w.heap.size + 2 ≤ W2.heap.size) (hR : ∀ b, R b → b < W2.heap.size) : UpMem w W2 A n c rows v R W' := by
  obtain ⟨h1, h3, h4, h5, h6⟩ := h
  exact ⟨h1.below hb (by omega), h3.below hb (by omega), h4.below hb, h5.stay (Stay.below hb hR), h6.trans hb⟩
/-- The outer loop's invariant. -/
def UpI (w W2 : World) (tv : Value) (k : Int) (A : Option Addr) (n c : Nat) (rows : List Rw) (v : Value) (R : Nat → Prop) (a : Act) (W : World) : Prop :=
  ∃ (r : Nat) (ds : List Deferred) (u2 u4 u5 u6 u11 u12 u13 u14 u15 u16 u17 u18 u19 u20 u21 u22 u23 u24 u25 u26 u27 u28 u29 u30 u31 u32 u33 u34 u35 u36 u37 u38 u39 u40 u41 u42 u43 u44 u45 u46 u47 u48 u49 u50 u51 u52 u53 u54 u55 u56 : Value), a = { tmps := #[tv, .int .i64 k, u2, .slice A n c, u4, u5, u6, .pointer (some ⟨w.heap.size, 0, none⟩), .pointer (some ⟨w.heap.size + 1, 0, none⟩), v, .int .i64 (r : Int), u11, u12, u13, u14, u15, u16, u17, u18, u19, u20, u21, u22, u23, u24, u25, u26, u27, u28, u29, u30, u31, u32, u33, u34, u35, u36, u37, u38, u39, u40, u41, u42, u43, u44, u45, u46, u47, u48, u49, u50, u51, u52, u53, u54, u55, u56], defers := ds } ∧ r ≤ 2 ∧ Marks W2.heap.size ds W ∧ UpMem w W2 A n c rows v R W
theorem UpI.mk {w W2 : World} {tv : Value} {k : Int} {A : Option Addr} {n c : Nat} {rows : List Rw} {v : Value} {R : Nat → Prop} {W : World} (r : Nat) {ds : List Deferred} {u2 u4 u5 u6 u11 u12 u13 u14 u15 u16 u17 u18 u19 u20 u21 u22 u23 u24 u25 u26 u27 u28 u29 u30 u31 u32 u33 u34 u35 u36 u37 u38 u39 u40 u41 u42 u43 u44 u45 u46 u47 u48 u49 u50 u51 u52 u53 u54 u55 u56 : Value} (hr : r ≤ 2) (hm : Marks W2.heap.size ds W) (h : UpMem w W2 A n c rows v R W) :
    UpI w W2 tv k A n c rows v R { tmps := #[tv, .int .i64 k, u2, .slice A n c, u4, u5, u6, .pointer (some ⟨w.heap.size, 0, none⟩), .pointer (some ⟨w.heap.size + 1, 0, none⟩), v, .int .i64 (r : Int), u11, u12, u13, u14, u15, u16, u17, u18, u19, u20, u21, u22, u23, u24, u25, u26, u27, u28, u29, u30, u31, u32, u33, u34, u35, u36, u37, u38, u39, u40, u41, u42, u43, u44, u45, u46, u47, u48, u49, u50, u51, u52, u53, u54, u55, u56], defers := ds } W :=
  ⟨r, ds, u2, u4, u5, u6, u11, u12, u13, u14, u15, u16, u17, u18, u19, u20, u21, u22, u23, u24, u25, u26, u27, u28, u29, u30, u31, u32, u33, u34, u35, u36, u37, u38, u39, u40, u41, u42, u43, u44, u45, u46, u47, u48, u49, u50, u51, u52, u53, u54, u55, u56, rfl, hr, hm, h⟩

set_option maxRecDepth 100000 in
set_option maxHeartbeats 4000000 in
theorem up_val {tv : Value} {Tv : World → List Rw → (Nat → Prop) → (Nat → Prop) → Prop} (P : SeqV tv Tv) (w : World) (l : List Rw) (S D : Nat → Prop) (k : Int) (allb : Bool) (rows : List Rw) (A : Option Addr) (n c : Nat)
    (ht : Tv w l S D) (hk : -9223372036854775808 ≤ k ∧ k ≤ 9223372036854775807) (hl : l.length ≤ 4398046511104) (hrw : rows = if allb then l else l.filter fun x => decide (k ≤ x.1))
    (hr : Reads w w.heap.size 2 A n (rws rows)) (hf : Free S A n) (hnc : n ≤ c) :
    Calls Try.prog 13 #[tv, .int .i64 k, .bool allb, .slice A n c] w (AfterV Tv l S D w (.bool true)) := by
  obtain ⟨hk1, hk2⟩ := hk
  have HP := Lib.hid P
  have HT := Lib.hid ht
  have HR := Lib.hid hr
  have HF := Lib.hid hf
  have HN := Lib.hid hr.rlen
  have hn42 : n ≤ 4398046511104 := by
    have := hr.rlen
    rw [hrw] at this
    cases allb
    · simp only [Bool.false_eq_true, if_false] at this
      have h2 := List.length_filter_le (fun x : Rw => decide (k ≤ x.1)) l
      omega
    · simp only [if_true] at this; omega
  have HW := Lib.hid hrw
  clear P ht hr hf hrw
  refine (callsIn_wide (n := 9)).1 ?_
  refine callsIn_of_wp_marks Try.func13 rfl trivial ?_ rfl
  simp only [Try.ntmps13, List.size_toArray, List.length_cons, List.length_nil, Nat.reduceAdd, Nat.reduceSub, Array.replicate_succ, Array.replicate_zero, List.push_toArray, List.append_toArray, List.nil_append, List.cons_append]
  refine wpIn_wide.2 ?_
  have kb := (Blk.new w 26 #[.slice A n c]).alloc (.cells #[.bool false] 4)
  have kr := Blk.new (w.alloc (.cells #[.slice A n c] 26)) 4 #[.bool false]
  simp only [World.size_alloc] at kr
  have hb0 : Below w.heap.size w ((w.alloc (.cells #[.slice A n c] 26)).alloc (.cells #[.bool false] 4)) := ((Below.refl _ _).alloc (Nat.le_refl _) _).alloc (by simp) _
  have ht0 := HP.out.stay HT.out (Stay.below hb0 (HP.out.lt HT.out))
  go_wp2_with fail
  refine (HP.out.from_ _ l S D k ht0 hk1 hk2 hl).mono ?_
  rintro e w1 ⟨v1, R1, S1, D1, rfl, hs1, ht1, tu1, f1, g1, gr1, rs1⟩
  obtain ⟨gf1, lb1, rfl, en1, hR1, hq1⟩ := hs1
  have HS1 := Lib.hid (show SeqC (.func (.func gf1) #[] lb1) (l.filter fun x => decide (k ≤ x.1)) R1 w1 from ⟨gf1, lb1, rfl, en1, hR1, hq1⟩)
  have hDw : ∀ b, S b → b < w.heap.size := fun b hb => HP.out.lt HT.out b (HP.out.sub HT.out b hb)
  have KB1 := Lib.hid (kb.turned tu1 (fun h => by have := hDw _ h; omega))
  have KR1 := Lib.hid (kr.turned tu1 (fun h => by have := hDw _ h; omega))
  have hs1 : w.heap.size + 2 ≤ w1.heap.size := by have := tu1.size; simp at this; omega
  have TU1 := Lib.hid ((Turned.of hb0 (Nat.le_refl _) S).trans tu1 (fun b _ h => h))
  have HT1 := Lib.hid ht1
  have F1 := Lib.hid (f1.back (w := w) (by simp; omega))
  have G1 := Lib.hid (g1.back (w := w) (by simp; omega))
  have HR1 := Lib.hid (HR.out.turned HF.out TU1.out)
  have RS1 := Lib.hid rs1
  have hfn := fun (W : World) (gf : Nat) (cs : Array Value) => run_eql_func_nil (P := Try.prog) W 37 (.func gf) #[] cs Try.underlying37
  have hDl : ∀ b, D b → b < w.heap.size := HP.out.lt HT.out
  have GD1 : Hid (∀ b, D1 b → b < w.heap.size ∨ w.heap.size + 2 ≤ b) := Lib.hid fun b hb => by
    rcases g1 b hb with h | h
    · exact .inl (hDl b h)
    · right; simpa using h
  clear kb kr ht1 tu1 f1 g1 rs1 hb0 ht0 hq1 gr1 hDw
  cases allb
  case' false =>
    obtain ⟨gf, hgf⟩ : ∃ gf, gf = gf1 := ⟨_, rfl⟩
    obtain ⟨lb, hlb⟩ : ∃ lb, lb = lb1 := ⟨_, rfl⟩
    subst hgf; subst hlb
    obtain ⟨W2, hW2⟩ : ∃ W2, W2 = w1 := ⟨_, rfl⟩
    subst hW2
    obtain ⟨R, hR⟩ : ∃ R, R = R1 := ⟨_, rfl⟩
    subst hR
    have SQ : Hid (SeqC (.func (.func gf) #[] lb) rows R W2) := by
      have e := HW.out
      simp only [Bool.false_eq_true, if_false] at e
      rw [e]; exact HS1
    have EN := Lib.hid en1
    have HRl := Lib.hid hR1
    have AF : Hid (∃ S2 D2, Tv W2 l S2 D2 ∧ Turned S w W2 ∧ From S S2 w ∧ From D D2 w ∧ ∀ b, D2 b → b < w.heap.size ∨ w.heap.size + 2 ≤ b) := Lib.hid ⟨S1, D1, HT1.out, TU1.out, F1.out, G1.out, GD1.out⟩
    have KB2 := KB1
    have KR2 := KR1
    have hs2 := hs1
    have HR2 := HR1
    clear KB1 KR1 hs1 HR1 hR1 en1 HS1 HT1 TU1 F1 G1 GD1 RS1
    go_wp2
  case' true =>
    go_wp2_with fail
    refine (HP.out.all w1 l S1 D1 HT1.out hl).mono ?_
    rintro e W2 ⟨v2, R, S2, D2, rfl, hq2, ht2, tu2, f2, g2, gr2, rs2⟩
    obtain ⟨gf, lb, rfl, en2, hR2, hq2⟩ := hq2
    have SQ : Hid (SeqC (.func (.func gf) #[] lb) rows R W2) := by
      have e := HW.out
      simp only [if_true] at e
      rw [e]; exact Lib.hid ⟨gf, lb, rfl, en2, hR2, hq2⟩
    have EN := Lib.hid en2
    have HRl := Lib.hid hR2
    have hSl : ∀ b, S1 b → b < w.heap.size ∨ w.heap.size + 2 ≤ b := fun b hb => GD1.out b (HP.out.sub HT1.out b hb)
    have AF : Hid (∃ S2 D2, Tv W2 l S2 D2 ∧ Turned S w W2 ∧ From S S2 w ∧ From D D2 w ∧ ∀ b, D2 b → b < w.heap.size ∨ w.heap.size + 2 ≤ b) := Lib.hid ⟨S2, D2, ht2, TU1.out.trans tu2 (fun b hb h => by
        rcases F1.out b h with h1 | h1
        · exact h1
        · omega), F1.out.trans f2 (by omega), G1.out.trans g2 (by omega), fun b hb => by
          rcases g2 b hb with h | h
          · exact GD1.out b h
          · right; omega⟩
    have KB2 := Lib.hid (KB1.out.turned tu2 (fun h => by have := hSl _ h; omega))
    have KR2 := Lib.hid (KR1.out.turned tu2 (fun h => by have := hSl _ h; omega))
    have hs2 : w.heap.size + 2 ≤ W2.heap.size := by have := tu2.size; omega
    have HR2 := Lib.hid (HR1.out.turned (HF.out.next HR.out F1.out) tu2)
    clear KB1 KR1 hs1 HR1 hR2 en2 HS1 HT1 TU1 F1 G1 GD1 RS1 ht2 tu2 f2 g2 gr2 rs2 hq2 hSl en1 hR1
    go_wp2
  all_goals
    have hmem : UpMem w W2 A n c rows (.func (.func gf) #[] lb) R W2 := ⟨KB2.out, KR2.out, HR2.out, SQ.out, Below.refl _ _⟩
    refine wp_loop (UpI w W2 tv k A n c rows (.func (.func gf) #[] lb) R) (fun A _ => 2 - (intOf (A.tmps.getD 10 undef)).toNat) ?start ?round
    case start => exact UpI.mk 0 (by omega) trivial hmem
    case round =>
      rintro a W ⟨r, ds, u2, u4, u5, u6, u11, u12, u13, u14, u15, u16, u17, u18, u19, u20, u21, u22, u23, u24, u25, u26, u27, u28, u29, u30, u31, u32, u33, u34, u35, u36, u37, u38, u39, u40, u41, u42, u43, u44, u45, u46, u47, u48, u49, u50, u51, u52, u53, u54, u55, u56, rfl, hr2, hM, hmem⟩
      by_cases hr : r < 2
      · go_wp2
        have hmem1 : UpMem w W2 A n c rows (.func (.func gf) #[] lb) R (W.alloc (.cells #[.int .i64 0] 3)) := hmem.keep ((Below.refl _ _).alloc hmem.2.2.2.2.size _) hs2 HRl.out
        have hM1 : Marks W2.heap.size ds (W.alloc (.cells #[.int .i64 0] 3)) := hM.below ((Below.refl _ _).alloc (Nat.le_refl _) _)
        have hat := Blk.new W 3 #[.int .i64 0]
        have hxW : W.heap.size < (W.alloc (.cells #[.int .i64 0] 3)).heap.size := by simp
        have hx2 : W2.heap.size ≤ W.heap.size := hmem.2.2.2.2.size
        obtain ⟨W1, hW1⟩ : ∃ W1, W1 = W.alloc (.cells #[.int .i64 0] 3) := ⟨_, rfl⟩
        obtain ⟨x0, hx0⟩ : ∃ x0, x0 = W.heap.size := ⟨_, rfl⟩
        rw [← hW1] at hmem1 hM1 hat hxW ⊢
        rw [← hx0] at hat hxW hx2 ⊢
        have HM1 := Lib.hid hmem1
        have HMk := Lib.hid hM1
        have HAt := Lib.hid hat
        clear hW1 hmem hM hx0 hmem1 hM1 hat
        refine (wpIn_wide (n := 9)).1 ?_
        refine' wpIn_rangeFunc_ownG (α := Rw) rfl (by omega) (gf := gf) (lb := lb) rfl trivial EN.out
          HM1.out.2.2.2.1.seq (fun h k => h.trans k) (stay_b HM1.out.2.2.2.1.lt) (Below.refl _ _) (fun _ => rfl)
          (fun pre W => AtN rows x0 pre W ∧ Only W1 W x0)
          (fun c pre W => c = .ret ∧ ¬ pre <+: rows)
          (OwnFrom.and (Own.from (fun s A B row hs hg hr => ⟨hs.1, blk_kept hs.2 hg hr⟩) _) (own_only W1 x0))
          (fun c => fun s A B row hs hg hr => hs)
          ⟨⟨⟨rows, rfl⟩, HAt.out⟩, Only.refl _ _⟩
          _ ?assign ?body ?done ?stop
        case assign =>
          intro l x W K hK
          gi_wp2
          exact hK
        case body =>
          rintro lp pre ⟨x1, x2⟩ V ⟨⟨hpre, hao⟩, hOnly⟩ hlt
          obtain ⟨kb, kr, hrd, _, _⟩ := HM1.out.only hOnly hx2 hs2 HRl.out
          have cb : V.cell? ⟨w.heap.size, 0, none⟩ = some (.slice A n c) := by rw [kb.cell]; rfl
          have cr : V.cell? ⟨w.heap.size + 1, 0, none⟩ = some (.bool false) := by rw [kr.cell]; rfl
          have fr : V.frozen? ⟨w.heap.size + 1, 0, none⟩ = false := kr.frozen 0
          obtain ⟨q, hq⟩ : ∃ q, q = pre.length := ⟨_, rfl⟩
          have HQ := Lib.hid hq
          rw [← hq] at hao hlt
          have cat : V.cell? ⟨x0, 0, none⟩ = some (.int .i64 (q : Int)) := by rw [hao.cell]; rfl
          have fat : V.frozen? ⟨x0, 0, none⟩ = false := hao.frozen 0
          rw [HN.out] at hlt
          obtain ⟨b, off, rfl, hbb, hcell⟩ := hrd.rows (by omega)
          obtain ⟨r2, hr2'⟩ : ∃ r2, rows[q]? = some r2 := ⟨_, List.getElem?_eq_getElem (by rw [HN.out]; exact hlt)⟩
          obtain ⟨c1, c2⟩ := hcell q r2 hr2'
          have HPr := Lib.hid hpre
          have HAo := Lib.hid hao
          have HV := Lib.hid hr2'
          obtain ⟨rk, rv⟩ := r2
          simp only at c1 c2
          have hnl : decide (n ≤ q) = false := by simp; omega
          have hnl2 : (q : Int) < (n : Int) := by omega
          clear hpre hao hcell hr2' hq kb kr hfn hrd
          by_cases h1 : rk = x1
          · have t1 : (rk != x1) = false := by simp [h1]
            by_cases h2 : rv = x2
            · have HI : Hid (pre ++ [(x1, x2)] <+: rows) := Lib.hid (pre_more HPr.out (by rw [← HQ.out]; exact HV.out) (by rw [h1, h2]))
              subst h2
              clear h1
              gi_wp2
              exact ⟨(KeepsOthers.setCell _ _ _).from _, stay_set (fun h => by have := HRl.out _ h; omega), ⟨⟨HI.out, by rw [List.length_append, ← HQ.out]; exact blk_put HAo.out _⟩, hOnly.set _ _⟩⟩
            · have HI : Hid (¬ pre ++ [(x1, x2)] <+: rows) := Lib.hid (pre_wrong (by rw [← HQ.out]; exact HV.out) (fun e => h2 (congrArg Prod.snd e).symm))
              have t2 := text_ne h2
              clear h1 h2
              gi_wp2
              exact ⟨(KeepsOthers.setCell _ _ _).from _, rfl, HI.out⟩
          · have t1 : (rk != x1) = true := by simp [h1]
            have HI : Hid (¬ pre ++ [(x1, x2)] <+: rows) := Lib.hid (pre_wrong (by rw [← HQ.out]; exact HV.out) (fun e => h1 (congrArg Prod.fst e).symm))
            clear h1
            gi_wp2
            exact ⟨(KeepsOthers.setCell _ _ _).from _, rfl, HI.out⟩
        case stop =>
          rintro D cc pre V hD hpre ⟨rfl, hw⟩ hK
          exact absurd hpre hw
        case done =>
          rintro D ys V hD rfl ⟨⟨hpre, hao⟩, hOnly⟩ hK
          have hmemV := HM1.out.only hOnly hx2 hs2 HRl.out
          have hMV := (HMk.out.only hOnly HAt.out).cons (fun d hd k e => by have := HMk.out.lt d hd k e; omega) (by have := HM1.out.2.2.2.2.size; omega) hK
          obtain ⟨kb, kr, _, _, _⟩ := id hmemV
          have cb : V.cell? ⟨w.heap.size, 0, none⟩ = some (.slice A n c) := by rw [kb.cell]; rfl
          rw [HN.out] at hao
          have cat : V.cell? ⟨x0, 0, none⟩ = some (.int .i64 (n : Int)) := by rw [hao.cell]; rfl
          have HMV := Lib.hid hmemV
          have HKV := Lib.hid hMV
          clear kb kr hmemV hMV hpre hao hOnly hK hD hfn
          go_wp2
          exact ⟨UpI.mk (r + 1) (by omega) HKV.out HMV.out, by simp [intOf]; omega⟩
      · obtain ⟨kb, kr, hrd, hsq, hbW⟩ := hmem
        have cr : W.cell? ⟨w.heap.size + 1, 0, none⟩ = some (.bool false) := by rw [kr.cell]; rfl
        have fr : W.frozen? ⟨w.heap.size + 1, 0, none⟩ = false := kr.frozen 0
        have KR := Lib.hid kr
        clear kb kr hrd hsq hfn
        go_wp2
        have kr2 := blk_put KR.out (.bool true)
        have ho : Only W (W.setCell ⟨w.heap.size + 1, 0, none⟩ (.bool true)) (w.heap.size + 1) := (Only.refl _ _).set _ _
        refine Marks.leave (B := W2.heap.size) ds _ (hM.only ho KR.out) (fun W' hb => ?_)
        have c5 : W'.cell? ⟨w.heap.size + 1, 0, none⟩ = some (.bool true) := by
          rw [hb.cell (p := ⟨w.heap.size + 1, 0, none⟩) (by simp; omega), kr2.cell]; rfl
        refine ⟨.bool true, ?_, rfl, ?_⟩
        · simp [results, Try.f13, go_sem, c5]
        · obtain ⟨S2, D2, q1, q2, q3, q4, q5⟩ := AF.out
          have hst : Stay D2 W2 W' := ⟨by have := hbW.size; have := hb.size; have := ho.size; omega, fun b hb' => by
            have h1 := HP.out.lt q1 b hb'
            have h2 := q5 b hb'
            exact (hb.block b h1).trans ((Below.heap_setCell W ⟨w.heap.size + 1, 0, none⟩ _ b (by simp; omega)).trans (hbW.block b h1))⟩
          refine ⟨S2, D2, HP.out.stay q1 hst, ⟨?_, ?_, ?_, ?_, fun i hi hn => ?_⟩, q3, q4⟩
          · exact hb.os.trans (ho.os.trans (hbW.os.trans q2.os))
          · exact hb.tape.trans (ho.tape.trans (hbW.tape.trans q2.tape))
          · exact hb.output.trans (ho.output.trans (hbW.output.trans q2.output))
          · have := q2.size; have := hbW.size; have := hb.size; have := ho.size; omega
          · have h1 := q2.size
            exact (hb.block i (by omega)).trans ((Below.heap_setCell W ⟨w.heap.size + 1, 0, none⟩ _ i (by simp; omega)).trans ((hbW.block i (by omega)).trans (q2.block i hi hn)))

theorem up_any {Tb : World → Nat → List Rw → (Nat → Prop) → (Nat → Prop) → Prop} (C : TableC Tb) (P : SeqP Tb) (w : World) (T : Nat) (l : List Rw) (S D : Nat → Prop) (k : Int) (allb : Bool) (rows : List Rw) (A : Option Addr) (n c : Nat)
    (ht : Tb w T l S D) (hk : -9223372036854775808 ≤ k ∧ k ≤ 9223372036854775807) (hl : l.length ≤ 4398046511104) (hrw : rows = if allb then l else l.filter fun x => decide (k ≤ x.1))
    (hr : Reads w w.heap.size 2 A n (rws rows)) (hf : Free S A n) (hnc : n ≤ c) :
    Calls Try.prog 13 #[.pointer (some ⟨T, 0, none⟩), .int .i64 k, .bool allb, .slice A n c] w (After Tb T l S D w (.bool true)) :=
  up_val (P.val C T) w l S D k allb rows A n c ht hk hl hrw hr hf hnc
end Go.Proofs.Ytgkmlggcmmdafaa.Pk
