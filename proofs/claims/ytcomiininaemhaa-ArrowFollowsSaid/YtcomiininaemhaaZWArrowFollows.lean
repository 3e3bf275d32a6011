/- The walk of the law ArrowFollows. -/
import Derived.Test.YtcomiininaemhaaZArMet
import Derived.Deep.QuietTactic
import Derived.BigQuiet
namespace Go.Proofs.Ytcomiininaemhaa.Pk
open Go.RowKit Go.Shelf Go.Proofs.Ytcomiininaemhaa.Gr Go.Proofs.Ytcomiininaemhaa.Ar
set_option linter.unusedVariables false
attribute [local go_sem] Oper.semAt_some encA
theorem ownN_len' {w : World} {B : Nat} {A : Option Addr} {n c : Nat} {l : List Int} (h : OwnN w B (.slice A n c) l) : l.length = n := h.rd_.1.symm
theorem ownN_slice' {w : World} {B : Nat} {v : Value} {l : List Int} (h : OwnN w B v l) : ∃ A n c, v = .slice A n c := by
  obtain ⟨A, c, e⟩ := h.sl
  exact ⟨A, _, c, e⟩
theorem ownN_reads' {w : World} {B : Nat} {A : Option Addr} {n c : Nat} {l : List Int} (h : OwnN w B (.slice A n c) l) : Reads w w.heap.size 1 A n (nms l) := by
  obtain ⟨e, h⟩ := h.rd_
  rw [e]; exact h
theorem OwnN.setBox' {w : World} {B x i : Nat} {v : Value} {l : List Int} (h : OwnN w B v l) (hx : v.ownBlock ≠ some x) (u : Value) : OwnN (w.setCell ⟨x, i, none⟩ u) B v l := by
  obtain ⟨h1, h2⟩ := h
  refine ⟨h1, ?_⟩
  rcases h2 with h2 | ⟨g, cap, cur, rfl, hg, hh, hr⟩
  · exact .inl h2
  · exact .inr ⟨g, cap, cur, rfl, hg, (Below.heap_setCell w ⟨x, i, none⟩ u g (fun e => hx (by simp at e; subst e; rfl))).trans hh, hr⟩
theorem ownN_neT {w : World} {B x n c : Nat} {A : Option Addr} {l : List Int} {cs : Array Value} {t : TypeId} (ht : t ≠ 3) (h : OwnN w B (.slice A n c) l) (hb : Blk w x t cs) : (Value.slice A n c).ownBlock ≠ some x := by
  intro e
  rcases h.2 with ⟨e2, _⟩ | ⟨g, cap, cur, e2, _, hh, _⟩
  · injection e2 with e2; subst e2; simp [Value.ownBlock] at e
  · injection e2 with e2
    subst e2
    simp [Value.ownBlock] at e
    subst e
    unfold Blk at hb
    rw [hb] at hh
    injection hh with hh
    injection hh with _ hh
    exact ht hh
theorem onlyS_grown' {S : Nat → Prop} {w V W : World} {row : Option Nat} (h : OnlyS S w V) (hg : V.grownBy W row) (hr : ∀ g, row = some g → w.heap.size ≤ g) : OnlyS S w W :=
  ⟨hg.os.trans h.os, hg.tape.trans h.tape, hg.output.trans h.output, Nat.le_trans h.size hg.size, fun i hi hn => (hg.block i (Nat.lt_of_lt_of_le hi h.size) (fun e => by have := hr i e.symm; omega)).trans (h.block i hi hn)⟩
theorem onlyS_setAt' {S : Nat → Prop} {w V : World} (h : OnlyS S w V) {x : Nat} (hx : S x) (i : Nat) (u : Value) : OnlyS S w (V.setCell ⟨x, i, none⟩ u) :=
  ⟨h.os, h.tape, h.output, by have := h.size; simpa [World.setCell] using this, fun k hk hn => (Below.heap_setCell V ⟨x, i, none⟩ u k (fun e => by simp at e; subst e; exact hn hx)).trans (h.block k hk hn)⟩
theorem run_min2' (P : Program) (ts : Array TypeId) (t : TypeId) (a b M : Int) (hM : M = min a b) (w : World) :
    (Builtin.min_ ts t #[.int .i64 a, .int .i64 b]).run P w = .ok (.int .i64 M) w := by
  subst hM
  have e1 : (if b < a then b else a) = min a b := by split <;> omega
  simp only [Builtin.min_, List.foldlM, Builtin.min2, e1, pure_bind]
  rfl
/-- How many marks are off. -/
def offs (w : World) (g : Nat) : Nat := match w.heap[g]? with
  | some (.cells cs _ _) => cs.toList.countP fun v => match v with | .bool false => true | _ => false
  | _ => 0
set_option linter.unusedSimpArgs false in
theorem BlkT.offs_ {w : World} {g : Nat} {l : List Bool} (h : BlkT w g l) : offs w g = l.count false := by
  unfold BlkT Blk at h
  unfold offs
  rw [h]
  simp only [blT]
  induction l with
  | nil => rfl
  | cons x l ih =>
    have ih' : List.countP (fun v => match v with | Value.bool false => true | _ => false) (List.map Value.bool l) = List.count false l := by
      clear ih h
      induction l with
      | nil => rfl
      | cons y l ih => cases y <;> simp [List.countP_cons, List.count_cons, ih]
    cases x <;> simp [List.countP_cons, List.count_cons, ih']
theorem BlkT.lt {w : World} {g : Nat} {l : List Bool} (h : BlkT w g l) : g < w.heap.size := Blk.lt h
set_option maxRecDepth 100000 in
set_option maxHeartbeats 16000000 in
theorem law_ArrowFollows (HFo : FollowA) (HRu : RunA) (A : Option Addr) (n c : Nat) (ar : List Int) (f u : Int) (w : World) (hk : ArgN w A n c ar) (hf : -9223372036854775808 ≤ f ∧ f ≤ 9223372036854775807) (hu : -9223372036854775808 ≤ u ∧ u ≤ 9223372036854775807) :
    Calls Try.prog 6 #[.slice A n c, .int .i64 f, .int .i64 u] w fun e w' => e = .returned (.bool true) ∧ Below w.heap.size w w' := by
  have HW := Lib.hid (fun w => wakes_any HRu w)
  have HIn := Lib.hid (argN_inA hk)
  have hn : n ≤ 17592186044416 := HIn.out.few
  have HLf := Lib.hid (fun w' (hb : Below w.heap.size w w') => HFo A n c ar f w' (HIn.out.next hb) hf)
  have HL := Lib.hid HIn.out.len
  clear hk HFo HRu
  refine (callsIn_wide (n := 9)).1 ?_
  refine callsIn_of_wp_marks Try.func6 rfl trivial ?_ rfl
  simp only [Try.ntmps6, List.size_toArray, List.length_cons, List.length_nil, Nat.reduceAdd, Nat.reduceSub, Array.replicate_succ, Array.replicate_zero, List.push_toArray, List.append_toArray, List.nil_append, List.cons_append]
  refine wpIn_wide.2 ?_
  obtain ⟨xs, hxs⟩ : ∃ x, x = w.heap.size := ⟨_, rfl⟩
  obtain ⟨xr, hxr⟩ : ∃ x, x = xs + 1 := ⟨_, rfl⟩
  obtain ⟨wb, hwb⟩ : ∃ v, v = w.alloc (.cells #[.int .i64 u] 3) := ⟨_, rfl⟩
  obtain ⟨w0, hw0⟩ : ∃ v, v = wb.alloc (.cells #[.bool false] 4) := ⟨_, rfl⟩
  have hsb : wb.heap.size = xs + 1 := by rw [hwb, World.size_alloc, hxs]
  have hbb : Below w.heap.size w wb := hwb ▸ (Below.refl _ _).alloc (Nat.le_refl _) _
  have HB0 : Hid (Below w.heap.size w w0) := Lib.hid (hw0 ▸ hbb.alloc (by omega) _)
  have HS0 : Hid (Blk w0 xs 3 #[.int .i64 u]) := Lib.hid (by rw [hw0, hwb, hxs]; exact (Blk.new w _ _).alloc _)
  have HR0 : Hid (Blk w0 xr 4 #[.bool false]) := Lib.hid (by rw [hw0, hxr, ← hsb]; exact Blk.new wb _ _)
  have HX : Hid (w.heap.size ≤ xs ∧ xs < xr) := Lib.hid (by omega)
  go_wp2_with fail
  rw [← hwb, ← hw0, ← hxs, ← hxr]
  clear hwb hw0 hxs hxr hsb hbb wb
  refine (HW.out w0).mono ?_
  rintro e w1 ⟨rfl, hb⟩
  obtain ⟨xw, hxw⟩ : ∃ x, x = w1.heap.size := ⟨_, rfl⟩
  obtain ⟨w2, hw2⟩ : ∃ v, v = w1.alloc (.cells #[.slice none 0 0] 26) := ⟨_, rfl⟩
  have hb2 : Below w1.heap.size w1 w2 := hw2 ▸ (Below.refl _ _).alloc (Nat.le_refl _) _
  have hb02 : Below w0.heap.size w0 w2 := hb.trans (hb2.mono hb.size)
  have HB2 := Lib.hid (HB0.out.trans (hb02.mono HB0.out.size))
  have HS2 := Lib.hid (HS0.out.below hb02 HS0.out.lt)
  have HR2 := Lib.hid (HR0.out.below hb02 HR0.out.lt)
  have HW2 : Hid (Blk w2 xw 26 #[.slice none 0 0]) := Lib.hid (by rw [hw2, hxw]; exact Blk.new w1 _ _)
  have HXw : Hid (xr < xw) := Lib.hid (by rw [hxw]; exact (HR0.out.below hb HR0.out.lt).lt)
  obtain ⟨gm, hgm⟩ : ∃ x, x = w2.heap.size := ⟨_, rfl⟩
  have HXg : Hid (xw < gm) := Lib.hid (by rw [hgm]; exact HW2.out.lt)
  have HGS : Hid (gm = w2.heap.size) := Lib.hid hgm
  clear hb2 hb02 hb
  go_wp2_with (first
    | (at_make; rw [← hw2, ← hxw]; refine makeBt w2 rfl (.tmp 18) (.tmp 18) rfl .i64 .i64 _ _ n rfl rfl rfl rfl hn ?_; intro w3 hbt hb3; rw [← hgm] at hbt ⊢; clear hw2 hxw hgm)
    | fail)
  have HT3 : Hid (BlkT w3 gm (List.replicate n false)) := Lib.hid hbt
  have HB3 := Lib.hid (HB2.out.trans (hb3.mono HB2.out.size))
  have HS3 := Lib.hid (HS2.out.below hb3 HS2.out.lt)
  have HR3 := Lib.hid (HR2.out.below hb3 HR2.out.lt)
  have HW3 := Lib.hid (HW2.out.below hb3 HW2.out.lt)
  clear hbt hb3 HB2 HS2 HR2 HW2
  go_loopw [9] (fun j wr => ∃ (x : Int) (pre met : List Int) (bs : List Bool) (nw cw : Nat) (Aw : Option Addr), j = .int .i64 x ∧ (-9223372036854775808 ≤ x ∧ x ≤ 9223372036854775807) ∧ Wlk ar f n pre met bs x ∧ BlkT wr gm bs ∧ Blk wr xw 26 #[.slice Aw nw cw] ∧ OwnN wr w3.heap.size (.slice Aw nw cw) pre ∧ OnlyS (fun b => b = xw ∨ b = gm) w3 wr) (fun _ wr => offs wr gm)
  case atStart => exact ⟨f, [], [], _, 0, 0, none, rfl, hf, Wlk.start HL.out, HT3.out, HW3.out, OwnN.none_ _ _, OnlyS.refl _ _⟩
  case round =>
    obtain ⟨x, pre, met, bs, nw, cw, Aw, rfl, hx, hwk, hbt, hw, ho, hO⟩ := hrel
    obtain ⟨w4, rfl⟩ : ∃ v : World, v = wr := ⟨_, rfl⟩
    have HWk := Lib.hid hwk
    have HT4 := Lib.hid hbt
    have HW4 := Lib.hid hw
    have HO4 := Lib.hid ho
    have HOs := Lib.hid hO
    have HB4 : Hid (Below w.heap.size w w4) := Lib.hid (OnlyS.bel HB3.out hO (fun b e => by have := HX.out; have := HXw.out; have := HXg.out; omega) HB3.out.size)
    have HNe : Hid (¬ (xs = xw ∨ xs = gm) ∧ ¬ (xr = xw ∨ xr = gm)) := Lib.hid (by have := HX.out; have := HXw.out; have := HXg.out; omega)
    have lx : xw < w4.heap.size := hw.lt
    have lg : gm < w4.heap.size := BlkT.lt hbt
    have ls : w3.heap.size ≤ w4.heap.size := hO.size
    have HOf := Lib.hid (BlkT.offs_ hbt)
    have ew : w4.cell? ⟨xw, 0, none⟩ = some (.slice Aw nw cw) := HW4.out.cell 0
    have fw : w4.frozen? ⟨xw, 0, none⟩ = false := HW4.out.frozen 0
    have hmem := hwk.mem
    have HF := Lib.hid hf
    clear hwk hbt hw ho hO hf
    by_cases h1 : 0 ≤ x
    case neg =>
      have HE : Hid (pre = followI ar f) := Lib.hid (HWk.out.stop (fun h => absurd h h1))
      have t1 : decide (0 ≤ x) = false := decide_eq_false h1
      clear hmem
      obtain ⟨w5, h5⟩ : ∃ v, v = w4 := ⟨_, rfl⟩
      obtain ⟨l, hl⟩ : ∃ l, l = followI ar f := ⟨_, rfl⟩
      have HOw : Hid (OwnN w5 w3.heap.size (.slice Aw nw cw) l) := Lib.hid (by rw [h5, hl, ← HE.out]; exact HO4.out)
      have HLl : Hid (l.length ≤ n) := Lib.hid (by rw [hl, ← HE.out]; exact HWk.out.le)
      rw [← hl] at HLf
      have HW5 : Hid (Blk w5 xw 26 #[.slice Aw nw cw]) := Lib.hid (by rw [h5]; exact HW4.out)
      have HB5 : Hid (Below w.heap.size w w5) := Lib.hid (by rw [h5]; exact HB4.out)
      have HS5 : Hid (Blk w5 xs 3 #[.int .i64 u]) := Lib.hid (by rw [h5]; exact HOs.out.blk HS3.out HNe.out.1)
      have HR5 : Hid (Blk w5 xr 4 #[.bool false]) := Lib.hid (by rw [h5]; exact HOs.out.blk HR3.out HNe.out.2)
      clear HE HWk HT4 HW4 HO4 HOs HB4 HNe HOf lx lg ls ew fw
      go_wp2_with fail
      rw [← h5]
      clear h5 hl
      refine (HLf.out w5 HB5.out).mono ?_
      rintro e w6 ⟨v6, R, rfl, hseq, hb6, hR⟩
      have HB6 := Lib.hid (HB5.out.trans (hb6.mono HB5.out.size))
      have HS6 := Lib.hid (HS5.out.below hb6 HS5.out.lt)
      have HR6 := Lib.hid (HR5.out.below hb6 HR5.out.lt)
      have HW6 := Lib.hid (HW5.out.below hb6 HW5.out.lt)
      have HO6 := Lib.hid (OwnN.below HOw.out hb6)
      have HNw : Hid (l.length = nw) := Lib.hid (ownN_len' HOw.out)
      have hnw : nw ≤ 17592186044416 := by have h1 := HNw.out; have h2 := HLl.out; omega
      have SE6 := Lib.hid hseq
      have HRl : Hid (∀ g, R g → g < w6.heap.size) := Lib.hid hseq.lt
      clear hseq hb6 hR HS5 HR5 HW5 HOw HS3 HR3 HW3 HLf HT3
      obtain ⟨gf, pb, lb, hv6, en, hq1, hq2⟩ := SE6.out
      clear hq1 hq2
      subst hv6
      have EN := Lib.hid en
      clear en
      have hfn2 := fun (W : World) (gf : Nat) (pb cs : Array Value) => run_eql_func_nil (P := Try.prog) W 42 (.func gf) pb cs Try.underlying42
      go_wp2
      clear hfn2
      have HBW0 : Hid (Below w6.heap.size w6 w6) := Lib.hid (Below.refl _ _)
      have HMW0 : Hid (Marks w6.heap.size [] w6) := Lib.hid trivial
      have lw6 : xw < w6.heap.size := HW6.out.lt
      have ls6 : xs < w6.heap.size := HS6.out.lt
      refine wp_loop_rounds 3 ?_
      rw [rounds_succ]
      go_wp2
      obtain ⟨xk, hxk⟩ : ∃ xk, xk = w6.heap.size := ⟨_, rfl⟩
      obtain ⟨W1, hW1⟩ : ∃ W1, W1 = w6.alloc (.cells #[.int .i64 0] 3) := ⟨_, rfl⟩
      have hsW : w6.heap.size ≤ w6.heap.size := HBW0.out.size
      have hb1 : Below w6.heap.size w6 W1 := hW1 ▸ (Below.refl _ _).alloc (Nat.le_refl _) _
      have HKn1 : Hid (Blk W1 xk 3 #[.int .i64 0]) := Lib.hid (by rw [hW1, hxk]; exact Blk.new w6 _ _)
      have HBW1 := Lib.hid (HBW0.out.trans (hb1.mono hsW))
      have HM1 := Lib.hid (HMW0.out.below hb1)
      have SE1 := Lib.hid (SE6.out.stay (w := w6) (W := W1) ⟨HBW1.out.size, fun g hg => HBW1.out.block g (HRl.out g hg)⟩)
      have hx1 : w6.heap.size ≤ xk := by omega
      have hx2 : xk < W1.heap.size := HKn1.out.lt
      rw [← hW1, ← hxk]
      clear hW1 hxk hb1 hsW
      obtain ⟨S, hS⟩ : ∃ S : Nat → Prop, S = fun b => b = xk := ⟨_, rfl⟩
      have S1 : S xk := by rw [hS]
      have HSe : Hid (∀ b, S b → b = xk) := Lib.hid (fun b h => by rw [hS] at h; exact h)
      clear hS
      refine (wpIn_wide (n := 9)).1 ?_
      refine' range_boundWS (α := Int) (gf := gf) (pb := pb) (lb := lb) rfl EN.out (SE1.out.at_ _) (fun h k => Stay.trans h k) (stay_b SE1.out.lt) (fun _ => rfl) OkA.put
        (fun pre V => Blk V xk 3 #[.int .i64 (pre.length : Nat)] ∧ OnlyS S W1 V)
        (fun cc pre V => False)
        (Std.and (std_blk (x := xk) (by omega)) (std_onlyS W1 S))
        (fun cc => fun s A B hs ht => hs)
        ⟨HKn1.out, OnlyS.refl _ _⟩
        _ ?assign1 ?body1 ?done1 ?stop1
      case assign1 =>
        intro lp y V K hK
        gi_wp2
        exact hK
      case stop1 =>
        rintro D cc pre V hD hpre hf hK
        exact hf.elim
      case body1 =>
        rintro lp pre y V hlp hrec ⟨hbn, hO⟩ ⟨B', hB', hok⟩
        obtain ⟨hlt, hgt⟩ := OkA.next (B := 0) (W := V) hok
        obtain ⟨m, hm⟩ : ∃ m, m = pre.length := ⟨_, rfl⟩
        rw [← hm] at hbn hlt hgt
        have HBV : Hid (Below w6.heap.size w6 V) := Lib.hid (OnlyS.bel HBW1.out hO (fun b hb => by have := HSe.out b hb; omega) HBW1.out.size)
        obtain ⟨gw, ow, hAw, hbw, hcw⟩ := ((ownN_reads' HO6.out).below HBV.out).i64 (by have := HNw.out; omega)
        subst hAw
        have cw0 := hcw m (by have := HNw.out; omega)
        rw [List.getD_eq_getElem?_getD, hgt] at cw0
        have cw1 : V.cell? ⟨gw, ow + m, none⟩ = some (.int .i64 y) := cw0
        have cn : V.cell? ⟨xk, 0, none⟩ = some (.int .i64 (m : Int)) := by rw [hbn.cell]; rfl
        have fn : V.frozen? ⟨xk, 0, none⟩ = false := hbn.frozen 0
        have ew : V.cell? ⟨xw, 0, none⟩ = some (.slice (some ⟨gw, ow, none⟩) nw cw) := (HW6.out.below HBV.out HW6.out.lt).cell 0
        have hmn : m < nw := by have := HNw.out; omega
        have hmw1 : (0 : Int) ≤ (m : Int) := by omega
        have hmw2 : (m : Int) < (nw : Int) := by omega
        have tn : decide (nw ≤ m) = false := by simp; omega
        have tq : (y != y) = false := by simp
        have HBn := Lib.hid hbn
        have HOs := Lib.hid hO
        have HQq := Lib.hid hm
        have HRx : Hid (¬ R xk) := Lib.hid (fun h => by have := HRl.out _ h; omega)
        clear hbn hO hm hok hgt hcw cw0 hbw
        gi_wp2
        refine ⟨KeepsAll.setCell _ hx2 _, stay_setAt HRx.out, ?_, HOs.out.set S1 _⟩
        have := blk_put HBn.out (.int .i64 ((m : Int) + 1))
        rw [List.length_append, ← HQq.out]; exact this
      case done1 =>
        rintro D1 ys V1 hD hys ⟨hbn, hO⟩ hK
        have hyl : ys.length = nw := by rw [hys]; exact HNw.out
        rw [hyl] at hbn
        have hbV := OnlyS.bel HBW1.out hO (fun b hb => by have := HSe.out b hb; omega) HBW1.out.size
        have hmk := OnlyS.marks HM1.out hO (fun b hb => by rw [HSe.out b hb]; exact ⟨_, _, HKn1.out⟩)
        have HMV1 := Lib.hid (hmk.cons (fun d hd k e => by have := HM1.out.lt d hd k e; omega) (by omega) hK)
        have cn : V1.cell? ⟨xk, 0, none⟩ = some (.int .i64 (nw : Int)) := by rw [hbn.cell]; rfl
        have ew : V1.cell? ⟨xw, 0, none⟩ = some (.slice Aw nw cw) := (HW6.out.below hbV HW6.out.lt).cell 0
        have HBV1 := Lib.hid hbV
        clear hbn hO hK hmk hbV hys hyl
        go_wp2
        obtain ⟨X1, hX1⟩ : ∃ v, v = V1 := ⟨_, rfl⟩
        have HBX1 : Hid (Below w6.heap.size w6 X1) := Lib.hid (by rw [hX1]; exact HBV1.out)
        have HMX1 : Hid (Marks w6.heap.size _ X1) := Lib.hid (by rw [hX1]; exact HMV1.out)
        rw [← hX1]
        clear hX1
        clear cn ew HKn1 HBW1 HM1 SE1 hx1 hx2 S1 HSe
        rw [rounds_succ]
        go_wp2
        obtain ⟨xk, hxk⟩ : ∃ xk, xk = X1.heap.size := ⟨_, rfl⟩
        obtain ⟨W1, hW1⟩ : ∃ W1, W1 = X1.alloc (.cells #[.int .i64 0] 3) := ⟨_, rfl⟩
        have hsW : w6.heap.size ≤ X1.heap.size := HBX1.out.size
        have hb1 : Below X1.heap.size X1 W1 := hW1 ▸ (Below.refl _ _).alloc (Nat.le_refl _) _
        have HKn1 : Hid (Blk W1 xk 3 #[.int .i64 0]) := Lib.hid (by rw [hW1, hxk]; exact Blk.new X1 _ _)
        have HBW1 := Lib.hid (HBX1.out.trans (hb1.mono hsW))
        have HM1 := Lib.hid (HMX1.out.below hb1)
        have SE1 := Lib.hid (SE6.out.stay (w := w6) (W := W1) ⟨HBW1.out.size, fun g hg => HBW1.out.block g (HRl.out g hg)⟩)
        have hx1 : w6.heap.size ≤ xk := by omega
        have hx2 : xk < W1.heap.size := HKn1.out.lt
        rw [← hW1, ← hxk]
        clear hW1 hxk hb1 hsW
        obtain ⟨S, hS⟩ : ∃ S : Nat → Prop, S = fun b => b = xk := ⟨_, rfl⟩
        have S1 : S xk := by rw [hS]
        have HSe : Hid (∀ b, S b → b = xk) := Lib.hid (fun b h => by rw [hS] at h; exact h)
        clear hS
        refine (wpIn_wide (n := 9)).1 ?_
        refine' range_boundWS (α := Int) (gf := gf) (pb := pb) (lb := lb) rfl EN.out (SE1.out.at_ _) (fun h k => Stay.trans h k) (stay_b SE1.out.lt) (fun _ => rfl) OkA.put
          (fun pre V => Blk V xk 3 #[.int .i64 (pre.length : Nat)] ∧ OnlyS S W1 V)
          (fun cc pre V => False)
          (Std.and (std_blk (x := xk) (by omega)) (std_onlyS W1 S))
          (fun cc => fun s A B hs ht => hs)
          ⟨HKn1.out, OnlyS.refl _ _⟩
          _ ?assign2 ?body2 ?done2 ?stop2
        case assign2 =>
          intro lp y V K hK
          gi_wp2
          exact hK
        case stop2 =>
          rintro D cc pre V hD hpre hf hK
          exact hf.elim
        case body2 =>
          rintro lp pre y V hlp hrec ⟨hbn, hO⟩ ⟨B', hB', hok⟩
          obtain ⟨hlt, hgt⟩ := OkA.next (B := 0) (W := V) hok
          obtain ⟨m, hm⟩ : ∃ m, m = pre.length := ⟨_, rfl⟩
          rw [← hm] at hbn hlt hgt
          have HBV : Hid (Below w6.heap.size w6 V) := Lib.hid (OnlyS.bel HBW1.out hO (fun b hb => by have := HSe.out b hb; omega) HBW1.out.size)
          obtain ⟨gw, ow, hAw, hbw, hcw⟩ := ((ownN_reads' HO6.out).below HBV.out).i64 (by have := HNw.out; omega)
          subst hAw
          have cw0 := hcw m (by have := HNw.out; omega)
          rw [List.getD_eq_getElem?_getD, hgt] at cw0
          have cw1 : V.cell? ⟨gw, ow + m, none⟩ = some (.int .i64 y) := cw0
          have cn : V.cell? ⟨xk, 0, none⟩ = some (.int .i64 (m : Int)) := by rw [hbn.cell]; rfl
          have fn : V.frozen? ⟨xk, 0, none⟩ = false := hbn.frozen 0
          have ew : V.cell? ⟨xw, 0, none⟩ = some (.slice (some ⟨gw, ow, none⟩) nw cw) := (HW6.out.below HBV.out HW6.out.lt).cell 0
          have hmn : m < nw := by have := HNw.out; omega
          have hmw1 : (0 : Int) ≤ (m : Int) := by omega
          have hmw2 : (m : Int) < (nw : Int) := by omega
          have tn : decide (nw ≤ m) = false := by simp; omega
          have tq : (y != y) = false := by simp
          have HBn := Lib.hid hbn
          have HOs := Lib.hid hO
          have HQq := Lib.hid hm
          have HRx : Hid (¬ R xk) := Lib.hid (fun h => by have := HRl.out _ h; omega)
          clear hbn hO hm hok hgt hcw cw0 hbw
          gi_wp2
          refine ⟨KeepsAll.setCell _ hx2 _, stay_setAt HRx.out, ?_, HOs.out.set S1 _⟩
          have := blk_put HBn.out (.int .i64 ((m : Int) + 1))
          rw [List.length_append, ← HQq.out]; exact this
        case done2 =>
          rintro D1 ys V1 hD hys ⟨hbn, hO⟩ hK
          have hyl : ys.length = nw := by rw [hys]; exact HNw.out
          rw [hyl] at hbn
          have hbV := OnlyS.bel HBW1.out hO (fun b hb => by have := HSe.out b hb; omega) HBW1.out.size
          have hmk := OnlyS.marks HM1.out hO (fun b hb => by rw [HSe.out b hb]; exact ⟨_, _, HKn1.out⟩)
          have HMV1 := Lib.hid (hmk.cons (fun d hd k e => by have := HM1.out.lt d hd k e; omega) (by omega) hK)
          have cn : V1.cell? ⟨xk, 0, none⟩ = some (.int .i64 (nw : Int)) := by rw [hbn.cell]; rfl
          have ew : V1.cell? ⟨xw, 0, none⟩ = some (.slice Aw nw cw) := (HW6.out.below hbV HW6.out.lt).cell 0
          have HBV1 := Lib.hid hbV
          clear hbn hO hK hmk hbV hys hyl
          go_wp2
          obtain ⟨X2, hX2⟩ : ∃ v, v = V1 := ⟨_, rfl⟩
          have HBX2 : Hid (Below w6.heap.size w6 X2) := Lib.hid (by rw [hX2]; exact HBV1.out)
          have HMX2 : Hid (Marks w6.heap.size _ X2) := Lib.hid (by rw [hX2]; exact HMV1.out)
          rw [← hX2]
          clear hX2
          clear cn ew HKn1 HBW1 HM1 SE1 hx1 hx2 S1 HSe
          rw [rounds_succ]
          go_wp2_with fail
          obtain ⟨xn, hxn⟩ : ∃ xn, xn = X2.heap.size := ⟨_, rfl⟩
          obtain ⟨W1, hW1⟩ : ∃ W1, W1 = X2.alloc (.cells #[.int .i64 0] 3) := ⟨_, rfl⟩
          have hsW : w6.heap.size ≤ X2.heap.size := HBX2.out.size
          have hb1 : Below X2.heap.size X2 W1 := hW1 ▸ (Below.refl _ _).alloc (Nat.le_refl _) _
          have HKn1 : Hid (Blk W1 xn 3 #[.int .i64 0]) := Lib.hid (by rw [hW1, hxn]; exact Blk.new X2 _ _)
          have HBW1 := Lib.hid (HBX2.out.trans (hb1.mono hsW))
          have HM1 := Lib.hid (HMX2.out.below hb1)
          have SE1 := Lib.hid (SE6.out.stay (w := w6) (W := W1) ⟨HBW1.out.size, fun g hg => HBW1.out.block g (HRl.out g hg)⟩)
          have hx1 : w6.heap.size ≤ xn := by omega
          have hx2 : xn < W1.heap.size := HKn1.out.lt
          rw [← hW1, ← hxn]
          clear hW1 hxn hb1 hsW
          obtain ⟨S, hS⟩ : ∃ S : Nat → Prop, S = fun b => b = xn := ⟨_, rfl⟩
          have S1 : S xn := by rw [hS]
          have HSe : Hid (∀ b, S b → b = xn) := Lib.hid (fun b h => by rw [hS] at h; exact h)
          clear hS
          refine (wpIn_wide (n := 9)).1 ?_
          refine' range_boundWS (α := Int) (gf := gf) (pb := pb) (lb := lb) rfl EN.out (SE1.out.at_ _) (fun h k => Stay.trans h k) (stay_b SE1.out.lt) (fun _ => rfl) OkA.put
            (fun pre V => Blk V xn 3 #[.int .i64 (pre.length : Nat)] ∧ OnlyS S W1 V ∧ (pre.length = 0 ∨ (pre.length : Int) < u))
            (fun cc pre V => cc = .exit 6 ∧ Blk V xn 3 #[.int .i64 (pre.length : Nat)] ∧ OnlyS S W1 V ∧ 0 < pre.length ∧ u ≤ (pre.length : Int) ∧ (u < 1 ∨ (pre.length : Int) = u))
            (fun s A B hs ht => ⟨Blk.std hs.1 ht (by omega), std_onlyS (β := List (Int)) W1 S s A B hs.2.1 ht, hs.2.2⟩)
            (fun cc => fun s A B hs ht => ⟨hs.1, Blk.std hs.2.1 ht (by omega), std_onlyS (β := List (Int)) W1 S s A B hs.2.2.1 ht, hs.2.2.2⟩)
            ⟨HKn1.out, OnlyS.refl _ _, .inl rfl⟩
            _ ?assign3 ?body3 ?done3 ?stop3
          case assign3 =>
            intro lp y V K hK
            gi_wp2
            exact hK
          case body3 =>
            rintro lp pre y V hlp hrec ⟨hbn, hO, hpz⟩ ⟨B', hB', hok⟩
            obtain ⟨hlt, hgt⟩ := OkA.next (B := 0) (W := V) hok
            obtain ⟨k, hk⟩ : ∃ k, k = pre.length := ⟨_, rfl⟩
            rw [← hk] at hbn hlt hpz
            have hkn : k < nw := by have := HNw.out; omega
            have HBV := Lib.hid (OnlyS.bel HBW1.out hO (fun b hb => by have := HSe.out b hb; omega) HBW1.out.size)
            have HQq := Lib.hid hk
            have cn : V.cell? ⟨xn, 0, none⟩ = some (.int .i64 (k : Int)) := by rw [hbn.cell]; rfl
            have fn : V.frozen? ⟨xn, 0, none⟩ = false := hbn.frozen 0
            have cs : V.cell? ⟨xs, 0, none⟩ = some (.int .i64 u) := (HS6.out.below HBV.out HS6.out.lt).cell 0
            have HBn := Lib.hid hbn
            have HOs := Lib.hid hO
            have HPz := Lib.hid hpz
            have HRx : Hid (¬ R xn) := Lib.hid (fun h => by have := HRl.out _ h; omega)
            have hne : xs ≠ xn := by omega
            clear hbn hO hk hok hgt hlt hpz
            by_cases hst : u ≤ (k : Int) + 1
            · gi_wp2
              refine ⟨KeepsAll.setCell _ hx2 _, rfl, ?_, HOs.out.set S1 _, by simp, by rw [List.length_append, ← HQq.out]; simpa using hst, ?_⟩
              · have := blk_put HBn.out (.int .i64 ((k : Int) + 1))
                rw [List.length_append, ← HQq.out]; exact this
              · rw [List.length_append, ← HQq.out]
                rcases HPz.out with h | h
                · subst h; simp; omega
                · right; simp; omega
            · have hst' : (k : Int) + 1 < u := by omega
              clear hst
              gi_wp2
              refine ⟨KeepsAll.setCell _ hx2 _, stay_setAt HRx.out, ?_, HOs.out.set S1 _, .inr (by rw [List.length_append, ← HQq.out]; simpa using hst')⟩
              have := blk_put HBn.out (.int .i64 ((k : Int) + 1))
              rw [List.length_append, ← HQq.out]; exact this
          case done3 =>
            rintro D ys V hD hys ⟨hbn, hO, hpz⟩ hK
            obtain ⟨k, hk⟩ : ∃ k, k = ys.length := ⟨_, rfl⟩
            have hke : k = nw := by rw [hk, hys]; exact HNw.out
            rw [← hk] at hbn hpz
            clear hk hys
            have hqn : (k : Int) ≤ (nw : Int) := by omega
            have HBV := Lib.hid (OnlyS.bel HBW1.out hO (fun b hb => by have := HSe.out b hb; omega) HBW1.out.size)
            have hmk := OnlyS.marks HM1.out hO (fun b hb => by rw [HSe.out b hb]; exact ⟨_, _, HKn1.out⟩)
            have HMk := Lib.hid (hmk.cons (fun d hd k e => by have := HM1.out.lt d hd k e; omega) (by omega) hK)
            have HR7 := Lib.hid (HR6.out.below HBV.out HR6.out.lt)
            have cn : V.cell? ⟨xn, 0, none⟩ = some (.int .i64 (k : Int)) := by rw [hbn.cell]; rfl
            have cr : V.cell? ⟨xr, 0, none⟩ = some (.bool false) := HR7.out.cell 0
            have fr : V.frozen? ⟨xr, 0, none⟩ = false := HR7.out.frozen 0
            have cs : V.cell? ⟨xs, 0, none⟩ = some (.int .i64 u) := (HS6.out.below HBV.out HS6.out.lt).cell 0
            have cw : V.cell? ⟨xw, 0, none⟩ = some (.slice Aw nw cw) := (HW6.out.below HBV.out HW6.out.lt).cell 0
            have hxx := HX.out
            have hlr : xr < w6.heap.size := HR6.out.lt
            have HBw := Lib.hid (HB6.out.trans (HBV.out.mono HB6.out.size))
            clear hO hmk hK hbn
            rcases Int.lt_or_le u 1 with hz1 | hz1
            · go_wp2
              have k9 : OnlyS (fun b => b = xr) V (V.setCell ⟨xr, 0, none⟩ (.bool true)) := OnlyS.set (S := fun b => b = xr) (OnlyS.refl (fun b => b = xr) V) (x := xr) rfl (.bool true)
              have hk9 := blk_put HR7.out (.bool true)
              have hB10 := OnlyS.bel HBw.out k9 (fun b hb => by omega) HBw.out.size
              refine Marks.leave (B := w6.heap.size) _ _ (OnlyS.marks HMk.out k9 (fun b hb => ⟨_, _, (show Blk V b 4 #[.bool false] by rw [hb]; exact HR7.out)⟩)) (fun W' hb => ?_)
              have c5 : W'.cell? ⟨xr, 0, none⟩ = some (.bool true) := by rw [hb.cell (p := ⟨xr, 0, none⟩) (show xr < w6.heap.size by omega), hk9.cell]; rfl
              refine ⟨.bool true, by simp [results, Try.f6, go_sem, c5], rfl, ?_⟩
              exact hB10.trans (hb.mono HB6.out.size)
            · have hmin : (k : Int) = min u (nw : Int) := by omega
              have km := run_min2' Try.prog #[3, 3] 3 u (nw : Int) (k : Int) hmin
              clear hmin
              go_wp2
              have k9 : OnlyS (fun b => b = xr) V (V.setCell ⟨xr, 0, none⟩ (.bool true)) := OnlyS.set (S := fun b => b = xr) (OnlyS.refl (fun b => b = xr) V) (x := xr) rfl (.bool true)
              have hk9 := blk_put HR7.out (.bool true)
              have hB10 := OnlyS.bel HBw.out k9 (fun b hb => by omega) HBw.out.size
              refine Marks.leave (B := w6.heap.size) _ _ (OnlyS.marks HMk.out k9 (fun b hb => ⟨_, _, (show Blk V b 4 #[.bool false] by rw [hb]; exact HR7.out)⟩)) (fun W' hb => ?_)
              have c5 : W'.cell? ⟨xr, 0, none⟩ = some (.bool true) := by rw [hb.cell (p := ⟨xr, 0, none⟩) (show xr < w6.heap.size by omega), hk9.cell]; rfl
              refine ⟨.bool true, by simp [results, Try.f6, go_sem, c5], rfl, ?_⟩
              exact hB10.trans (hb.mono HB6.out.size)
          case stop3 =>
            rintro D cc pre V hD hpre ⟨rfl, hbn, hO, hp0, hp1, hp2⟩ hK
            obtain ⟨k, hk⟩ : ∃ k, k = pre.length := ⟨_, rfl⟩
            have hkl : k ≤ nw := by rw [hk, ← HNw.out]; exact List.IsPrefix.length_le hpre
            rw [← hk] at hbn hp0 hp1 hp2
            clear hk hpre
            have hqn : (k : Int) ≤ (nw : Int) := by omega
            have HBV := Lib.hid (OnlyS.bel HBW1.out hO (fun b hb => by have := HSe.out b hb; omega) HBW1.out.size)
            have hmk := OnlyS.marks HM1.out hO (fun b hb => by rw [HSe.out b hb]; exact ⟨_, _, HKn1.out⟩)
            have HMk := Lib.hid (hmk.cons (fun d hd k e => by have := HM1.out.lt d hd k e; omega) (by omega) hK)
            have HR7 := Lib.hid (HR6.out.below HBV.out HR6.out.lt)
            have cn : V.cell? ⟨xn, 0, none⟩ = some (.int .i64 (k : Int)) := by rw [hbn.cell]; rfl
            have cr : V.cell? ⟨xr, 0, none⟩ = some (.bool false) := HR7.out.cell 0
            have fr : V.frozen? ⟨xr, 0, none⟩ = false := HR7.out.frozen 0
            have cs : V.cell? ⟨xs, 0, none⟩ = some (.int .i64 u) := (HS6.out.below HBV.out HS6.out.lt).cell 0
            have cw : V.cell? ⟨xw, 0, none⟩ = some (.slice Aw nw cw) := (HW6.out.below HBV.out HW6.out.lt).cell 0
            have hxx := HX.out
            have hlr : xr < w6.heap.size := HR6.out.lt
            have HBw := Lib.hid (HB6.out.trans (HBV.out.mono HB6.out.size))
            clear hO hmk hK hbn
            rcases Int.lt_or_le u 1 with hz1 | hz1
            · refine wpIn_wide.2 ?_
              go_wp2
              have k9 : OnlyS (fun b => b = xr) V (V.setCell ⟨xr, 0, none⟩ (.bool true)) := OnlyS.set (S := fun b => b = xr) (OnlyS.refl (fun b => b = xr) V) (x := xr) rfl (.bool true)
              have hk9 := blk_put HR7.out (.bool true)
              have hB10 := OnlyS.bel HBw.out k9 (fun b hb => by omega) HBw.out.size
              refine Marks.leave (B := w6.heap.size) _ _ (OnlyS.marks HMk.out k9 (fun b hb => ⟨_, _, (show Blk V b 4 #[.bool false] by rw [hb]; exact HR7.out)⟩)) (fun W' hb => ?_)
              have c5 : W'.cell? ⟨xr, 0, none⟩ = some (.bool true) := by rw [hb.cell (p := ⟨xr, 0, none⟩) (show xr < w6.heap.size by omega), hk9.cell]; rfl
              refine ⟨.bool true, by simp [results, Try.f6, go_sem, c5], rfl, ?_⟩
              exact hB10.trans (hb.mono HB6.out.size)
            · have hmin : (k : Int) = min u (nw : Int) := by omega
              have km := run_min2' Try.prog #[3, 3] 3 u (nw : Int) (k : Int) hmin
              clear hmin
              refine wpIn_wide.2 ?_
              go_wp2
              have k9 : OnlyS (fun b => b = xr) V (V.setCell ⟨xr, 0, none⟩ (.bool true)) := OnlyS.set (S := fun b => b = xr) (OnlyS.refl (fun b => b = xr) V) (x := xr) rfl (.bool true)
              have hk9 := blk_put HR7.out (.bool true)
              have hB10 := OnlyS.bel HBw.out k9 (fun b hb => by omega) HBw.out.size
              refine Marks.leave (B := w6.heap.size) _ _ (OnlyS.marks HMk.out k9 (fun b hb => ⟨_, _, (show Blk V b 4 #[.bool false] by rw [hb]; exact HR7.out)⟩)) (fun W' hb => ?_)
              have c5 : W'.cell? ⟨xr, 0, none⟩ = some (.bool true) := by rw [hb.cell (p := ⟨xr, 0, none⟩) (show xr < w6.heap.size by omega), hk9.cell]; rfl
              refine ⟨.bool true, by simp [results, Try.f6, go_sem, c5], rfl, ?_⟩
              exact hB10.trans (hb.mono HB6.out.size)
    case pos =>
    have t1 : decide (0 ≤ x) = true := decide_eq_true h1
    obtain ⟨v, rfl⟩ : ∃ v : Nat, x = (v : Int) := ⟨x.toNat, by omega⟩
    by_cases h2 : v < n
    case neg =>
      have HE : Hid (pre = followI ar f) := Lib.hid (HWk.out.stop (fun _ h => absurd h (by omega)))
      have t2 : decide (v < n) = false := decide_eq_false h2
      clear hmem
      obtain ⟨w5, h5⟩ : ∃ v, v = w4 := ⟨_, rfl⟩
      obtain ⟨l, hl⟩ : ∃ l, l = followI ar f := ⟨_, rfl⟩
      have HOw : Hid (OwnN w5 w3.heap.size (.slice Aw nw cw) l) := Lib.hid (by rw [h5, hl, ← HE.out]; exact HO4.out)
      have HLl : Hid (l.length ≤ n) := Lib.hid (by rw [hl, ← HE.out]; exact HWk.out.le)
      rw [← hl] at HLf
      have HW5 : Hid (Blk w5 xw 26 #[.slice Aw nw cw]) := Lib.hid (by rw [h5]; exact HW4.out)
      have HB5 : Hid (Below w.heap.size w w5) := Lib.hid (by rw [h5]; exact HB4.out)
      have HS5 : Hid (Blk w5 xs 3 #[.int .i64 u]) := Lib.hid (by rw [h5]; exact HOs.out.blk HS3.out HNe.out.1)
      have HR5 : Hid (Blk w5 xr 4 #[.bool false]) := Lib.hid (by rw [h5]; exact HOs.out.blk HR3.out HNe.out.2)
      clear HE HWk HT4 HW4 HO4 HOs HB4 HNe HOf lx lg ls ew fw
      go_wp2_with fail
      rw [← h5]
      clear h5 hl
      refine (HLf.out w5 HB5.out).mono ?_
      rintro e w6 ⟨v6, R, rfl, hseq, hb6, hR⟩
      have HB6 := Lib.hid (HB5.out.trans (hb6.mono HB5.out.size))
      have HS6 := Lib.hid (HS5.out.below hb6 HS5.out.lt)
      have HR6 := Lib.hid (HR5.out.below hb6 HR5.out.lt)
      have HW6 := Lib.hid (HW5.out.below hb6 HW5.out.lt)
      have HO6 := Lib.hid (OwnN.below HOw.out hb6)
      have HNw : Hid (l.length = nw) := Lib.hid (ownN_len' HOw.out)
      have hnw : nw ≤ 17592186044416 := by have h1 := HNw.out; have h2 := HLl.out; omega
      have SE6 := Lib.hid hseq
      have HRl : Hid (∀ g, R g → g < w6.heap.size) := Lib.hid hseq.lt
      clear hseq hb6 hR HS5 HR5 HW5 HOw HS3 HR3 HW3 HLf HT3
      obtain ⟨gf, pb, lb, hv6, en, hq1, hq2⟩ := SE6.out
      clear hq1 hq2
      subst hv6
      have EN := Lib.hid en
      clear en
      have hfn2 := fun (W : World) (gf : Nat) (pb cs : Array Value) => run_eql_func_nil (P := Try.prog) W 42 (.func gf) pb cs Try.underlying42
      go_wp2
      clear hfn2
      have HBW0 : Hid (Below w6.heap.size w6 w6) := Lib.hid (Below.refl _ _)
      have HMW0 : Hid (Marks w6.heap.size [] w6) := Lib.hid trivial
      have lw6 : xw < w6.heap.size := HW6.out.lt
      have ls6 : xs < w6.heap.size := HS6.out.lt
      refine wp_loop_rounds 3 ?_
      rw [rounds_succ]
      go_wp2
      obtain ⟨xk, hxk⟩ : ∃ xk, xk = w6.heap.size := ⟨_, rfl⟩
      obtain ⟨W1, hW1⟩ : ∃ W1, W1 = w6.alloc (.cells #[.int .i64 0] 3) := ⟨_, rfl⟩
      have hsW : w6.heap.size ≤ w6.heap.size := HBW0.out.size
      have hb1 : Below w6.heap.size w6 W1 := hW1 ▸ (Below.refl _ _).alloc (Nat.le_refl _) _
      have HKn1 : Hid (Blk W1 xk 3 #[.int .i64 0]) := Lib.hid (by rw [hW1, hxk]; exact Blk.new w6 _ _)
      have HBW1 := Lib.hid (HBW0.out.trans (hb1.mono hsW))
      have HM1 := Lib.hid (HMW0.out.below hb1)
      have SE1 := Lib.hid (SE6.out.stay (w := w6) (W := W1) ⟨HBW1.out.size, fun g hg => HBW1.out.block g (HRl.out g hg)⟩)
      have hx1 : w6.heap.size ≤ xk := by omega
      have hx2 : xk < W1.heap.size := HKn1.out.lt
      rw [← hW1, ← hxk]
      clear hW1 hxk hb1 hsW
      obtain ⟨S, hS⟩ : ∃ S : Nat → Prop, S = fun b => b = xk := ⟨_, rfl⟩
      have S1 : S xk := by rw [hS]
      have HSe : Hid (∀ b, S b → b = xk) := Lib.hid (fun b h => by rw [hS] at h; exact h)
      clear hS
      refine (wpIn_wide (n := 9)).1 ?_
      refine' range_boundWS (α := Int) (gf := gf) (pb := pb) (lb := lb) rfl EN.out (SE1.out.at_ _) (fun h k => Stay.trans h k) (stay_b SE1.out.lt) (fun _ => rfl) OkA.put
        (fun pre V => Blk V xk 3 #[.int .i64 (pre.length : Nat)] ∧ OnlyS S W1 V)
        (fun cc pre V => False)
        (Std.and (std_blk (x := xk) (by omega)) (std_onlyS W1 S))
        (fun cc => fun s A B hs ht => hs)
        ⟨HKn1.out, OnlyS.refl _ _⟩
        _ ?assign1 ?body1 ?done1 ?stop1
      case assign1 =>
        intro lp y V K hK
        gi_wp2
        exact hK
      case stop1 =>
        rintro D cc pre V hD hpre hf hK
        exact hf.elim
      case body1 =>
        rintro lp pre y V hlp hrec ⟨hbn, hO⟩ ⟨B', hB', hok⟩
        obtain ⟨hlt, hgt⟩ := OkA.next (B := 0) (W := V) hok
        obtain ⟨m, hm⟩ : ∃ m, m = pre.length := ⟨_, rfl⟩
        rw [← hm] at hbn hlt hgt
        have HBV : Hid (Below w6.heap.size w6 V) := Lib.hid (OnlyS.bel HBW1.out hO (fun b hb => by have := HSe.out b hb; omega) HBW1.out.size)
        obtain ⟨gw, ow, hAw, hbw, hcw⟩ := ((ownN_reads' HO6.out).below HBV.out).i64 (by have := HNw.out; omega)
        subst hAw
        have cw0 := hcw m (by have := HNw.out; omega)
        rw [List.getD_eq_getElem?_getD, hgt] at cw0
        have cw1 : V.cell? ⟨gw, ow + m, none⟩ = some (.int .i64 y) := cw0
        have cn : V.cell? ⟨xk, 0, none⟩ = some (.int .i64 (m : Int)) := by rw [hbn.cell]; rfl
        have fn : V.frozen? ⟨xk, 0, none⟩ = false := hbn.frozen 0
        have ew : V.cell? ⟨xw, 0, none⟩ = some (.slice (some ⟨gw, ow, none⟩) nw cw) := (HW6.out.below HBV.out HW6.out.lt).cell 0
        have hmn : m < nw := by have := HNw.out; omega
        have hmw1 : (0 : Int) ≤ (m : Int) := by omega
        have hmw2 : (m : Int) < (nw : Int) := by omega
        have tn : decide (nw ≤ m) = false := by simp; omega
        have tq : (y != y) = false := by simp
        have HBn := Lib.hid hbn
        have HOs := Lib.hid hO
        have HQq := Lib.hid hm
        have HRx : Hid (¬ R xk) := Lib.hid (fun h => by have := HRl.out _ h; omega)
        clear hbn hO hm hok hgt hcw cw0 hbw
        gi_wp2
        refine ⟨KeepsAll.setCell _ hx2 _, stay_setAt HRx.out, ?_, HOs.out.set S1 _⟩
        have := blk_put HBn.out (.int .i64 ((m : Int) + 1))
        rw [List.length_append, ← HQq.out]; exact this
      case done1 =>
        rintro D1 ys V1 hD hys ⟨hbn, hO⟩ hK
        have hyl : ys.length = nw := by rw [hys]; exact HNw.out
        rw [hyl] at hbn
        have hbV := OnlyS.bel HBW1.out hO (fun b hb => by have := HSe.out b hb; omega) HBW1.out.size
        have hmk := OnlyS.marks HM1.out hO (fun b hb => by rw [HSe.out b hb]; exact ⟨_, _, HKn1.out⟩)
        have HMV1 := Lib.hid (hmk.cons (fun d hd k e => by have := HM1.out.lt d hd k e; omega) (by omega) hK)
        have cn : V1.cell? ⟨xk, 0, none⟩ = some (.int .i64 (nw : Int)) := by rw [hbn.cell]; rfl
        have ew : V1.cell? ⟨xw, 0, none⟩ = some (.slice Aw nw cw) := (HW6.out.below hbV HW6.out.lt).cell 0
        have HBV1 := Lib.hid hbV
        clear hbn hO hK hmk hbV hys hyl
        go_wp2
        obtain ⟨X1, hX1⟩ : ∃ v, v = V1 := ⟨_, rfl⟩
        have HBX1 : Hid (Below w6.heap.size w6 X1) := Lib.hid (by rw [hX1]; exact HBV1.out)
        have HMX1 : Hid (Marks w6.heap.size _ X1) := Lib.hid (by rw [hX1]; exact HMV1.out)
        rw [← hX1]
        clear hX1
        clear cn ew HKn1 HBW1 HM1 SE1 hx1 hx2 S1 HSe
        rw [rounds_succ]
        go_wp2
        obtain ⟨xk, hxk⟩ : ∃ xk, xk = X1.heap.size := ⟨_, rfl⟩
        obtain ⟨W1, hW1⟩ : ∃ W1, W1 = X1.alloc (.cells #[.int .i64 0] 3) := ⟨_, rfl⟩
        have hsW : w6.heap.size ≤ X1.heap.size := HBX1.out.size
        have hb1 : Below X1.heap.size X1 W1 := hW1 ▸ (Below.refl _ _).alloc (Nat.le_refl _) _
        have HKn1 : Hid (Blk W1 xk 3 #[.int .i64 0]) := Lib.hid (by rw [hW1, hxk]; exact Blk.new X1 _ _)
        have HBW1 := Lib.hid (HBX1.out.trans (hb1.mono hsW))
        have HM1 := Lib.hid (HMX1.out.below hb1)
        have SE1 := Lib.hid (SE6.out.stay (w := w6) (W := W1) ⟨HBW1.out.size, fun g hg => HBW1.out.block g (HRl.out g hg)⟩)
        have hx1 : w6.heap.size ≤ xk := by omega
        have hx2 : xk < W1.heap.size := HKn1.out.lt
        rw [← hW1, ← hxk]
        clear hW1 hxk hb1 hsW
        obtain ⟨S, hS⟩ : ∃ S : Nat → Prop, S = fun b => b = xk := ⟨_, rfl⟩
        have S1 : S xk := by rw [hS]
        have HSe : Hid (∀ b, S b → b = xk) := Lib.hid (fun b h => by rw [hS] at h; exact h)
        clear hS
        refine (wpIn_wide (n := 9)).1 ?_
        refine' range_boundWS (α := Int) (gf := gf) (pb := pb) (lb := lb) rfl EN.out (SE1.out.at_ _) (fun h k => Stay.trans h k) (stay_b SE1.out.lt) (fun _ => rfl) OkA.put
          (fun pre V => Blk V xk 3 #[.int .i64 (pre.length : Nat)] ∧ OnlyS S W1 V)
          (fun cc pre V => False)
          (Std.and (std_blk (x := xk) (by omega)) (std_onlyS W1 S))
          (fun cc => fun s A B hs ht => hs)
          ⟨HKn1.out, OnlyS.refl _ _⟩
          _ ?assign2 ?body2 ?done2 ?stop2
        case assign2 =>
          intro lp y V K hK
          gi_wp2
          exact hK
        case stop2 =>
          rintro D cc pre V hD hpre hf hK
          exact hf.elim
        case body2 =>
          rintro lp pre y V hlp hrec ⟨hbn, hO⟩ ⟨B', hB', hok⟩
          obtain ⟨hlt, hgt⟩ := OkA.next (B := 0) (W := V) hok
          obtain ⟨m, hm⟩ : ∃ m, m = pre.length := ⟨_, rfl⟩
          rw [← hm] at hbn hlt hgt
          have HBV : Hid (Below w6.heap.size w6 V) := Lib.hid (OnlyS.bel HBW1.out hO (fun b hb => by have := HSe.out b hb; omega) HBW1.out.size)
          obtain ⟨gw, ow, hAw, hbw, hcw⟩ := ((ownN_reads' HO6.out).below HBV.out).i64 (by have := HNw.out; omega)
          subst hAw
          have cw0 := hcw m (by have := HNw.out; omega)
          rw [List.getD_eq_getElem?_getD, hgt] at cw0
          have cw1 : V.cell? ⟨gw, ow + m, none⟩ = some (.int .i64 y) := cw0
          have cn : V.cell? ⟨xk, 0, none⟩ = some (.int .i64 (m : Int)) := by rw [hbn.cell]; rfl
          have fn : V.frozen? ⟨xk, 0, none⟩ = false := hbn.frozen 0
          have ew : V.cell? ⟨xw, 0, none⟩ = some (.slice (some ⟨gw, ow, none⟩) nw cw) := (HW6.out.below HBV.out HW6.out.lt).cell 0
          have hmn : m < nw := by have := HNw.out; omega
          have hmw1 : (0 : Int) ≤ (m : Int) := by omega
          have hmw2 : (m : Int) < (nw : Int) := by omega
          have tn : decide (nw ≤ m) = false := by simp; omega
          have tq : (y != y) = false := by simp
          have HBn := Lib.hid hbn
          have HOs := Lib.hid hO
          have HQq := Lib.hid hm
          have HRx : Hid (¬ R xk) := Lib.hid (fun h => by have := HRl.out _ h; omega)
          clear hbn hO hm hok hgt hcw cw0 hbw
          gi_wp2
          refine ⟨KeepsAll.setCell _ hx2 _, stay_setAt HRx.out, ?_, HOs.out.set S1 _⟩
          have := blk_put HBn.out (.int .i64 ((m : Int) + 1))
          rw [List.length_append, ← HQq.out]; exact this
        case done2 =>
          rintro D1 ys V1 hD hys ⟨hbn, hO⟩ hK
          have hyl : ys.length = nw := by rw [hys]; exact HNw.out
          rw [hyl] at hbn
          have hbV := OnlyS.bel HBW1.out hO (fun b hb => by have := HSe.out b hb; omega) HBW1.out.size
          have hmk := OnlyS.marks HM1.out hO (fun b hb => by rw [HSe.out b hb]; exact ⟨_, _, HKn1.out⟩)
          have HMV1 := Lib.hid (hmk.cons (fun d hd k e => by have := HM1.out.lt d hd k e; omega) (by omega) hK)
          have cn : V1.cell? ⟨xk, 0, none⟩ = some (.int .i64 (nw : Int)) := by rw [hbn.cell]; rfl
          have ew : V1.cell? ⟨xw, 0, none⟩ = some (.slice Aw nw cw) := (HW6.out.below hbV HW6.out.lt).cell 0
          have HBV1 := Lib.hid hbV
          clear hbn hO hK hmk hbV hys hyl
          go_wp2
          obtain ⟨X2, hX2⟩ : ∃ v, v = V1 := ⟨_, rfl⟩
          have HBX2 : Hid (Below w6.heap.size w6 X2) := Lib.hid (by rw [hX2]; exact HBV1.out)
          have HMX2 : Hid (Marks w6.heap.size _ X2) := Lib.hid (by rw [hX2]; exact HMV1.out)
          rw [← hX2]
          clear hX2
          clear cn ew HKn1 HBW1 HM1 SE1 hx1 hx2 S1 HSe
          rw [rounds_succ]
          go_wp2_with fail
          obtain ⟨xn, hxn⟩ : ∃ xn, xn = X2.heap.size := ⟨_, rfl⟩
          obtain ⟨W1, hW1⟩ : ∃ W1, W1 = X2.alloc (.cells #[.int .i64 0] 3) := ⟨_, rfl⟩
          have hsW : w6.heap.size ≤ X2.heap.size := HBX2.out.size
          have hb1 : Below X2.heap.size X2 W1 := hW1 ▸ (Below.refl _ _).alloc (Nat.le_refl _) _
          have HKn1 : Hid (Blk W1 xn 3 #[.int .i64 0]) := Lib.hid (by rw [hW1, hxn]; exact Blk.new X2 _ _)
          have HBW1 := Lib.hid (HBX2.out.trans (hb1.mono hsW))
          have HM1 := Lib.hid (HMX2.out.below hb1)
          have SE1 := Lib.hid (SE6.out.stay (w := w6) (W := W1) ⟨HBW1.out.size, fun g hg => HBW1.out.block g (HRl.out g hg)⟩)
          have hx1 : w6.heap.size ≤ xn := by omega
          have hx2 : xn < W1.heap.size := HKn1.out.lt
          rw [← hW1, ← hxn]
          clear hW1 hxn hb1 hsW
          obtain ⟨S, hS⟩ : ∃ S : Nat → Prop, S = fun b => b = xn := ⟨_, rfl⟩
          have S1 : S xn := by rw [hS]
          have HSe : Hid (∀ b, S b → b = xn) := Lib.hid (fun b h => by rw [hS] at h; exact h)
          clear hS
          refine (wpIn_wide (n := 9)).1 ?_
          refine' range_boundWS (α := Int) (gf := gf) (pb := pb) (lb := lb) rfl EN.out (SE1.out.at_ _) (fun h k => Stay.trans h k) (stay_b SE1.out.lt) (fun _ => rfl) OkA.put
            (fun pre V => Blk V xn 3 #[.int .i64 (pre.length : Nat)] ∧ OnlyS S W1 V ∧ (pre.length = 0 ∨ (pre.length : Int) < u))
            (fun cc pre V => cc = .exit 6 ∧ Blk V xn 3 #[.int .i64 (pre.length : Nat)] ∧ OnlyS S W1 V ∧ 0 < pre.length ∧ u ≤ (pre.length : Int) ∧ (u < 1 ∨ (pre.length : Int) = u))
            (fun s A B hs ht => ⟨Blk.std hs.1 ht (by omega), std_onlyS (β := List (Int)) W1 S s A B hs.2.1 ht, hs.2.2⟩)
            (fun cc => fun s A B hs ht => ⟨hs.1, Blk.std hs.2.1 ht (by omega), std_onlyS (β := List (Int)) W1 S s A B hs.2.2.1 ht, hs.2.2.2⟩)
            ⟨HKn1.out, OnlyS.refl _ _, .inl rfl⟩
            _ ?assign3 ?body3 ?done3 ?stop3
          case assign3 =>
            intro lp y V K hK
            gi_wp2
            exact hK
          case body3 =>
            rintro lp pre y V hlp hrec ⟨hbn, hO, hpz⟩ ⟨B', hB', hok⟩
            obtain ⟨hlt, hgt⟩ := OkA.next (B := 0) (W := V) hok
            obtain ⟨k, hk⟩ : ∃ k, k = pre.length := ⟨_, rfl⟩
            rw [← hk] at hbn hlt hpz
            have hkn : k < nw := by have := HNw.out; omega
            have HBV := Lib.hid (OnlyS.bel HBW1.out hO (fun b hb => by have := HSe.out b hb; omega) HBW1.out.size)
            have HQq := Lib.hid hk
            have cn : V.cell? ⟨xn, 0, none⟩ = some (.int .i64 (k : Int)) := by rw [hbn.cell]; rfl
            have fn : V.frozen? ⟨xn, 0, none⟩ = false := hbn.frozen 0
            have cs : V.cell? ⟨xs, 0, none⟩ = some (.int .i64 u) := (HS6.out.below HBV.out HS6.out.lt).cell 0
            have HBn := Lib.hid hbn
            have HOs := Lib.hid hO
            have HPz := Lib.hid hpz
            have HRx : Hid (¬ R xn) := Lib.hid (fun h => by have := HRl.out _ h; omega)
            have hne : xs ≠ xn := by omega
            clear hbn hO hk hok hgt hlt hpz
            by_cases hst : u ≤ (k : Int) + 1
            · gi_wp2
              refine ⟨KeepsAll.setCell _ hx2 _, rfl, ?_, HOs.out.set S1 _, by simp, by rw [List.length_append, ← HQq.out]; simpa using hst, ?_⟩
              · have := blk_put HBn.out (.int .i64 ((k : Int) + 1))
                rw [List.length_append, ← HQq.out]; exact this
              · rw [List.length_append, ← HQq.out]
                rcases HPz.out with h | h
                · subst h; simp; omega
                · right; simp; omega
            · have hst' : (k : Int) + 1 < u := by omega
              clear hst
              gi_wp2
              refine ⟨KeepsAll.setCell _ hx2 _, stay_setAt HRx.out, ?_, HOs.out.set S1 _, .inr (by rw [List.length_append, ← HQq.out]; simpa using hst')⟩
              have := blk_put HBn.out (.int .i64 ((k : Int) + 1))
              rw [List.length_append, ← HQq.out]; exact this
          case done3 =>
            rintro D ys V hD hys ⟨hbn, hO, hpz⟩ hK
            obtain ⟨k, hk⟩ : ∃ k, k = ys.length := ⟨_, rfl⟩
            have hke : k = nw := by rw [hk, hys]; exact HNw.out
            rw [← hk] at hbn hpz
            clear hk hys
            have hqn : (k : Int) ≤ (nw : Int) := by omega
            have HBV := Lib.hid (OnlyS.bel HBW1.out hO (fun b hb => by have := HSe.out b hb; omega) HBW1.out.size)
            have hmk := OnlyS.marks HM1.out hO (fun b hb => by rw [HSe.out b hb]; exact ⟨_, _, HKn1.out⟩)
            have HMk := Lib.hid (hmk.cons (fun d hd k e => by have := HM1.out.lt d hd k e; omega) (by omega) hK)
            have HR7 := Lib.hid (HR6.out.below HBV.out HR6.out.lt)
            have cn : V.cell? ⟨xn, 0, none⟩ = some (.int .i64 (k : Int)) := by rw [hbn.cell]; rfl
            have cr : V.cell? ⟨xr, 0, none⟩ = some (.bool false) := HR7.out.cell 0
            have fr : V.frozen? ⟨xr, 0, none⟩ = false := HR7.out.frozen 0
            have cs : V.cell? ⟨xs, 0, none⟩ = some (.int .i64 u) := (HS6.out.below HBV.out HS6.out.lt).cell 0
            have cw : V.cell? ⟨xw, 0, none⟩ = some (.slice Aw nw cw) := (HW6.out.below HBV.out HW6.out.lt).cell 0
            have hxx := HX.out
            have hlr : xr < w6.heap.size := HR6.out.lt
            have HBw := Lib.hid (HB6.out.trans (HBV.out.mono HB6.out.size))
            clear hO hmk hK hbn
            rcases Int.lt_or_le u 1 with hz1 | hz1
            · go_wp2
              have k9 : OnlyS (fun b => b = xr) V (V.setCell ⟨xr, 0, none⟩ (.bool true)) := OnlyS.set (S := fun b => b = xr) (OnlyS.refl (fun b => b = xr) V) (x := xr) rfl (.bool true)
              have hk9 := blk_put HR7.out (.bool true)
              have hB10 := OnlyS.bel HBw.out k9 (fun b hb => by omega) HBw.out.size
              refine Marks.leave (B := w6.heap.size) _ _ (OnlyS.marks HMk.out k9 (fun b hb => ⟨_, _, (show Blk V b 4 #[.bool false] by rw [hb]; exact HR7.out)⟩)) (fun W' hb => ?_)
              have c5 : W'.cell? ⟨xr, 0, none⟩ = some (.bool true) := by rw [hb.cell (p := ⟨xr, 0, none⟩) (show xr < w6.heap.size by omega), hk9.cell]; rfl
              refine ⟨.bool true, by simp [results, Try.f6, go_sem, c5], rfl, ?_⟩
              exact hB10.trans (hb.mono HB6.out.size)
            · have hmin : (k : Int) = min u (nw : Int) := by omega
              have km := run_min2' Try.prog #[3, 3] 3 u (nw : Int) (k : Int) hmin
              clear hmin
              go_wp2
              have k9 : OnlyS (fun b => b = xr) V (V.setCell ⟨xr, 0, none⟩ (.bool true)) := OnlyS.set (S := fun b => b = xr) (OnlyS.refl (fun b => b = xr) V) (x := xr) rfl (.bool true)
              have hk9 := blk_put HR7.out (.bool true)
              have hB10 := OnlyS.bel HBw.out k9 (fun b hb => by omega) HBw.out.size
              refine Marks.leave (B := w6.heap.size) _ _ (OnlyS.marks HMk.out k9 (fun b hb => ⟨_, _, (show Blk V b 4 #[.bool false] by rw [hb]; exact HR7.out)⟩)) (fun W' hb => ?_)
              have c5 : W'.cell? ⟨xr, 0, none⟩ = some (.bool true) := by rw [hb.cell (p := ⟨xr, 0, none⟩) (show xr < w6.heap.size by omega), hk9.cell]; rfl
              refine ⟨.bool true, by simp [results, Try.f6, go_sem, c5], rfl, ?_⟩
              exact hB10.trans (hb.mono HB6.out.size)
          case stop3 =>
            rintro D cc pre V hD hpre ⟨rfl, hbn, hO, hp0, hp1, hp2⟩ hK
            obtain ⟨k, hk⟩ : ∃ k, k = pre.length := ⟨_, rfl⟩
            have hkl : k ≤ nw := by rw [hk, ← HNw.out]; exact List.IsPrefix.length_le hpre
            rw [← hk] at hbn hp0 hp1 hp2
            clear hk hpre
            have hqn : (k : Int) ≤ (nw : Int) := by omega
            have HBV := Lib.hid (OnlyS.bel HBW1.out hO (fun b hb => by have := HSe.out b hb; omega) HBW1.out.size)
            have hmk := OnlyS.marks HM1.out hO (fun b hb => by rw [HSe.out b hb]; exact ⟨_, _, HKn1.out⟩)
            have HMk := Lib.hid (hmk.cons (fun d hd k e => by have := HM1.out.lt d hd k e; omega) (by omega) hK)
            have HR7 := Lib.hid (HR6.out.below HBV.out HR6.out.lt)
            have cn : V.cell? ⟨xn, 0, none⟩ = some (.int .i64 (k : Int)) := by rw [hbn.cell]; rfl
            have cr : V.cell? ⟨xr, 0, none⟩ = some (.bool false) := HR7.out.cell 0
            have fr : V.frozen? ⟨xr, 0, none⟩ = false := HR7.out.frozen 0
            have cs : V.cell? ⟨xs, 0, none⟩ = some (.int .i64 u) := (HS6.out.below HBV.out HS6.out.lt).cell 0
            have cw : V.cell? ⟨xw, 0, none⟩ = some (.slice Aw nw cw) := (HW6.out.below HBV.out HW6.out.lt).cell 0
            have hxx := HX.out
            have hlr : xr < w6.heap.size := HR6.out.lt
            have HBw := Lib.hid (HB6.out.trans (HBV.out.mono HB6.out.size))
            clear hO hmk hK hbn
            rcases Int.lt_or_le u 1 with hz1 | hz1
            · refine wpIn_wide.2 ?_
              go_wp2
              have k9 : OnlyS (fun b => b = xr) V (V.setCell ⟨xr, 0, none⟩ (.bool true)) := OnlyS.set (S := fun b => b = xr) (OnlyS.refl (fun b => b = xr) V) (x := xr) rfl (.bool true)
              have hk9 := blk_put HR7.out (.bool true)
              have hB10 := OnlyS.bel HBw.out k9 (fun b hb => by omega) HBw.out.size
              refine Marks.leave (B := w6.heap.size) _ _ (OnlyS.marks HMk.out k9 (fun b hb => ⟨_, _, (show Blk V b 4 #[.bool false] by rw [hb]; exact HR7.out)⟩)) (fun W' hb => ?_)
              have c5 : W'.cell? ⟨xr, 0, none⟩ = some (.bool true) := by rw [hb.cell (p := ⟨xr, 0, none⟩) (show xr < w6.heap.size by omega), hk9.cell]; rfl
              refine ⟨.bool true, by simp [results, Try.f6, go_sem, c5], rfl, ?_⟩
              exact hB10.trans (hb.mono HB6.out.size)
            · have hmin : (k : Int) = min u (nw : Int) := by omega
              have km := run_min2' Try.prog #[3, 3] 3 u (nw : Int) (k : Int) hmin
              clear hmin
              refine wpIn_wide.2 ?_
              go_wp2
              have k9 : OnlyS (fun b => b = xr) V (V.setCell ⟨xr, 0, none⟩ (.bool true)) := OnlyS.set (S := fun b => b = xr) (OnlyS.refl (fun b => b = xr) V) (x := xr) rfl (.bool true)
              have hk9 := blk_put HR7.out (.bool true)
              have hB10 := OnlyS.bel HBw.out k9 (fun b hb => by omega) HBw.out.size
              refine Marks.leave (B := w6.heap.size) _ _ (OnlyS.marks HMk.out k9 (fun b hb => ⟨_, _, (show Blk V b 4 #[.bool false] by rw [hb]; exact HR7.out)⟩)) (fun W' hb => ?_)
              have c5 : W'.cell? ⟨xr, 0, none⟩ = some (.bool true) := by rw [hb.cell (p := ⟨xr, 0, none⟩) (show xr < w6.heap.size by omega), hk9.cell]; rfl
              refine ⟨.bool true, by simp [results, Try.f6, go_sem, c5], rfl, ?_⟩
              exact hB10.trans (hb.mono HB6.out.size)
    case pos =>
    have t2 : decide (v < n) = true := decide_eq_true h2
    have hm := hmem v h2
    clear hmem
    by_cases h3 : (v : Int) ∈ met
    case pos =>
      rw [decide_eq_true h3] at hm
      have HE : Hid (pre = followI ar f) := Lib.hid (HWk.out.stop (fun _ _ => by simpa using hm))
      have cm := HT4.out.at_ hm
      clear h3 hm
      obtain ⟨w5, h5⟩ : ∃ v, v = w4 := ⟨_, rfl⟩
      obtain ⟨l, hl⟩ : ∃ l, l = followI ar f := ⟨_, rfl⟩
      have HOw : Hid (OwnN w5 w3.heap.size (.slice Aw nw cw) l) := Lib.hid (by rw [h5, hl, ← HE.out]; exact HO4.out)
      have HLl : Hid (l.length ≤ n) := Lib.hid (by rw [hl, ← HE.out]; exact HWk.out.le)
      rw [← hl] at HLf
      have HW5 : Hid (Blk w5 xw 26 #[.slice Aw nw cw]) := Lib.hid (by rw [h5]; exact HW4.out)
      have HB5 : Hid (Below w.heap.size w w5) := Lib.hid (by rw [h5]; exact HB4.out)
      have HS5 : Hid (Blk w5 xs 3 #[.int .i64 u]) := Lib.hid (by rw [h5]; exact HOs.out.blk HS3.out HNe.out.1)
      have HR5 : Hid (Blk w5 xr 4 #[.bool false]) := Lib.hid (by rw [h5]; exact HOs.out.blk HR3.out HNe.out.2)
      clear HE HWk HT4 HW4 HO4 HOs HB4 HNe HOf lx lg ls ew fw
      go_wp2_with fail
      rw [← h5]
      clear h5 hl cm
      refine (HLf.out w5 HB5.out).mono ?_
      rintro e w6 ⟨v6, R, rfl, hseq, hb6, hR⟩
      have HB6 := Lib.hid (HB5.out.trans (hb6.mono HB5.out.size))
      have HS6 := Lib.hid (HS5.out.below hb6 HS5.out.lt)
      have HR6 := Lib.hid (HR5.out.below hb6 HR5.out.lt)
      have HW6 := Lib.hid (HW5.out.below hb6 HW5.out.lt)
      have HO6 := Lib.hid (OwnN.below HOw.out hb6)
      have HNw : Hid (l.length = nw) := Lib.hid (ownN_len' HOw.out)
      have hnw : nw ≤ 17592186044416 := by have h1 := HNw.out; have h2 := HLl.out; omega
      have SE6 := Lib.hid hseq
      have HRl : Hid (∀ g, R g → g < w6.heap.size) := Lib.hid hseq.lt
      clear hseq hb6 hR HS5 HR5 HW5 HOw HS3 HR3 HW3 HLf HT3
      obtain ⟨gf, pb, lb, hv6, en, hq1, hq2⟩ := SE6.out
      clear hq1 hq2
      subst hv6
      have EN := Lib.hid en
      clear en
      have hfn2 := fun (W : World) (gf : Nat) (pb cs : Array Value) => run_eql_func_nil (P := Try.prog) W 42 (.func gf) pb cs Try.underlying42
      go_wp2
      clear hfn2
      have HBW0 : Hid (Below w6.heap.size w6 w6) := Lib.hid (Below.refl _ _)
      have HMW0 : Hid (Marks w6.heap.size [] w6) := Lib.hid trivial
      have lw6 : xw < w6.heap.size := HW6.out.lt
      have ls6 : xs < w6.heap.size := HS6.out.lt
      refine wp_loop_rounds 3 ?_
      rw [rounds_succ]
      go_wp2
      obtain ⟨xk, hxk⟩ : ∃ xk, xk = w6.heap.size := ⟨_, rfl⟩
      obtain ⟨W1, hW1⟩ : ∃ W1, W1 = w6.alloc (.cells #[.int .i64 0] 3) := ⟨_, rfl⟩
      have hsW : w6.heap.size ≤ w6.heap.size := HBW0.out.size
      have hb1 : Below w6.heap.size w6 W1 := hW1 ▸ (Below.refl _ _).alloc (Nat.le_refl _) _
      have HKn1 : Hid (Blk W1 xk 3 #[.int .i64 0]) := Lib.hid (by rw [hW1, hxk]; exact Blk.new w6 _ _)
      have HBW1 := Lib.hid (HBW0.out.trans (hb1.mono hsW))
      have HM1 := Lib.hid (HMW0.out.below hb1)
      have SE1 := Lib.hid (SE6.out.stay (w := w6) (W := W1) ⟨HBW1.out.size, fun g hg => HBW1.out.block g (HRl.out g hg)⟩)
      have hx1 : w6.heap.size ≤ xk := by omega
      have hx2 : xk < W1.heap.size := HKn1.out.lt
      rw [← hW1, ← hxk]
      clear hW1 hxk hb1 hsW
      obtain ⟨S, hS⟩ : ∃ S : Nat → Prop, S = fun b => b = xk := ⟨_, rfl⟩
      have S1 : S xk := by rw [hS]
      have HSe : Hid (∀ b, S b → b = xk) := Lib.hid (fun b h => by rw [hS] at h; exact h)
      clear hS
      refine (wpIn_wide (n := 9)).1 ?_
      refine' range_boundWS (α := Int) (gf := gf) (pb := pb) (lb := lb) rfl EN.out (SE1.out.at_ _) (fun h k => Stay.trans h k) (stay_b SE1.out.lt) (fun _ => rfl) OkA.put
        (fun pre V => Blk V xk 3 #[.int .i64 (pre.length : Nat)] ∧ OnlyS S W1 V)
        (fun cc pre V => False)
        (Std.and (std_blk (x := xk) (by omega)) (std_onlyS W1 S))
        (fun cc => fun s A B hs ht => hs)
        ⟨HKn1.out, OnlyS.refl _ _⟩
        _ ?assign1 ?body1 ?done1 ?stop1
      case assign1 =>
        intro lp y V K hK
        gi_wp2
        exact hK
      case stop1 =>
        rintro D cc pre V hD hpre hf hK
        exact hf.elim
      case body1 =>
        rintro lp pre y V hlp hrec ⟨hbn, hO⟩ ⟨B', hB', hok⟩
        obtain ⟨hlt, hgt⟩ := OkA.next (B := 0) (W := V) hok
        obtain ⟨m, hm⟩ : ∃ m, m = pre.length := ⟨_, rfl⟩
        rw [← hm] at hbn hlt hgt
        have HBV : Hid (Below w6.heap.size w6 V) := Lib.hid (OnlyS.bel HBW1.out hO (fun b hb => by have := HSe.out b hb; omega) HBW1.out.size)
        obtain ⟨gw, ow, hAw, hbw, hcw⟩ := ((ownN_reads' HO6.out).below HBV.out).i64 (by have := HNw.out; omega)
        subst hAw
        have cw0 := hcw m (by have := HNw.out; omega)
        rw [List.getD_eq_getElem?_getD, hgt] at cw0
        have cw1 : V.cell? ⟨gw, ow + m, none⟩ = some (.int .i64 y) := cw0
        have cn : V.cell? ⟨xk, 0, none⟩ = some (.int .i64 (m : Int)) := by rw [hbn.cell]; rfl
        have fn : V.frozen? ⟨xk, 0, none⟩ = false := hbn.frozen 0
        have ew : V.cell? ⟨xw, 0, none⟩ = some (.slice (some ⟨gw, ow, none⟩) nw cw) := (HW6.out.below HBV.out HW6.out.lt).cell 0
        have hmn : m < nw := by have := HNw.out; omega
        have hmw1 : (0 : Int) ≤ (m : Int) := by omega
        have hmw2 : (m : Int) < (nw : Int) := by omega
        have tn : decide (nw ≤ m) = false := by simp; omega
        have tq : (y != y) = false := by simp
        have HBn := Lib.hid hbn
        have HOs := Lib.hid hO
        have HQq := Lib.hid hm
        have HRx : Hid (¬ R xk) := Lib.hid (fun h => by have := HRl.out _ h; omega)
        clear hbn hO hm hok hgt hcw cw0 hbw
        gi_wp2
        refine ⟨KeepsAll.setCell _ hx2 _, stay_setAt HRx.out, ?_, HOs.out.set S1 _⟩
        have := blk_put HBn.out (.int .i64 ((m : Int) + 1))
        rw [List.length_append, ← HQq.out]; exact this
      case done1 =>
        rintro D1 ys V1 hD hys ⟨hbn, hO⟩ hK
        have hyl : ys.length = nw := by rw [hys]; exact HNw.out
        rw [hyl] at hbn
        have hbV := OnlyS.bel HBW1.out hO (fun b hb => by have := HSe.out b hb; omega) HBW1.out.size
        have hmk := OnlyS.marks HM1.out hO (fun b hb => by rw [HSe.out b hb]; exact ⟨_, _, HKn1.out⟩)
        have HMV1 := Lib.hid (hmk.cons (fun d hd k e => by have := HM1.out.lt d hd k e; omega) (by omega) hK)
        have cn : V1.cell? ⟨xk, 0, none⟩ = some (.int .i64 (nw : Int)) := by rw [hbn.cell]; rfl
        have ew : V1.cell? ⟨xw, 0, none⟩ = some (.slice Aw nw cw) := (HW6.out.below hbV HW6.out.lt).cell 0
        have HBV1 := Lib.hid hbV
        clear hbn hO hK hmk hbV hys hyl
        go_wp2
        obtain ⟨X1, hX1⟩ : ∃ v, v = V1 := ⟨_, rfl⟩
        have HBX1 : Hid (Below w6.heap.size w6 X1) := Lib.hid (by rw [hX1]; exact HBV1.out)
        have HMX1 : Hid (Marks w6.heap.size _ X1) := Lib.hid (by rw [hX1]; exact HMV1.out)
        rw [← hX1]
        clear hX1
        clear cn ew HKn1 HBW1 HM1 SE1 hx1 hx2 S1 HSe
        rw [rounds_succ]
        go_wp2
        obtain ⟨xk, hxk⟩ : ∃ xk, xk = X1.heap.size := ⟨_, rfl⟩
        obtain ⟨W1, hW1⟩ : ∃ W1, W1 = X1.alloc (.cells #[.int .i64 0] 3) := ⟨_, rfl⟩
        have hsW : w6.heap.size ≤ X1.heap.size := HBX1.out.size
        have hb1 : Below X1.heap.size X1 W1 := hW1 ▸ (Below.refl _ _).alloc (Nat.le_refl _) _
        have HKn1 : Hid (Blk W1 xk 3 #[.int .i64 0]) := Lib.hid (by rw [hW1, hxk]; exact Blk.new X1 _ _)
        have HBW1 := Lib.hid (HBX1.out.trans (hb1.mono hsW))
        have HM1 := Lib.hid (HMX1.out.below hb1)
        have SE1 := Lib.hid (SE6.out.stay (w := w6) (W := W1) ⟨HBW1.out.size, fun g hg => HBW1.out.block g (HRl.out g hg)⟩)
        have hx1 : w6.heap.size ≤ xk := by omega
        have hx2 : xk < W1.heap.size := HKn1.out.lt
        rw [← hW1, ← hxk]
        clear hW1 hxk hb1 hsW
        obtain ⟨S, hS⟩ : ∃ S : Nat → Prop, S = fun b => b = xk := ⟨_, rfl⟩
        have S1 : S xk := by rw [hS]
        have HSe : Hid (∀ b, S b → b = xk) := Lib.hid (fun b h => by rw [hS] at h; exact h)
        clear hS
        refine (wpIn_wide (n := 9)).1 ?_
        refine' range_boundWS (α := Int) (gf := gf) (pb := pb) (lb := lb) rfl EN.out (SE1.out.at_ _) (fun h k => Stay.trans h k) (stay_b SE1.out.lt) (fun _ => rfl) OkA.put
          (fun pre V => Blk V xk 3 #[.int .i64 (pre.length : Nat)] ∧ OnlyS S W1 V)
          (fun cc pre V => False)
          (Std.and (std_blk (x := xk) (by omega)) (std_onlyS W1 S))
          (fun cc => fun s A B hs ht => hs)
          ⟨HKn1.out, OnlyS.refl _ _⟩
          _ ?assign2 ?body2 ?done2 ?stop2
        case assign2 =>
          intro lp y V K hK
          gi_wp2
          exact hK
        case stop2 =>
          rintro D cc pre V hD hpre hf hK
          exact hf.elim
        case body2 =>
          rintro lp pre y V hlp hrec ⟨hbn, hO⟩ ⟨B', hB', hok⟩
          obtain ⟨hlt, hgt⟩ := OkA.next (B := 0) (W := V) hok
          obtain ⟨m, hm⟩ : ∃ m, m = pre.length := ⟨_, rfl⟩
          rw [← hm] at hbn hlt hgt
          have HBV : Hid (Below w6.heap.size w6 V) := Lib.hid (OnlyS.bel HBW1.out hO (fun b hb => by have := HSe.out b hb; omega) HBW1.out.size)
          obtain ⟨gw, ow, hAw, hbw, hcw⟩ := ((ownN_reads' HO6.out).below HBV.out).i64 (by have := HNw.out; omega)
          subst hAw
          have cw0 := hcw m (by have := HNw.out; omega)
          rw [List.getD_eq_getElem?_getD, hgt] at cw0
          have cw1 : V.cell? ⟨gw, ow + m, none⟩ = some (.int .i64 y) := cw0
          have cn : V.cell? ⟨xk, 0, none⟩ = some (.int .i64 (m : Int)) := by rw [hbn.cell]; rfl
          have fn : V.frozen? ⟨xk, 0, none⟩ = false := hbn.frozen 0
          have ew : V.cell? ⟨xw, 0, none⟩ = some (.slice (some ⟨gw, ow, none⟩) nw cw) := (HW6.out.below HBV.out HW6.out.lt).cell 0
          have hmn : m < nw := by have := HNw.out; omega
          have hmw1 : (0 : Int) ≤ (m : Int) := by omega
          have hmw2 : (m : Int) < (nw : Int) := by omega
          have tn : decide (nw ≤ m) = false := by simp; omega
          have tq : (y != y) = false := by simp
          have HBn := Lib.hid hbn
          have HOs := Lib.hid hO
          have HQq := Lib.hid hm
          have HRx : Hid (¬ R xk) := Lib.hid (fun h => by have := HRl.out _ h; omega)
          clear hbn hO hm hok hgt hcw cw0 hbw
          gi_wp2
          refine ⟨KeepsAll.setCell _ hx2 _, stay_setAt HRx.out, ?_, HOs.out.set S1 _⟩
          have := blk_put HBn.out (.int .i64 ((m : Int) + 1))
          rw [List.length_append, ← HQq.out]; exact this
        case done2 =>
          rintro D1 ys V1 hD hys ⟨hbn, hO⟩ hK
          have hyl : ys.length = nw := by rw [hys]; exact HNw.out
          rw [hyl] at hbn
          have hbV := OnlyS.bel HBW1.out hO (fun b hb => by have := HSe.out b hb; omega) HBW1.out.size
          have hmk := OnlyS.marks HM1.out hO (fun b hb => by rw [HSe.out b hb]; exact ⟨_, _, HKn1.out⟩)
          have HMV1 := Lib.hid (hmk.cons (fun d hd k e => by have := HM1.out.lt d hd k e; omega) (by omega) hK)
          have cn : V1.cell? ⟨xk, 0, none⟩ = some (.int .i64 (nw : Int)) := by rw [hbn.cell]; rfl
          have ew : V1.cell? ⟨xw, 0, none⟩ = some (.slice Aw nw cw) := (HW6.out.below hbV HW6.out.lt).cell 0
          have HBV1 := Lib.hid hbV
          clear hbn hO hK hmk hbV hys hyl
          go_wp2
          obtain ⟨X2, hX2⟩ : ∃ v, v = V1 := ⟨_, rfl⟩
          have HBX2 : Hid (Below w6.heap.size w6 X2) := Lib.hid (by rw [hX2]; exact HBV1.out)
          have HMX2 : Hid (Marks w6.heap.size _ X2) := Lib.hid (by rw [hX2]; exact HMV1.out)
          rw [← hX2]
          clear hX2
          clear cn ew HKn1 HBW1 HM1 SE1 hx1 hx2 S1 HSe
          rw [rounds_succ]
          go_wp2_with fail
          obtain ⟨xn, hxn⟩ : ∃ xn, xn = X2.heap.size := ⟨_, rfl⟩
          obtain ⟨W1, hW1⟩ : ∃ W1, W1 = X2.alloc (.cells #[.int .i64 0] 3) := ⟨_, rfl⟩
          have hsW : w6.heap.size ≤ X2.heap.size := HBX2.out.size
          have hb1 : Below X2.heap.size X2 W1 := hW1 ▸ (Below.refl _ _).alloc (Nat.le_refl _) _
          have HKn1 : Hid (Blk W1 xn 3 #[.int .i64 0]) := Lib.hid (by rw [hW1, hxn]; exact Blk.new X2 _ _)
          have HBW1 := Lib.hid (HBX2.out.trans (hb1.mono hsW))
          have HM1 := Lib.hid (HMX2.out.below hb1)
          have SE1 := Lib.hid (SE6.out.stay (w := w6) (W := W1) ⟨HBW1.out.size, fun g hg => HBW1.out.block g (HRl.out g hg)⟩)
          have hx1 : w6.heap.size ≤ xn := by omega
          have hx2 : xn < W1.heap.size := HKn1.out.lt
          rw [← hW1, ← hxn]
          clear hW1 hxn hb1 hsW
          obtain ⟨S, hS⟩ : ∃ S : Nat → Prop, S = fun b => b = xn := ⟨_, rfl⟩
          have S1 : S xn := by rw [hS]
          have HSe : Hid (∀ b, S b → b = xn) := Lib.hid (fun b h => by rw [hS] at h; exact h)
          clear hS
          refine (wpIn_wide (n := 9)).1 ?_
          refine' range_boundWS (α := Int) (gf := gf) (pb := pb) (lb := lb) rfl EN.out (SE1.out.at_ _) (fun h k => Stay.trans h k) (stay_b SE1.out.lt) (fun _ => rfl) OkA.put
            (fun pre V => Blk V xn 3 #[.int .i64 (pre.length : Nat)] ∧ OnlyS S W1 V ∧ (pre.length = 0 ∨ (pre.length : Int) < u))
            (fun cc pre V => cc = .exit 6 ∧ Blk V xn 3 #[.int .i64 (pre.length : Nat)] ∧ OnlyS S W1 V ∧ 0 < pre.length ∧ u ≤ (pre.length : Int) ∧ (u < 1 ∨ (pre.length : Int) = u))
            (fun s A B hs ht => ⟨Blk.std hs.1 ht (by omega), std_onlyS (β := List (Int)) W1 S s A B hs.2.1 ht, hs.2.2⟩)
            (fun cc => fun s A B hs ht => ⟨hs.1, Blk.std hs.2.1 ht (by omega), std_onlyS (β := List (Int)) W1 S s A B hs.2.2.1 ht, hs.2.2.2⟩)
            ⟨HKn1.out, OnlyS.refl _ _, .inl rfl⟩
            _ ?assign3 ?body3 ?done3 ?stop3
          case assign3 =>
            intro lp y V K hK
            gi_wp2
            exact hK
          case body3 =>
            rintro lp pre y V hlp hrec ⟨hbn, hO, hpz⟩ ⟨B', hB', hok⟩
            obtain ⟨hlt, hgt⟩ := OkA.next (B := 0) (W := V) hok
            obtain ⟨k, hk⟩ : ∃ k, k = pre.length := ⟨_, rfl⟩
            rw [← hk] at hbn hlt hpz
            have hkn : k < nw := by have := HNw.out; omega
            have HBV := Lib.hid (OnlyS.bel HBW1.out hO (fun b hb => by have := HSe.out b hb; omega) HBW1.out.size)
            have HQq := Lib.hid hk
            have cn : V.cell? ⟨xn, 0, none⟩ = some (.int .i64 (k : Int)) := by rw [hbn.cell]; rfl
            have fn : V.frozen? ⟨xn, 0, none⟩ = false := hbn.frozen 0
            have cs : V.cell? ⟨xs, 0, none⟩ = some (.int .i64 u) := (HS6.out.below HBV.out HS6.out.lt).cell 0
            have HBn := Lib.hid hbn
            have HOs := Lib.hid hO
            have HPz := Lib.hid hpz
            have HRx : Hid (¬ R xn) := Lib.hid (fun h => by have := HRl.out _ h; omega)
            have hne : xs ≠ xn := by omega
            clear hbn hO hk hok hgt hlt hpz
            by_cases hst : u ≤ (k : Int) + 1
            · gi_wp2
              refine ⟨KeepsAll.setCell _ hx2 _, rfl, ?_, HOs.out.set S1 _, by simp, by rw [List.length_append, ← HQq.out]; simpa using hst, ?_⟩
              · have := blk_put HBn.out (.int .i64 ((k : Int) + 1))
                rw [List.length_append, ← HQq.out]; exact this
              · rw [List.length_append, ← HQq.out]
                rcases HPz.out with h | h
                · subst h; simp; omega
                · right; simp; omega
            · have hst' : (k : Int) + 1 < u := by omega
              clear hst
              gi_wp2
              refine ⟨KeepsAll.setCell _ hx2 _, stay_setAt HRx.out, ?_, HOs.out.set S1 _, .inr (by rw [List.length_append, ← HQq.out]; simpa using hst')⟩
              have := blk_put HBn.out (.int .i64 ((k : Int) + 1))
              rw [List.length_append, ← HQq.out]; exact this
          case done3 =>
            rintro D ys V hD hys ⟨hbn, hO, hpz⟩ hK
            obtain ⟨k, hk⟩ : ∃ k, k = ys.length := ⟨_, rfl⟩
            have hke : k = nw := by rw [hk, hys]; exact HNw.out
            rw [← hk] at hbn hpz
            clear hk hys
            have hqn : (k : Int) ≤ (nw : Int) := by omega
            have HBV := Lib.hid (OnlyS.bel HBW1.out hO (fun b hb => by have := HSe.out b hb; omega) HBW1.out.size)
            have hmk := OnlyS.marks HM1.out hO (fun b hb => by rw [HSe.out b hb]; exact ⟨_, _, HKn1.out⟩)
            have HMk := Lib.hid (hmk.cons (fun d hd k e => by have := HM1.out.lt d hd k e; omega) (by omega) hK)
            have HR7 := Lib.hid (HR6.out.below HBV.out HR6.out.lt)
            have cn : V.cell? ⟨xn, 0, none⟩ = some (.int .i64 (k : Int)) := by rw [hbn.cell]; rfl
            have cr : V.cell? ⟨xr, 0, none⟩ = some (.bool false) := HR7.out.cell 0
            have fr : V.frozen? ⟨xr, 0, none⟩ = false := HR7.out.frozen 0
            have cs : V.cell? ⟨xs, 0, none⟩ = some (.int .i64 u) := (HS6.out.below HBV.out HS6.out.lt).cell 0
            have cw : V.cell? ⟨xw, 0, none⟩ = some (.slice Aw nw cw) := (HW6.out.below HBV.out HW6.out.lt).cell 0
            have hxx := HX.out
            have hlr : xr < w6.heap.size := HR6.out.lt
            have HBw := Lib.hid (HB6.out.trans (HBV.out.mono HB6.out.size))
            clear hO hmk hK hbn
            rcases Int.lt_or_le u 1 with hz1 | hz1
            · go_wp2
              have k9 : OnlyS (fun b => b = xr) V (V.setCell ⟨xr, 0, none⟩ (.bool true)) := OnlyS.set (S := fun b => b = xr) (OnlyS.refl (fun b => b = xr) V) (x := xr) rfl (.bool true)
              have hk9 := blk_put HR7.out (.bool true)
              have hB10 := OnlyS.bel HBw.out k9 (fun b hb => by omega) HBw.out.size
              refine Marks.leave (B := w6.heap.size) _ _ (OnlyS.marks HMk.out k9 (fun b hb => ⟨_, _, (show Blk V b 4 #[.bool false] by rw [hb]; exact HR7.out)⟩)) (fun W' hb => ?_)
              have c5 : W'.cell? ⟨xr, 0, none⟩ = some (.bool true) := by rw [hb.cell (p := ⟨xr, 0, none⟩) (show xr < w6.heap.size by omega), hk9.cell]; rfl
              refine ⟨.bool true, by simp [results, Try.f6, go_sem, c5], rfl, ?_⟩
              exact hB10.trans (hb.mono HB6.out.size)
            · have hmin : (k : Int) = min u (nw : Int) := by omega
              have km := run_min2' Try.prog #[3, 3] 3 u (nw : Int) (k : Int) hmin
              clear hmin
              go_wp2
              have k9 : OnlyS (fun b => b = xr) V (V.setCell ⟨xr, 0, none⟩ (.bool true)) := OnlyS.set (S := fun b => b = xr) (OnlyS.refl (fun b => b = xr) V) (x := xr) rfl (.bool true)
              have hk9 := blk_put HR7.out (.bool true)
              have hB10 := OnlyS.bel HBw.out k9 (fun b hb => by omega) HBw.out.size
              refine Marks.leave (B := w6.heap.size) _ _ (OnlyS.marks HMk.out k9 (fun b hb => ⟨_, _, (show Blk V b 4 #[.bool false] by rw [hb]; exact HR7.out)⟩)) (fun W' hb => ?_)
              have c5 : W'.cell? ⟨xr, 0, none⟩ = some (.bool true) := by rw [hb.cell (p := ⟨xr, 0, none⟩) (show xr < w6.heap.size by omega), hk9.cell]; rfl
              refine ⟨.bool true, by simp [results, Try.f6, go_sem, c5], rfl, ?_⟩
              exact hB10.trans (hb.mono HB6.out.size)
          case stop3 =>
            rintro D cc pre V hD hpre ⟨rfl, hbn, hO, hp0, hp1, hp2⟩ hK
            obtain ⟨k, hk⟩ : ∃ k, k = pre.length := ⟨_, rfl⟩
            have hkl : k ≤ nw := by rw [hk, ← HNw.out]; exact List.IsPrefix.length_le hpre
            rw [← hk] at hbn hp0 hp1 hp2
            clear hk hpre
            have hqn : (k : Int) ≤ (nw : Int) := by omega
            have HBV := Lib.hid (OnlyS.bel HBW1.out hO (fun b hb => by have := HSe.out b hb; omega) HBW1.out.size)
            have hmk := OnlyS.marks HM1.out hO (fun b hb => by rw [HSe.out b hb]; exact ⟨_, _, HKn1.out⟩)
            have HMk := Lib.hid (hmk.cons (fun d hd k e => by have := HM1.out.lt d hd k e; omega) (by omega) hK)
            have HR7 := Lib.hid (HR6.out.below HBV.out HR6.out.lt)
            have cn : V.cell? ⟨xn, 0, none⟩ = some (.int .i64 (k : Int)) := by rw [hbn.cell]; rfl
            have cr : V.cell? ⟨xr, 0, none⟩ = some (.bool false) := HR7.out.cell 0
            have fr : V.frozen? ⟨xr, 0, none⟩ = false := HR7.out.frozen 0
            have cs : V.cell? ⟨xs, 0, none⟩ = some (.int .i64 u) := (HS6.out.below HBV.out HS6.out.lt).cell 0
            have cw : V.cell? ⟨xw, 0, none⟩ = some (.slice Aw nw cw) := (HW6.out.below HBV.out HW6.out.lt).cell 0
            have hxx := HX.out
            have hlr : xr < w6.heap.size := HR6.out.lt
            have HBw := Lib.hid (HB6.out.trans (HBV.out.mono HB6.out.size))
            clear hO hmk hK hbn
            rcases Int.lt_or_le u 1 with hz1 | hz1
            · refine wpIn_wide.2 ?_
              go_wp2
              have k9 : OnlyS (fun b => b = xr) V (V.setCell ⟨xr, 0, none⟩ (.bool true)) := OnlyS.set (S := fun b => b = xr) (OnlyS.refl (fun b => b = xr) V) (x := xr) rfl (.bool true)
              have hk9 := blk_put HR7.out (.bool true)
              have hB10 := OnlyS.bel HBw.out k9 (fun b hb => by omega) HBw.out.size
              refine Marks.leave (B := w6.heap.size) _ _ (OnlyS.marks HMk.out k9 (fun b hb => ⟨_, _, (show Blk V b 4 #[.bool false] by rw [hb]; exact HR7.out)⟩)) (fun W' hb => ?_)
              have c5 : W'.cell? ⟨xr, 0, none⟩ = some (.bool true) := by rw [hb.cell (p := ⟨xr, 0, none⟩) (show xr < w6.heap.size by omega), hk9.cell]; rfl
              refine ⟨.bool true, by simp [results, Try.f6, go_sem, c5], rfl, ?_⟩
              exact hB10.trans (hb.mono HB6.out.size)
            · have hmin : (k : Int) = min u (nw : Int) := by omega
              have km := run_min2' Try.prog #[3, 3] 3 u (nw : Int) (k : Int) hmin
              clear hmin
              refine wpIn_wide.2 ?_
              go_wp2
              have k9 : OnlyS (fun b => b = xr) V (V.setCell ⟨xr, 0, none⟩ (.bool true)) := OnlyS.set (S := fun b => b = xr) (OnlyS.refl (fun b => b = xr) V) (x := xr) rfl (.bool true)
              have hk9 := blk_put HR7.out (.bool true)
              have hB10 := OnlyS.bel HBw.out k9 (fun b hb => by omega) HBw.out.size
              refine Marks.leave (B := w6.heap.size) _ _ (OnlyS.marks HMk.out k9 (fun b hb => ⟨_, _, (show Blk V b 4 #[.bool false] by rw [hb]; exact HR7.out)⟩)) (fun W' hb => ?_)
              have c5 : W'.cell? ⟨xr, 0, none⟩ = some (.bool true) := by rw [hb.cell (p := ⟨xr, 0, none⟩) (show xr < w6.heap.size by omega), hk9.cell]; rfl
              refine ⟨.bool true, by simp [results, Try.f6, go_sem, c5], rfl, ?_⟩
              exact hB10.trans (hb.mono HB6.out.size)
    case neg =>
      rw [decide_eq_false h3] at hm
      have cm := HT4.out.at_ hm
      have fm : w4.frozen? ⟨gm, v, none⟩ = false := Blk.frozen HT4.out v
      obtain ⟨hst, hpl, hct⟩ := HWk.out.step h2 hm
      have HSt := Lib.hid hst
      have HCt := Lib.hid hct
      obtain ⟨ba, off, hA, hba, hc⟩ := (HIn.out.rd.below HB4.out).arr (by omega)
      subst hA
      have cx := hc v h2
      obtain ⟨z, hz⟩ : ∃ z, z = Gr.at_ ar v := ⟨_, rfl⟩
      rw [← hz] at cx HSt
      have HCx := Lib.hid cx
      have hzi : -9223372036854775808 ≤ z ∧ z ≤ 9223372036854775807 := by
        have h5 : v < ar.length := by rw [HL.out]; exact h2
        rw [hz]
        have := HIn.out.i (ar[v]) (List.getElem_mem h5)
        unfold Gr.at_
        rw [List.getD_eq_getElem?_getD, List.getElem?_eq_getElem h5]
        exact this
      have HNg : Hid (ba ≠ gm ∧ ba ≠ xw) := Lib.hid (by have := HX.out; have := HXw.out; have := HXg.out; omega)
      have HXI := HIn
      have HT5' := HT4.out.set_ v true
      have HO5' : OwnN (w4.setCell ⟨gm, v, none⟩ (.bool true)) w3.heap.size (.slice Aw nw cw) pre := HO4.out.setBox' (ownN_neT (by decide) HO4.out HT4.out) _
      have HW5' : Blk (w4.setCell ⟨gm, v, none⟩ (.bool true)) xw 26 #[.slice Aw nw cw] := (Below.heap_setCell w4 ⟨gm, v, none⟩ _ xw (by have := HXg.out; simp; omega)).trans HW4.out
      have HOs5' := onlyS_setAt' HOs.out (x := gm) (.inr rfl) v (.bool true)
      have ls5 : w3.heap.size ≤ (w4.setCell ⟨gm, v, none⟩ (.bool true)).heap.size := HOs5'.size
      obtain ⟨W5, hW5⟩ : ∃ W, W = w4.setCell ⟨gm, v, none⟩ (.bool true) := ⟨_, rfl⟩
      have hz5 : (w4.setCell ⟨gm, v, none⟩ (.bool true)).heap.size = w4.heap.size := by simp [World.setCell]
      rw [← hW5] at HT5' HO5' HW5' HOs5' ls5 hz5
      have HZ5 := Lib.hid hz5.symm
      clear hz5
      have HT5 := Lib.hid HT5'
      have HO5 := Lib.hid HO5'
      have HW5 := Lib.hid HW5'
      have HOs5 := Lib.hid HOs5'
      have ew5 : W5.cell? ⟨xw, 0, none⟩ = some (.slice Aw nw cw) := HW5'.cell 0
      have hgx : gm ≠ xw := by have := HXg.out; omega
      have hgx' : xw ≠ gm := by have := HXg.out; omega
      clear HT5' HO5' HW5' HOs5' hm hst hct hz hc fw h3
      go_wp2_with (first
        | (at_builtin; rw [← hW5]; go_loud (refine appN W5 (v : Int) 3 rfl (.tmp 43) (.tmp 45) rfl w3.heap.size (.slice Aw nw cw) pre rfl HO5.out w4.heap.size HZ5.out rfl (by omega) ls5 ?_); intro v6 w6 hown6 hb6 hg6; clear hW5 cm fm cx ew5 ew; obtain ⟨A6, n6, c6, rfl⟩ := ownN_slice' hown6; have kw6 := (HW5.out.alloc (.cells #[.int .i64 (v : Int)] 3)).grown hg6 (fun e => ownN_neT (by decide) HO5.out HW5.out e.symm); have kt6 := (Blk.alloc HT5.out (.cells #[.int .i64 (v : Int)] 3)).grown hg6 (fun e => ownN_neT (by decide) HO5.out HT5.out e.symm); have HO6 := Lib.hid hown6; have HOs6 := Lib.hid (onlyS_grown' (HOs5.out.below ((Below.refl _ _).alloc (Nat.le_refl _) (.cells #[.int .i64 (v : Int)] 3))) hg6 (fun g e => ownN_base HO5.out g e)); have HKw := Lib.hid kw6; have HKt := Lib.hid kt6; have ew6 : w6.cell? ⟨xw, 0, none⟩ = some (.slice Aw nw cw) := kw6.cell 0; have fw6 : w6.frozen? ⟨xw, 0, none⟩ = false := kw6.frozen 0; have HB6 : Hid (Below w.heap.size w w6) := Lib.hid (OnlyS.bel HB3.out HOs6.out (fun b e => by have := HX.out; have := HXw.out; have := HXg.out; omega) HB3.out.size); have cx6 : w6.cell? ⟨ba, off + v, none⟩ = some (.int .i64 z) := (HB6.out.cell (p := ⟨ba, off + v, none⟩) hba).trans ((HB4.out.cell (p := ⟨ba, off + v, none⟩) hba).symm.trans HCx.out); have nb6 : ba ≠ xw := HNg.out.2; clear hown6 hb6 hg6 kw6 kt6)
        | fail)
      go_roundw
      case rel =>
        refine ⟨z, pre ++ [(v : Int)], (v : Int) :: met, bs.set v true, n6, c6, A6, rfl, hzi, HSt.out, ?_, blk_put HKw.out _, ?_, ?_⟩
        · exact (Below.heap_setCell w6 ⟨xw, 0, none⟩ _ gm (by simp; omega)).trans HKt.out
        · exact HO6.out.setBox' (ownN_neT (by decide) HO6.out HKw.out) _
        · exact OnlyS.set HOs6.out (.inl rfl) _
      case measure =>
        have k1 : BlkT (w6.setCell ⟨xw, 0, none⟩ (.slice A6 n6 c6)) gm (bs.set v true) := (Below.heap_setCell w6 ⟨xw, 0, none⟩ _ gm (by simp; omega)).trans HKt.out
        have k2 := BlkT.offs_ k1
        have k3 := HOf.out
        have k4 := HCt.out
        omega
end Go.Proofs.Ytcomiininaemhaa.Pk
