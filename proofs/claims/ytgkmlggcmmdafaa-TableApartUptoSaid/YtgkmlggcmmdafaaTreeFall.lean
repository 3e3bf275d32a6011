/- The tree's fall: a function that goes over the rows from the last to the first, by ranges over itself. -/
import Derived.Test.YtgkmlggcmmdafaaTreeFrom
import Derived.Test.YtgkmlggcmmdafaaRangeB
import Derived.Sort.LoopGhostIn
import Derived.Stop.RegionWithIn
import Derived.Deep.RegionHeld3
namespace Go.Proofs.Ytgkmlggcmmdafaa.Pk
open Go.RowKit Go.Shelf Go.Proofs.Ytgkmlggcmmdafaa.Tb
set_option linter.unusedVariables false
attribute [local go_sem] Oper.semAt_some

theorem roundIn_in {F : Fence} {m : Nat} {P : Program} {l : Nat} {f : FuncId} {tmps : Array Value} {assign body : Code} {w : World} {R : Ending → World → Prop} (l' : Nat)
    (h : RoundIn F m P l f tmps assign body w R) : RoundIn (F.inRound l') m P l f tmps assign body w R := h
/-- At the return each mark is taken, whatever abides it. -/
theorem Marks.leaveP {F : Fence} {n : Nat} {P : Program} {fn : Func} {tmps : Array Value} {R : Ending → World → Prop} {B : Nat} {Pp : World → Prop}
    (hPp : ∀ W D, Pp W → B ≤ D → W.heap[D]? = some (.deferred (some [])) → Pp (W.putObj D (.deferred none))) : ∀ (ds : List Deferred) (W : World), Marks B ds W → Pp W →
    (∀ W', Pp W' → LeavesIn F n P fn tmps R [] .returning W') → LeavesInM F n P fn tmps R ds .returning W := by
  intro ds
  induction ds with
  | nil => intro W _ hp h; exact h W hp
  | cons d ds ih =>
    intro W hm hp h
    obtain ⟨D, rfl, h1, h2, h3, h4, h5⟩ := hm
    refine ⟨by simp, .inl ⟨D, W.putObj D (.deferred none), rfl, run_takeDeferred h3, ?_⟩⟩
    refine ih _ (h5.keep (by simp [World.putObj]) (fun k ⟨d, hd, he⟩ => World.putObj_heap_other (fun e => ?_))) (hPp _ _ hp h1 h3) h
    exact h4 d hd (by rw [he, e])
theorem Marks.same {B : Nat} {ds : List Deferred} {W W' : World} (h : Marks B ds W) (hs : W.heap.size ≤ W'.heap.size) (hk : ∀ k, B ≤ k → k < W.heap.size → W'.heap[k]? = W.heap[k]?) : Marks B ds W' :=
  h.keep hs (fun k ⟨d, hd, he⟩ => by
    obtain ⟨D, e1, h1, h2, _⟩ := h.mem d hd
    rw [e1] at he
    injection he with he
    injection he with he
    subst he
    exact hk _ h1 h2)
/-- The outer loop's invariant: the rest S, what has come, the marks. -/
def FallI (l Y B : Nat) (T : Tr) (R : Nat → Prop) (J : List Rw → World → Prop) (n : Nat) (a : Act) (V : World) : Prop :=
  ∃ (S : Tr) (pre : List Rw) (ds : List Deferred) (u4 u5 u6 u7 u8 u9 u10 u11 u12 u13 u14 u15 u16 u17 u18 u19 u20 u21 u22 u23 u24 u25 u26 u27 u28 u29 u30 u31 u32 u33 u34 : Value), a = { tmps := #[.pointer S.p, .func (.yield l) #[] #[], undef, .pointer (some ⟨Y, 0, none⟩), u4, u5, u6, u7, u8, u9, u10, u11, u12, u13, u14, u15, u16, u17, u18, u19, u20, u21, u22, u23, u24, u25, u26, u27, u28, u29, u30, u31, u32, u33, u34], defers := ds } ∧
    S.len = n ∧ IsT V S ∧ (∀ b, S.has b → R b) ∧ T.rows.reverse = pre ++ S.rows.reverse ∧ J pre V ∧ Blk V Y 41 #[.func (.yield l) #[] #[]] ∧ Marks B ds V
theorem FallI.mk {l Y B : Nat} {T : Tr} {R : Nat → Prop} {J : List Rw → World → Prop} (S : Tr) (pre : List Rw) {ds : List Deferred} {u4 u5 u6 u7 u8 u9 u10 u11 u12 u13 u14 u15 u16 u17 u18 u19 u20 u21 u22 u23 u24 u25 u26 u27 u28 u29 u30 u31 u32 u33 u34 : Value} {V : World}
    (hS : IsT V S) (hR : ∀ b, S.has b → R b) (hr : T.rows.reverse = pre ++ S.rows.reverse) (hJ : J pre V) (hY : Blk V Y 41 #[.func (.yield l) #[] #[]]) (hM : Marks B ds V) :
    FallI l Y B T R J S.len { tmps := #[.pointer S.p, .func (.yield l) #[] #[], undef, .pointer (some ⟨Y, 0, none⟩), u4, u5, u6, u7, u8, u9, u10, u11, u12, u13, u14, u15, u16, u17, u18, u19, u20, u21, u22, u23, u24, u25, u26, u27, u28, u29, u30, u31, u32, u33, u34], defers := ds } V :=
  ⟨S, pre, ds, u4, u5, u6, u7, u8, u9, u10, u11, u12, u13, u14, u15, u16, u17, u18, u19, u20, u21, u22, u23, u24, u25, u26, u27, u28, u29, u30, u31, u32, u33, u34, rfl, rfl, hS, hR, hr, hJ, hY, hM⟩

set_option maxRecDepth 100000 in
set_option maxHeartbeats 4000000 in
theorem fall_in (T : Tr) : ∀ (m : Nat) (R : Nat → Prop) (w : World), IsT w T → (∀ b, T.has b → R b) → (∀ b, R b → b < w.heap.size) →
    GoesB m Try.prog 31 #[.pointer T.p] #[] (fun x : Rw => #[Value.int .i64 x.1, Value.string x.2]) (Stay R) (fun ys => ys = T.rows.reverse) (fun pre => pre <+: T.rows.reverse) T.rows.length w := by
  induction hN : T.len using Nat.strongRecOn generalizing T with
  | _ N ih =>
  intro m R w hT hR hRlt l J Jx W hW hJ hJx hY h0
  have HIH := Lib.hid ih
  have HJ := Lib.hid hJ
  have HJx := Lib.hid hJx
  have HY := Lib.hid hY
  have hT1 : IsT W T := hT.stay fun b hb => hW.block b (hRlt b (hR b hb))
  have HRlt : Hid (∀ b, R b → b < W.heap.size) := Lib.hid fun b hb => Nat.lt_of_lt_of_le (hRlt b hb) hW.size
  have HT := Lib.hid hT1
  have HR := Lib.hid hR
  have H0 := Lib.hid h0
  have HNe := Lib.hid hN
  clear ih hJ hJx hY hT hW hRlt hR hT1 h0 hN
  refine callsIn_of_wp_marks Try.func31 rfl trivial ?_ rfl
  simp only [Try.ntmps31, List.size_toArray, List.length_cons, List.length_nil, Nat.reduceAdd, Nat.reduceSub, Array.replicate_succ, Array.replicate_zero, List.push_toArray, List.append_toArray, List.nil_append, List.cons_append]
  gi_wp2
  have hB0 := Blk.new W 41 #[.func (.yield l) #[] #[]]
  refine wpIn_loop_ghost (fun n a V => FallI l W.heap.size W.heap.size T R J n a V ∧ W.heap.size ≤ V.heap.size) T.len ?_ ?_
  · exact ⟨FallI.mk T [] (HT.out.alloc _) HR.out rfl (HJ.out.alloc _ H0.out) hB0 trivial, by simp⟩
  · rintro k a V ⟨⟨S, pre, ds, u4, u5, u6, u7, u8, u9, u10, u11, u12, u13, u14, u15, u16, u17, u18, u19, u20, u21, u22, u23, u24, u25, u26, u27, u28, u29, u30, u31, u32, u33, u34, rfl, hk, hS, hRS, hrows, hJp, hYb, hM⟩, hVs⟩
    cases S with
    | leaf =>
      have hp : Tr.leaf.p = none := rfl
      have HM := Lib.hid hM
      have HJp := Lib.hid hJp
      have HRw : Hid (pre = T.rows.reverse) := Lib.hid (by rw [hrows]; simp [Tr.rows])
      rw [hp]
      clear hS hRS hrows hJp hM hk hB0
      gi_wp2
      refine Marks.leaveP (B := W.heap.size) (Pp := fun V' => J pre V') (fun V' D hj hD hd => HJ.out.putObj _ hj hD hd rfl) _ _ HM.out HJp.out (fun V' hj => ?_)
      exact ⟨_, results_none rfl _ _ _, ⟨_, rfl⟩, .inl ⟨pre, HRw.out, hj⟩⟩
    | node b tl x v tr =>
      have hp : (Tr.node b tl x v tr).p = some ⟨b, 0, none⟩ := rfl
      obtain ⟨X0, X1, X2, X3⟩ := hS.cells4
      have HS := Lib.hid hS
      have HRS := Lib.hid hRS
      have HM := Lib.hid hM
      have HJp := Lib.hid hJp
      have HYb := Lib.hid hYb
      have HRw : Hid (T.rows.reverse = pre ++ (tr.rows.reverse ++ (x, v) :: tl.rows.reverse)) := Lib.hid (by rw [hrows, rows_node]; simp)
      have HK : Hid (tl.len + 1 + tr.len = k) := Lib.hid (by rw [← hk, len_node])
      rw [hp]
      clear hS hRS hrows hJp hM hk hB0 hYb
      gi_wp2
      have hStV : ∀ b, R b → b < V.heap.size := fun b hb => Nat.lt_of_lt_of_le (HRlt.out b hb) hVs
      have hlN : tr.len < N := by
        have h1 := congrArg List.length HRw.out
        have h2 := HNe.out
        simp only [List.length_reverse, List.length_append, List.length_cons] at h1
        rw [len_rows] at h2 ⊢
        omega
      have hDV : ∀ k, (R k ∨ (W.heap.size ≤ k ∧ k < V.heap.size)) → k < V.heap.size := fun k hk => hk.elim (fun h => hStV k h) (fun h => h.2)
      have HDV := Lib.hid hDV
      have HStV := Lib.hid hStV
      refine' range_bound (α := Rw) (gf := 31) (pb := #[.pointer tr.p]) (lb := #[]) rfl (enters_of Try.func31 (by kernel_rfl) rfl)
        (HIH.out tr.len hlN tr rfl (m - 1) R V HS.out.2.2.2 (fun c hc => HRS.out c (.inr (.inr hc))) hStV)
        (fun h k => h.trans k) (stay_b hStV) (fun _ => rfl)
        (fun q V' => J (pre ++ q) V' ∧ Stay (fun k => R k ∨ (W.heap.size ≤ k ∧ k < V.heap.size)) V V')
        (fun c q V' => c = .ret ∧ Jx (pre ++ q) V' ∧ Stay (fun k => W.heap.size ≤ k ∧ k < V.heap.size) V V')
        ?own ?ownx ⟨by simpa using HJp.out, Stay.refl _ _⟩ _ ?assign ?body ?done ?stop
      case own =>
        intro q A B row hs hg hr
        exact ⟨HJ.out (pre ++ q) A B row hs.1 hg (fun r e => ⟨by have := (hr r e).1; omega, (hr r e).2⟩),
          hs.2.trans ⟨hg.size, fun k hk => hg.block k (Nat.lt_of_lt_of_le (hDV k hk) hs.2.1) (fun e => by have := (hr k e.symm).1; have := hDV k hk; omega)⟩⟩
      case ownx =>
        intro c q A B row hs hg hr
        exact ⟨hs.1, HJx.out (pre ++ q) A B row hs.2.1 hg (fun r e => ⟨by have := (hr r e).1; omega, (hr r e).2⟩),
          hs.2.2.trans ⟨hg.size, fun k hk => hg.block k (Nat.lt_of_lt_of_le hk.2 hs.2.2.1) (fun e => by have := (hr k e.symm).1; have := hk.2; omega)⟩⟩
      case assign =>
        intro l x W K hK
        gi_wp2
        exact hK
      case body =>
        rintro lp q ⟨x1, x2⟩ V1 hlp ⟨rr, hrr⟩ ⟨hJq, hst⟩ hlt
        have hlt2 : (pre ++ q).length < T.rows.length := by
          have h1 := congrArg List.length HRw.out
          simp only [List.length_reverse, List.length_append, List.length_cons] at h1 ⊢
          omega
        obtain ⟨fn, tmps, assign, body, hy, hR⟩ := HY.out (pre ++ q) (x1, x2) V1 hJq hlt2
        dsimp only at hy
        have hYl := HYb.out.lt
        have cb : V1.cell? ⟨W.heap.size, 0, none⟩ = some (.func (.yield l) #[] #[]) := by
          have : Blk V1 W.heap.size 41 #[.func (.yield l) #[] #[]] := (hst.2 _ (.inr ⟨Nat.le_refl _, hYl⟩)).trans HYb.out
          rw [this.cell]; rfl
        have HRR := Lib.hid hR
        have HST := Lib.hid hst
        have hV1 := hst.1
        clear hR hst hJq hlt hlt2 hDV hStV hlN X0 X1 X2 X3 hrr
        gi_wp2_with ((try refine ⟨hdd _, ?_⟩); refine (roundIn_in lp (roundIn_any HRR.out)).mono ?_; clear HRR; rintro e V2 ⟨hka, (⟨rfl, hJ2, hs2⟩ | ⟨rfl, hx2⟩)⟩)
        · refine ⟨hka.more hVs, hs2, by rw [← List.append_assoc]; exact hJ2, HST.out.trans ⟨hka.size, fun k hk => ?_⟩⟩
          rcases hk with hk | hk
          · exact hs2.2 k hk
          · exact hka.same k hk.1 (by omega)
        · refine ⟨hka.more hVs, rfl, by rw [← List.append_assoc]; exact hx2, ⟨Nat.le_trans HST.out.1 hka.size, fun k hk => (hka.same k hk.1 (by omega)).trans (HST.out.2 k (.inr hk))⟩⟩
      case stop =>
        rintro D c q V1 hD hq ⟨rfl, hx, hst⟩ hd
        have hM1 : Marks W.heap.size ds V1 := HM.out.same hst.1 (fun k h1 h2 => hst.2 k ⟨h1, h2⟩)
        have hM2 := hM1.cons (D := D) (fun d hd k e => by have := HM.out.lt d hd k e; omega) (by omega) hd
        have HM2 := Lib.hid hM2
        have HX := Lib.hid hx
        have HPr : Hid (pre ++ q <+: T.rows.reverse) := Lib.hid (by
          obtain ⟨z, hz⟩ := hq
          exact ⟨z ++ (x, v) :: tl.rows.reverse, by rw [HRw.out, ← hz]; simp⟩)
        clear hx hst hd hM1 hM2 hq hDV hStV hlN X0 X1 X2 X3
        gi_wp2
        refine Marks.leaveP (B := W.heap.size) (Pp := fun V' => Jx (pre ++ q) V') (fun V' D hj hD hd => HJx.out.putObj _ hj hD hd rfl) _ _ HM2.out HX.out (fun V' hj => ?_)
        exact ⟨_, results_none rfl _ _ _, ⟨_, rfl⟩, .inr ⟨pre ++ q, HPr.out, hj⟩⟩
      case done =>
        rintro D ys V1 hD rfl ⟨hJq, hst⟩ hd
        have hM1 : Marks W.heap.size ds V1 := HM.out.same hst.1 (fun k h1 h2 => hst.2 k (.inr ⟨h1, h2⟩))
        have HM2 := Lib.hid (hM1.cons (D := D) (fun d hd k e => by have := HM.out.lt d hd k e; omega) (by omega) hd)
        have hS1 : IsT V1 (.node b tl x v tr) := HS.out.stay fun c hc => hst.2 c (.inl (HRS.out c hc))
        obtain ⟨Y0, Y1, Y2, Y3⟩ := hS1.cells4
        have hYl := HYb.out.lt
        have HYb1 : Hid (Blk V1 W.heap.size 41 #[.func (.yield l) #[] #[]]) := Lib.hid ((hst.2 _ (.inr ⟨Nat.le_refl _, hYl⟩)).trans HYb.out)
        have cb : V1.cell? ⟨W.heap.size, 0, none⟩ = some (.func (.yield l) #[] #[]) := by rw [HYb1.out.cell]; rfl
        have hlt2 : (pre ++ tr.rows.reverse).length < T.rows.length := by
          have h1 := congrArg List.length HRw.out
          simp only [List.length_reverse, List.length_append, List.length_cons] at h1 ⊢
          omega
        have HS1 := Lib.hid hS1
        have HY1 := Lib.hid (HY.out (pre ++ tr.rows.reverse) (x, v) V1.drew (HJ.out _ _ _ none hJq (grown_drew V1) (fun r e => by cases e)) hlt2)
        obtain ⟨fn, tmps, assign, body, hy, hR⟩ := HY1.out
        dsimp only at hy
        have HRR := Lib.hid hR
        have hV1 := hst.1
        clear hR hst hJq hd hM1 hS1 hlt2 hDV hStV hlN X0 X1 X2 X3 HY1
        gi_wp2
        refine wpIn_mono (Q := NoPanic _) ?_ NoPanic.imp
        gi_region_with ((try refine ⟨hdd _, ?_⟩); refine (roundIn_any HRR.out).mono (R' := fun e V2 => ∃ ok, e = .returned (.bool ok) ∧ KeepsAll W.heap.size V1.drew V2 ∧ (ok = true ∧ J (pre ++ tr.rows.reverse ++ [(x, v)]) V2 ∧ Stay R V1.drew V2 ∨ ok = false ∧ Jx (pre ++ tr.rows.reverse ++ [(x, v)]) V2)) (fun e V2 ⟨hka, h⟩ => h.elim (fun ⟨h1, h2⟩ => ⟨true, h1, hka, .inl ⟨rfl, h2⟩⟩) (fun ⟨h1, h2⟩ => ⟨false, h1, hka, .inr ⟨rfl, h2⟩⟩)) |>.mono ?_; rintro e V2 ⟨ok, rfl, hka, hok⟩)
        all_goals refine NoPanic.normal ?_
        all_goals
          rcases hok with ⟨rfl, hJ2, hs2⟩ | ⟨rfl, hx2⟩
          · have hS2 : IsT V2 (.node b tl x v tr) := HS1.out.stay (fun c hc => hs2.2 c (HRS.out c hc))
            obtain ⟨Z0, Z1, Z2, Z3⟩ := hS2.cells4
            have HS2 := Lib.hid hS2
            have HJ2 := Lib.hid hJ2
            have HKA := Lib.hid hka
            have hV2 := hka.size
            clear hS2 hJ2 hs2 hka Z0 Z1 Z3 Y0 Y1 Y2 Y3 cb hy
            gi_wp2
            have hM3 : Marks W.heap.size ({ target := .collected D, args := #[] } :: ds) V2 := HM2.out.same HKA.out.size (fun k h1 h2 => HKA.out.same k h1 h2)
            have hYb2 : Blk V2 W.heap.size 41 #[.func (.yield l) #[] #[]] := (HKA.out.same _ (Nat.le_refl _) HYb1.out.lt).trans HYb1.out
            exact ⟨tl.len, by have := HK.out; omega, FallI.mk tl (pre ++ tr.rows.reverse ++ [(x, v)]) HS2.out.2.2.1 (fun c hc => HRS.out c (.inr (.inl hc))) (by rw [HRw.out]; simp) HJ2.out hYb2 hM3, by have h : V1.heap.size ≤ V2.heap.size := hV2; omega⟩
          · have HX := Lib.hid hx2
            have hM3 : Marks W.heap.size ({ target := .collected D, args := #[] } :: ds) V2 := HM2.out.same hka.size (fun k h1 h2 => hka.same k h1 h2)
            have HM3 := Lib.hid hM3
            clear hx2 hM3 hka Y0 Y1 Y2 Y3 cb hy
            gi_wp2
            refine Marks.leaveP (B := W.heap.size) (Pp := fun V' => Jx (pre ++ tr.rows.reverse ++ [(x, v)]) V') (fun V' D hj hD hd => HJx.out.putObj _ hj hD hd rfl) _ _ HM3.out HX.out (fun V' hj => ?_)
            exact ⟨_, results_none rfl _ _ _, ⟨_, rfl⟩, .inr ⟨_, ⟨tl.rows.reverse, by rw [HRw.out]; simp⟩, hj⟩⟩
end Go.Proofs.Ytgkmlggcmmdafaa.Pk
