/- The document's disk: Append, Sync. -/
import Derived.Test.YtnpmccekkjadhaaDoorZRef
import Derived.Test.YtnpmccekkjadhaaDoorZMath
namespace Go.Proofs.YtnpmccekkjadhaaDoor.Pk
open Go.RowKit Go.Proofs.YtnpmccekkjadhaaDoor.Dk
set_option linter.unusedVariables false

theorem no_cases {d : DK} {f : Int} (hf : ¬ (f = 0 ∨ f = 1)) : d.no f = 1 := by unfold DK.no; rw [if_neg hf]
set_option maxHeartbeats 6400000 in
theorem append_ref (R : Nat) (f : Int) (A : Option Addr) (n c : Nat) (b : List Int) (d : DK) (S : Nat → Prop) (w : World) (h : DkR w R d S) (hr : Reads w w.heap.size 1 A n (bts b)) (M m : Nat) (hfit : d.fit M m) (hM : M + n ≤ 140737488355328) (hm : m ≤ 4611686018427387904) :
    Calls Tryd.prog 35 #[.pointer (some ⟨R, 0, none⟩), .int .i64 f, .slice A n c] w (AftR R (d.app f b) S w (.int .i64 (d.appE f))) := by
  have HR := Lib.hid hr
  have HBl : b.length = n := by have := hr.1; simpa using this
  by_cases hf : f = 0 ∨ f = 1
  rotate_left
  · have tn0 : (f != 0) = true := by simp only [bne_iff_ne]; exact fun e => hf (.inl e)
    have tn1 : (f != 1) = true := by simp only [bne_iff_ne]; exact fun e => hf (.inr e)
    have HD : Hid (d.app f b = d ∧ d.appE f = 1) := Lib.hid (by
      have h1 := no_cases (d := d) hf
      unfold DK.app DK.appE
      rw [h1]; exact ⟨rfl, rfl⟩)
    have H := Lib.hid h
    clear h hf
    go_enter Tryd.func35, Tryd.ntmps35
    go_wp2
    go_ret
    rw [HD.out.1, HD.out.2]
    exact AftR.same H.out
  obtain ⟨⟨sa, wa⟩, ⟨sb, wb⟩, on, cnt, left, keep⟩ := d
  have H := Lib.hid h
  have HFit := Lib.hid hfit
  have c4 : w.cell? ⟨R, 4, none⟩ = some (.bool on) := by obtain ⟨v, hbk, hv, rfl⟩ := h; rw [hbk.cell]; rfl
  cases on with
  | false =>
    clear h
    rcases hf with rfl | rfl
    all_goals
      go_enter Tryd.func35, Tryd.ntmps35
      go_wp2
      go_ret
      exact AftR.same H.out
  | true =>
    have la : sa.length + wa.length + n ≤ 140737488355328 := by have := hfit.l0; simp [FL.all] at this; omega
    have lb : sb.length + wb.length + n ≤ 140737488355328 := by have := hfit.l1; simp [FL.all] at this; omega
    clear hfit
    obtain ⟨v, hbk, hv, rfl⟩ := h
    have HB := Lib.hid hbk
    have HV := Lib.hid hv
    rcases hf with rfl | rfl
    · obtain ⟨Aw, nw, cw, ew, hlw, hcw, hrw, _⟩ := hv.rd 2 (by omega)
      replace hlw : wa.length = nw := hlw
      replace hrw : Reads w w.heap.size 1 Aw nw (bts wa) := hrw
      have x2 : w.cell? ⟨R, 2, none⟩ = some (.slice Aw nw cw) := by rw [hbk.cell, ← ew]; rfl
      have z2 : (w.alloc (Obj.cells #[] 5)).cell? ⟨R, 2, none⟩ = some (.slice Aw nw cw) := (World.cell?_alloc_lt w _ ⟨R, 2, none⟩ hbk.lt).trans x2
      have f2 : w.frozen? ⟨R, 2, none⟩ = false := hbk.frozen 2
      have HRw := Lib.hid hrw
      have hl2 : nw + n ≤ 140737488355328 := by omega
      have HLw := Lib.hid hlw
      clear hbk hv hlw hrw hcw ew hr
      go_enter Tryd.func35, Tryd.ntmps35
      go_wp2_with fail
      go_region_law (first
        | (refine stepE _ w.heap.size rfl (.tmp 20) (.tmp 26) rfl rfl (OwnB.fresh _ _ (Nat.le_refl _)) w.heap.size Aw cw wa nw rfl (HRw.out.alloc (Nat.le_refl _) _) (by omega) (by simp) ?_; intro A10 n10 c10 w10 hown10 hb10; have hb10' : Below w.heap.size w w10 := (below_drew_alloc w _).trans hb10; have y2 : w10.cell? ⟨R, 2, none⟩ = some (.slice Aw nw cw) := (hb10'.cell (p := ⟨R, 2, none⟩) HB.out.lt).trans x2; have g2 : w10.frozen? ⟨R, 2, none⟩ = false := (HB.out.below hb10' HB.out.lt).frozen 2; have HW10 := Lib.hid hown10; have HB10 := Lib.hid hb10'; clear hown10 hb10 hb10')
        | (refine stepB w10 rfl (.tmp 27) (.tmp 28) rfl w.heap.size (.slice A10 n10 c10) wa rfl HW10.out w.heap.size A c b n rfl (HR.out.below HB10.out) (by rw [HLw.out]; omega) HB10.out.size ?_; intro A11 n11 c11 w11 hown11 hg11 hat11; have hb11 := HB10.out.grown hg11 HB10.out.size (own_base HW10.out); have y2 : w11.cell? ⟨R, 2, none⟩ = some (.slice Aw nw cw) := (hb11.cell (p := ⟨R, 2, none⟩) HB.out.lt).trans x2; have g2 : w11.frozen? ⟨R, 2, none⟩ = false := (HB.out.below hb11 HB.out.lt).frozen 2; have HB11 := Lib.hid hb11; have HW11 := Lib.hid hown11; clear hown11 hg11 hat11 hb11))
      all_goals
        have P := RefV.put (k := 2) (d' := ⟨⟨sa, wa ++ b⟩, ⟨sb, wb⟩, true, cnt, left, keep⟩) HB.out HV.out (by omega) (grown_of_below HB11.out _) (RefS.own HW11.out) HW11.out.lt (fun g e => .inr (HW11.out.base g e)) (four rfl rfl rfl rfl) ⟨rfl, rfl, rfl, rfl⟩
        have HP := Lib.hid P
        clear P
        go_wp2_with fail
        refine (raw_ref R _ _ _ HP.out.1 (Nat.le_trans HFit.out.c hm) HFit.out.a).mono ?_
        rintro e w12 ⟨rfl, S12, h12, t12, g12⟩
        have H12 := Lib.hid h12
        have T12 := Lib.hid (HP.out.2.1.also HP.out.2.2 t12)
        have G12 := Lib.hid (HP.out.2.2.trans g12 HP.out.2.1.size)
        clear h12 t12 g12
        by_cases h1 : left = 1
        · subst h1
          have c7 : w12.cell? ⟨R, 7, none⟩ = some (.int .i64 keep) := by obtain ⟨v, hbk, hv, _⟩ := H12.out; rw [hbk.cell]; rfl
          have td : decide ((1 : Nat) = 1) = true := rfl
          go_wp2_with fail
          refine (off_ref R keep _ _ _ H12.out (by simp [DK.count, FL.all]; omega) (by simp [DK.count, FL.all]; omega)).mono ?_
          rintro e w13 ⟨rfl, S13, h13, t13, g13⟩
          have H13 := Lib.hid h13
          have T13 := Lib.hid (T12.out.also G12.out t13)
          have G13 := Lib.hid (G12.out.trans g13 T12.out.size)
          clear h13 t13 g13
          go_wp2
          go_ret
          exact ⟨rfl, S13, H13.out, T13.out, G13.out⟩
        · have td : decide (left = 1) = false := decide_eq_false h1
          have HD : Hid (DK.app ⟨⟨sa, wa⟩, ⟨sb, wb⟩, true, cnt, left, keep⟩ 0 b = DK.count ⟨⟨sa, wa ++ b⟩, ⟨sb, wb⟩, true, cnt, left, keep⟩ ∧ DK.appE ⟨⟨sa, wa⟩, ⟨sb, wb⟩, true, cnt, left, keep⟩ 0 = 0) := Lib.hid ⟨if_neg h1, if_neg h1⟩
          clear h1
          go_wp2
          go_ret
          rw [HD.out.1, HD.out.2]
          exact ⟨rfl, S12, H12.out, T12.out, G12.out⟩
    · obtain ⟨Aw, nw, cw, ew, hlw, hcw, hrw, _⟩ := hv.rd 3 (by omega)
      replace hlw : wb.length = nw := hlw
      replace hrw : Reads w w.heap.size 1 Aw nw (bts wb) := hrw
      have x2 : w.cell? ⟨R, 3, none⟩ = some (.slice Aw nw cw) := by rw [hbk.cell, ← ew]; rfl
      have z2 : (w.alloc (Obj.cells #[] 5)).cell? ⟨R, 3, none⟩ = some (.slice Aw nw cw) := (World.cell?_alloc_lt w _ ⟨R, 3, none⟩ hbk.lt).trans x2
      have f2 : w.frozen? ⟨R, 3, none⟩ = false := hbk.frozen 3
      have HRw := Lib.hid hrw
      have hl2 : nw + n ≤ 140737488355328 := by omega
      have HLw := Lib.hid hlw
      clear hbk hv hlw hrw hcw ew hr
      go_enter Tryd.func35, Tryd.ntmps35
      go_wp2_with fail
      go_region_law (first
        | (refine stepE _ w.heap.size rfl (.tmp 20) (.tmp 26) rfl rfl (OwnB.fresh _ _ (Nat.le_refl _)) w.heap.size Aw cw wb nw rfl (HRw.out.alloc (Nat.le_refl _) _) (by omega) (by simp) ?_; intro A10 n10 c10 w10 hown10 hb10; have hb10' : Below w.heap.size w w10 := (below_drew_alloc w _).trans hb10; have y2 : w10.cell? ⟨R, 3, none⟩ = some (.slice Aw nw cw) := (hb10'.cell (p := ⟨R, 3, none⟩) HB.out.lt).trans x2; have g2 : w10.frozen? ⟨R, 3, none⟩ = false := (HB.out.below hb10' HB.out.lt).frozen 3; have HW10 := Lib.hid hown10; have HB10 := Lib.hid hb10'; clear hown10 hb10 hb10')
        | (refine stepB w10 rfl (.tmp 27) (.tmp 28) rfl w.heap.size (.slice A10 n10 c10) wb rfl HW10.out w.heap.size A c b n rfl (HR.out.below HB10.out) (by rw [HLw.out]; omega) HB10.out.size ?_; intro A11 n11 c11 w11 hown11 hg11 hat11; have hb11 := HB10.out.grown hg11 HB10.out.size (own_base HW10.out); have y2 : w11.cell? ⟨R, 3, none⟩ = some (.slice Aw nw cw) := (hb11.cell (p := ⟨R, 3, none⟩) HB.out.lt).trans x2; have g2 : w11.frozen? ⟨R, 3, none⟩ = false := (HB.out.below hb11 HB.out.lt).frozen 3; have HB11 := Lib.hid hb11; have HW11 := Lib.hid hown11; clear hown11 hg11 hat11 hb11))
      all_goals
        have P := RefV.put (k := 3) (d' := ⟨⟨sa, wa⟩, ⟨sb, wb ++ b⟩, true, cnt, left, keep⟩) HB.out HV.out (by omega) (grown_of_below HB11.out _) (RefS.own HW11.out) HW11.out.lt (fun g e => .inr (HW11.out.base g e)) (four rfl rfl rfl rfl) ⟨rfl, rfl, rfl, rfl⟩
        have HP := Lib.hid P
        clear P
        go_wp2_with fail
        refine (raw_ref R _ _ _ HP.out.1 (Nat.le_trans HFit.out.c hm) HFit.out.a).mono ?_
        rintro e w12 ⟨rfl, S12, h12, t12, g12⟩
        have H12 := Lib.hid h12
        have T12 := Lib.hid (HP.out.2.1.also HP.out.2.2 t12)
        have G12 := Lib.hid (HP.out.2.2.trans g12 HP.out.2.1.size)
        clear h12 t12 g12
        by_cases h1 : left = 1
        · subst h1
          have c7 : w12.cell? ⟨R, 7, none⟩ = some (.int .i64 keep) := by obtain ⟨v, hbk, hv, _⟩ := H12.out; rw [hbk.cell]; rfl
          have td : decide ((1 : Nat) = 1) = true := rfl
          go_wp2_with fail
          refine (off_ref R keep _ _ _ H12.out (by simp [DK.count, FL.all]; omega) (by simp [DK.count, FL.all]; omega)).mono ?_
          rintro e w13 ⟨rfl, S13, h13, t13, g13⟩
          have H13 := Lib.hid h13
          have T13 := Lib.hid (T12.out.also G12.out t13)
          have G13 := Lib.hid (G12.out.trans g13 T12.out.size)
          clear h13 t13 g13
          go_wp2
          go_ret
          exact ⟨rfl, S13, H13.out, T13.out, G13.out⟩
        · have td : decide (left = 1) = false := decide_eq_false h1
          have HD : Hid (DK.app ⟨⟨sa, wa⟩, ⟨sb, wb⟩, true, cnt, left, keep⟩ 1 b = DK.count ⟨⟨sa, wa⟩, ⟨sb, wb ++ b⟩, true, cnt, left, keep⟩ ∧ DK.appE ⟨⟨sa, wa⟩, ⟨sb, wb⟩, true, cnt, left, keep⟩ 1 = 0) := Lib.hid ⟨if_neg h1, if_neg h1⟩
          clear h1
          go_wp2
          go_ret
          rw [HD.out.1, HD.out.2]
          exact ⟨rfl, S12, H12.out, T12.out, G12.out⟩

set_option maxHeartbeats 6400000 in
theorem sync_ref (R : Nat) (f : Int) (d : DK) (S : Nat → Prop) (w : World) (h : DkR w R d S) (M m : Nat) (hfit : d.fit M m) (hM : M ≤ 140737488355328) (hm : m ≤ 4611686018427387904) :
    Calls Tryd.prog 36 #[.pointer (some ⟨R, 0, none⟩), .int .i64 f] w (AftR R (d.syn f) S w (.int .i64 (d.appE f))) := by
  by_cases hf : f = 0 ∨ f = 1
  rotate_left
  · have tn0 : (f != 0) = true := by simp only [bne_iff_ne]; exact fun e => hf (.inl e)
    have tn1 : (f != 1) = true := by simp only [bne_iff_ne]; exact fun e => hf (.inr e)
    have HD : Hid (d.syn f = d ∧ d.appE f = 1) := Lib.hid (by
      have h1 := no_cases (d := d) hf
      unfold DK.syn DK.appE
      rw [h1]; exact ⟨rfl, rfl⟩)
    have H := Lib.hid h
    clear h hf
    go_enter Tryd.func36, Tryd.ntmps36
    go_wp2
    go_ret
    rw [HD.out.1, HD.out.2]
    exact AftR.same H.out
  obtain ⟨⟨sa, wa⟩, ⟨sb, wb⟩, on, cnt, left, keep⟩ := d
  have H := Lib.hid h
  have HFit := Lib.hid hfit
  have c4 : w.cell? ⟨R, 4, none⟩ = some (.bool on) := by obtain ⟨v, hbk, hv, rfl⟩ := h; rw [hbk.cell]; rfl
  clear h
  cases on with
  | false =>
    rcases hf with rfl | rfl
    all_goals
      go_enter Tryd.func36, Tryd.ntmps36
      go_wp2
      go_ret
      exact AftR.same H.out
  | true =>
    have la : sa.length + wa.length ≤ 140737488355328 := by have := hfit.l0; simp [FL.all] at this; omega
    have lb : sb.length + wb.length ≤ 140737488355328 := by have := hfit.l1; simp [FL.all] at this; omega
    clear hfit
    rcases hf with rfl | rfl
    · go_enter Tryd.func36, Tryd.ntmps36
      go_wp2_with fail
      refine (raw_ref R _ _ _ H.out (Nat.le_trans HFit.out.c hm) HFit.out.a).mono ?_
      rintro e w12 ⟨rfl, S12, h12, t12, g12⟩
      have H12 := Lib.hid h12
      have T12 := Lib.hid t12
      have G12 := Lib.hid g12
      clear h12 t12 g12 c4
      by_cases h1 : left = 1
      · subst h1
        have c7 : w12.cell? ⟨R, 7, none⟩ = some (.int .i64 keep) := by obtain ⟨v, hbk, hv, _⟩ := H12.out; rw [hbk.cell]; rfl
        have td : decide ((1 : Nat) = 1) = true := rfl
        go_wp2_with fail
        refine (off_ref R keep _ _ _ H12.out (by simp [DK.count, FL.all]; omega) (by simp [DK.count, FL.all]; omega)).mono ?_
        rintro e w13 ⟨rfl, S13, h13, t13, g13⟩
        have H13 := Lib.hid h13
        have T13 := Lib.hid (T12.out.also G12.out t13)
        have G13 := Lib.hid (G12.out.trans g13 T12.out.size)
        clear h13 t13 g13
        go_wp2
        go_ret
        exact ⟨rfl, S13, H13.out, T13.out, G13.out⟩
      · have td : decide (left = 1) = false := decide_eq_false h1
        have HD : Hid (DK.syn ⟨⟨sa, wa⟩, ⟨sb, wb⟩, true, cnt, left, keep⟩ 0 = ⟨⟨sa ++ wa, []⟩, ⟨sb, wb⟩, true, cnt + 1, left - 1, keep⟩ ∧ DK.appE ⟨⟨sa, wa⟩, ⟨sb, wb⟩, true, cnt, left, keep⟩ 0 = 0) := Lib.hid (by
          constructor
          · show (if left = 1 then _ else DK.put (DK.raw _) _ _) = _
            rw [if_neg h1]
            unfold DK.raw
            rw [if_neg h1]
            rfl
          · exact if_neg h1)
        clear h1
        obtain ⟨v, hbk, hv, hS⟩ := H12.out
        have HB := Lib.hid hbk
        have HV := Lib.hid hv
        subst hS
        obtain ⟨As, ns, cs, es, hls, hcs, hrs, _⟩ := hv.rd 0 (by omega)
        obtain ⟨Aw, nw, cw, ew, hlw, hcw, hrw, _⟩ := hv.rd 2 (by omega)
        replace hls : sa.length = ns := hls
        replace hrs : Reads w12 w12.heap.size 1 As ns (bts sa) := hrs
        replace hlw : wa.length = nw := hlw
        replace hrw : Reads w12 w12.heap.size 1 Aw nw (bts wa) := hrw
        have x1 : w12.cell? ⟨R, 0, none⟩ = some (.slice As ns cs) := by rw [hbk.cell, ← es]; rfl
        have z1 : (w12.alloc (Obj.cells #[] 5)).cell? ⟨R, 0, none⟩ = some (.slice As ns cs) := (World.cell?_alloc_lt w12 _ ⟨R, 0, none⟩ hbk.lt).trans x1
        have f1 : w12.frozen? ⟨R, 0, none⟩ = false := hbk.frozen 0
        have x2 : w12.cell? ⟨R, 2, none⟩ = some (.slice Aw nw cw) := by rw [hbk.cell, ← ew]; rfl
        have z2 : (w12.alloc (Obj.cells #[] 5)).cell? ⟨R, 2, none⟩ = some (.slice Aw nw cw) := (World.cell?_alloc_lt w12 _ ⟨R, 2, none⟩ hbk.lt).trans x2
        have HRs := Lib.hid hrs
        have HRw := Lib.hid hrw
        have hl2 : ns + nw ≤ 140737488355328 := by omega
        have HLs := Lib.hid hls
        clear hbk hv hls hrs hcs es hlw hrw hcw ew
        go_wp2_with fail
        go_region_law (first
          | (refine stepE _ w12.heap.size rfl (.tmp 26) (.tmp 32) rfl rfl (OwnB.fresh _ _ (Nat.le_refl _)) w12.heap.size As cs sa ns rfl (HRs.out.alloc (Nat.le_refl _) _) (by omega) (by simp) ?_; intro A10 n10 c10 w10 hown10 hb10; have hb10' : Below w12.heap.size w12 w10 := (below_drew_alloc w12 _).trans hb10; have y1 : w10.cell? ⟨R, 0, none⟩ = some (.slice As ns cs) := (hb10'.cell (p := ⟨R, 0, none⟩) HB.out.lt).trans x1; have y2 : w10.cell? ⟨R, 2, none⟩ = some (.slice Aw nw cw) := (hb10'.cell (p := ⟨R, 2, none⟩) HB.out.lt).trans x2; have HW10 := Lib.hid hown10; have HB10 := Lib.hid hb10'; clear hown10 hb10 hb10')
          | (refine stepB w10 rfl (.tmp 33) (.tmp 39) rfl w12.heap.size (.slice A10 n10 c10) sa rfl HW10.out w12.heap.size Aw cw wa nw rfl (HRw.out.below HB10.out) (by rw [HLs.out]; omega) HB10.out.size ?_; intro A11 n11 c11 w11 hown11 hg11 hat11; have hb11 := HB10.out.grown hg11 HB10.out.size (own_base HW10.out); have u1 : w11.cell? ⟨R, 0, none⟩ = some (.slice As ns cs) := (hb11.cell (p := ⟨R, 0, none⟩) HB.out.lt).trans x1; have g1 : w11.frozen? ⟨R, 0, none⟩ = false := (HB.out.below hb11 HB.out.lt).frozen 0; have u2 : w11.cell? ⟨R, 2, none⟩ = some (.slice Aw nw cw) := (hb11.cell (p := ⟨R, 2, none⟩) HB.out.lt).trans x2; have g2 : w11.frozen? ⟨R, 2, none⟩ = false := (HB.out.below hb11 HB.out.lt).frozen 2; have HB11 := Lib.hid hb11; have HW11 := Lib.hid hown11; clear hown11 hg11 hat11 hb11))
        all_goals
          have P := RefV.put (k := 0) (d' := ⟨⟨sa ++ wa, wa⟩, ⟨sb, wb⟩, true, cnt + 1, left - 1, keep⟩) HB.out HV.out (by omega) (grown_of_below HB11.out _) (RefS.own HW11.out) HW11.out.lt (fun g e => .inr (HW11.out.base g e)) (four rfl rfl rfl rfl) ⟨rfl, rfl, rfl, rfl⟩
          have HP := Lib.hid P
          have HP13 := P.1
          obtain ⟨v3, hbk3, hv3, hS3⟩ := HP13
          have P2 := RefV.put (k := 2) (w1 := w11.setCell ⟨R, 0, none⟩ (.slice A11 n11 c11)) (u := .slice none 0 0) (l := []) (d' := ⟨⟨sa ++ wa, []⟩, ⟨sb, wb⟩, true, cnt + 1, left - 1, keep⟩) hbk3 hv3 (by omega) (grown_of_below (Below.refl _ _) _) (RefS.nil_ _) (fun g e => by simp [Value.ownBlock] at e) (fun g e => by simp [Value.ownBlock] at e) (four rfl rfl rfl rfl) ⟨rfl, rfl, rfl, rfl⟩
          rw [← hS3] at P2
          have HP2 := Lib.hid P2
          clear P P2 hbk3 hv3 hS3
          go_wp2
          go_ret
          rw [HD.out.1, HD.out.2]
          exact ⟨rfl, _, HP2.out.1, (T12.out.also G12.out HP.out.2.1).also (G12.out.trans HP.out.2.2 T12.out.size) HP2.out.2.1, (G12.out.trans HP.out.2.2 T12.out.size).trans HP2.out.2.2 (T12.out.also G12.out HP.out.2.1).size⟩
    · go_enter Tryd.func36, Tryd.ntmps36
      go_wp2_with fail
      refine (raw_ref R _ _ _ H.out (Nat.le_trans HFit.out.c hm) HFit.out.a).mono ?_
      rintro e w12 ⟨rfl, S12, h12, t12, g12⟩
      have H12 := Lib.hid h12
      have T12 := Lib.hid t12
      have G12 := Lib.hid g12
      clear h12 t12 g12 c4
      by_cases h1 : left = 1
      · subst h1
        have c7 : w12.cell? ⟨R, 7, none⟩ = some (.int .i64 keep) := by obtain ⟨v, hbk, hv, _⟩ := H12.out; rw [hbk.cell]; rfl
        have td : decide ((1 : Nat) = 1) = true := rfl
        go_wp2_with fail
        refine (off_ref R keep _ _ _ H12.out (by simp [DK.count, FL.all]; omega) (by simp [DK.count, FL.all]; omega)).mono ?_
        rintro e w13 ⟨rfl, S13, h13, t13, g13⟩
        have H13 := Lib.hid h13
        have T13 := Lib.hid (T12.out.also G12.out t13)
        have G13 := Lib.hid (G12.out.trans g13 T12.out.size)
        clear h13 t13 g13
        go_wp2
        go_ret
        exact ⟨rfl, S13, H13.out, T13.out, G13.out⟩
      · have td : decide (left = 1) = false := decide_eq_false h1
        have HD : Hid (DK.syn ⟨⟨sa, wa⟩, ⟨sb, wb⟩, true, cnt, left, keep⟩ 1 = ⟨⟨sa, wa⟩, ⟨sb ++ wb, []⟩, true, cnt + 1, left - 1, keep⟩ ∧ DK.appE ⟨⟨sa, wa⟩, ⟨sb, wb⟩, true, cnt, left, keep⟩ 1 = 0) := Lib.hid (by
          constructor
          · show (if left = 1 then _ else DK.put (DK.raw _) _ _) = _
            rw [if_neg h1]
            unfold DK.raw
            rw [if_neg h1]
            rfl
          · exact if_neg h1)
        clear h1
        obtain ⟨v, hbk, hv, hS⟩ := H12.out
        have HB := Lib.hid hbk
        have HV := Lib.hid hv
        subst hS
        obtain ⟨As, ns, cs, es, hls, hcs, hrs, _⟩ := hv.rd 1 (by omega)
        obtain ⟨Aw, nw, cw, ew, hlw, hcw, hrw, _⟩ := hv.rd 3 (by omega)
        replace hls : sb.length = ns := hls
        replace hrs : Reads w12 w12.heap.size 1 As ns (bts sb) := hrs
        replace hlw : wb.length = nw := hlw
        replace hrw : Reads w12 w12.heap.size 1 Aw nw (bts wb) := hrw
        have x1 : w12.cell? ⟨R, 1, none⟩ = some (.slice As ns cs) := by rw [hbk.cell, ← es]; rfl
        have z1 : (w12.alloc (Obj.cells #[] 5)).cell? ⟨R, 1, none⟩ = some (.slice As ns cs) := (World.cell?_alloc_lt w12 _ ⟨R, 1, none⟩ hbk.lt).trans x1
        have f1 : w12.frozen? ⟨R, 1, none⟩ = false := hbk.frozen 1
        have x2 : w12.cell? ⟨R, 3, none⟩ = some (.slice Aw nw cw) := by rw [hbk.cell, ← ew]; rfl
        have z2 : (w12.alloc (Obj.cells #[] 5)).cell? ⟨R, 3, none⟩ = some (.slice Aw nw cw) := (World.cell?_alloc_lt w12 _ ⟨R, 3, none⟩ hbk.lt).trans x2
        have HRs := Lib.hid hrs
        have HRw := Lib.hid hrw
        have hl2 : ns + nw ≤ 140737488355328 := by omega
        have HLs := Lib.hid hls
        clear hbk hv hls hrs hcs es hlw hrw hcw ew
        go_wp2_with fail
        go_region_law (first
          | (refine stepE _ w12.heap.size rfl (.tmp 26) (.tmp 32) rfl rfl (OwnB.fresh _ _ (Nat.le_refl _)) w12.heap.size As cs sb ns rfl (HRs.out.alloc (Nat.le_refl _) _) (by omega) (by simp) ?_; intro A10 n10 c10 w10 hown10 hb10; have hb10' : Below w12.heap.size w12 w10 := (below_drew_alloc w12 _).trans hb10; have y1 : w10.cell? ⟨R, 1, none⟩ = some (.slice As ns cs) := (hb10'.cell (p := ⟨R, 1, none⟩) HB.out.lt).trans x1; have y2 : w10.cell? ⟨R, 3, none⟩ = some (.slice Aw nw cw) := (hb10'.cell (p := ⟨R, 3, none⟩) HB.out.lt).trans x2; have HW10 := Lib.hid hown10; have HB10 := Lib.hid hb10'; clear hown10 hb10 hb10')
          | (refine stepB w10 rfl (.tmp 33) (.tmp 39) rfl w12.heap.size (.slice A10 n10 c10) sb rfl HW10.out w12.heap.size Aw cw wb nw rfl (HRw.out.below HB10.out) (by rw [HLs.out]; omega) HB10.out.size ?_; intro A11 n11 c11 w11 hown11 hg11 hat11; have hb11 := HB10.out.grown hg11 HB10.out.size (own_base HW10.out); have u1 : w11.cell? ⟨R, 1, none⟩ = some (.slice As ns cs) := (hb11.cell (p := ⟨R, 1, none⟩) HB.out.lt).trans x1; have g1 : w11.frozen? ⟨R, 1, none⟩ = false := (HB.out.below hb11 HB.out.lt).frozen 1; have u2 : w11.cell? ⟨R, 3, none⟩ = some (.slice Aw nw cw) := (hb11.cell (p := ⟨R, 3, none⟩) HB.out.lt).trans x2; have g2 : w11.frozen? ⟨R, 3, none⟩ = false := (HB.out.below hb11 HB.out.lt).frozen 3; have HB11 := Lib.hid hb11; have HW11 := Lib.hid hown11; clear hown11 hg11 hat11 hb11))
        all_goals
          have P := RefV.put (k := 1) (d' := ⟨⟨sa, wa⟩, ⟨sb ++ wb, wb⟩, true, cnt + 1, left - 1, keep⟩) HB.out HV.out (by omega) (grown_of_below HB11.out _) (RefS.own HW11.out) HW11.out.lt (fun g e => .inr (HW11.out.base g e)) (four rfl rfl rfl rfl) ⟨rfl, rfl, rfl, rfl⟩
          have HP := Lib.hid P
          have HP13 := P.1
          obtain ⟨v3, hbk3, hv3, hS3⟩ := HP13
          have P2 := RefV.put (k := 3) (w1 := w11.setCell ⟨R, 1, none⟩ (.slice A11 n11 c11)) (u := .slice none 0 0) (l := []) (d' := ⟨⟨sa, wa⟩, ⟨sb ++ wb, []⟩, true, cnt + 1, left - 1, keep⟩) hbk3 hv3 (by omega) (grown_of_below (Below.refl _ _) _) (RefS.nil_ _) (fun g e => by simp [Value.ownBlock] at e) (fun g e => by simp [Value.ownBlock] at e) (four rfl rfl rfl rfl) ⟨rfl, rfl, rfl, rfl⟩
          rw [← hS3] at P2
          have HP2 := Lib.hid P2
          clear P P2 hbk3 hv3 hS3
          go_wp2
          go_ret
          rw [HD.out.1, HD.out.2]
          exact ⟨rfl, _, HP2.out.1, (T12.out.also G12.out HP.out.2.1).also (G12.out.trans HP.out.2.2 T12.out.size) HP2.out.2.1, (G12.out.trans HP.out.2.2 T12.out.size).trans HP2.out.2.2 (T12.out.also G12.out HP.out.2.1).size⟩
end Go.Proofs.YtnpmccekkjadhaaDoor.Pk

/- The document's disk: Truncate. -/
namespace Go.Proofs.YtnpmccekkjadhaaDoor.Pk
open Go.RowKit Go.Proofs.YtnpmccekkjadhaaDoor.Dk
set_option linter.unusedVariables false

/-- The first k bytes of what is owned, without room behind. -/
theorem RefS.cut {w : World} {B n c k : Nat} {A : Option Addr} {l : List Int} (h : OwnB w B (.slice A n c) l) (hk : k ≤ n) : RefS w (.slice A k k) (l.take k) := by
  have hl := (own_len h).1
  obtain ⟨A', c', e, hc, hr⟩ := h.reads
  injection e with e1 e2 e3
  subst e1
  rw [hl] at hr
  refine ⟨A, k, k, rfl, by rw [List.length_take]; omega, Nat.le_refl _, hr.take hk, .inr ⟨rfl, fun hA => ?_⟩⟩
  have := hr.nil hA
  omega
section
variable {w : World} {R : Nat} {d d' : DK} {v : Nat → Value}
/-- One of the slices is put in anew: one that lies in no block of the disk. -/
theorem RefV.put_free {k : Nat} {u : Value} {l : List Int} (hb : Blk w R 40 (rcs v d)) (h : RefV w R v (rl d)) (hk : k < 4) (hu : RefS w u l) (hul : ∀ g, u.ownBlock = some g → g < w.heap.size)
    (hat : ∀ g, u.ownBlock = some g → ¬ rbl R v g) (hl : ∀ j, j < 4 → rl d' j = upd (rl d) k l j) (hn : d'.on = d.on ∧ d'.cnt = d.cnt ∧ d'.left = d.left ∧ d'.keep = d.keep) :
    DkR (w.setCell ⟨R, k, none⟩ u) R d' (rbl R (upd v k u)) ∧ Turned (rbl R v) w (w.setCell ⟨R, k, none⟩ u) ∧ ∀ b, rbl R (upd v k u) b → rbl R v b ∨ u.ownBlock = some b := by
  have hset : ∀ (g : Nat), g ≠ R → (w.setCell ⟨R, k, none⟩ u).heap[g]? = w.heap[g]? := fun g hne => Below.heap_setCell w ⟨R, k, none⟩ u g hne
  have hur : ∀ g, u.ownBlock = some g → g ≠ R := fun g e e2 => hat g e (.inl e2)
  refine ⟨⟨upd v k u, ?_, ⟨?_, ?_, ?_, ?_⟩, rfl⟩, (Turned.refl _ _).set (.inl rfl) _, ?_⟩
  · have h1 := hb.set_ k u
    have e : rcs (upd v k u) d' = (rcs v d).setIfInBounds k u := by
      unfold rcs
      rw [hn.1, hn.2.1, hn.2.2.1, hn.2.2.2]
      have : k = 0 ∨ k = 1 ∨ k = 2 ∨ k = 3 := by omega
      rcases this with rfl | rfl | rfl | rfl <;> rfl
    rw [e]; exact h1
  · intro j hj
    rw [hl j hj]
    unfold upd
    by_cases hjk : j = k
    · rw [if_pos hjk, if_pos hjk]
      exact hu.stay (by simp [World.setCell]) fun g e _ => hset g (hur g e)
    · rw [if_neg hjk, if_neg hjk]
      exact (h.rd j hj).stay (by simp [World.setCell]) fun g e hlt => hset g (fun e2 => h.ne j hj (e2 ▸ e))
  · intro j g hj e
    have hsz : (w.setCell ⟨R, k, none⟩ u).heap.size = w.heap.size := by simp [World.setCell]
    rw [hsz]
    unfold upd at e
    by_cases hjk : j = k
    · rw [if_pos hjk] at e; exact hul g e
    · rw [if_neg hjk] at e; exact h.lt j g hj e
  · intro i j g hi hj hij ei ej
    unfold upd at ei ej
    by_cases h1 : i = k
    · rw [if_pos h1] at ei
      rw [if_neg (by omega)] at ej
      exact hat g ei (.inr ⟨j, hj, ej⟩)
    · rw [if_neg h1] at ei
      by_cases h3 : j = k
      · rw [if_pos h3] at ej
        exact hat g ej (.inr ⟨i, hi, ei⟩)
      · rw [if_neg h3] at ej
        exact h.ap i j g hi hj hij ei ej
  · intro j hj e
    unfold upd at e
    by_cases h1 : j = k
    · rw [if_pos h1] at e; exact hur R e rfl
    · rw [if_neg h1] at e; exact h.ne j hj e
  · rintro g (rfl | ⟨j, hj, e⟩)
    · exact .inl (.inl rfl)
    · unfold upd at e
      by_cases h1 : j = k
      · rw [if_pos h1] at e; exact .inr e
      · rw [if_neg h1] at e; exact .inl (.inr ⟨j, hj, e⟩)
end
theorem noT_out {d : DK} {f n : Int} (hf : ¬ (f = 0 ∨ f = 1)) : d.noT f n = 1 := by unfold DK.noT DK.no; rw [if_neg (fun h => hf h.1), if_neg hf]
theorem noT_bad {d : DK} {f n : Int} (hf : f = 0 ∨ f = 1) (hn : n < 0 ∨ ((d.get f).all.length : Int) < n) : d.noT f n = 1 := by unfold DK.noT; rw [if_pos ⟨hf, hn⟩]
theorem noT_ok {d : DK} {f : Int} {k : Nat} (hf : f = 0 ∨ f = 1) (hn : k ≤ (d.get f).all.length) : d.noT f (k : Int) = if d.on = true then 0 else 40 := by
  unfold DK.noT DK.no
  rw [if_neg (fun h => by have := h.2; omega), if_pos hf]
/-- What a Truncate that goes on leaves of the file. -/
theorem tru_ok {d : DK} {f : Int} {k : Nat} (hf : f = 0 ∨ f = 1) (hn : k ≤ (d.get f).all.length) (ho : d.on = true) (h1 : ¬ d.left = 1) :
    d.tru f (k : Int) = d.count.put f ⟨(d.get f).s.take k, (d.get f).w.take (k - (d.get f).s.length)⟩ ∧ d.truE f (k : Int) = 0 := by
  have h0 := noT_ok (d := d) hf hn
  rw [if_pos ho] at h0
  unfold DK.tru DK.truE DK.raw DK.rawE
  rw [h0, if_pos rfl, if_neg h1, if_neg h1, if_pos rfl, if_neg h1]
  exact ⟨rfl, rfl⟩
theorem tru_off {d : DK} {f : Int} {k : Nat} (hf : f = 0 ∨ f = 1) (hn : k ≤ (d.get f).all.length) (ho : d.on = true) (h1 : d.left = 1) :
    d.tru f (k : Int) = d.count.offs d.keep ∧ d.truE f (k : Int) = 40 := by
  have h0 := noT_ok (d := d) hf hn
  rw [if_pos ho] at h0
  unfold DK.tru DK.truE DK.raw DK.rawE
  rw [h0, if_pos rfl, if_pos h1, if_pos h1, if_pos rfl, if_pos h1]
  exact ⟨rfl, rfl⟩
theorem tru_same {d : DK} {f n : Int} {e : Int} (h : d.noT f n = e) (he : e ≠ 0) : d.tru f n = d ∧ d.truE f n = e := by
  unfold DK.tru DK.truE
  rw [h, if_neg he, if_neg he]
  exact ⟨rfl, rfl⟩
theorem AftR.via {R : Nat} {d : DK} {S : Nat → Prop} {w w1 : World} {v : Value} (h : DkR w R d S) (hb : Below w.heap.size w w1) : AftR R d S w v (.returned v) w1 :=
  ⟨rfl, S, h.next hb, Turned.of hb (Nat.le_refl _) S, From.refl _ _⟩

set_option maxHeartbeats 6400000 in
theorem trunc_ref (R : Nat) (f n : Int) (d : DK) (S : Nat → Prop) (w : World) (h : DkR w R d S) (M m : Nat) (hfit : d.fit M m) (hM : M ≤ 140737488355328) (hm : m ≤ 4611686018427387904) :
    Calls Tryd.prog 40 #[.pointer (some ⟨R, 0, none⟩), .int .i64 f, .int .i64 n] w (AftR R (d.tru f n) S w (.int .i64 (d.truE f n))) := by
  by_cases hf : f = 0 ∨ f = 1
  rotate_left
  · have tn0 : (f != 0) = true := by simp only [bne_iff_ne]; exact fun e => hf (.inl e)
    have tn1 : (f != 1) = true := by simp only [bne_iff_ne]; exact fun e => hf (.inr e)
    have HD := Lib.hid (tru_same (noT_out (d := d) (n := n) hf) (by omega))
    have H := Lib.hid h
    clear h hf
    go_enter Tryd.func40, Tryd.ntmps40
    go_wp2
    go_ret
    rw [HD.out.1, HD.out.2]
    exact AftR.same H.out
  have hla : d.f0.all.length ≤ 140737488355328 := Nat.le_trans hfit.l0 hM
  have hlb : d.f1.all.length ≤ 140737488355328 := Nat.le_trans hfit.l1 hM
  have HA := Lib.hid (all_ref R f hf d S w h hla hlb)
  have H := Lib.hid h
  have HFit := Lib.hid hfit
  have HF := Lib.hid hf
  have hlg : (d.get f).all.length ≤ 140737488355328 := Nat.le_trans (hfit.get f) hM
  have HLG := Lib.hid (And.intro hla hlb)
  have tf : ((f != 0) && (f != 1)) = false := by rcases hf with rfl | rfl <;> rfl
  by_cases hlow : n < 0
  · have HD := Lib.hid (tru_same (noT_bad (d := d) (n := n) hf (.inl hlow)) (by omega))
    clear h hfit hla hlb
    rcases hf with rfl | rfl
    all_goals
      go_enter Tryd.func40, Tryd.ntmps40
      go_wp2_with fail
      refine HA.out.mono ?_
      rintro e w1 ⟨A1, n1, c1, rfl, ho1, hb1⟩
      have HB1 := Lib.hid hb1
      clear ho1 hb1
      go_wp2
      go_ret
      rw [HD.out.1, HD.out.2]
      exact AftR.via H.out HB1.out
  obtain ⟨k, rfl⟩ := Int.eq_ofNat_of_zero_le (show 0 ≤ n by omega)
  by_cases hhi : (d.get f).all.length < k
  · have HD := Lib.hid (tru_same (noT_bad (d := d) (n := (k : Int)) hf (.inr (by omega))) (by omega))
    have HHi := Lib.hid hhi
    clear h hfit hla hlb hhi
    rcases hf with rfl | rfl
    all_goals
      go_enter Tryd.func40, Tryd.ntmps40
      go_wp2_with fail
      refine HA.out.mono ?_
      rintro e w1 ⟨A1, n1, c1, rfl, ho1, hb1⟩
      have HB1 := Lib.hid hb1
      have hn1 : n1 < k := by have := (own_len ho1).1; have := HHi.out; omega
      have tg : decide ((n1 : Int) < (k : Int)) = true := decide_eq_true (by omega)
      clear ho1 hb1
      go_wp2
      go_ret
      rw [HD.out.1, HD.out.2]
      exact AftR.via H.out HB1.out
  have hle : k ≤ (d.get f).all.length := by omega
  have HLe := Lib.hid hle
  clear hhi
  by_cases hon : d.on = true
  rotate_left
  · have HD := Lib.hid (tru_same (by rw [noT_ok hf hle, if_neg hon] : d.noT f (k : Int) = 40) (by omega))
    have c4 : w.cell? ⟨R, 4, none⟩ = some (.bool false) := by
      obtain ⟨v, hbk, hv, rfl⟩ := h
      rw [hbk.cell]
      have : d.on = false := by simpa using hon
      show some (Value.bool d.on) = _
      rw [this]
    have hRlt : R < w.heap.size := by obtain ⟨v, hbk, hv, rfl⟩ := h; exact hbk.lt
    clear h hfit hla hlb hle hon
    rcases hf with rfl | rfl
    all_goals
      go_enter Tryd.func40, Tryd.ntmps40
      go_wp2_with fail
      refine HA.out.mono ?_
      rintro e w1 ⟨A1, n1, c1, rfl, ho1, hb1⟩
      have HB1 := Lib.hid hb1
      have hn1 : ¬ n1 < k := by have := (own_len ho1).1; have := HLe.out; omega
      have tg : decide ((n1 : Int) < (k : Int)) = false := decide_eq_false (by omega)
      have c5 : w1.cell? ⟨R, 4, none⟩ = some (.bool false) := (hb1.cell (p := ⟨R, 4, none⟩) hRlt).trans c4
      clear ho1 hb1 c4
      go_wp2
      go_ret
      rw [HD.out.1, HD.out.2]
      exact AftR.via H.out HB1.out
  have HOn := Lib.hid hon
  by_cases h1 : d.left = 1
  · have HD := Lib.hid (tru_off hf hle hon h1)
    have c4 : w.cell? ⟨R, 4, none⟩ = some (.bool true) := by
      obtain ⟨v, hbk, hv, rfl⟩ := h
      rw [hbk.cell]
      show some (Value.bool d.on) = _
      rw [hon]
    have hRlt : R < w.heap.size := by obtain ⟨v, hbk, hv, rfl⟩ := h; exact hbk.lt
    have HL1 := Lib.hid h1
    clear h hfit hla hlb hle hon h1
    rcases hf with rfl | rfl
    all_goals
      go_enter Tryd.func40, Tryd.ntmps40
      go_wp2_with fail
      refine HA.out.mono ?_
      rintro e w1 ⟨A1, n1, c1, rfl, ho1, hb1⟩
      have HB1 := Lib.hid hb1
      have hn1 : ¬ n1 < k := by have := (own_len ho1).1; have := HLe.out; omega
      have tg : decide ((n1 : Int) < (k : Int)) = false := decide_eq_false (by omega)
      have c5 : w1.cell? ⟨R, 4, none⟩ = some (.bool true) := (hb1.cell (p := ⟨R, 4, none⟩) hRlt).trans c4
      have H1 := Lib.hid (H.out.next hb1)
      clear ho1 hb1 c4
      go_wp2_with fail
      refine (raw_ref R d S w1 H1.out (Nat.le_trans HFit.out.c hm) HFit.out.a).mono ?_
      rintro e w2 ⟨rfl, S2, h2, t2, g2⟩
      have H2 := Lib.hid h2
      have T2 := Lib.hid t2
      have G2 := Lib.hid g2
      have td : decide (d.left = 1) = true := decide_eq_true HL1.out
      have c7 : w2.cell? ⟨R, 7, none⟩ = some (.int .i64 d.keep) := by obtain ⟨v, hbk, hv, _⟩ := h2; rw [hbk.cell]; rfl
      clear h2 t2 g2
      go_wp2_with fail
      refine (off_ref R d.keep d.count S2 w2 H2.out HLG.out.1 HLG.out.2).mono ?_
      rintro e w3 ⟨rfl, S3, h3, t3, g3⟩
      have H3 := Lib.hid h3
      have T3 := Lib.hid (T2.out.also G2.out t3)
      have G3 := Lib.hid (G2.out.trans g3 T2.out.size)
      clear h3 t3 g3
      go_wp2
      go_ret
      rw [HD.out.1, HD.out.2]
      exact ⟨rfl, S3, H3.out, (Turned.of HB1.out (Nat.le_refl _) S).trans T3.out (fun _ _ h => h), G3.out.back HB1.out.size⟩
  have HD := Lib.hid (tru_ok hf hle hon h1)
  have c4 : w.cell? ⟨R, 4, none⟩ = some (.bool true) := by
    obtain ⟨v, hbk, hv, rfl⟩ := h
    rw [hbk.cell]
    show some (Value.bool d.on) = _
    rw [hon]
  have hRlt : R < w.heap.size := by obtain ⟨v, hbk, hv, rfl⟩ := h; exact hbk.lt
  have HL1 := Lib.hid h1
  clear h hfit hla hlb hle hon h1
  rcases hf with rfl | rfl
  · go_enter Tryd.func40, Tryd.ntmps40
    go_wp2_with fail
    refine HA.out.mono ?_
    rintro e w1 ⟨A1, n1, c1, rfl, ho1, hb1⟩
    have HB1 := Lib.hid hb1
    have hn1 : ¬ n1 < k := by have := (own_len ho1).1; have := HLe.out; omega
    have HN1 : Hid (d.f0.all.length = n1 ∧ n1 ≤ c1) := Lib.hid (own_len ho1)
    have tg : decide ((n1 : Int) < (k : Int)) = false := decide_eq_false (by omega)
    have c5 : w1.cell? ⟨R, 4, none⟩ = some (.bool true) := (hb1.cell (p := ⟨R, 4, none⟩) hRlt).trans c4
    have H1 := Lib.hid (H.out.next hb1)
    have HO1 := Lib.hid ho1
    clear ho1 hb1 c4
    go_wp2_with fail
    refine (raw_ref R d S w1 H1.out (Nat.le_trans HFit.out.c hm) HFit.out.a).mono ?_
    rintro e w2 ⟨rfl, S2, h2, t2, g2⟩
    have td : decide (d.left = 1) = false := decide_eq_false HL1.out
    have HFr : Hid (∀ g, (Value.slice A1 n1 c1).ownBlock = some g → ¬ S2 g) := Lib.hid (fun g e hs => by
      have hg := HO1.out.base g e
      have hg2 := HO1.out.lt g e
      rcases g2 g hs with h3 | h3
      · have := H.out.lt g h3; omega
      · omega)
    have HO2 : Hid (OwnB w2 w.heap.size (.slice A1 n1 c1) d.f0.all) := Lib.hid (HO1.out.stay fun g e => t2.block g (HO1.out.lt g e) (fun hs => by
      have hg := HO1.out.base g e
      have := H1.out.lt g hs
      have := H.out.lt g hs
      omega))
    have H2 := Lib.hid h2
    have T2 := Lib.hid t2
    have G2 := Lib.hid g2
    obtain ⟨v, hbk, hv, hS⟩ := h2
    subst hS
    have HB := Lib.hid hbk
    have HV := Lib.hid hv
    obtain ⟨As, ns, cs, es, hls, hcs, hrs, _⟩ := hv.rd 0 (by omega)
    replace hls : d.f0.s.length = ns := hls
    have HLs := Lib.hid hls
    have x1 : w2.cell? ⟨R, 0, none⟩ = some (.slice As ns cs) := by rw [hbk.cell, ← es]; rfl
    have y1 : w2.frozen? ⟨R, 0, none⟩ = false := hbk.frozen 0
    have x2 : w2.cell? ⟨R, 2, none⟩ = some (v 2) := by rw [hbk.cell]; rfl
    have y2 : w2.frozen? ⟨R, 2, none⟩ = false := hbk.frozen 2
    have hns : ns ≤ n1 := by have := HN1.out.1; rw [FL.all_len] at this; omega
    have hn2 : n1 ≤ 140737488355328 := by have := HN1.out.1; have := HLG.out.1; omega
    have hnc : n1 ≤ c1 := HN1.out.2
    have hkn : k ≤ n1 := by omega
    clear t2 g2 hbk hv hls hcs hrs es
    by_cases hks : k ≤ ns
    · have kc : ∀ u : World, (Instr.slice 22 (.slice A1 n1 c1) none (some (.int .i64 (k : Int))) (some (.int .i64 (k : Int)))).run Tryd.prog u = .ok (.slice A1 k k) u := fun u => run_cut3 Tryd.underlying22 (by kernel_rfl) A1 n1 c1 k (by omega) u
      have P := RefV.put_free (k := 0) (d' := ({ d.count with f0 := ⟨d.f0.all.take k, d.f0.w⟩ } : DK)) HB.out HV.out (by omega) (RefS.cut HO2.out hkn) (fun g e => HO2.out.lt g (by rw [← own_any A1 k k n1 c1]; exact e)) (fun g e => HFr.out g (by rw [← own_any A1 k k n1 c1]; exact e)) (four rfl rfl rfl rfl) ⟨rfl, rfl, rfl, rfl⟩
      have HP := Lib.hid P
      have HP13 := P.1
      obtain ⟨v3, hbk3, hv3, hS3⟩ := HP13
      have P2 := RefV.put (k := 2) (w1 := w2.setCell ⟨R, 0, none⟩ (.slice A1 k k)) (u := .slice none 0 0) (l := []) (d' := ({ d.count with f0 := ⟨d.f0.all.take k, []⟩ } : DK)) hbk3 hv3 (by omega) (grown_of_below (Below.refl _ _) _) (RefS.nil_ _) (fun g e => by simp [Value.ownBlock] at e) (fun g e => by simp [Value.ownBlock] at e) (four rfl rfl rfl rfl) ⟨rfl, rfl, rfl, rfl⟩
      rw [← hS3] at P2
      have HP2 := Lib.hid P2
      have HEq : Hid (DK.put d.count 0 ⟨d.f0.s.take k, d.f0.w.take (k - d.f0.s.length)⟩ = ({ d.count with f0 := ⟨d.f0.all.take k, []⟩ } : DK)) := Lib.hid (by
        have e1 : d.f0.all.take k = d.f0.s.take k := by
          unfold FL.all
          rw [List.take_append, HLs.out, Nat.sub_eq_zero_of_le hks, List.take_zero, List.append_nil]
        rw [HLs.out, Nat.sub_eq_zero_of_le hks, List.take_zero, e1]
        rfl)
      have hks' : (k : Int) ≤ (ns : Int) := by omega
      clear P P2 hbk3 hv3 hS3
      go_wp2_with fail
      go_region
      go_wp2
      go_ret
      rw [HD.out.1, HD.out.2]
      rw [show d.count.put 0 { s := List.take k (d.get 0).s, w := List.take (k - (d.get 0).s.length) (d.get 0).w } = _ from HEq.out]
      refine ⟨rfl, _, HP2.out.1.drewN 1, ((Turned.of HB1.out (Nat.le_refl _) S).trans ((T2.out.set H.out.self _).set H.out.self _).drew (fun _ _ h => h)), fun b hb => ?_⟩
      rcases HP2.out.2.2 b hb with h1 | h1
      · rcases HP.out.2.2 b h1 with h2 | h2
        · exact G2.out.back HB1.out.size b h2
        · exact .inr (HO1.out.base b (by rw [← own_any A1 k k n1 c1]; exact h2))
      · have h3 := T2.out.size
        have h4 := HB1.out.size
        simp [World.setCell] at h1
        right; omega
    · have hks' : ¬ (k : Int) ≤ (ns : Int) := by omega
      obtain ⟨L, hL⟩ : ∃ L, L = (d.f0.all.take k).drop ns := ⟨_, rfl⟩
      have HRd : Hid (Reads w2 w2.heap.size 1 (cutA A1 c1 ns) (k - ns) (bts L)) := Lib.hid (by
        obtain ⟨A', c', e, hc, hr⟩ := HO2.out.reads
        injection e with e1 e2 e3
        subst e1
        rw [HN1.out.1] at hr
        rw [hL]
        exact reads_cut hr (by omega) hkn hnc)
      have HEq : Hid (DK.put d.count 0 ⟨d.f0.s.take k, d.f0.w.take (k - d.f0.s.length)⟩ = ({ d.count with f0 := ⟨d.f0.s, L⟩ } : DK)) := Lib.hid (by
        have e1 : d.f0.s.take k = d.f0.s := List.take_of_length_le (by rw [HLs.out]; omega)
        have e2 : L = d.f0.w.take (k - d.f0.s.length) := by
          rw [hL]
          unfold FL.all
          rw [List.take_append, e1, ← HLs.out, List.drop_left]
        rw [e1, e2]
        rfl)
      have kc : ∀ u : World, (Instr.slice 22 (.slice A1 n1 c1) (some (.int .i64 (ns : Int))) (some (.int .i64 (k : Int))) none).run Tryd.prog u = .ok (.slice (cutA A1 c1 ns) (k - ns) (c1 - ns)) u := fun u => run_cut2 Tryd.underlying22 (by kernel_rfl) A1 n1 c1 ns k (by omega) (by omega) u
      clear hL
      go_wp2_with fail
      go_region_law (refine stepE _ w2.heap.size rfl (.tmp 65) (.tmp 69) rfl rfl (OwnB.fresh _ _ (Nat.le_refl _)) w2.heap.size (cutA A1 c1 ns) (c1 - ns) L (k - ns) rfl (HRd.out.alloc (Nat.le_refl _) _) (by omega) (by simp) ?_; intro A10 n10 c10 w10 hown10 hb10; have hb10' : Below w2.heap.size w2 w10 := (below_drew_alloc w2 _).trans hb10; have z2 : w10.cell? ⟨R, 2, none⟩ = some (v 2) := (hb10'.cell (p := ⟨R, 2, none⟩) HB.out.lt).trans x2; have zf : w10.frozen? ⟨R, 2, none⟩ = false := (HB.out.below hb10' HB.out.lt).frozen 2; have HW10 := Lib.hid hown10; have HB10 := Lib.hid hb10'; clear hown10 hb10 hb10')
      all_goals
        have P := RefV.put (k := 2) (w1 := w10) (d' := ({ d.count with f0 := ⟨d.f0.s, L⟩ } : DK)) HB.out HV.out (by omega) (grown_of_below HB10.out _) (RefS.own HW10.out) HW10.out.lt (fun g e => .inr (HW10.out.base g e)) (four rfl rfl rfl rfl) ⟨rfl, rfl, rfl, rfl⟩
        have HP := Lib.hid P
        clear P
        go_wp2
        go_ret
        rw [HD.out.1, HD.out.2]
        rw [show d.count.put 0 { s := List.take k (d.get 0).s, w := List.take (k - (d.get 0).s.length) (d.get 0).w } = _ from HEq.out]
        exact ⟨rfl, _, HP.out.1, (Turned.of HB1.out (Nat.le_refl _) S).trans (T2.out.also G2.out HP.out.2.1) (fun _ _ h => h), (G2.out.trans HP.out.2.2 T2.out.size).back HB1.out.size⟩
  · go_enter Tryd.func40, Tryd.ntmps40
    go_wp2_with fail
    refine HA.out.mono ?_
    rintro e w1 ⟨A1, n1, c1, rfl, ho1, hb1⟩
    have HB1 := Lib.hid hb1
    have hn1 : ¬ n1 < k := by have := (own_len ho1).1; have := HLe.out; omega
    have HN1 : Hid (d.f1.all.length = n1 ∧ n1 ≤ c1) := Lib.hid (own_len ho1)
    have tg : decide ((n1 : Int) < (k : Int)) = false := decide_eq_false (by omega)
    have c5 : w1.cell? ⟨R, 4, none⟩ = some (.bool true) := (hb1.cell (p := ⟨R, 4, none⟩) hRlt).trans c4
    have H1 := Lib.hid (H.out.next hb1)
    have HO1 := Lib.hid ho1
    clear ho1 hb1 c4
    go_wp2_with fail
    refine (raw_ref R d S w1 H1.out (Nat.le_trans HFit.out.c hm) HFit.out.a).mono ?_
    rintro e w2 ⟨rfl, S2, h2, t2, g2⟩
    have td : decide (d.left = 1) = false := decide_eq_false HL1.out
    have HFr : Hid (∀ g, (Value.slice A1 n1 c1).ownBlock = some g → ¬ S2 g) := Lib.hid (fun g e hs => by
      have hg := HO1.out.base g e
      have hg2 := HO1.out.lt g e
      rcases g2 g hs with h3 | h3
      · have := H.out.lt g h3; omega
      · omega)
    have HO2 : Hid (OwnB w2 w.heap.size (.slice A1 n1 c1) d.f1.all) := Lib.hid (HO1.out.stay fun g e => t2.block g (HO1.out.lt g e) (fun hs => by
      have hg := HO1.out.base g e
      have := H1.out.lt g hs
      have := H.out.lt g hs
      omega))
    have H2 := Lib.hid h2
    have T2 := Lib.hid t2
    have G2 := Lib.hid g2
    obtain ⟨v, hbk, hv, hS⟩ := h2
    subst hS
    have HB := Lib.hid hbk
    have HV := Lib.hid hv
    obtain ⟨As, ns, cs, es, hls, hcs, hrs, _⟩ := hv.rd 1 (by omega)
    replace hls : d.f1.s.length = ns := hls
    have HLs := Lib.hid hls
    have x1 : w2.cell? ⟨R, 1, none⟩ = some (.slice As ns cs) := by rw [hbk.cell, ← es]; rfl
    have y1 : w2.frozen? ⟨R, 1, none⟩ = false := hbk.frozen 1
    have x2 : w2.cell? ⟨R, 3, none⟩ = some (v 3) := by rw [hbk.cell]; rfl
    have y2 : w2.frozen? ⟨R, 3, none⟩ = false := hbk.frozen 3
    have hns : ns ≤ n1 := by have := HN1.out.1; rw [FL.all_len] at this; omega
    have hn2 : n1 ≤ 140737488355328 := by have := HN1.out.1; have := HLG.out.2; omega
    have hnc : n1 ≤ c1 := HN1.out.2
    have hkn : k ≤ n1 := by omega
    clear t2 g2 hbk hv hls hcs hrs es
    by_cases hks : k ≤ ns
    · have kc : ∀ u : World, (Instr.slice 22 (.slice A1 n1 c1) none (some (.int .i64 (k : Int))) (some (.int .i64 (k : Int)))).run Tryd.prog u = .ok (.slice A1 k k) u := fun u => run_cut3 Tryd.underlying22 (by kernel_rfl) A1 n1 c1 k (by omega) u
      have P := RefV.put_free (k := 1) (d' := ({ d.count with f1 := ⟨d.f1.all.take k, d.f1.w⟩ } : DK)) HB.out HV.out (by omega) (RefS.cut HO2.out hkn) (fun g e => HO2.out.lt g (by rw [← own_any A1 k k n1 c1]; exact e)) (fun g e => HFr.out g (by rw [← own_any A1 k k n1 c1]; exact e)) (four rfl rfl rfl rfl) ⟨rfl, rfl, rfl, rfl⟩
      have HP := Lib.hid P
      have HP13 := P.1
      obtain ⟨v3, hbk3, hv3, hS3⟩ := HP13
      have P2 := RefV.put (k := 3) (w1 := w2.setCell ⟨R, 1, none⟩ (.slice A1 k k)) (u := .slice none 0 0) (l := []) (d' := ({ d.count with f1 := ⟨d.f1.all.take k, []⟩ } : DK)) hbk3 hv3 (by omega) (grown_of_below (Below.refl _ _) _) (RefS.nil_ _) (fun g e => by simp [Value.ownBlock] at e) (fun g e => by simp [Value.ownBlock] at e) (four rfl rfl rfl rfl) ⟨rfl, rfl, rfl, rfl⟩
      rw [← hS3] at P2
      have HP2 := Lib.hid P2
      have HEq : Hid (DK.put d.count 1 ⟨d.f1.s.take k, d.f1.w.take (k - d.f1.s.length)⟩ = ({ d.count with f1 := ⟨d.f1.all.take k, []⟩ } : DK)) := Lib.hid (by
        have e1 : d.f1.all.take k = d.f1.s.take k := by
          unfold FL.all
          rw [List.take_append, HLs.out, Nat.sub_eq_zero_of_le hks, List.take_zero, List.append_nil]
        rw [HLs.out, Nat.sub_eq_zero_of_le hks, List.take_zero, e1]
        rfl)
      have hks' : (k : Int) ≤ (ns : Int) := by omega
      clear P P2 hbk3 hv3 hS3
      go_wp2_with fail
      go_region
      go_wp2
      go_ret
      rw [HD.out.1, HD.out.2]
      rw [show d.count.put 1 { s := List.take k (d.get 1).s, w := List.take (k - (d.get 1).s.length) (d.get 1).w } = _ from HEq.out]
      refine ⟨rfl, _, HP2.out.1.drewN 1, ((Turned.of HB1.out (Nat.le_refl _) S).trans ((T2.out.set H.out.self _).set H.out.self _).drew (fun _ _ h => h)), fun b hb => ?_⟩
      rcases HP2.out.2.2 b hb with h1 | h1
      · rcases HP.out.2.2 b h1 with h2 | h2
        · exact G2.out.back HB1.out.size b h2
        · exact .inr (HO1.out.base b (by rw [← own_any A1 k k n1 c1]; exact h2))
      · have h3 := T2.out.size
        have h4 := HB1.out.size
        simp [World.setCell] at h1
        right; omega
    · have hks' : ¬ (k : Int) ≤ (ns : Int) := by omega
      obtain ⟨L, hL⟩ : ∃ L, L = (d.f1.all.take k).drop ns := ⟨_, rfl⟩
      have HRd : Hid (Reads w2 w2.heap.size 1 (cutA A1 c1 ns) (k - ns) (bts L)) := Lib.hid (by
        obtain ⟨A', c', e, hc, hr⟩ := HO2.out.reads
        injection e with e1 e2 e3
        subst e1
        rw [HN1.out.1] at hr
        rw [hL]
        exact reads_cut hr (by omega) hkn hnc)
      have HEq : Hid (DK.put d.count 1 ⟨d.f1.s.take k, d.f1.w.take (k - d.f1.s.length)⟩ = ({ d.count with f1 := ⟨d.f1.s, L⟩ } : DK)) := Lib.hid (by
        have e1 : d.f1.s.take k = d.f1.s := List.take_of_length_le (by rw [HLs.out]; omega)
        have e2 : L = d.f1.w.take (k - d.f1.s.length) := by
          rw [hL]
          unfold FL.all
          rw [List.take_append, e1, ← HLs.out, List.drop_left]
        rw [e1, e2]
        rfl)
      have kc : ∀ u : World, (Instr.slice 22 (.slice A1 n1 c1) (some (.int .i64 (ns : Int))) (some (.int .i64 (k : Int))) none).run Tryd.prog u = .ok (.slice (cutA A1 c1 ns) (k - ns) (c1 - ns)) u := fun u => run_cut2 Tryd.underlying22 (by kernel_rfl) A1 n1 c1 ns k (by omega) (by omega) u
      clear hL
      go_wp2_with fail
      go_region_law (refine stepE _ w2.heap.size rfl (.tmp 65) (.tmp 69) rfl rfl (OwnB.fresh _ _ (Nat.le_refl _)) w2.heap.size (cutA A1 c1 ns) (c1 - ns) L (k - ns) rfl (HRd.out.alloc (Nat.le_refl _) _) (by omega) (by simp) ?_; intro A10 n10 c10 w10 hown10 hb10; have hb10' : Below w2.heap.size w2 w10 := (below_drew_alloc w2 _).trans hb10; have z2 : w10.cell? ⟨R, 3, none⟩ = some (v 3) := (hb10'.cell (p := ⟨R, 3, none⟩) HB.out.lt).trans x2; have zf : w10.frozen? ⟨R, 3, none⟩ = false := (HB.out.below hb10' HB.out.lt).frozen 3; have HW10 := Lib.hid hown10; have HB10 := Lib.hid hb10'; clear hown10 hb10 hb10')
      all_goals
        have P := RefV.put (k := 3) (w1 := w10) (d' := ({ d.count with f1 := ⟨d.f1.s, L⟩ } : DK)) HB.out HV.out (by omega) (grown_of_below HB10.out _) (RefS.own HW10.out) HW10.out.lt (fun g e => .inr (HW10.out.base g e)) (four rfl rfl rfl rfl) ⟨rfl, rfl, rfl, rfl⟩
        have HP := Lib.hid P
        clear P
        go_wp2
        go_ret
        rw [HD.out.1, HD.out.2]
        rw [show d.count.put 1 { s := List.take k (d.get 1).s, w := List.take (k - (d.get 1).s.length) (d.get 1).w } = _ from HEq.out]
        exact ⟨rfl, _, HP.out.1, (Turned.of HB1.out (Nat.le_refl _) S).trans (T2.out.also G2.out HP.out.2.1) (fun _ _ h => h), (G2.out.trans HP.out.2.2 T2.out.size).back HB1.out.size⟩
end Go.Proofs.YtnpmccekkjadhaaDoor.Pk

/- The document's disk: Load. -/
namespace Go.Proofs.YtnpmccekkjadhaaDoor.Pk
open Go.RowKit Go.Proofs.YtnpmccekkjadhaaDoor.Dk
set_option linter.unusedVariables false

/-- The document's new disk is answered. -/
def NwR (d : DK) (w : World) (e : Ending) (w' : World) : Prop := ∃ R S, e = .returned (.pointer (some ⟨R, 0, none⟩)) ∧ DkR w' R d S ∧ (∀ b, S b → w.heap.size ≤ b) ∧ Below w.heap.size w w'
theorem DkR.empty (w : World) : DkR (w.alloc (.cells (rcs (fun _ => .slice none 0 0) (DK.new [] [])) 40)) w.heap.size (DK.new [] []) (rbl w.heap.size (fun _ => .slice none 0 0)) :=
  ⟨fun _ => .slice none 0 0, Blk.new w _ _, ⟨fun k hk => by
    have : rl (DK.new [] []) k = [] := by
      unfold rl DK.new
      split
      · rfl
      split
      · rfl
      split
      · rfl
      · rfl
    rw [this]; exact RefS.nil_ _, fun k g _ e => by simp [Value.ownBlock] at e, fun j k g _ _ _ e => by simp [Value.ownBlock] at e, fun k _ e => by simp [Value.ownBlock] at e⟩, rfl⟩

set_option maxHeartbeats 3200000 in
theorem load_ref (A A' : Option Addr) (n c n' c' : Nat) (a b : List Int) (w : World) (ha : Reads w w.heap.size 1 A n (bts a)) (hb : Reads w w.heap.size 1 A' n' (bts b)) (hn : n ≤ 140737488355328) (hn' : n' ≤ 140737488355328) :
    Calls Tryd.prog 11 #[.slice A n c, .slice A' n' c'] w (NwR (DK.new a b) w) := by
  obtain ⟨W, hW⟩ : ∃ W, W = w.alloc (.cells (rcs (fun _ => .slice none 0 0) (DK.new [] [])) 40) := ⟨_, rfl⟩
  obtain ⟨R, hR⟩ : ∃ R, R = w.heap.size := ⟨_, rfl⟩
  have h0 := DkR.empty w
  rw [← hW, ← hR] at h0
  have hbw : Below w.heap.size w W := by rw [hW]; exact (Below.refl _ _).alloc (Nat.le_refl _) _
  have HW : Hid (w.alloc (.cells #[.slice none 0 0, .slice none 0 0, .slice none 0 0, .slice none 0 0, .bool true, .int .i64 0, .int .i64 0, .int .i64 0] 40) = W) := Lib.hid hW.symm
  have HR := Lib.hid hR
  have HBW := Lib.hid hbw
  have HA := Lib.hid ((ha.below hbw).more hbw.size)
  have HB := Lib.hid hb
  have hrs : R < W.heap.size := h0.lt R h0.self
  obtain ⟨v0, hk0, hv0, hS0⟩ := h0
  have HK0 := Lib.hid hk0
  have HV0 := Lib.hid hv0
  have x0 : W.cell? ⟨R, 0, none⟩ = some (v0 0) := by rw [hk0.cell]; rfl
  have y0 : W.frozen? ⟨R, 0, none⟩ = false := hk0.frozen 0
  have x1 : W.cell? ⟨R, 1, none⟩ = some (v0 1) := by rw [hk0.cell]; rfl
  have y1 : W.frozen? ⟨R, 1, none⟩ = false := hk0.frozen 1
  have HS0 : Hid (∀ b, rbl R v0 b → R ≤ b) := Lib.hid (by
    rw [← hS0]
    rintro b (rfl | ⟨k, _, e⟩)
    · exact Nat.le_refl _
    · simp [Value.ownBlock] at e)
  clear ha hb hW hbw hk0 hv0 hS0 hR
  go_enter Tryd.func11, Tryd.ntmps11
  go_wp2_with fail
  rw [HW.out, ← HR.out]
  clear HW
  go_region_law (refine stepE _ W.heap.size rfl (.tmp 9) (.tmp 10) rfl rfl (OwnB.fresh _ _ (Nat.le_refl _)) W.heap.size A c a n rfl (HA.out.alloc (Nat.le_refl _) _) (by omega) (by simp) ?_; intro A10 n10 c10 w10 hown10 hb10; have hb10' : Below W.heap.size W w10 := (below_drew_alloc W _).trans hb10; have z0 : w10.cell? ⟨R, 0, none⟩ = some (v0 0) := (hb10'.cell (p := ⟨R, 0, none⟩) hrs).trans x0; have z1 : w10.cell? ⟨R, 1, none⟩ = some (v0 1) := (hb10'.cell (p := ⟨R, 1, none⟩) hrs).trans x1; have zf0 : w10.frozen? ⟨R, 0, none⟩ = false := (HK0.out.below hb10' HK0.out.lt).frozen 0; have HW10 := Lib.hid hown10; have HB10 := Lib.hid hb10'; clear hown10 hb10 hb10')
  all_goals
    have P := RefV.put (k := 0) (w1 := w10) (l := a) (d' := (⟨⟨a, []⟩, ⟨[], []⟩, true, 0, 0, 0⟩ : DK)) HK0.out HV0.out (by omega) (grown_of_below HB10.out _) (RefS.own HW10.out) HW10.out.lt (fun g e => .inr (HW10.out.base g e)) (four rfl rfl rfl rfl) ⟨rfl, rfl, rfl, rfl⟩
    obtain ⟨W2, hW2⟩ : ∃ W2, W2 = w10.setCell ⟨R, 0, none⟩ (.slice A10 n10 c10) := ⟨_, rfl⟩
    rw [← hW2] at P
    have HP := Lib.hid P
    obtain ⟨⟨v2, hk2, hv2, hS2⟩, t2, g2⟩ := P
    rw [hS2] at g2
    have hs2 : W.heap.size ≤ W2.heap.size := t2.size
    have HB2 : Hid (Below w.heap.size w W2) := Lib.hid (t2.below HBW.out HBW.out.size (fun b hb => by have := HS0.out b hb; have := HR.out; omega))
    have HS2 : Hid (∀ b, rbl R v2 b → R ≤ b) := Lib.hid (fun b hb => by
      rcases g2 b hb with h1 | h1
      · exact HS0.out b h1
      · omega)
    have HBr2 : Hid (Reads W2 W2.heap.size 1 A' n' (bts b)) := Lib.hid ((HB.out.below HB2.out).more HB2.out.size)
    have HK2 := Lib.hid hk2
    have HV2 := Lib.hid hv2
    have u1 : W2.cell? ⟨R, 1, none⟩ = some (v2 1) := by rw [hk2.cell]; rfl
    have uf1 : W2.frozen? ⟨R, 1, none⟩ = false := hk2.frozen 1
    have hrs2 : R < W2.heap.size := hk2.lt
    clear hk2 hv2 hS2 t2 g2 HP x0 y0 x1 y1
    go_wp2_with fail
    rw [← hW2]
    clear hW2 z0 z1 zf0
    go_region_law (refine stepE _ W2.heap.size rfl (.tmp 16) (.tmp 17) rfl rfl (OwnB.fresh _ _ (Nat.le_refl _)) W2.heap.size A' c' b n' rfl (HBr2.out.alloc (Nat.le_refl _) _) (by omega) (by simp) ?_; intro A11 n11 c11 w11 hown11 hb11; have hb11' : Below W2.heap.size W2 w11 := (below_drew_alloc W2 _).trans hb11; have z1 : w11.cell? ⟨R, 1, none⟩ = some (v2 1) := (hb11'.cell (p := ⟨R, 1, none⟩) hrs2).trans u1; have zf1 : w11.frozen? ⟨R, 1, none⟩ = false := (HK2.out.below hb11' HK2.out.lt).frozen 1; have HW11 := Lib.hid hown11; have HB11 := Lib.hid hb11'; clear hown11 hb11 hb11')
    all_goals
      have P := RefV.put (k := 1) (w1 := w11) (l := b) (d' := DK.new a b) HK2.out HV2.out (by omega) (grown_of_below HB11.out _) (RefS.own HW11.out) HW11.out.lt (fun g e => .inr (HW11.out.base g e)) (four rfl rfl rfl rfl) ⟨rfl, rfl, rfl, rfl⟩
      have HP := Lib.hid P
      clear P
      go_wp2
      go_ret
      refine ⟨R, _, rfl, HP.out.1, fun b hb => ?_, HP.out.2.1.below HB2.out HB2.out.size (fun b hb => by have := HS2.out b hb; have := HR.out; omega)⟩
      rcases HP.out.2.2 b hb with h1 | h1
      · have := HS2.out b h1; have := HR.out; omega
      · have := HB2.out.size; omega
end Go.Proofs.YtnpmccekkjadhaaDoor.Pk

/- The document's disk while a call of a vault goes on. -/
namespace Go.Proofs.YtnpmccekkjadhaaDoor.Pk
open Go.RowKit Go.Proofs.YtnpmccekkjadhaaDoor.Crc Go.Proofs.YtnpmccekkjadhaaDoor.Dk Go.Proofs.YtnpmccekkjadhaaDoor.Vk
set_option linter.unusedVariables false
/-- The disk is d, made of blocks of S or new ones, none of T; what lies in T lies as it lay. -/
structure OnR (w0 : World) (R : Nat) (S T : Nat → Prop) (wT : World) (d : DK) (wi : World) : Prop where
  ex : ∃ S', DkR wi R d S' ∧ Turned S w0 wi ∧ From S S' w0 ∧ ∀ b, S' b → ¬ T b
  stay : Stay T wT wi
  tlt : ∀ b, T b → b < wT.heap.size
section
variable {w0 wT wi w' : World} {R : Nat} {S T : Nat → Prop} {d d' : DK}
theorem OnR.start (h : DkR wi R d S) (hT : ∀ b, T b → b < wi.heap.size) (hap : ∀ b, S b → ¬ T b) (h0 : Below w0.heap.size w0 wi) : OnR w0 R S T wi d wi :=
  ⟨⟨S, h, Turned.of h0 (Nat.le_refl _) S, From.refl _ _, hap⟩, ⟨Nat.le_refl _, fun _ _ => rfl⟩, hT⟩
theorem OnR.next (h : OnR w0 R S T wT d wi) (hb : Below wi.heap.size wi w') : OnR w0 R S T wT d w' := by
  obtain ⟨S', h1, t, f, ap⟩ := h.ex
  have hs := h.stay
  refine ⟨⟨S', h1.next hb, t.next hb, f, ap⟩, ⟨Nat.le_trans hs.1 hb.size, fun b hT => (hb.block b ?_).trans (hs.2 b hT)⟩, h.tlt⟩
  exact Nat.lt_of_lt_of_le (h.tlt b hT) hs.1
/-- More is to stay: blocks that lie apart from the disk. -/
theorem OnR.also {T' : Nat → Prop} (h : OnR w0 R S T wT d wi) (hT' : ∀ b, T' b → b < wi.heap.size) (hap : ∀ S', DkR wi R d S' → From S S' w0 → (∀ b, S' b → ¬ T b) → ∀ b, S' b → ¬ T' b) : OnR w0 R S T' wi d wi := by
  obtain ⟨S', h1, t, f, ap⟩ := h.ex
  exact ⟨⟨S', h1, t, f, hap S' h1 f ap⟩, ⟨Nat.le_refl _, fun _ _ => rfl⟩, hT'⟩
theorem OnR.aft (h : OnR w0 R S T wT d wi) {S' : Nat → Prop} {v : Value} {e : Ending} (h1 : DkR wi R d S') (t : Turned S w0 wi) (f : From S S' w0) (ap : ∀ b, S' b → ¬ T b) (k : AftR R d' S' wi v e w') : e = .returned v ∧ OnR w0 R S T wT d' w' := by
  obtain ⟨e1, S2, h2, t2, f2⟩ := k
  have hs := h.stay
  have hT : ∀ b, T b → b < wi.heap.size := fun b hb => Nat.lt_of_lt_of_le (h.tlt b hb) hs.1
  refine ⟨e1, ⟨S2, h2, t.also f t2, f.trans f2 t.size, from_apart f2 ap hT⟩, ⟨Nat.le_trans hs.1 t2.size, fun b hb => (t2.block b (hT b hb) (fun hx => ap b hx hb)).trans (hs.2 b hb)⟩, h.tlt⟩
theorem OnR.app (h : OnR w0 R S T wT d wi) (f : Int) (A : Option Addr) (n c : Nat) (b : List Int) (hr : Reads wi wi.heap.size 1 A n (bts b)) (M m : Nat) (hfit : d.fit M m) (hM : M + n ≤ 140737488355328) (hm : m ≤ 4611686018427387904) :
    Calls Tryd.prog 35 #[.pointer (some ⟨R, 0, none⟩), .int .i64 f, .slice A n c] wi fun e w' => e = .returned (.int .i64 (d.appE f)) ∧ OnR w0 R S T wT (d.app f b) w' := by
  obtain ⟨S', h1, t, g, ap⟩ := h.ex
  exact (append_ref R f A n c b d S' wi h1 hr M m hfit hM hm).mono fun e w' k => h.aft h1 t g ap k
theorem OnR.syn (h : OnR w0 R S T wT d wi) (f : Int) (M m : Nat) (hfit : d.fit M m) (hM : M ≤ 140737488355328) (hm : m ≤ 4611686018427387904) :
    Calls Tryd.prog 36 #[.pointer (some ⟨R, 0, none⟩), .int .i64 f] wi fun e w' => e = .returned (.int .i64 (d.appE f)) ∧ OnR w0 R S T wT (d.syn f) w' := by
  obtain ⟨S', h1, t, g, ap⟩ := h.ex
  exact (sync_ref R f d S' wi h1 M m hfit hM hm).mono fun e w' k => h.aft h1 t g ap k
theorem OnR.tru (h : OnR w0 R S T wT d wi) (f n : Int) (M m : Nat) (hfit : d.fit M m) (hM : M ≤ 140737488355328) (hm : m ≤ 4611686018427387904) :
    Calls Tryd.prog 40 #[.pointer (some ⟨R, 0, none⟩), .int .i64 f, .int .i64 n] wi fun e w' => e = .returned (.int .i64 (d.truE f n)) ∧ OnR w0 R S T wT (d.tru f n) w' := by
  obtain ⟨S', h1, t, g, ap⟩ := h.ex
  exact (trunc_ref R f n d S' wi h1 M m hfit hM hm).mono fun e w' k => h.aft h1 t g ap k
theorem OnR.all (h : OnR w0 R S T wT d wi) (f : Int) (hf : f = 0 ∨ f = 1) (M m : Nat) (hfit : d.fit M m) (hM : M ≤ 140737488355328) :
    Calls Tryd.prog 48 #[.pointer (some ⟨R, 0, none⟩), .int .i64 f] wi fun e w' => ∃ A n c, e = .returned (.slice A n c) ∧ OwnB w' wi.heap.size (.slice A n c) (d.get f).all ∧ Below wi.heap.size wi w' ∧ OnR w0 R S T wT d w' := by
  obtain ⟨S', h1, t, g, ap⟩ := h.ex
  exact (all_ref R f hf d S' wi h1 (Nat.le_trans hfit.l0 hM) (Nat.le_trans hfit.l1 hM)).mono fun e w' ⟨A, n, c, e1, ho, hb⟩ => ⟨A, n, c, e1, ho, hb, h.next hb⟩
/-- Raw writes under way: those of rest are still to be done. -/
structure RunR (w0 : World) (R : Nat) (S T : Nat → Prop) (wT : World) (os : List Ro) (d0 : DK) (M m : Nat) (rest : List Ro) (d : DK) (wi : World) : Prop where
  on : OnR w0 R S T wT d wi
  pow : True
  fit : d.fit M m
  run : runs os d0 = runs rest d
/-- One of them has answered an error. -/
def FailR (w0 : World) (R : Nat) (S T : Nat → Prop) (wT : World) (os : List Ro) (d0 : DK) (x : Int) (w' : World) : Prop := ∃ d', OnR w0 R S T wT d' w' ∧ runs os d0 = (x, d')
/-- What a raw write leaves. -/
def StepR (w0 : World) (R : Nat) (S T : Nat → Prop) (wT : World) (os : List Ro) (d0 : DK) (M m : Nat) (o : Ro) (rest : List Ro) (d : DK) (e : Ending) (w' : World) : Prop :=
  (∃ x, x ≠ 0 ∧ (x != 0) = true ∧ e = .returned (.int .i64 x) ∧ FailR w0 R S T wT os d0 x w') ∨
  (e = .returned (.int .i64 0) ∧ ∃ d', RunR w0 R S T wT os d0 (M + o.len) (m + 1) rest d' w' ∧ ∀ g, (g = 0 ∨ g = 1) → g ≠ o.at_ → d'.get g = d.get g)
variable {os rest : List Ro} {d0 : DK} {M m : Nat}
theorem RunR.step {o : Ro} (h : RunR w0 R S T wT os d0 M m (o :: rest) d wi) (ho : o.at_ = 0 ∨ o.at_ = 1) {e : Ending} (he : e = .returned (.int .i64 (o.er d))) (k : OnR w0 R S T wT (o.dk d) w') : StepR w0 R S T wT os d0 M m o rest d e w' := by
  by_cases hx : o.er d = 0
  · refine .inr ⟨by rw [he, hx], o.dk d, ⟨k, trivial, Ro.fit h.fit o, h.run.trans (runs_ok hx)⟩, (Ro.keep (Ro.er_on hx) hx ho).2⟩
  · exact .inl ⟨o.er d, hx, by simpa using hx, he, o.dk d, k, h.run.trans (runs_er hx)⟩
theorem RunR.next (h : RunR w0 R S T wT os d0 M m rest d wi) (hb : Below wi.heap.size wi w') : RunR w0 R S T wT os d0 M m rest d w' := ⟨h.on.next hb, h.pow, h.fit, h.run⟩
theorem RunR.app {f : Int} {b : List Int} (h : RunR w0 R S T wT os d0 M m (.A f b :: rest) d wi) (hf : f = 0 ∨ f = 1) (A : Option Addr) (n c : Nat) (hr : Reads wi wi.heap.size 1 A n (bts b)) (hM : M + n ≤ 140737488355328) (hm : m ≤ 4611686018427387904) :
    Calls Tryd.prog 35 #[.pointer (some ⟨R, 0, none⟩), .int .i64 f, .slice A n c] wi (StepR w0 R S T wT os d0 M m (.A f b) rest d) :=
  (h.on.app f A n c b hr M m h.fit hM hm).mono fun e w' k => h.step hf k.1 k.2
theorem RunR.syn {f : Int} (h : RunR w0 R S T wT os d0 M m (.S f :: rest) d wi) (hf : f = 0 ∨ f = 1) (hM : M ≤ 140737488355328) (hm : m ≤ 4611686018427387904) :
    Calls Tryd.prog 36 #[.pointer (some ⟨R, 0, none⟩), .int .i64 f] wi (StepR w0 R S T wT os d0 M m (.S f) rest d) :=
  (h.on.syn f M m h.fit hM hm).mono fun e w' k => h.step hf k.1 k.2
theorem RunR.tru {f n : Int} (h : RunR w0 R S T wT os d0 M m (.T f n :: rest) d wi) (hf : f = 0 ∨ f = 1) (hM : M ≤ 140737488355328) (hm : m ≤ 4611686018427387904) :
    Calls Tryd.prog 40 #[.pointer (some ⟨R, 0, none⟩), .int .i64 f, .int .i64 n] wi (StepR w0 R S T wT os d0 M m (.T f n) rest d) :=
  (h.on.tru f n M m h.fit hM hm).mono fun e w' k => h.step hf k.1 k.2
theorem RunR.all (h : RunR w0 R S T wT os d0 M m rest d wi) (f : Int) (hf : f = 0 ∨ f = 1) (hM : M ≤ 140737488355328) :
    Calls Tryd.prog 48 #[.pointer (some ⟨R, 0, none⟩), .int .i64 f] wi fun e w' => ∃ A n c, e = .returned (.slice A n c) ∧ (d.get f).all.length = n ∧ RunR w0 R S T wT os d0 M m rest d w' :=
  (h.on.all f hf M m h.fit hM).mono fun e w' ⟨A, n, c, e1, ho, hb, k⟩ => ⟨A, n, c, e1, (own_len ho).1, k, h.pow, h.fit, h.run⟩
theorem RunR.cell {p : Addr} {v : Value} (h : RunR w0 R S T wT os d0 M m rest d wi) (hT : T p.block) (hc : wT.cell? p = some v) : wi.cell? p = some v := (World.cell?_of_block (h.on.stay.2 _ hT)).trans hc
end
end Go.Proofs.YtnpmccekkjadhaaDoor.Pk
