/- The document's disk: Append, Sync. -/
import Derived.Test.YtgocfkjibcokjaaDkRef3
namespace Go.Proofs.Ytgocfkjibcokjaa.Pk
open Go.RowKit Go.Proofs.Ytgocfkjibcokjaa.Dk Go.Proofs.Ytgocfkjibcokjaa.Ar
set_option linter.unusedVariables false

theorem no_cases {d : DK} {f : Int} (hf : ¬ (f = 0 ∨ f = 1)) : d.no f = 1 := by unfold DK.no; rw [if_neg hf]
set_option maxHeartbeats 6400000 in
theorem append_ref (R : Nat) (f : Int) (A : Option Addr) (n c : Nat) (b : List Int) (d : DK) (S : Nat → Prop) (w : World) (h : DkR w R d S) (hr : Reads w w.heap.size 1 A n (bts b)) (M m : Nat) (hfit : d.fit M m) (hM : M + n ≤ 140737488355328) (hm : m ≤ 4611686018427387904) :
    Calls Try.prog 49 #[.pointer (some ⟨R, 0, none⟩), .int .i64 f, .slice A n c] w (AftR R (d.app f b) S w (.int .i64 (d.appE f))) := by
  have HR := Lib.hid hr
  have HBl : b.length = n := by have := hr.1; simpa using this
  by_cases hf : f = 0 ∨ f = 1
  rotate_left
  · have tn0 : (f != 0) = true := by simp only [bne_iff_ne]; exact fun e => hf (.inl e)
    have tn1 : (f != 1) = true := by simp only [bne_iff_ne]; exact fun e => hf (.inr e)
    have HD : Hid (d.app f b = d ∧ d.appE f = 1) := Lib.hid (by
      have h1 := no_cases (d := d) hf
      unfold DK.app DK.appE
      rw [h1]; exact ⟨rfl, rfl⟩)
    have H := Lib.hid h
    clear h hf
    go_enter Try.func49, Try.ntmps49
    go_wp2
    go_ret
    rw [HD.out.1, HD.out.2]
    exact AftR.same H.out
  obtain ⟨⟨sa, wa⟩, ⟨sb, wb⟩, on, cnt, left, keep⟩ := d
  have H := Lib.hid h
  have HFit := Lib.hid hfit
  have c4 : w.cell? ⟨R, 4, none⟩ = some (.bool on) := by obtain ⟨v, hbk, hv, rfl⟩ := h; rw [hbk.cell]; rfl
  cases on with
  | false =>
    clear h
    rcases hf with rfl | rfl
    all_goals
      go_enter Try.func49, Try.ntmps49
      go_wp2
      go_ret
      exact AftR.same H.out
  | true =>
    have la : sa.length + wa.length + n ≤ 140737488355328 := by have := hfit.l0; simp [FL.all] at this; omega
    have lb : sb.length + wb.length + n ≤ 140737488355328 := by have := hfit.l1; simp [FL.all] at this; omega
    clear hfit
    obtain ⟨v, hbk, hv, rfl⟩ := h
    have HB := Lib.hid hbk
    have HV := Lib.hid hv
    rcases hf with rfl | rfl
    · obtain ⟨Aw, nw, cw, ew, hlw, hcw, hrw, _⟩ := hv.rd 2 (by omega)
      replace hlw : wa.length = nw := hlw
      replace hrw : Reads w w.heap.size 1 Aw nw (bts wa) := hrw
      have x2 : w.cell? ⟨R, 2, none⟩ = some (.slice Aw nw cw) := by rw [hbk.cell, ← ew]; rfl
      have z2 : (w.alloc (Obj.cells #[] 5)).cell? ⟨R, 2, none⟩ = some (.slice Aw nw cw) := (World.cell?_alloc_lt w _ ⟨R, 2, none⟩ hbk.lt).trans x2
      have f2 : w.frozen? ⟨R, 2, none⟩ = false := hbk.frozen 2
      have HRw := Lib.hid hrw
      have hl2 : nw + n ≤ 140737488355328 := by omega
      have HLw := Lib.hid hlw
      clear hbk hv hlw hrw hcw ew hr
      go_enter Try.func49, Try.ntmps49
      go_wp2_with fail
      go_region_law (first
        | (refine stepE _ w.heap.size rfl (.tmp 20) (.tmp 26) rfl rfl (OwnB.fresh _ _ (Nat.le_refl _)) w.heap.size Aw cw wa nw rfl (HRw.out.alloc (Nat.le_refl _) _) (by omega) (by simp) ?_; intro A10 n10 c10 w10 hown10 hb10; have hb10' : Below w.heap.size w w10 := (below_drew_alloc w _).trans hb10; have y2 : w10.cell? ⟨R, 2, none⟩ = some (.slice Aw nw cw) := (hb10'.cell (p := ⟨R, 2, none⟩) HB.out.lt).trans x2; have g2 : w10.frozen? ⟨R, 2, none⟩ = false := (HB.out.below hb10' HB.out.lt).frozen 2; have HW10 := Lib.hid hown10; have HB10 := Lib.hid hb10'; clear hown10 hb10 hb10')
        | (refine stepB w10 rfl (.tmp 27) (.tmp 28) rfl w.heap.size (.slice A10 n10 c10) wa rfl HW10.out w.heap.size A c b n rfl (HR.out.below HB10.out) (by rw [HLw.out]; omega) HB10.out.size ?_; intro A11 n11 c11 w11 hown11 hg11 hat11; have hb11 := HB10.out.grown hg11 HB10.out.size (own_base HW10.out); have y2 : w11.cell? ⟨R, 2, none⟩ = some (.slice Aw nw cw) := (hb11.cell (p := ⟨R, 2, none⟩) HB.out.lt).trans x2; have g2 : w11.frozen? ⟨R, 2, none⟩ = false := (HB.out.below hb11 HB.out.lt).frozen 2; have HB11 := Lib.hid hb11; have HW11 := Lib.hid hown11; clear hown11 hg11 hat11 hb11))
      all_goals
        have P := RefV.put (k := 2) (d' := ⟨⟨sa, wa ++ b⟩, ⟨sb, wb⟩, true, cnt, left, keep⟩) HB.out HV.out (by omega) (grown_of_below HB11.out _) (RefS.own HW11.out) HW11.out.lt (fun g e => .inr (HW11.out.base g e)) (four rfl rfl rfl rfl) ⟨rfl, rfl, rfl, rfl⟩
        have HP := Lib.hid P
        clear P
        go_wp2_with fail
        refine (raw_ref R _ _ _ HP.out.1 (Nat.le_trans HFit.out.c hm) HFit.out.a).mono ?_
        rintro e w12 ⟨rfl, S12, h12, t12, g12⟩
        have H12 := Lib.hid h12
        have T12 := Lib.hid (HP.out.2.1.also HP.out.2.2 t12)
        have G12 := Lib.hid (HP.out.2.2.trans g12 HP.out.2.1.size)
        clear h12 t12 g12
        by_cases h1 : left = 1
        · subst h1
          have c7 : w12.cell? ⟨R, 7, none⟩ = some (.int .i64 keep) := by obtain ⟨v, hbk, hv, _⟩ := H12.out; rw [hbk.cell]; rfl
          have td : decide ((1 : Nat) = 1) = true := rfl
          go_wp2_with fail
          refine (off_ref R keep _ _ _ H12.out (by simp [DK.count, FL.all]; omega) (by simp [DK.count, FL.all]; omega)).mono ?_
          rintro e w13 ⟨rfl, S13, h13, t13, g13⟩
          have H13 := Lib.hid h13
          have T13 := Lib.hid (T12.out.also G12.out t13)
          have G13 := Lib.hid (G12.out.trans g13 T12.out.size)
          clear h13 t13 g13
          go_wp2
          go_ret
          exact ⟨rfl, S13, H13.out, T13.out, G13.out⟩
        · have td : decide (left = 1) = false := decide_eq_false h1
          have HD : Hid (DK.app ⟨⟨sa, wa⟩, ⟨sb, wb⟩, true, cnt, left, keep⟩ 0 b = DK.count ⟨⟨sa, wa ++ b⟩, ⟨sb, wb⟩, true, cnt, left, keep⟩ ∧ DK.appE ⟨⟨sa, wa⟩, ⟨sb, wb⟩, true, cnt, left, keep⟩ 0 = 0) := Lib.hid ⟨if_neg h1, if_neg h1⟩
          clear h1
          go_wp2
          go_ret
          rw [HD.out.1, HD.out.2]
          exact ⟨rfl, S12, H12.out, T12.out, G12.out⟩
    · obtain ⟨Aw, nw, cw, ew, hlw, hcw, hrw, _⟩ := hv.rd 3 (by omega)
      replace hlw : wb.length = nw := hlw
      replace hrw : Reads w w.heap.size 1 Aw nw (bts wb) := hrw
      have x2 : w.cell? ⟨R, 3, none⟩ = some (.slice Aw nw cw) := by rw [hbk.cell, ← ew]; rfl
      have z2 : (w.alloc (Obj.cells #[] 5)).cell? ⟨R, 3, none⟩ = some (.slice Aw nw cw) := (World.cell?_alloc_lt w _ ⟨R, 3, none⟩ hbk.lt).trans x2
      have f2 : w.frozen? ⟨R, 3, none⟩ = false := hbk.frozen 3
      have HRw := Lib.hid hrw
      have hl2 : nw + n ≤ 140737488355328 := by omega
      have HLw := Lib.hid hlw
      clear hbk hv hlw hrw hcw ew hr
      go_enter Try.func49, Try.ntmps49
      go_wp2_with fail
      go_region_law (first
        | (refine stepE _ w.heap.size rfl (.tmp 20) (.tmp 26) rfl rfl (OwnB.fresh _ _ (Nat.le_refl _)) w.heap.size Aw cw wb nw rfl (HRw.out.alloc (Nat.le_refl _) _) (by omega) (by simp) ?_; intro A10 n10 c10 w10 hown10 hb10; have hb10' : Below w.heap.size w w10 := (below_drew_alloc w _).trans hb10; have y2 : w10.cell? ⟨R, 3, none⟩ = some (.slice Aw nw cw) := (hb10'.cell (p := ⟨R, 3, none⟩) HB.out.lt).trans x2; have g2 : w10.frozen? ⟨R, 3, none⟩ = false := (HB.out.below hb10' HB.out.lt).frozen 3; have HW10 := Lib.hid hown10; have HB10 := Lib.hid hb10'; clear hown10 hb10 hb10')
        | (refine stepB w10 rfl (.tmp 27) (.tmp 28) rfl w.heap.size (.slice A10 n10 c10) wb rfl HW10.out w.heap.size A c b n rfl (HR.out.below HB10.out) (by rw [HLw.out]; omega) HB10.out.size ?_; intro A11 n11 c11 w11 hown11 hg11 hat11; have hb11 := HB10.out.grown hg11 HB10.out.size (own_base HW10.out); have y2 : w11.cell? ⟨R, 3, none⟩ = some (.slice Aw nw cw) := (hb11.cell (p := ⟨R, 3, none⟩) HB.out.lt).trans x2; have g2 : w11.frozen? ⟨R, 3, none⟩ = false := (HB.out.below hb11 HB.out.lt).frozen 3; have HB11 := Lib.hid hb11; have HW11 := Lib.hid hown11; clear hown11 hg11 hat11 hb11))
      all_goals
        have P := RefV.put (k := 3) (d' := ⟨⟨sa, wa⟩, ⟨sb, wb ++ b⟩, true, cnt, left, keep⟩) HB.out HV.out (by omega) (grown_of_below HB11.out _) (RefS.own HW11.out) HW11.out.lt (fun g e => .inr (HW11.out.base g e)) (four rfl rfl rfl rfl) ⟨rfl, rfl, rfl, rfl⟩
        have HP := Lib.hid P
        clear P
        go_wp2_with fail
        refine (raw_ref R _ _ _ HP.out.1 (Nat.le_trans HFit.out.c hm) HFit.out.a).mono ?_
        rintro e w12 ⟨rfl, S12, h12, t12, g12⟩
        have H12 := Lib.hid h12
        have T12 := Lib.hid (HP.out.2.1.also HP.out.2.2 t12)
        have G12 := Lib.hid (HP.out.2.2.trans g12 HP.out.2.1.size)
        clear h12 t12 g12
        by_cases h1 : left = 1
        · subst h1
          have c7 : w12.cell? ⟨R, 7, none⟩ = some (.int .i64 keep) := by obtain ⟨v, hbk, hv, _⟩ := H12.out; rw [hbk.cell]; rfl
          have td : decide ((1 : Nat) = 1) = true := rfl
          go_wp2_with fail
          refine (off_ref R keep _ _ _ H12.out (by simp [DK.count, FL.all]; omega) (by simp [DK.count, FL.all]; omega)).mono ?_
          rintro e w13 ⟨rfl, S13, h13, t13, g13⟩
          have H13 := Lib.hid h13
          have T13 := Lib.hid (T12.out.also G12.out t13)
          have G13 := Lib.hid (G12.out.trans g13 T12.out.size)
          clear h13 t13 g13
          go_wp2
          go_ret
          exact ⟨rfl, S13, H13.out, T13.out, G13.out⟩
        · have td : decide (left = 1) = false := decide_eq_false h1
          have HD : Hid (DK.app ⟨⟨sa, wa⟩, ⟨sb, wb⟩, true, cnt, left, keep⟩ 1 b = DK.count ⟨⟨sa, wa⟩, ⟨sb, wb ++ b⟩, true, cnt, left, keep⟩ ∧ DK.appE ⟨⟨sa, wa⟩, ⟨sb, wb⟩, true, cnt, left, keep⟩ 1 = 0) := Lib.hid ⟨if_neg h1, if_neg h1⟩
          clear h1
          go_wp2
          go_ret
          rw [HD.out.1, HD.out.2]
          exact ⟨rfl, S12, H12.out, T12.out, G12.out⟩

set_option maxHeartbeats 6400000 in
theorem sync_ref (R : Nat) (f : Int) (d : DK) (S : Nat → Prop) (w : World) (h : DkR w R d S) (M m : Nat) (hfit : d.fit M m) (hM : M ≤ 140737488355328) (hm : m ≤ 4611686018427387904) :
    Calls Try.prog 50 #[.pointer (some ⟨R, 0, none⟩), .int .i64 f] w (AftR R (d.syn f) S w (.int .i64 (d.appE f))) := by
  by_cases hf : f = 0 ∨ f = 1
  rotate_left
  · have tn0 : (f != 0) = true := by simp only [bne_iff_ne]; exact fun e => hf (.inl e)
    have tn1 : (f != 1) = true := by simp only [bne_iff_ne]; exact fun e => hf (.inr e)
    have HD : Hid (d.syn f = d ∧ d.appE f = 1) := Lib.hid (by
      have h1 := no_cases (d := d) hf
      unfold DK.syn DK.appE
      rw [h1]; exact ⟨rfl, rfl⟩)
    have H := Lib.hid h
    clear h hf
    go_enter Try.func50, Try.ntmps50
    go_wp2
    go_ret
    rw [HD.out.1, HD.out.2]
    exact AftR.same H.out
  obtain ⟨⟨sa, wa⟩, ⟨sb, wb⟩, on, cnt, left, keep⟩ := d
  have H := Lib.hid h
  have HFit := Lib.hid hfit
  have c4 : w.cell? ⟨R, 4, none⟩ = some (.bool on) := by obtain ⟨v, hbk, hv, rfl⟩ := h; rw [hbk.cell]; rfl
  clear h
  cases on with
  | false =>
    rcases hf with rfl | rfl
    all_goals
      go_enter Try.func50, Try.ntmps50
      go_wp2
      go_ret
      exact AftR.same H.out
  | true =>
    have la : sa.length + wa.length ≤ 140737488355328 := by have := hfit.l0; simp [FL.all] at this; omega
    have lb : sb.length + wb.length ≤ 140737488355328 := by have := hfit.l1; simp [FL.all] at this; omega
    clear hfit
    rcases hf with rfl | rfl
    · go_enter Try.func50, Try.ntmps50
      go_wp2_with fail
      refine (raw_ref R _ _ _ H.out (Nat.le_trans HFit.out.c hm) HFit.out.a).mono ?_
      rintro e w12 ⟨rfl, S12, h12, t12, g12⟩
      have H12 := Lib.hid h12
      have T12 := Lib.hid t12
      have G12 := Lib.hid g12
      clear h12 t12 g12 c4
      by_cases h1 : left = 1
      · subst h1
        have c7 : w12.cell? ⟨R, 7, none⟩ = some (.int .i64 keep) := by obtain ⟨v, hbk, hv, _⟩ := H12.out; rw [hbk.cell]; rfl
        have td : decide ((1 : Nat) = 1) = true := rfl
        go_wp2_with fail
        refine (off_ref R keep _ _ _ H12.out (by simp [DK.count, FL.all]; omega) (by simp [DK.count, FL.all]; omega)).mono ?_
        rintro e w13 ⟨rfl, S13, h13, t13, g13⟩
        have H13 := Lib.hid h13
        have T13 := Lib.hid (T12.out.also G12.out t13)
        have G13 := Lib.hid (G12.out.trans g13 T12.out.size)
        clear h13 t13 g13
        go_wp2
        go_ret
        exact ⟨rfl, S13, H13.out, T13.out, G13.out⟩
      · have td : decide (left = 1) = false := decide_eq_false h1
        have HD : Hid (DK.syn ⟨⟨sa, wa⟩, ⟨sb, wb⟩, true, cnt, left, keep⟩ 0 = ⟨⟨sa ++ wa, []⟩, ⟨sb, wb⟩, true, cnt + 1, left - 1, keep⟩ ∧ DK.appE ⟨⟨sa, wa⟩, ⟨sb, wb⟩, true, cnt, left, keep⟩ 0 = 0) := Lib.hid (by
          constructor
          · show (if left = 1 then _ else DK.put (DK.raw _) _ _) = _
            rw [if_neg h1]
            unfold DK.raw
            rw [if_neg h1]
            rfl
          · exact if_neg h1)
        clear h1
        obtain ⟨v, hbk, hv, hS⟩ := H12.out
        have HB := Lib.hid hbk
        have HV := Lib.hid hv
        subst hS
        obtain ⟨As, ns, cs, es, hls, hcs, hrs, _⟩ := hv.rd 0 (by omega)
        obtain ⟨Aw, nw, cw, ew, hlw, hcw, hrw, _⟩ := hv.rd 2 (by omega)
        replace hls : sa.length = ns := hls
        replace hrs : Reads w12 w12.heap.size 1 As ns (bts sa) := hrs
        replace hlw : wa.length = nw := hlw
        replace hrw : Reads w12 w12.heap.size 1 Aw nw (bts wa) := hrw
        have x1 : w12.cell? ⟨R, 0, none⟩ = some (.slice As ns cs) := by rw [hbk.cell, ← es]; rfl
        have z1 : (w12.alloc (Obj.cells #[] 5)).cell? ⟨R, 0, none⟩ = some (.slice As ns cs) := (World.cell?_alloc_lt w12 _ ⟨R, 0, none⟩ hbk.lt).trans x1
        have f1 : w12.frozen? ⟨R, 0, none⟩ = false := hbk.frozen 0
        have x2 : w12.cell? ⟨R, 2, none⟩ = some (.slice Aw nw cw) := by rw [hbk.cell, ← ew]; rfl
        have z2 : (w12.alloc (Obj.cells #[] 5)).cell? ⟨R, 2, none⟩ = some (.slice Aw nw cw) := (World.cell?_alloc_lt w12 _ ⟨R, 2, none⟩ hbk.lt).trans x2
        have HRs := Lib.hid hrs
        have HRw := Lib.hid hrw
        have hl2 : ns + nw ≤ 140737488355328 := by omega
        have HLs := Lib.hid hls
        clear hbk hv hls hrs hcs es hlw hrw hcw ew
        go_wp2_with fail
        go_region_law (first
          | (refine stepE _ w12.heap.size rfl (.tmp 26) (.tmp 32) rfl rfl (OwnB.fresh _ _ (Nat.le_refl _)) w12.heap.size As cs sa ns rfl (HRs.out.alloc (Nat.le_refl _) _) (by omega) (by simp) ?_; intro A10 n10 c10 w10 hown10 hb10; have hb10' : Below w12.heap.size w12 w10 := (below_drew_alloc w12 _).trans hb10; have y1 : w10.cell? ⟨R, 0, none⟩ = some (.slice As ns cs) := (hb10'.cell (p := ⟨R, 0, none⟩) HB.out.lt).trans x1; have y2 : w10.cell? ⟨R, 2, none⟩ = some (.slice Aw nw cw) := (hb10'.cell (p := ⟨R, 2, none⟩) HB.out.lt).trans x2; have HW10 := Lib.hid hown10; have HB10 := Lib.hid hb10'; clear hown10 hb10 hb10')
          | (refine stepB w10 rfl (.tmp 33) (.tmp 39) rfl w12.heap.size (.slice A10 n10 c10) sa rfl HW10.out w12.heap.size Aw cw wa nw rfl (HRw.out.below HB10.out) (by rw [HLs.out]; omega) HB10.out.size ?_; intro A11 n11 c11 w11 hown11 hg11 hat11; have hb11 := HB10.out.grown hg11 HB10.out.size (own_base HW10.out); have u1 : w11.cell? ⟨R, 0, none⟩ = some (.slice As ns cs) := (hb11.cell (p := ⟨R, 0, none⟩) HB.out.lt).trans x1; have g1 : w11.frozen? ⟨R, 0, none⟩ = false := (HB.out.below hb11 HB.out.lt).frozen 0; have u2 : w11.cell? ⟨R, 2, none⟩ = some (.slice Aw nw cw) := (hb11.cell (p := ⟨R, 2, none⟩) HB.out.lt).trans x2; have g2 : w11.frozen? ⟨R, 2, none⟩ = false := (HB.out.below hb11 HB.out.lt).frozen 2; have HB11 := Lib.hid hb11; have HW11 := Lib.hid hown11; clear hown11 hg11 hat11 hb11))
        all_goals
          have P := RefV.put (k := 0) (d' := ⟨⟨sa ++ wa, wa⟩, ⟨sb, wb⟩, true, cnt + 1, left - 1, keep⟩) HB.out HV.out (by omega) (grown_of_below HB11.out _) (RefS.own HW11.out) HW11.out.lt (fun g e => .inr (HW11.out.base g e)) (four rfl rfl rfl rfl) ⟨rfl, rfl, rfl, rfl⟩
          have HP := Lib.hid P
          have HP13 := P.1
          obtain ⟨v3, hbk3, hv3, hS3⟩ := HP13
          have P2 := RefV.put (k := 2) (w1 := w11.setCell ⟨R, 0, none⟩ (.slice A11 n11 c11)) (u := .slice none 0 0) (l := []) (d' := ⟨⟨sa ++ wa, []⟩, ⟨sb, wb⟩, true, cnt + 1, left - 1, keep⟩) hbk3 hv3 (by omega) (grown_of_below (Below.refl _ _) _) (RefS.nil_ _) (fun g e => by simp [Value.ownBlock] at e) (fun g e => by simp [Value.ownBlock] at e) (four rfl rfl rfl rfl) ⟨rfl, rfl, rfl, rfl⟩
          rw [← hS3] at P2
          have HP2 := Lib.hid P2
          clear P P2 hbk3 hv3 hS3
          go_wp2
          go_ret
          rw [HD.out.1, HD.out.2]
          exact ⟨rfl, _, HP2.out.1, (T12.out.also G12.out HP.out.2.1).also (G12.out.trans HP.out.2.2 T12.out.size) HP2.out.2.1, (G12.out.trans HP.out.2.2 T12.out.size).trans HP2.out.2.2 (T12.out.also G12.out HP.out.2.1).size⟩
    · go_enter Try.func50, Try.ntmps50
      go_wp2_with fail
      refine (raw_ref R _ _ _ H.out (Nat.le_trans HFit.out.c hm) HFit.out.a).mono ?_
      rintro e w12 ⟨rfl, S12, h12, t12, g12⟩
      have H12 := Lib.hid h12
      have T12 := Lib.hid t12
      have G12 := Lib.hid g12
      clear h12 t12 g12 c4
      by_cases h1 : left = 1
      · subst h1
        have c7 : w12.cell? ⟨R, 7, none⟩ = some (.int .i64 keep) := by obtain ⟨v, hbk, hv, _⟩ := H12.out; rw [hbk.cell]; rfl
        have td : decide ((1 : Nat) = 1) = true := rfl
        go_wp2_with fail
        refine (off_ref R keep _ _ _ H12.out (by simp [DK.count, FL.all]; omega) (by simp [DK.count, FL.all]; omega)).mono ?_
        rintro e w13 ⟨rfl, S13, h13, t13, g13⟩
        have H13 := Lib.hid h13
        have T13 := Lib.hid (T12.out.also G12.out t13)
        have G13 := Lib.hid (G12.out.trans g13 T12.out.size)
        clear h13 t13 g13
        go_wp2
        go_ret
        exact ⟨rfl, S13, H13.out, T13.out, G13.out⟩
      · have td : decide (left = 1) = false := decide_eq_false h1
        have HD : Hid (DK.syn ⟨⟨sa, wa⟩, ⟨sb, wb⟩, true, cnt, left, keep⟩ 1 = ⟨⟨sa, wa⟩, ⟨sb ++ wb, []⟩, true, cnt + 1, left - 1, keep⟩ ∧ DK.appE ⟨⟨sa, wa⟩, ⟨sb, wb⟩, true, cnt, left, keep⟩ 1 = 0) := Lib.hid (by
          constructor
          · show (if left = 1 then _ else DK.put (DK.raw _) _ _) = _
            rw [if_neg h1]
            unfold DK.raw
            rw [if_neg h1]
            rfl
          · exact if_neg h1)
        clear h1
        obtain ⟨v, hbk, hv, hS⟩ := H12.out
        have HB := Lib.hid hbk
        have HV := Lib.hid hv
        subst hS
        obtain ⟨As, ns, cs, es, hls, hcs, hrs, _⟩ := hv.rd 1 (by omega)
        obtain ⟨Aw, nw, cw, ew, hlw, hcw, hrw, _⟩ := hv.rd 3 (by omega)
        replace hls : sb.length = ns := hls
        replace hrs : Reads w12 w12.heap.size 1 As ns (bts sb) := hrs
        replace hlw : wb.length = nw := hlw
        replace hrw : Reads w12 w12.heap.size 1 Aw nw (bts wb) := hrw
        have x1 : w12.cell? ⟨R, 1, none⟩ = some (.slice As ns cs) := by rw [hbk.cell, ← es]; rfl
        have z1 : (w12.alloc (Obj.cells #[] 5)).cell? ⟨R, 1, none⟩ = some (.slice As ns cs) := (World.cell?_alloc_lt w12 _ ⟨R, 1, none⟩ hbk.lt).trans x1
        have f1 : w12.frozen? ⟨R, 1, none⟩ = false := hbk.frozen 1
        have x2 : w12.cell? ⟨R, 3, none⟩ = some (.slice Aw nw cw) := by rw [hbk.cell, ← ew]; rfl
        have z2 : (w12.alloc (Obj.cells #[] 5)).cell? ⟨R, 3, none⟩ = some (.slice Aw nw cw) := (World.cell?_alloc_lt w12 _ ⟨R, 3, none⟩ hbk.lt).trans x2
        have HRs := Lib.hid hrs
        have HRw := Lib.hid hrw
        have hl2 : ns + nw ≤ 140737488355328 := by omega
        have HLs := Lib.hid hls
        clear hbk hv hls hrs hcs es hlw hrw hcw ew
        go_wp2_with fail
        go_region_law (first
          | (refine stepE _ w12.heap.size rfl (.tmp 26) (.tmp 32) rfl rfl (OwnB.fresh _ _ (Nat.le_refl _)) w12.heap.size As cs sb ns rfl (HRs.out.alloc (Nat.le_refl _) _) (by omega) (by simp) ?_; intro A10 n10 c10 w10 hown10 hb10; have hb10' : Below w12.heap.size w12 w10 := (below_drew_alloc w12 _).trans hb10; have y1 : w10.cell? ⟨R, 1, none⟩ = some (.slice As ns cs) := (hb10'.cell (p := ⟨R, 1, none⟩) HB.out.lt).trans x1; have y2 : w10.cell? ⟨R, 3, none⟩ = some (.slice Aw nw cw) := (hb10'.cell (p := ⟨R, 3, none⟩) HB.out.lt).trans x2; have HW10 := Lib.hid hown10; have HB10 := Lib.hid hb10'; clear hown10 hb10 hb10')
          | (refine stepB w10 rfl (.tmp 33) (.tmp 39) rfl w12.heap.size (.slice A10 n10 c10) sb rfl HW10.out w12.heap.size Aw cw wb nw rfl (HRw.out.below HB10.out) (by rw [HLs.out]; omega) HB10.out.size ?_; intro A11 n11 c11 w11 hown11 hg11 hat11; have hb11 := HB10.out.grown hg11 HB10.out.size (own_base HW10.out); have u1 : w11.cell? ⟨R, 1, none⟩ = some (.slice As ns cs) := (hb11.cell (p := ⟨R, 1, none⟩) HB.out.lt).trans x1; have g1 : w11.frozen? ⟨R, 1, none⟩ = false := (HB.out.below hb11 HB.out.lt).frozen 1; have u2 : w11.cell? ⟨R, 3, none⟩ = some (.slice Aw nw cw) := (hb11.cell (p := ⟨R, 3, none⟩) HB.out.lt).trans x2; have g2 : w11.frozen? ⟨R, 3, none⟩ = false := (HB.out.below hb11 HB.out.lt).frozen 3; have HB11 := Lib.hid hb11; have HW11 := Lib.hid hown11; clear hown11 hg11 hat11 hb11))
        all_goals
          have P := RefV.put (k := 1) (d' := ⟨⟨sa, wa⟩, ⟨sb ++ wb, wb⟩, true, cnt + 1, left - 1, keep⟩) HB.out HV.out (by omega) (grown_of_below HB11.out _) (RefS.own HW11.out) HW11.out.lt (fun g e => .inr (HW11.out.base g e)) (four rfl rfl rfl rfl) ⟨rfl, rfl, rfl, rfl⟩
          have HP := Lib.hid P
          have HP13 := P.1
          obtain ⟨v3, hbk3, hv3, hS3⟩ := HP13
          have P2 := RefV.put (k := 3) (w1 := w11.setCell ⟨R, 1, none⟩ (.slice A11 n11 c11)) (u := .slice none 0 0) (l := []) (d' := ⟨⟨sa, wa⟩, ⟨sb ++ wb, []⟩, true, cnt + 1, left - 1, keep⟩) hbk3 hv3 (by omega) (grown_of_below (Below.refl _ _) _) (RefS.nil_ _) (fun g e => by simp [Value.ownBlock] at e) (fun g e => by simp [Value.ownBlock] at e) (four rfl rfl rfl rfl) ⟨rfl, rfl, rfl, rfl⟩
          rw [← hS3] at P2
          have HP2 := Lib.hid P2
          clear P P2 hbk3 hv3 hS3
          go_wp2
          go_ret
          rw [HD.out.1, HD.out.2]
          exact ⟨rfl, _, HP2.out.1, (T12.out.also G12.out HP.out.2.1).also (G12.out.trans HP.out.2.2 T12.out.size) HP2.out.2.1, (G12.out.trans HP.out.2.2 T12.out.size).trans HP2.out.2.2 (T12.out.also G12.out HP.out.2.1).size⟩
end Go.Proofs.Ytgocfkjibcokjaa.Pk
