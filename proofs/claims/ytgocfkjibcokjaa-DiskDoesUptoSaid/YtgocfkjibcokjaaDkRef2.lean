/- The document's disk: raw, Arm, All. -/
import Derived.Test.YtgocfkjibcokjaaDkRef
import Derived.Deep.RegionLaw
namespace Go.Proofs.Ytgocfkjibcokjaa.Pk
open Go.RowKit Go.Proofs.Ytgocfkjibcokjaa.Dk Go.Proofs.Ytgocfkjibcokjaa.Ar
set_option linter.unusedVariables false

theorem DkR.blk {w w' : World} {R : Nat} {d d' : DK} {v : Nat → Value} (hb : Blk w R 60 (rcs v d)) (h : RefV w R v (rl d)) (hs : w'.heap.size = w.heap.size) (hk : ∀ b, b ≠ R → w'.heap[b]? = w.heap[b]?) (hb' : Blk w' R 60 (rcs v d')) (hl : rl d' = rl d) : DkR w' R d' (rbl R v) :=
  ⟨v, hb', hl ▸ h.stay (by omega) fun k g hk4 e => hk g (fun e2 => h.ne k hk4 (e2 ▸ e)), rfl⟩
set_option maxHeartbeats 800000 in
theorem raw_ref (R : Nat) (d : DK) (S : Nat → Prop) (w : World) (h : DkR w R d S) (hc : d.cnt ≤ 4611686018427387904) (ha : d.left ≤ 9223372036854775807) :
    Calls Try.prog 60 #[.pointer (some ⟨R, 0, none⟩)] w (AftR R d.count S w (.bool (decide (d.left = 1)))) := by
  have HS : Hid (S R) := Lib.hid h.self
  obtain ⟨f0, f1, on, cnt, left, keep⟩ := d
  have H := Lib.hid h
  obtain ⟨v, hbk, hv, rfl⟩ := h
  have c5 : w.cell? ⟨R, 5, none⟩ = some (.int .i64 (cnt : Int)) := by rw [hbk.cell]; rfl
  have e5 : w.frozen? ⟨R, 5, none⟩ = false := hbk.frozen 5
  have c6 : w.cell? ⟨R, 6, none⟩ = some (.int .i64 (left : Int)) := by rw [hbk.cell]; rfl
  have e6 : w.frozen? ⟨R, 6, none⟩ = false := hbk.frozen 6
  simp only at hc ha
  have hcn : DkR (w.setCell ⟨R, 5, none⟩ (.int .i64 ((cnt : Int) + 1))) R ⟨f0, f1, on, cnt + 1, left, keep⟩ (rbl R v) := H.out.num 5 _ rfl (fun v => rfl)
  have HC := Lib.hid hcn
  clear hbk hv hcn
  by_cases h0 : left = 0
  · subst h0
    go_enter Try.func60, Try.ntmps60
    go_wp2
    go_ret
    exact ⟨rfl, _, HC.out, (Turned.refl _ _).set HS.out _, From.refl _ _⟩
  have t0 : ((left : Int) == 0) = false := beq_eq_false_iff_ne.2 (by omega)
  have hln : DkR ((w.setCell ⟨R, 5, none⟩ (.int .i64 ((cnt : Int) + 1))).setCell ⟨R, 6, none⟩ (.int .i64 ((left : Int) - 1))) R ⟨f0, f1, on, cnt + 1, left - 1, keep⟩ (rbl R v) := HC.out.num 6 _ rfl (fun v => by
    have e : ((left - 1 : Nat) : Int) = (left : Int) - 1 := by omega
    simp only [rcs, e]
    rfl)
  have HLn := Lib.hid hln
  clear hln
  by_cases h1 : left = 1
  · subst h1
    go_enter Try.func60, Try.ntmps60
    go_wp2
    go_ret
    exact ⟨rfl, _, HLn.out, ((Turned.refl _ _).set HS.out _).set HS.out _, From.refl _ _⟩
  have t1 : ((left : Int) - 1 == 0) = false := beq_eq_false_iff_ne.2 (by omega)
  have HE : Hid (decide (left = 1) = false) := Lib.hid (decide_eq_false h1)
  clear h1
  go_enter Try.func60, Try.ntmps60
  go_wp2
  go_ret
  rw [HE.out]
  exact ⟨rfl, _, HLn.out, ((Turned.refl _ _).set HS.out _).set HS.out _, From.refl _ _⟩

set_option maxHeartbeats 800000 in
theorem arm_ref (R : Nat) (n k : Int) (d : DK) (S : Nat → Prop) (w : World) (h : DkR w R d S) :
    Calls Try.prog 52 #[.pointer (some ⟨R, 0, none⟩), .int .i64 n, .int .i64 k] w (AftR R (d.arm n k) S w (.tuple #[])) := by
  have HS : Hid (S R) := Lib.hid h.self
  obtain ⟨f0, f1, on, cnt, left, keep⟩ := d
  have H := Lib.hid h
  obtain ⟨v, hbk, hv, rfl⟩ := h
  have c6 : w.cell? ⟨R, 6, none⟩ = some (.int .i64 (left : Int)) := by rw [hbk.cell]; rfl
  have e6 : w.frozen? ⟨R, 6, none⟩ = false := hbk.frozen 6
  have c7 : w.cell? ⟨R, 7, none⟩ = some (.int .i64 keep) := by rw [hbk.cell]; rfl
  have e7 : w.frozen? ⟨R, 7, none⟩ = false := hbk.frozen 7
  have HB := Lib.hid hbk
  have HV := Lib.hid hv
  clear hbk hv
  have far : ∀ (W : World) (i : Nat) (u : Value) (b : Nat), b ≠ R → (W.setCell ⟨R, i, none⟩ u).heap[b]? = W.heap[b]? := fun W i u b hb => Below.heap_setCell W ⟨R, i, none⟩ u b hb
  have HFar := Lib.hid far
  clear far
  by_cases h0 : n < 0
  · have HN : Hid (n.toNat = 0) := Lib.hid (by omega)
    go_enter Try.func52, Try.ntmps52
    go_wp2
    go_end0
    refine ⟨rfl, rbl R v, DkR.blk HB.out HV.out (by simp [World.setCell]) (fun b hb => by rw [HFar.out _ _ _ b hb, HFar.out _ _ _ b hb, HFar.out _ _ _ b hb]) ?_ rfl, (((Turned.refl _ _).set HS.out _).set HS.out _).set HS.out _, From.refl _ _⟩
    have := ((HB.out.set_ 6 (.int .i64 n)).set_ 6 (.int .i64 0)).set_ 7 (.int .i64 k)
    have e : rcs v (DK.arm n k ⟨f0, f1, on, cnt, left, keep⟩) = (((rcs v ⟨f0, f1, on, cnt, left, keep⟩).setIfInBounds 6 (.int .i64 n)).setIfInBounds 6 (.int .i64 0)).setIfInBounds 7 (.int .i64 k) := by
      simp only [DK.arm, HN.out]
      rfl
    rw [e]; exact this
  · have HN : Hid ((n.toNat : Int) = n) := Lib.hid (by omega)
    go_enter Try.func52, Try.ntmps52
    go_wp2
    go_end0
    refine ⟨rfl, rbl R v, DkR.blk HB.out HV.out (by simp [World.setCell]) (fun b hb => by rw [HFar.out _ _ _ b hb, HFar.out _ _ _ b hb]) ?_ rfl, ((Turned.refl _ _).set HS.out _).set HS.out _, From.refl _ _⟩
    have := (HB.out.set_ 6 (.int .i64 n)).set_ 7 (.int .i64 k)
    have e : rcs v (DK.arm n k ⟨f0, f1, on, cnt, left, keep⟩) = ((rcs v ⟨f0, f1, on, cnt, left, keep⟩).setIfInBounds 6 (.int .i64 n)).setIfInBounds 7 (.int .i64 k) := by
      simp only [DK.arm, rcs, HN.out]
      rfl
    rw [e]; exact this

set_option maxHeartbeats 1600000 in
theorem all_ref (R : Nat) (f : Int) (hf : f = 0 ∨ f = 1) (d : DK) (S : Nat → Prop) (w : World) (h : DkR w R d S) (hl0 : d.f0.all.length ≤ 140737488355328) (hl1 : d.f1.all.length ≤ 140737488355328) :
    Calls Try.prog 54 #[.pointer (some ⟨R, 0, none⟩), .int .i64 f] w (SfP (d.get f).all w) := by
  obtain ⟨v, hbk, hv, rfl⟩ := h
  have HB := Lib.hid hbk
  rcases hf with rfl | rfl
  · obtain ⟨As, ns, cs, es, hls, hcs, hrs, _⟩ := hv.rd 0 (by omega)
    obtain ⟨Aw, nw, cw, ew, hlw, hcw, hrw, _⟩ := hv.rd 2 (by omega)
    replace hls : d.f0.s.length = ns := hls
    replace hlw : d.f0.w.length = nw := hlw
    replace hrs : Reads w w.heap.size 1 As ns (bts d.f0.s) := hrs
    replace hrw : Reads w w.heap.size 1 Aw nw (bts d.f0.w) := hrw
    have hlen : ns + nw ≤ 140737488355328 := by rw [FL.all_len] at hl0; omega
    have x1 : w.cell? ⟨R, 0, none⟩ = some (.slice As ns cs) := by rw [hbk.cell, ← es]; rfl
    have x2 : w.cell? ⟨R, 2, none⟩ = some (.slice Aw nw cw) := by rw [hbk.cell, ← ew]; rfl
    have z1 : (w.alloc (Obj.cells #[] 5)).cell? ⟨R, 0, none⟩ = some (.slice As ns cs) := (World.cell?_alloc_lt w _ ⟨R, 0, none⟩ hbk.lt).trans x1
    have z2 : (w.alloc (Obj.cells #[] 5)).cell? ⟨R, 2, none⟩ = some (.slice Aw nw cw) := (World.cell?_alloc_lt w _ ⟨R, 2, none⟩ hbk.lt).trans x2
    have HRs := Lib.hid hrs
    have HRw := Lib.hid hrw
    have HLs := Lib.hid hls
    have HLw := Lib.hid hlw
    clear hbk hv hl0 hl1 hls hlw hrs hrw hcs hcw es ew
    go_enter Try.func54, Try.ntmps54
    go_wp2_with fail
    go_region_law (first
      | (refine stepE _ w.heap.size rfl (.tmp 5) (.tmp 11) rfl rfl (OwnB.fresh _ _ (Nat.le_refl _)) w.heap.size As cs d.f0.s ns rfl (HRs.out.alloc (Nat.le_refl _) _) (by omega) (by simp) ?_; intro A10 n10 c10 w10 hown10 hb10; have hb10' : Below w.heap.size w w10 := ((⟨rfl, rfl, rfl, Nat.le_refl _, fun _ _ => rfl⟩ : Below w.heap.size w w.drew).alloc (Nat.le_refl _) _).trans hb10; have cc : w10.cell? ⟨R, 2, none⟩ = some (.slice Aw nw cw) := (hb10'.cell (p := ⟨R, 2, none⟩) HB.out.lt).trans x2; have HW10 := Lib.hid hown10; have HB10 := Lib.hid hb10'; clear hown10 hb10 hb10')
      | (refine stepB w10 rfl (.tmp 12) (.tmp 18) rfl w.heap.size (.slice A10 n10 c10) d.f0.s rfl HW10.out w.heap.size Aw cw d.f0.w nw rfl (HRw.out.below HB10.out) (by rw [HLs.out]; omega) HB10.out.size ?_; intro A11 n11 c11 w11 hown11 hg11 hat11; have HB11 := Lib.hid (HB10.out.grown hg11 HB10.out.size (own_base HW10.out)); have HW11 := Lib.hid hown11; clear hown11 hg11 hat11))
    all_goals go_wp2
    all_goals go_ret
    all_goals exact ⟨A11, n11, c11, rfl, HW11.out, HB11.out⟩
  · obtain ⟨As, ns, cs, es, hls, hcs, hrs, _⟩ := hv.rd 1 (by omega)
    obtain ⟨Aw, nw, cw, ew, hlw, hcw, hrw, _⟩ := hv.rd 3 (by omega)
    replace hls : d.f1.s.length = ns := hls
    replace hlw : d.f1.w.length = nw := hlw
    replace hrs : Reads w w.heap.size 1 As ns (bts d.f1.s) := hrs
    replace hrw : Reads w w.heap.size 1 Aw nw (bts d.f1.w) := hrw
    have hlen : ns + nw ≤ 140737488355328 := by rw [FL.all_len] at hl1; omega
    have x1 : w.cell? ⟨R, 1, none⟩ = some (.slice As ns cs) := by rw [hbk.cell, ← es]; rfl
    have x2 : w.cell? ⟨R, 3, none⟩ = some (.slice Aw nw cw) := by rw [hbk.cell, ← ew]; rfl
    have z1 : (w.alloc (Obj.cells #[] 5)).cell? ⟨R, 1, none⟩ = some (.slice As ns cs) := (World.cell?_alloc_lt w _ ⟨R, 1, none⟩ hbk.lt).trans x1
    have z2 : (w.alloc (Obj.cells #[] 5)).cell? ⟨R, 3, none⟩ = some (.slice Aw nw cw) := (World.cell?_alloc_lt w _ ⟨R, 3, none⟩ hbk.lt).trans x2
    have HRs := Lib.hid hrs
    have HRw := Lib.hid hrw
    have HLs := Lib.hid hls
    have HLw := Lib.hid hlw
    clear hbk hv hl0 hl1 hls hlw hrs hrw hcs hcw es ew
    go_enter Try.func54, Try.ntmps54
    go_wp2_with fail
    go_region_law (first
      | (refine stepE _ w.heap.size rfl (.tmp 5) (.tmp 11) rfl rfl (OwnB.fresh _ _ (Nat.le_refl _)) w.heap.size As cs d.f1.s ns rfl (HRs.out.alloc (Nat.le_refl _) _) (by omega) (by simp) ?_; intro A10 n10 c10 w10 hown10 hb10; have hb10' : Below w.heap.size w w10 := ((⟨rfl, rfl, rfl, Nat.le_refl _, fun _ _ => rfl⟩ : Below w.heap.size w w.drew).alloc (Nat.le_refl _) _).trans hb10; have cc : w10.cell? ⟨R, 3, none⟩ = some (.slice Aw nw cw) := (hb10'.cell (p := ⟨R, 3, none⟩) HB.out.lt).trans x2; have HW10 := Lib.hid hown10; have HB10 := Lib.hid hb10'; clear hown10 hb10 hb10')
      | (refine stepB w10 rfl (.tmp 12) (.tmp 18) rfl w.heap.size (.slice A10 n10 c10) d.f1.s rfl HW10.out w.heap.size Aw cw d.f1.w nw rfl (HRw.out.below HB10.out) (by rw [HLs.out]; omega) HB10.out.size ?_; intro A11 n11 c11 w11 hown11 hg11 hat11; have HB11 := Lib.hid (HB10.out.grown hg11 HB10.out.size (own_base HW10.out)); have HW11 := Lib.hid hown11; clear hown11 hg11 hat11))
    all_goals go_wp2
    all_goals go_ret
    all_goals exact ⟨A11, n11, c11, rfl, HW11.out, HB11.out⟩
end Go.Proofs.Ytgocfkjibcokjaa.Pk
