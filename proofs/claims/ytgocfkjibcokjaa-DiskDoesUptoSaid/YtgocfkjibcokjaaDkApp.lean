/- The program's disk: Append. -/
import Derived.Test.YtgocfkjibcokjaaDkWrite
import Derived.Deep.RegionLaw
namespace Go.Proofs.Ytgocfkjibcokjaa.Pk
open Go.RowKit Go.Proofs.Ytgocfkjibcokjaa.Dk
set_option linter.unusedVariables false

/-- Bytes of any slice behind those that are owned, as one step of a region. -/
theorem stepB {ops : Array Oper} {o : Oper} {a : Act} {K : Act → World → Prop} {Q : Exit → Act → World → Prop} {E : Prop} (w : World) (hgd : o.guard = none) (s x : Operand)
    (ho : o.op = .call { callee := .builtin .append, args := #[s, x], argTypes := #[46, 46] }) (B : Nat) (v : Value) (l : List Int) (hs : a.eval s = v) (hown : OwnB w B v l)
    (B' : Nat) (A : Option Addr) (c : Nat) (r : List Int) (n : Nat) (hx : a.eval x = .slice A n c) (hr : Reads w B' 1 A n (bts r)) (hlen : l.length + n ≤ 140737488355328) (hB : B ≤ w.heap.size)
    (h : ∀ A' n' c' w', OwnB w' B (.slice A' n' c') (l ++ r) → w.grownBy w' v.ownBlock → ((Value.slice A' n' c').ownBlock = v.ownBlock ∨ (Value.slice A' n' c').ownBlock = some w.heap.size) → K (a.put o.dst (.slice A' n' c')) w') :
    if Region.wanted o (yielded ops a.tmps) = true then Oper.wp Try.prog o a w K Q else E := by
  obtain ⟨i0, hi0, hz0, hz1, hz2⟩ := info_parts u8_info
  refine step_append_any (P := Try.prog) w hgd s x _ ho B 5 i0 _ 1 1 Try.underlying46 hi0 hz0 hz1 hz2 rfl (by omega) v l.length (bts l) hs hown B' A n c (bts r) hx hr (bts_one r)
    (by unfold maxLen; omega) (by omega) hB ?_
  intro v' w' ho hg hat
  have hv := OwnB.app ho
  obtain ⟨A', n', c', rfl⟩ := own_slice hv
  exact h A' n' c' w' hv hg hat

theorem grown_drew {w w2 : World} {r : Option Nat} (h : w.drew.grownBy w2 r) : w.grownBy w2 r := ⟨h.os, h.tape, h.output, h.size, h.block⟩
/-- What an append to a file's bytes leaves. -/
theorem DkP.grow {w w1 : World} {R : Nat} {d : DK} {v0 v1 : Value} {l : List Int} {vo : Value} {o : Nat} (hbk : Blk w R 88 (dcs v0 v1 d)) (h0 : OwnB w 0 v0 d.f0.all) (h1 : OwnB w 0 v1 d.f1.all)
    (hvo : OwnB w 0 vo l) (hS : ∀ g, vo.ownBlock = some g → dbl R v0 v1 g) (hg : w.grownBy w1 vo.ownBlock) :
    Blk w1 R 88 (dcs v0 v1 d) ∧ w1.cell? ⟨R, o, none⟩ = w.cell? ⟨R, o, none⟩ ∧ w1.frozen? ⟨R, o, none⟩ = false ∧ Turned (dbl R v0 v1) w w1 := by
  have hb1 := hbk.grown hg (fun e => DkP.own_ne hbk hvo e.symm)
  exact ⟨hb1, by rw [hb1.cell, hbk.cell], hb1.frozen o, (Turned.refl _ _).grown hg (fun g e _ => hS g e)⟩

theorem DkP.grown0 {w w2 : World} {R : Nat} {d : DK} {v0 v1 v2 : Value} {b : List Int} (hbk : Blk w R 88 (dcs v0 v1 d)) (h0 : OwnB w 0 v0 d.f0.all) (h1 : OwnB w 0 v1 d.f1.all) (hd : ∀ g, v0.ownBlock = some g → v1.ownBlock = some g → False)
    (h2 : OwnB w2 0 v2 (d.f0.all ++ b)) (hg : w.grownBy w2 v0.ownBlock) (hat : v2.ownBlock = v0.ownBlock ∨ v2.ownBlock = some w.heap.size) :
    DkP (w2.setCell ⟨R, 0, none⟩ v2) R (d.put 0 ⟨d.f0.s, d.f0.w ++ b⟩) (dbl R v2 v1) ∧ Turned (dbl R v0 v1) w (w2.setCell ⟨R, 0, none⟩ v2) ∧ From (dbl R v0 v1) (dbl R v2 v1) w := by
  have hb1 := hbk.grown hg (fun e => DkP.own_ne hbk h0 e.symm)
  have hsz := hg.size
  have hl1 := h1.lt
  have ne2 : ∀ g, v2.ownBlock = some g → g ≠ R := fun g e e2 => by
    rcases hat with h | h
    · exact DkP.own_ne hbk h0 (by rw [← h, e, e2])
    · rw [e] at h; injection h with h; have := hbk.lt; omega
  have h1' : OwnB w2 0 v1 d.f1.all := h1.stay fun g e => hg.block g (hl1 g e) (fun e2 => hd g (e2.symm) (e))
  have dis : ∀ g, v2.ownBlock = some g → v1.ownBlock = some g → False := fun g e e2 => by
    rcases hat with h | h
    · exact hd g (by rw [← h, e]) e2
    · rw [e] at h; injection h with h; have := hl1 g e2; omega
  refine ⟨⟨v2, v1, ?_, ?_, ?_, dis, rfl⟩, ((Turned.refl _ _).grown hg (fun g e _ => .inr (.inl e))).set (.inl rfl) _, ?_⟩
  · have := hb1.set_ 0 v2
    simpa [dcs, DK.put] using this
  · show OwnB _ 0 _ (d.f0.s ++ (d.f0.w ++ b))
    rw [← List.append_assoc]
    exact h2.stay fun g e => dk_far _ _ _ _ _ (ne2 g e)
  · show OwnB _ 0 _ d.f1.all
    skip
    exact h1'.stay fun g e => dk_far _ _ _ _ _ (fun e2 => DkP.own_ne hbk h1 (by rw [← e2]; exact e))
  · rintro g (rfl | e | e)
    · exact .inl (.inl rfl)
    · rcases hat with h | h
      · exact .inl (.inr (.inl (by rw [← h, e])))
      · rw [e] at h; injection h with h; exact .inr (by omega)
    · exact .inl (.inr (.inr e))
theorem DkP.grown1 {w w2 : World} {R : Nat} {d : DK} {v0 v1 v2 : Value} {b : List Int} (hbk : Blk w R 88 (dcs v0 v1 d)) (h0 : OwnB w 0 v0 d.f0.all) (h1 : OwnB w 0 v1 d.f1.all) (hd : ∀ g, v0.ownBlock = some g → v1.ownBlock = some g → False)
    (h2 : OwnB w2 0 v2 (d.f1.all ++ b)) (hg : w.grownBy w2 v1.ownBlock) (hat : v2.ownBlock = v1.ownBlock ∨ v2.ownBlock = some w.heap.size) :
    DkP (w2.setCell ⟨R, 2, none⟩ v2) R (d.put 1 ⟨d.f1.s, d.f1.w ++ b⟩) (dbl R v0 v2) ∧ Turned (dbl R v0 v1) w (w2.setCell ⟨R, 2, none⟩ v2) ∧ From (dbl R v0 v1) (dbl R v0 v2) w := by
  have hb1 := hbk.grown hg (fun e => DkP.own_ne hbk h1 e.symm)
  have hsz := hg.size
  have hl0 := h0.lt
  have ne2 : ∀ g, v2.ownBlock = some g → g ≠ R := fun g e e2 => by
    rcases hat with h | h
    · exact DkP.own_ne hbk h1 (by rw [← h, e, e2])
    · rw [e] at h; injection h with h; have := hbk.lt; omega
  have h0' : OwnB w2 0 v0 d.f0.all := h0.stay fun g e => hg.block g (hl0 g e) (fun e2 => hd g (e) (e2.symm))
  have dis : ∀ g, v2.ownBlock = some g → v0.ownBlock = some g → False := fun g e e2 => by
    rcases hat with h | h
    · exact hd g e2 (by rw [← h, e])
    · rw [e] at h; injection h with h; have := hl0 g e2; omega
  refine ⟨⟨v0, v2, ?_, ?_, ?_, fun g e e2 => dis g e2 e, rfl⟩, ((Turned.refl _ _).grown hg (fun g e _ => .inr (.inr e))).set (.inl rfl) _, ?_⟩
  · have := hb1.set_ 2 v2
    simpa [dcs, DK.put] using this
  · show OwnB _ 0 _ d.f0.all
    skip
    exact h0'.stay fun g e => dk_far _ _ _ _ _ (fun e2 => DkP.own_ne hbk h0 (by rw [← e2]; exact e))
  · show OwnB _ 0 _ (d.f1.s ++ (d.f1.w ++ b))
    rw [← List.append_assoc]
    exact h2.stay fun g e => dk_far _ _ _ _ _ (ne2 g e)
  · rintro g (rfl | e | e)
    · exact .inl (.inl rfl)
    · exact .inl (.inr (.inl e))
    · rcases hat with h | h
      · exact .inl (.inr (.inr (by rw [← h, e])))
      · rw [e] at h; injection h with h; exact .inr (by omega)

set_option maxHeartbeats 3200000 in
theorem append_any (R : Nat) (f : Int) (A : Option Addr) (n c : Nat) (b : List Int) (d : DK) (S : Nat → Prop) (w : World) (h : DkP w R d S) (hr : Reads w w.heap.size 1 A n (bts b)) (M m : Nat) (hfit : d.fit M m) (hM : M + n ≤ 140737488355328) (hm : m ≤ 4611686018427387904) :
    Calls Try.prog 36 #[.pointer (some ⟨R, 0, none⟩), .int .i64 f, .slice A n c] w (Aft R (d.app f b) S w (.int .i64 (d.appE f))) := by
  have H := Lib.hid h
  have HR := Lib.hid hr
  have HB : b.length = n := by have := hr.1; simpa using this
  have hl0 := hfit.l0
  have hl1 := hfit.l1
  by_cases hno : d.no f = 0
  · have hf : f = 0 ∨ f = 1 := by
      unfold DK.no at hno
      by_cases h1 : f = 0 ∨ f = 1
      · exact h1
      · rw [if_neg h1] at hno; cases hno
    have HD : Hid (d.app f b = (d.put f ⟨(d.get f).s, (d.get f).w ++ b⟩).raw ∧ d.appE f = d.rawE) := Lib.hid (by unfold DK.app DK.appE; rw [if_pos hno, if_pos hno]; exact ⟨rfl, rfl⟩)
    have HF : Hid ((d.put f ⟨(d.get f).s, (d.get f).w ++ b⟩).fit (M + n) m) := Lib.hid ((hfit.mono (by omega) (Nat.le_refl _)).put f _ (by have := hfit.get f; simp [FL.all] at this ⊢; omega))
    have HN := Lib.hid hno
    obtain ⟨v0, v1, hbk, h0, h1, hd, rfl⟩ := h
    obtain ⟨A0, n0, c0, rfl⟩ := own_slice h0
    obtain ⟨A1, n1, c1, rfl⟩ := own_slice h1
    have o0 := (own_len h0).1
    have o1 := (own_len h1).1
    have m0 : n0 + n ≤ 140737488355328 := by omega
    have m1 : n1 + n ≤ 140737488355328 := by omega
    have L0 := Lib.hid o0
    have L1 := Lib.hid o1
    have X0 := Lib.hid h0
    have X1 := Lib.hid h1
    have HBK := Lib.hid hbk
    have HDJ := Lib.hid hd
    have c0' : w.cell? ⟨R, 0, none⟩ = some (.slice A0 n0 c0) := by rw [hbk.cell]; rfl
    have c2' : w.cell? ⟨R, 2, none⟩ = some (.slice A1 n1 c1) := by rw [hbk.cell]; rfl
    clear hbk h0 h1 hd hr hno o0 o1 HB hfit hl0 hl1
    rcases hf with rfl | rfl
    · go_enter Try.func36, Try.ntmps36
      go_wp2_with fail
      refine (refusal_any R 0 d _ w H.out).mono ?_
      rw [HN.out]
      rintro e w1 ⟨rfl, rfl⟩
      go_wp2_with fail
      go_region_law (refine stepB w.drew rfl (.tmp 22) (.tmp 23) rfl 0 (.slice A0 n0 c0) d.f0.all rfl X0.out w.heap.size A c b n rfl HR.out (by rw [L0.out]; exact m0) (Nat.zero_le _) ?_; intro A2 n2 c2 w2 hown2 hg2 hat2; have G2 := DkP.grow (o := 0) HBK.out X0.out X1.out X0.out (fun g e => .inr (.inl e)) (grown_drew hg2); have HG2 := Lib.hid (DkP.grown0 HBK.out X0.out X1.out HDJ.out hown2 (grown_drew hg2) hat2); have cc := G2.2.1.trans c0'; have ff := G2.2.2.1; clear G2 hown2 hg2 hat2)
      go_wp2_with fail
      refine (write_any R _ _ _ HG2.out.1 (Nat.le_trans HF.out.l0 (by omega)) (Nat.le_trans HF.out.l1 (by omega)) (Nat.le_trans HF.out.c hm) HF.out.a).mono ?_
      rintro e w3 ⟨rfl, S3, h3, t3, g3⟩
      have H3 := Lib.hid h3
      have T3 := Lib.hid (HG2.out.2.1.also HG2.out.2.2 t3)
      have G3 := Lib.hid (HG2.out.2.2.trans g3 HG2.out.2.1.size)
      clear h3 t3 g3
      go_wp2
      go_ret
      rw [HD.out.1, HD.out.2]
      exact ⟨rfl, S3, H3.out, T3.out, G3.out⟩
    · go_enter Try.func36, Try.ntmps36
      go_wp2_with fail
      refine (refusal_any R 1 d _ w H.out).mono ?_
      rw [HN.out]
      rintro e w1 ⟨rfl, rfl⟩
      go_wp2_with fail
      go_region_law (refine stepB w.drew rfl (.tmp 22) (.tmp 23) rfl 0 (.slice A1 n1 c1) d.f1.all rfl X1.out w.heap.size A c b n rfl HR.out (by rw [L1.out]; exact m1) (Nat.zero_le _) ?_; intro A2 n2 c2 w2 hown2 hg2 hat2; have G2 := DkP.grow (o := 2) HBK.out X0.out X1.out X1.out (fun g e => .inr (.inr e)) (grown_drew hg2); have HG2 := Lib.hid (DkP.grown1 HBK.out X0.out X1.out HDJ.out hown2 (grown_drew hg2) hat2); have cc := G2.2.1.trans c2'; have ff := G2.2.2.1; clear G2 hown2 hg2 hat2)
      go_wp2_with fail
      refine (write_any R _ _ _ HG2.out.1 (Nat.le_trans HF.out.l0 (by omega)) (Nat.le_trans HF.out.l1 (by omega)) (Nat.le_trans HF.out.c hm) HF.out.a).mono ?_
      rintro e w3 ⟨rfl, S3, h3, t3, g3⟩
      have H3 := Lib.hid h3
      have T3 := Lib.hid (HG2.out.2.1.also HG2.out.2.2 t3)
      have G3 := Lib.hid (HG2.out.2.2.trans g3 HG2.out.2.1.size)
      clear h3 t3 g3
      go_wp2
      go_ret
      rw [HD.out.1, HD.out.2]
      exact ⟨rfl, S3, H3.out, T3.out, G3.out⟩
  · have HD : Hid (d.app f b = d ∧ d.appE f = d.no f) := Lib.hid (by unfold DK.app DK.appE; rw [if_neg hno, if_neg hno]; exact ⟨rfl, rfl⟩)
    have hne : (d.no f == 0) = false := beq_eq_false_iff_ne.2 hno
    have hne' : (d.no f != 0) = true := by simp [hno]
    clear hno hfit hl0 hl1 HB h hr
    go_enter Try.func36, Try.ntmps36
    go_wp2_with fail
    refine (refusal_any R f d _ w H.out).mono ?_
    rintro e w1 ⟨rfl, rfl⟩
    go_wp2
    go_ret
    rw [HD.out.1, HD.out.2]
    exact Aft.same H.out
end Go.Proofs.Ytgocfkjibcokjaa.Pk
