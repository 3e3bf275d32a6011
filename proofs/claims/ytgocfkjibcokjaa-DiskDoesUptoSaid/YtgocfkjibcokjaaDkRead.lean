/- The program's disk: Read, Safe, Load, New. -/
import Derived.Test.YtgocfkjibcokjaaDkTrunc
namespace Go.Proofs.Ytgocfkjibcokjaa.Pk
open Go.RowKit Go.Proofs.Ytgocfkjibcokjaa.Dk
set_option linter.unusedVariables false

/-- Bytes of the call's own are answered, and an error. -/
def RdP (l : List Int) (x : Int) (w : World) (e : Ending) (w' : World) : Prop := ∃ A n c, e = .returned (.tuple #[.slice A n c, .int .i64 x]) ∧ OwnB w' w.heap.size (.slice A n c) l ∧ Below w.heap.size w w'
/-- Bytes of the call's own are answered. -/
def SfP (l : List Int) (w : World) (e : Ending) (w' : World) : Prop := ∃ A n c, e = .returned (.slice A n c) ∧ OwnB w' w.heap.size (.slice A n c) l ∧ Below w.heap.size w w'

set_option maxHeartbeats 1600000 in
theorem read_any (R : Nat) (f : Int) (d : DK) (S : Nat → Prop) (w : World) (h : DkP w R d S) (hl0 : d.f0.all.length ≤ 140737488355328) (hl1 : d.f1.all.length ≤ 140737488355328) :
    Calls Try.prog 31 #[.pointer (some ⟨R, 0, none⟩), .int .i64 f] w (RdP (d.rd f) (d.no f) w) := by
  have H := Lib.hid h
  by_cases hno : d.no f = 0
  · have hf := no_file hno
    have HN := Lib.hid hno
    have HD : Hid (d.rd f = (d.get f).all) := Lib.hid (by unfold DK.rd; rw [if_pos hno])
    obtain ⟨A0, c0, A1, c1, g0, g1, x0, x2, x1, x3, ff, _, hbk, u0, u1, _⟩ := h.vals
    rcases hf with rfl | rfl
    · have hr : Reads w w.heap.size 1 A0 d.f0.all.length (bts d.f0.all) := by
        obtain ⟨A', c', e, _, hr⟩ := u0.reads
        injection e with e1 e2 e3
        rw [e1]; exact hr
      have HC := Lib.hid (clone_any A0 d.f0.all.length c0 d.f0.all w hr hl0)
      obtain ⟨z, hz⟩ : ∃ z, z = d.f0.all.length := ⟨_, rfl⟩
      rw [← hz] at HC x0
      clear hno h hbk u0 u1 ff hr hz
      go_enter Try.func31, Try.ntmps31
      go_wp2_with fail
      refine (refusal_any R 0 d _ w H.out).mono ?_
      rw [HN.out]
      rintro e w1 ⟨rfl, rfl⟩
      go_wp2_with fail
      refine HC.out.mono ?_
      rintro e w1 ⟨v1, rfl, ho1, hb1⟩
      obtain ⟨B1, m1, q1, rfl⟩ := own_slice ho1
      have HE := Lib.hid (And.intro ho1 hb1)
      clear ho1 hb1
      go_wp2
      go_ret2
      rw [HD.out, HN.out]
      exact ⟨B1, m1, q1, rfl, HE.out.1, HE.out.2⟩
    · have hr : Reads w w.heap.size 1 A1 d.f1.all.length (bts d.f1.all) := by
        obtain ⟨A', c', e, _, hr⟩ := u1.reads
        injection e with e1 e2 e3
        rw [e1]; exact hr
      have HC := Lib.hid (clone_any A1 d.f1.all.length c1 d.f1.all w hr hl1)
      obtain ⟨z, hz⟩ : ∃ z, z = d.f1.all.length := ⟨_, rfl⟩
      rw [← hz] at HC x2
      clear hno h hbk u0 u1 ff hr hz
      go_enter Try.func31, Try.ntmps31
      go_wp2_with fail
      refine (refusal_any R 1 d _ w H.out).mono ?_
      rw [HN.out]
      rintro e w1 ⟨rfl, rfl⟩
      go_wp2_with fail
      refine HC.out.mono ?_
      rintro e w1 ⟨v1, rfl, ho1, hb1⟩
      obtain ⟨B1, m1, q1, rfl⟩ := own_slice ho1
      have HE := Lib.hid (And.intro ho1 hb1)
      clear ho1 hb1
      go_wp2
      go_ret2
      rw [HD.out, HN.out]
      exact ⟨B1, m1, q1, rfl, HE.out.1, HE.out.2⟩
  · have HD : Hid (d.rd f = []) := Lib.hid (by unfold DK.rd; rw [if_neg hno])
    have hne : (d.no f == 0) = false := beq_eq_false_iff_ne.2 hno
    clear hno h
    go_enter Try.func31, Try.ntmps31
    go_wp2_with fail
    refine (refusal_any R f d _ w H.out).mono ?_
    rintro e w1 ⟨rfl, rfl⟩
    go_wp2
    go_ret2
    rw [HD.out]
    exact ⟨_, _, _, rfl, OwnB.nil_ _ _, Below.refl _ _⟩

set_option maxHeartbeats 1600000 in
theorem safe_any (R : Nat) (f : Int) (d : DK) (S : Nat → Prop) (w : World) (h : DkP w R d S) (hl0 : d.f0.all.length ≤ 140737488355328) (hl1 : d.f1.all.length ≤ 140737488355328) :
    Calls Try.prog 30 #[.pointer (some ⟨R, 0, none⟩), .int .i64 f] w (SfP (d.sf f) w) := by
  have H := Lib.hid h
  by_cases hf : f = 0 ∨ f = 1
  · have HI : Hid (isF f = true) := Lib.hid (by unfold isF; simp [hf])
    have HD : Hid (d.sf f = (d.get f).s) := Lib.hid (by unfold DK.sf; rw [if_pos hf])
    obtain ⟨A0, c0, A1, c1, g0, g1, x0, x2, x1, x3, ff, _, hbk, u0, u1, _⟩ := h.vals
    rcases hf with rfl | rfl
    · have hr : Reads w w.heap.size 1 A0 d.f0.all.length (bts d.f0.all) := by
        obtain ⟨A', c', e, _, hr⟩ := u0.reads
        injection e with e1 e2 e3
        rw [e1]; exact hr
      have hsn : d.f0.s.length ≤ d.f0.all.length := by simp [FL.all]
      have hsc : d.f0.s.length ≤ c0 := by omega
      have hr2 := hr.take hsn
      rw [show d.f0.all.take d.f0.s.length = d.f0.s by simp [FL.all]] at hr2
      have HC := Lib.hid (fun q => clone_any A0 d.f0.s.length c0 d.f0.s (w.drewN q) (hr2.drewN q) (by omega))
      obtain ⟨z, hz⟩ : ∃ z, z = d.f0.all.length := ⟨_, rfl⟩
      obtain ⟨y, hy⟩ : ∃ y, y = d.f0.s.length := ⟨_, rfl⟩
      rw [← hz] at x0 hsn g0
      rw [← hy] at HC x1 hsc hsn
      have HR := Lib.hid hbk.lt
      clear h hbk u0 u1 ff hr hr2 hz hy
      go_enter Try.func30, Try.ntmps30
      go_wp2_with fail
      refine (has_any _ 0 w).mono ?_
      rw [HI.out]
      rintro e w1 ⟨rfl, rfl⟩
      go_wp2_with fail
      go_region_held3 (fun w' => w'.cell? ⟨R, 0, none⟩ = some (.slice A0 z c0) ∧ w'.cell? ⟨R, 1, none⟩ = some (.int .i64 (y : Int))) (first | exact ⟨x0, x1⟩ | exact ⟨Z0, Z1⟩ | go_keep) (first
        | (go_at_call 48; go_must (refine (HC.out 1).mono ?_; rintro e w1 ⟨v1, rfl, ho1, hb1⟩; obtain ⟨B1, m1, q1, rfl⟩ := own_slice ho1; have Z0 := (hb1.cell (p := ⟨R, 0, none⟩) HR.out).trans x0; have Z1 := (hb1.cell (p := ⟨R, 1, none⟩) HR.out).trans x1; have HE := Lib.hid (And.intro ho1 hb1); clear ho1 hb1)))
      all_goals go_wp2
      all_goals go_ret
      all_goals rw [HD.out]
      all_goals exact ⟨B1, m1, q1, rfl, HE.out.1, ⟨HE.out.2.os, HE.out.2.tape, HE.out.2.output, HE.out.2.size, HE.out.2.block⟩⟩
    · have hr : Reads w w.heap.size 1 A1 d.f1.all.length (bts d.f1.all) := by
        obtain ⟨A', c', e, _, hr⟩ := u1.reads
        injection e with e1 e2 e3
        rw [e1]; exact hr
      have hsn : d.f1.s.length ≤ d.f1.all.length := by simp [FL.all]
      have hsc : d.f1.s.length ≤ c1 := by omega
      have hr2 := hr.take hsn
      rw [show d.f1.all.take d.f1.s.length = d.f1.s by simp [FL.all]] at hr2
      have HC := Lib.hid (fun q => clone_any A1 d.f1.s.length c1 d.f1.s (w.drewN q) (hr2.drewN q) (by omega))
      obtain ⟨z, hz⟩ : ∃ z, z = d.f1.all.length := ⟨_, rfl⟩
      obtain ⟨y, hy⟩ : ∃ y, y = d.f1.s.length := ⟨_, rfl⟩
      rw [← hz] at x2 hsn g1
      rw [← hy] at HC x3 hsc hsn
      have HR := Lib.hid hbk.lt
      clear h hbk u0 u1 ff hr hr2 hz hy
      go_enter Try.func30, Try.ntmps30
      go_wp2_with fail
      refine (has_any _ 1 w).mono ?_
      rw [HI.out]
      rintro e w1 ⟨rfl, rfl⟩
      go_wp2_with fail
      go_region_held3 (fun w' => w'.cell? ⟨R, 2, none⟩ = some (.slice A1 z c1) ∧ w'.cell? ⟨R, 3, none⟩ = some (.int .i64 (y : Int))) (first | exact ⟨x2, x3⟩ | exact ⟨Z0, Z1⟩ | go_keep) (first
        | (go_at_call 48; go_must (refine (HC.out 1).mono ?_; rintro e w1 ⟨v1, rfl, ho1, hb1⟩; obtain ⟨B1, m1, q1, rfl⟩ := own_slice ho1; have Z0 := (hb1.cell (p := ⟨R, 2, none⟩) HR.out).trans x2; have Z1 := (hb1.cell (p := ⟨R, 3, none⟩) HR.out).trans x3; have HE := Lib.hid (And.intro ho1 hb1); clear ho1 hb1)))
      all_goals go_wp2
      all_goals go_ret
      all_goals rw [HD.out]
      all_goals exact ⟨B1, m1, q1, rfl, HE.out.1, ⟨HE.out.2.os, HE.out.2.tape, HE.out.2.output, HE.out.2.size, HE.out.2.block⟩⟩
  · have HI : Hid (isF f = false) := Lib.hid (by unfold isF; simp [hf])
    have HD : Hid (d.sf f = []) := Lib.hid (by unfold DK.sf; rw [if_neg hf])
    clear hf h
    go_enter Try.func30, Try.ntmps30
    go_wp2_with fail
    refine (has_any _ f w).mono ?_
    rw [HI.out]
    rintro e w1 ⟨rfl, rfl⟩
    go_wp2
    go_ret
    rw [HD.out]
    exact ⟨_, _, _, rfl, OwnB.nil_ _ _, Below.refl _ _⟩

/-- A new disk is answered. -/
def NwP (d : DK) (w : World) (e : Ending) (w' : World) : Prop := ∃ R S, e = .returned (.pointer (some ⟨R, 0, none⟩)) ∧ DkP w' R d S ∧ (∀ b, S b → w.heap.size ≤ b) ∧ Below w.heap.size w w'

set_option maxHeartbeats 1600000 in
theorem load_any (A A' : Option Addr) (n c n' c' : Nat) (a b : List Int) (w : World) (ha : Reads w w.heap.size 1 A n (bts a)) (hb : Reads w w.heap.size 1 A' n' (bts b)) (hn : n ≤ 140737488355328) (hn' : n' ≤ 140737488355328) :
    Calls Try.prog 23 #[.slice A n c, .slice A' n' c'] w (NwP (DK.new a b) w) := by
  have HA := Lib.hid ha
  have HB := Lib.hid hb
  have HLA : Hid (a.length = n) := Lib.hid (by have := ha.1; simpa using this)
  have HLB : Hid (b.length = n') := Lib.hid (by have := hb.1; simpa using this)
  clear ha hb
  go_enter Try.func23, Try.ntmps23
  go_wp2_with fail
  refine (clone_any A n c a w HA.out hn).mono ?_
  rintro e w1 ⟨v1, rfl, ho1, hb1⟩
  obtain ⟨B1, m1, q1, rfl⟩ := own_slice ho1
  have hs1 := hb1.size
  have HE1 := Lib.hid (And.intro ho1 hb1)
  have HB1 := Lib.hid ((HB.out.below hb1).more hs1)
  clear ho1 hb1
  go_wp2_with fail
  refine (clone_any A' n' c' b w1 HB1.out hn').mono ?_
  rintro e w2 ⟨v2, rfl, ho2, hb2⟩
  obtain ⟨B2, m2, q2, rfl⟩ := own_slice ho2
  have hs2 := hb2.size
  have HE2 := Lib.hid (And.intro ho2 hb2)
  clear ho2 hb2
  go_wp2
  go_ret
  have ho1 : OwnB w2 w.heap.size (.slice B1 m1 q1) a := HE1.out.1.keep HE2.out.2 (Nat.le_refl _)
  have ho2 := HE2.out.1
  have l1 := HE1.out.1.lt
  refine ⟨w2.heap.size, dbl w2.heap.size (.slice B1 m1 q1) (.slice B2 m2 q2), rfl, ⟨.slice B1 m1 q1, .slice B2 m2 q2, ?_, ?_, ?_, ?_, rfl⟩, ?_, ?_⟩
  · have := Blk.new w2 88 (dcs (.slice B1 m1 q1) (.slice B2 m2 q2) (DK.new a b))
    simp only [dcs, DK.new, HLA.out, HLB.out] at this
    simpa [dcs, DK.new, HLA.out, HLB.out] using this
  · simpa [DK.new, FL.all] using (ho1.alloc _).mono (Nat.zero_le _)
  · simpa [DK.new, FL.all] using (ho2.alloc _).mono (Nat.zero_le _)
  · intro g e1 e2
    have := l1 g e1
    have := ho2.base g e2
    omega
  · rintro g (rfl | e | e)
    · omega
    · exact ho1.base g e
    · have := ho2.base g e; omega
  · exact (HE1.out.2.trans (HE2.out.2.mono hs1)).alloc (by omega) _

set_option maxHeartbeats 400000 in
theorem new_any (w : World) : Calls Try.prog 32 #[] w (NwP (DK.new [] []) w) := by
  go_enter Try.func32, Try.ntmps32
  go_wp2_with fail
  refine (load_any none none 0 0 0 0 [] [] w Reads.none_ Reads.none_ (by omega) (by omega)).mono ?_
  rintro e w1 ⟨R, S, rfl, h1, h2, h3⟩
  have HE := Lib.hid (And.intro h1 (And.intro h2 h3))
  clear h1 h2 h3
  go_wp2
  go_ret
  exact ⟨R, S, rfl, HE.out.1, HE.out.2.1, HE.out.2.2⟩
end Go.Proofs.Ytgocfkjibcokjaa.Pk
