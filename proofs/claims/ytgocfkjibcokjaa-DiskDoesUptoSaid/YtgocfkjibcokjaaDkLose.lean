/- The program's disk: the power goes; a raw write. -/
import Derived.Test.YtgocfkjibcokjaaDkBase
namespace Go.Proofs.Ytgocfkjibcokjaa.Pk
open Go.RowKit Go.Proofs.Ytgocfkjibcokjaa.Dk
set_option linter.unusedVariables false

set_option maxHeartbeats 1600000 in
theorem lose_any (R o n c s m : Nat) (A : Option Addr) (k : Int) (w : World) (h0 : w.cell? ⟨R, o, none⟩ = some (.slice A n c)) (h1 : w.cell? ⟨R, o + 1, none⟩ = some (.int .i64 (s : Int))) (f0 : w.frozen? ⟨R, o, none⟩ = false) (f1 : w.frozen? ⟨R, o + 1, none⟩ = false)
    (hs : s ≤ n) (hnc : n ≤ c) (hn : n ≤ 4611686018427387904) (hm : m = s + min k.toNat (n - s)) :
    Calls Try.prog 57 #[.pointer (some ⟨R, o, none⟩), .int .i64 k] w fun e w' => e = .returned (.tuple #[]) ∧ ∃ p q, w' = (((w.drewN p).setCell ⟨R, o + 1, none⟩ (.int .i64 (m : Int))).drewN q).setCell ⟨R, o, none⟩ (.slice A m c) := by
  have k1 : IntKind.i64.wrap ((n : Int) - (s : Int)) = (n : Int) - (s : Int) := IntWalk.i64_in _ (by omega)
  obtain ⟨x, hx⟩ : ∃ x : Nat, x = k.toNat := ⟨_, rfl⟩
  obtain ⟨y, hy⟩ : ∃ y : Nat, y = min x (n - s) := ⟨_, rfl⟩
  have km := fun (w : World) => run_max2 Try.prog #[3, 3] 3 k 0 (x : Int) (by omega) w
  have kn := fun (w : World) => run_min2 Try.prog #[3, 3] 3 (x : Int) ((n : Int) - (s : Int)) (y : Int) (by omega) w
  have k2 : IntKind.i64.wrap ((s : Int) + (y : Int)) = (m : Int) := by rw [IntWalk.i64_in _ (by omega)]; omega
  have hmc : m ≤ c := by omega
  clear hm hx hy
  go_enter Try.func57, Try.ntmps57
  go_wp2
  go_region
  go_wp2
  go_region
  go_wp2
  go_end0
  exact ⟨rfl, _, _, rfl⟩
theorem lose_list (k : Int) (f : FL) (n m : Nat) (hn : f.all.length = n) (hm : m = f.s.length + min k.toNat (n - f.s.length)) : (f.lose k).all = f.all.take m ∧ (f.lose k).s.length = m ∧ m ≤ n ∧ (f.lose k).s.length = (f.lose k).all.length := by
  unfold FL.all FL.lose at *
  simp only [List.length_append] at hn
  have e1 : n - f.s.length = f.w.length := by omega
  rw [e1] at hm
  have e2 : (f.w.take k.toNat).length = min k.toNat f.w.length := List.length_take
  refine ⟨?_, by simp only [List.length_append, e2]; omega, by omega, by simp⟩
  rw [List.append_nil, List.take_append, List.take_of_length_le (i := m) (l := f.s) (by omega), show m - f.s.length = min k.toNat f.w.length by omega]
  rcases Nat.le_total k.toNat f.w.length with h | h
  · rw [Nat.min_eq_left h]
  · rw [Nat.min_eq_right h, List.take_of_length_le h, List.take_of_length_le (Nat.le_refl _)]
theorem own_any (A : Option Addr) (n c m c' : Nat) : (Value.slice A n c).ownBlock = (Value.slice A m c').ownBlock := by cases A <;> rfl
theorem dbl_any0 (R : Nat) (A : Option Addr) (n c m c' : Nat) (v1 : Value) : dbl R (.slice A n c) v1 = dbl R (.slice A m c') v1 := by unfold dbl; rw [own_any A n c m c']
theorem dbl_any1 (R : Nat) (A : Option Addr) (n c m c' : Nat) (v0 : Value) : dbl R v0 (.slice A n c) = dbl R v0 (.slice A m c') := by unfold dbl; rw [own_any A n c m c']
theorem own_len {w : World} {B : Nat} {A : Option Addr} {n c : Nat} {l : List Int} (h : OwnB w B (.slice A n c) l) : l.length = n ∧ n ≤ c := by
  obtain ⟨A', c', e, hc, _⟩ := h.reads
  injection e with _ e1 e2
  exact ⟨e1.symm, by omega⟩
theorem own_slice {w : World} {B : Nat} {v : Value} {l : List Int} (h : OwnB w B v l) : ∃ A n c, v = .slice A n c := by
  obtain ⟨A', c', e, hc, _⟩ := h.reads
  exact ⟨_, _, _, e⟩
theorem dk_far (w : World) (R : Nat) (o : Nat) (u : Value) (b : Nat) (h : b ≠ R) : (w.setCell ⟨R, o, none⟩ u).heap[b]? = w.heap[b]? := Below.heap_setCell w ⟨R, o, none⟩ u b h

/-- What the power's going leaves of one file. -/
def Lost (R : Nat) (d : DK) (S : Nat → Prop) (w : World) (e : Ending) (w' : World) : Prop := e = .returned (.tuple #[]) ∧ DkP w' R d S ∧ Turned S w w'
theorem lose_dk0 (R : Nat) (k : Int) (d : DK) (S : Nat → Prop) (w : World) (h : DkP w R d S) (hl : d.f0.all.length ≤ 4611686018427387904) :
    Calls Try.prog 57 #[.pointer (some ⟨R, 0, none⟩), .int .i64 k] w (Lost R { d with f0 := d.f0.lose k } S w) := by
  have hself := h.self
  obtain ⟨v0, v1, hbk, h0, h1, hd, rfl⟩ := h
  obtain ⟨A, n, c, rfl⟩ := own_slice h0
  obtain ⟨hn, hnc⟩ := own_len h0
  obtain ⟨m, hm⟩ : ∃ m, m = d.f0.s.length + min k.toNat (n - d.f0.s.length) := ⟨_, rfl⟩
  obtain ⟨e1, e2, e3, e4⟩ := lose_list k d.f0 n m hn hm
  have hs : d.f0.s.length ≤ n := by rw [← hn]; simp [FL.all]
  refine (lose_any R 0 n c d.f0.s.length m A k w (by rw [hbk.cell]; rfl) (by rw [hbk.cell]; rfl) (hbk.frozen 0) (hbk.frozen 1) hs hnc (by omega) hm).mono ?_
  rintro e w' ⟨rfl, p, q, rfl⟩
  refine ⟨rfl, ⟨.slice A m c, v1, ?_, ?_, ?_, by rw [own_any A m c n c]; exact hd, dbl_any0 _ _ _ _ _ _ _⟩, ((((Turned.refl _ _).drewN p).set hself _).drewN q).set hself _⟩
  · have := (((hbk.drewN p).set_ 1 (.int .i64 (m : Int))).drewN q).set_ 0 (.slice A m c)
    simp only [dcs]
    rw [e2]
    simpa [dcs] using this
  · show OwnB _ 0 _ (d.f0.lose k).all
    rw [e1]
    refine (h0.cut e3).stay fun g e => ?_
    have hg : g ≠ R := fun e5 => DkP.own_ne hbk h0 (by rw [← e5, own_any A n c m c]; exact e)
    exact (dk_far _ _ _ _ _ hg).trans (dk_far (w.drewN p) _ _ _ _ hg)
  · refine h1.stay fun g e => ?_
    have hg : g ≠ R := fun e5 => DkP.own_ne hbk h1 (by rw [← e5]; exact e)
    exact (dk_far _ _ _ _ _ hg).trans (dk_far (w.drewN p) _ _ _ _ hg)
theorem lose_dk1 (R : Nat) (k : Int) (d : DK) (S : Nat → Prop) (w : World) (h : DkP w R d S) (hl : d.f1.all.length ≤ 4611686018427387904) :
    Calls Try.prog 57 #[.pointer (some ⟨R, 2, none⟩), .int .i64 k] w (Lost R { d with f1 := d.f1.lose k } S w) := by
  have hself := h.self
  obtain ⟨v0, v1, hbk, h0, h1, hd, rfl⟩ := h
  obtain ⟨A, n, c, rfl⟩ := own_slice h1
  obtain ⟨hn, hnc⟩ := own_len h1
  obtain ⟨m, hm⟩ : ∃ m, m = d.f1.s.length + min k.toNat (n - d.f1.s.length) := ⟨_, rfl⟩
  obtain ⟨e1, e2, e3, e4⟩ := lose_list k d.f1 n m hn hm
  have hs : d.f1.s.length ≤ n := by rw [← hn]; simp [FL.all]
  refine (lose_any R 2 n c d.f1.s.length m A k w (by rw [hbk.cell]; rfl) (by rw [hbk.cell]; rfl) (hbk.frozen 2) (hbk.frozen 3) hs hnc (by omega) hm).mono ?_
  rintro e w' ⟨rfl, p, q, rfl⟩
  refine ⟨rfl, ⟨v0, .slice A m c, ?_, ?_, ?_, by rw [own_any A m c n c]; exact hd, dbl_any1 _ _ _ _ _ _ _⟩, ((((Turned.refl _ _).drewN p).set hself _).drewN q).set hself _⟩
  · have := (((hbk.drewN p).set_ 3 (.int .i64 (m : Int))).drewN q).set_ 2 (.slice A m c)
    simp only [dcs]
    rw [e2]
    simpa [dcs] using this
  · refine h0.stay fun g e => ?_
    have hg : g ≠ R := fun e5 => DkP.own_ne hbk h0 (by rw [← e5]; exact e)
    exact (dk_far _ _ _ _ _ hg).trans (dk_far (w.drewN p) _ _ _ _ hg)
  · show OwnB _ 0 _ (d.f1.lose k).all
    rw [e1]
    refine (h1.cut e3).stay fun g e => ?_
    have hg : g ≠ R := fun e5 => DkP.own_ne hbk h1 (by rw [← e5, own_any A n c m c]; exact e)
    exact (dk_far _ _ _ _ _ hg).trans (dk_far (w.drewN p) _ _ _ _ hg)

/-- The disk when j files have lost what is lost. -/
def dlost (k : Int) (d : DK) (j : Nat) : DK := if j = 0 then d else if j = 1 then { d with f0 := d.f0.lose k } else { d with f0 := d.f0.lose k, f1 := d.f1.lose k }

set_option maxHeartbeats 1600000 in
theorem off_any (R : Nat) (k : Int) (d : DK) (S : Nat → Prop) (w : World) (h : DkP w R d S) (hl0 : d.f0.all.length ≤ 4611686018427387904) (hl1 : d.f1.all.length ≤ 4611686018427387904) :
    Calls Try.prog 34 #[.pointer (some ⟨R, 0, none⟩), .int .i64 k] w (Aft R (d.offs k) S w (.tuple #[])) := by
  have H := Lib.hid h
  have HL := Lib.hid (And.intro hl0 hl1)
  have HS : Hid (S R) := Lib.hid h.self
  obtain ⟨v0, v1, hbk, h0, h1, hd, hS⟩ := h
  have c4 : w.cell? ⟨R, 4, none⟩ = some (.bool (!d.on)) := by rw [hbk.cell]; rfl
  clear hbk h0 h1 hd hS hl0 hl1
  obtain ⟨on, hon⟩ : ∃ on, on = d.on := ⟨_, rfl⟩
  rw [← hon] at c4
  have HO := Lib.hid hon
  clear hon
  cases on
  · have HD : Hid (d.offs k = d) := Lib.hid (by unfold DK.offs; rw [← HO.out]; rfl)
    go_enter Try.func34, Try.ntmps34
    go_wp2
    go_end0
    rw [HD.out]
    exact Aft.same H.out
  · have HD : Hid (d.offs k = { d with f0 := d.f0.lose k, f1 := d.f1.lose k, on := false, left := 0 }) := Lib.hid (by unfold DK.offs; rw [← HO.out]; rfl)
    go_enter Try.func34, Try.ntmps34
    go_wp2
    go_loopw [4, 13] (fun _ i wr => ∃ j : Nat, i = .int .i64 j ∧ j ≤ 2 ∧ DkP wr R (dlost k d j) S ∧ Turned S w wr) (fun _ i _ => 2 - (intOf i).toNat)
    case atStart => exact ⟨0, rfl, by omega, H.out, Turned.refl _ _⟩
    case round =>
      obtain ⟨j, rfl, hj, h2, t2⟩ := hrel
      obtain ⟨w2, rfl⟩ : ∃ w2 : World, w2 = wr := ⟨_, rfl⟩
      have H2 := Lib.hid h2
      have T2 := Lib.hid t2
      clear h2 t2
      obtain rfl | rfl | rfl : j = 0 ∨ j = 1 ∨ j = 2 := by omega
      · go_wp2_with fail
        refine (lose_dk0 R k (dlost k d 0) S w2 H2.out HL.out.1).mono ?_
        rintro e w3 ⟨rfl, h3, t3⟩
        have H3 := Lib.hid h3
        have T3 := Lib.hid t3
        clear h3 t3
        go_wp2
        go_roundw
        case rel => exact ⟨1, rfl, by omega, H3.out, T2.out.trans T3.out (fun _ _ h => h)⟩
        case measure => simp [intOf]
      · go_wp2_with fail
        refine (lose_dk1 R k (dlost k d 1) S w2 H2.out HL.out.2).mono ?_
        rintro e w3 ⟨rfl, h3, t3⟩
        have H3 := Lib.hid h3
        have T3 := Lib.hid t3
        clear h3 t3
        go_wp2
        go_roundw
        case rel => exact ⟨2, rfl, by omega, H3.out, T2.out.trans T3.out (fun _ _ h => h)⟩
        case measure => simp [intOf]
      · have HX := H2.out
        obtain ⟨v0, v1, hbk, _, _, _, _⟩ := HX
        have c4 : w2.cell? ⟨R, 4, none⟩ = some (.bool (!(dlost k d 2).on)) := by rw [hbk.cell]; rfl
        have c6 : w2.cell? ⟨R, 6, none⟩ = some (.int .i64 ((dlost k d 2).left : Int)) := by rw [hbk.cell]; rfl
        have f4 : w2.frozen? ⟨R, 4, none⟩ = false := hbk.frozen 4
        have f6 : w2.frozen? ⟨R, 6, none⟩ = false := hbk.frozen 6
        clear hbk
        go_wp2
        go_end0
        rw [HD.out]
        exact ⟨rfl, S, (H2.out.onFl false).setArm 0, (T2.out.set HS.out _).set HS.out _, From.refl _ _⟩
end Go.Proofs.Ytgocfkjibcokjaa.Pk
