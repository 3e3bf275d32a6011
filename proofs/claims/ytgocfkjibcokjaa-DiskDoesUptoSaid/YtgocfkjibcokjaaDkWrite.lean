/- The program's disk: a raw write; Append, Sync. -/
import Derived.Test.YtgocfkjibcokjaaDkLose
namespace Go.Proofs.Ytgocfkjibcokjaa.Pk
open Go.RowKit Go.Proofs.Ytgocfkjibcokjaa.Dk
set_option linter.unusedVariables false

theorem Aft.on_ {R : Nat} {d' : DK} {S : Nat → Prop} {w w' : World} {v : Value} (he : DkP w' R d' S) (t : Turned S w w') : Aft R d' S w v (.returned v) w' := ⟨rfl, S, he, t, From.refl _ _⟩

set_option maxHeartbeats 1600000 in
theorem write_any (R : Nat) (d : DK) (S : Nat → Prop) (w : World) (h : DkP w R d S) (hl0 : d.f0.all.length ≤ 4611686018427387904) (hl1 : d.f1.all.length ≤ 4611686018427387904) (hc : d.cnt ≤ 4611686018427387904) (ha : d.left ≤ 9223372036854775807) :
    Calls Try.prog 58 #[.pointer (some ⟨R, 0, none⟩)] w (Aft R d.raw S w (.int .i64 d.rawE)) := by
  have H := Lib.hid h
  have HL := Lib.hid (And.intro hl0 hl1)
  have HS : Hid (S R) := Lib.hid h.self
  obtain ⟨v0, v1, hbk, h0, h1, hd, hS⟩ := h
  obtain ⟨a0, a1, on, cnt, left, keep⟩ := d
  simp only at hl0 hl1 hc ha HL H
  have c5 : w.cell? ⟨R, 5, none⟩ = some (.int .i64 (cnt : Int)) := by rw [hbk.cell]; rfl
  have c6 : w.cell? ⟨R, 6, none⟩ = some (.int .i64 (left : Int)) := by rw [hbk.cell]; rfl
  have c7 : w.cell? ⟨R, 7, none⟩ = some (.int .i64 keep) := by rw [hbk.cell]; rfl
  have f5 : w.frozen? ⟨R, 5, none⟩ = false := hbk.frozen 5
  have f6 : w.frozen? ⟨R, 6, none⟩ = false := hbk.frozen 6
  clear hbk h0 h1 hd hS hl0 hl1
  have K5 : Hid (Value.int .i64 ((cnt : Int) + 1) = .int .i64 ((cnt + 1 : Nat) : Int)) := Lib.hid (by simp)
  obtain rfl | rfl | ⟨y, rfl⟩ : left = 0 ∨ left = 1 ∨ ∃ y, left = y + 2 := by
    rcases left with _ | _ | y
    · exact .inl rfl
    · exact .inr (.inl rfl)
    · exact .inr (.inr ⟨y, rfl⟩)
  · go_enter Try.func58, Try.ntmps58
    go_wp2
    go_ret
    rw [K5.out]
    exact Aft.on_ (H.out.setCnt (cnt + 1)) ((Turned.refl _ _).set HS.out _)
  · have c7' : ((w.setCell ⟨R, 5, none⟩ (.int .i64 ((cnt : Int) + 1))).setCell ⟨R, 6, none⟩ (.int .i64 0)).cell? ⟨R, 7, none⟩ = some (.int .i64 keep) := by go_simp
    go_enter Try.func58, Try.ntmps58
    go_wp2_with fail
    rw [K5.out]
    refine (off_any R keep _ S _ ((H.out.setCnt (cnt + 1)).setArm 0) HL.out.1 HL.out.2).mono ?_
    rintro e w2 ⟨rfl, S2, h2, t2, g2⟩
    have H2 := Lib.hid h2
    have T2 := Lib.hid ((((Turned.refl S w).set HS.out (p := ⟨R, 5, none⟩) (.int .i64 ((cnt + 1 : Nat) : Int))).set HS.out (p := ⟨R, 6, none⟩) (.int .i64 ((0 : Nat) : Int))).trans t2 (fun _ _ h => h))
    have G2 : Hid (From S S2 w) := Lib.hid fun b hb => by
      rcases g2 b hb with h1 | h1
      · exact .inl h1
      · exact .inr (by simpa [World.setCell] using h1)
    clear h2 t2 g2
    go_wp2
    go_ret
    exact ⟨rfl, S2, H2.out, T2.out, G2.out⟩
  · have t1 : (((y + 2 : Nat) : Int) == 0) = false := beq_eq_false_iff_ne.2 (by omega)
    have k6 : IntKind.i64.wrap (((y + 2 : Nat) : Int) - 1) = ((y + 1 : Nat) : Int) := by rw [IntWalk.i64_in _ (by omega)]; omega
    have t2 : ((0 : Int) < ((y + 1 : Nat) : Int)) := by omega
    obtain ⟨z, hz⟩ : ∃ z : Int, z = ((y + 2 : Nat) : Int) := ⟨_, rfl⟩
    obtain ⟨z1, hz1⟩ : ∃ z1 : Int, z1 = ((y + 1 : Nat) : Int) := ⟨_, rfl⟩
    rw [← hz] at c6 t1 k6
    rw [← hz1] at k6 t2
    have HZ := Lib.hid hz1
    have HE : Hid (DK.raw ⟨a0, a1, on, cnt, y + 2, keep⟩ = ⟨a0, a1, on, cnt + 1, y + 1, keep⟩ ∧ DK.rawE ⟨a0, a1, on, cnt, y + 2, keep⟩ = 0) := Lib.hid (by
      constructor
      · unfold DK.raw; rw [if_neg (by simp)]; rfl
      · unfold DK.rawE; rw [if_neg (by simp)])
    clear hz hz1
    go_enter Try.func58, Try.ntmps58
    go_wp2
    go_ret
    rw [K5.out, HE.out.1, HE.out.2, HZ.out]
    exact Aft.on_ ((H.out.setCnt (cnt + 1)).setArm (y + 1)) (((Turned.refl _ _).set HS.out _).set HS.out _)
end Go.Proofs.Ytgocfkjibcokjaa.Pk
