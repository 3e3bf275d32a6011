/- The walks of pack's reader: Byte, Bytes, Left, Bad, End; of a nil reader. -/
import Derived.Test.YtkgkiplidjoamaaPackReader
namespace Go.Proofs.Ytkgkiplidjoamaa.Pk
open Go.RowKit
set_option linter.unusedVariables false

theorem pcT_len (l : List Int) (x : Int) : (pcT l x).length ≤ l.length := by
  unfold pcT; split <;> simp; omega
theorem pcT_isB {l : List Int} (h : isB l) (x : Int) : isB (pcT l x) := by
  unfold pcT; split
  · exact isB_take h _
  · intro c hc; cases hc
theorem pcT_one (l : List Int) : pcT l 1 = [] ∨ ∃ c r, l = c :: r ∧ pcT l 1 = [c] := by
  cases l with
  | nil => left; rfl
  | cons c r =>
    right
    refine ⟨c, r, rfl, ?_⟩
    unfold pcT
    rw [if_pos (by simp; omega)]; rfl

set_option maxHeartbeats 800000 in
theorem byte_any (R : Nat) (l : List Int) (bad : Bool) (w : World) (h : RD w R l bad) :
    Calls Try.prog 23 #[.pointer (some ⟨R, 0, none⟩)] w fun e w' => e = .returned (.int .u8 ((pcT l 1).getD 0 0)) ∧ RD w' R (pcL l 1) (pcB l 1 bad) ∧ Only w w' R := by
  have H := Lib.hid (piece_any R l bad 1 w h)
  clear h
  go_enter Try.func23, Try.ntmps23
  go_wp2_with fail
  refine H.out.mono ?_
  rintro e w1 ⟨A, n, c, rfl, hnc, hn, hr, hrd, ho⟩
  have hl : (pcT l 1).length = n := by have := hr.1; simp at this; exact this
  have HRD := Lib.hid hrd
  have HO := Lib.hid ho
  clear hrd ho
  rcases pcT_one l with hp | ⟨x, r, hlx, hp⟩
  · rw [hp] at hl
    simp at hl
    subst hl
    have HP := Lib.hid hp
    clear hp hr
    go_wp2
    go_ret
    exact ⟨by rw [HP.out]; rfl, HRD.out, HO.out⟩
  · have HP := Lib.hid hp
    rw [hp] at hl hr
    simp at hl
    subst hl
    obtain ⟨b, off, rfl, hb, hc⟩ := hr.u8 (by omega)
    have hc0 := hc 0 (by omega)
    simp only [Nat.add_zero] at hc0
    clear hp hr hc
    go_wp2
    go_ret
    exact ⟨by rw [HP.out]; rfl, HRD.out, HO.out⟩

set_option maxHeartbeats 800000 in
theorem bytes_any (R : Nat) (l : List Int) (bad : Bool) (x : Int) (w : World) (h : RD w R l bad) :
    Calls Try.prog 24 #[.pointer (some ⟨R, 0, none⟩), .int .i64 x] w fun e w' => ∃ v, e = .returned v ∧ OwnB w' w.heap.size v (pcT l x) ∧ RD w' R (pcL l x) (pcB l x bad) ∧ Only w w' R := by
  have H := Lib.hid (piece_any R l bad x w h)
  clear h
  go_enter Try.func24, Try.ntmps24
  go_wp2_with fail
  refine H.out.mono ?_
  rintro e w1 ⟨A, n, c, rfl, hnc, hn, hr, hrd, ho⟩
  have HRD := Lib.hid hrd
  have HO := Lib.hid ho
  have hsz : w.heap.size ≤ w1.heap.size := ho.size
  clear hrd ho
  go_wp2_with fail
  refine (clone_any A n c _ w1 (hr.more hsz) hn).mono ?_
  rintro e w2 ⟨v, rfl, hown, hb⟩
  go_wp2
  go_ret
  refine ⟨v, rfl, hown.mono hsz, ?_, HO.out.trans (Only.of hb R)⟩
  obtain ⟨A', n', c', hbk, h1, h2, h3, h4, h5⟩ := HRD.out
  exact ⟨A', n', c', hbk.below hb hbk.lt, h1, h2, h3, (h4.below hb).more hb.size, h5⟩

theorem left_any (R : Nat) (l : List Int) (bad : Bool) (w : World) (h : RD w R l bad) :
    Calls Try.prog 25 #[.pointer (some ⟨R, 0, none⟩)] w fun e w' => e = .returned (.int .i64 (l.length : Nat)) ∧ w = w' := by
  obtain ⟨A, n, c, hbk, hnc, hl, hn, hr, hB⟩ := h
  have c0 : w.cell? ⟨R, 0, none⟩ = some (.slice A n c) := by rw [hbk.cell]; rfl
  have HL := Lib.hid hl
  clear hbk hr hB hl
  go_enter Try.func25, Try.ntmps25
  go_wp2
  go_ret
  exact ⟨by rw [HL.out]; rfl, rfl⟩

theorem bad_any (R : Nat) (l : List Int) (bad : Bool) (w : World) (h : RD w R l bad) :
    Calls Try.prog 27 #[.pointer (some ⟨R, 0, none⟩)] w fun e w' => e = .returned (.bool bad) ∧ w = w' := by
  obtain ⟨A, n, c, hbk, hnc, hl, hn, hr, hB⟩ := h
  have c1 : w.cell? ⟨R, 1, none⟩ = some (.bool bad) := by rw [hbk.cell]; rfl
  clear hbk hr hB hl
  go_enter Try.func27, Try.ntmps27
  go_wp2
  go_ret
  exact ⟨rfl, rfl⟩

theorem end_any (R : Nat) (l : List Int) (bad : Bool) (w : World) (h : RD w R l bad) :
    Calls Try.prog 28 #[.pointer (some ⟨R, 0, none⟩)] w fun e w' => e = .returned (.bool (!bad && decide (l.length = 0))) ∧ w = w' := by
  obtain ⟨A, n, c, hbk, hnc, hl, hn, hr, hB⟩ := h
  have c0 : w.cell? ⟨R, 0, none⟩ = some (.slice A n c) := by rw [hbk.cell]; rfl
  have c1 : w.cell? ⟨R, 1, none⟩ = some (.bool bad) := by rw [hbk.cell]; rfl
  have HL := Lib.hid hl
  clear hbk hr hB hl
  cases bad
  · by_cases hn0 : n = 0
    · have hn1 : ((n : Int) == 0) = true := by rw [hn0]; rfl
      go_enter Try.func28, Try.ntmps28
      go_wp2
      go_ret
      exact ⟨by rw [HL.out, hn0]; rfl, rfl⟩
    · have hn1 : ((n : Int) == 0) = false := beq_eq_false_iff_ne.2 (by omega)
      go_enter Try.func28, Try.ntmps28
      go_wp2
      go_ret
      exact ⟨by rw [HL.out, decide_eq_false hn0]; rfl, rfl⟩
  · go_enter Try.func28, Try.ntmps28
    go_wp2
    go_ret
    exact ⟨rfl, rfl⟩

theorem nil_number (w : World) : Calls Try.prog 20 #[.pointer none] w fun e w' => e = .returned (.int .i64 0) ∧ w = w' := by
  go_enter Try.func20, Try.ntmps20
  go_wp2
  go_ret
  exact ⟨rfl, rfl⟩
theorem nil_piece (x : Int) (w : World) : Calls Try.prog 32 #[.pointer none, .int .i64 x] w fun e w' => e = .returned (.slice none 0 0) ∧ w = w' := by
  go_enter Try.func32, Try.ntmps32
  go_wp2
  go_ret
  exact ⟨rfl, rfl⟩
theorem nil_byte (w : World) : Calls Try.prog 23 #[.pointer none] w fun e w' => e = .returned (.int .u8 0) ∧ w = w' := by
  go_enter Try.func23, Try.ntmps23
  go_wp2_with fail
  refine (nil_piece 1 w).mono ?_
  rintro e w1 ⟨rfl, rfl⟩
  go_wp2
  go_ret
  exact ⟨rfl, rfl⟩
theorem nil_bytes (x : Int) (w : World) : Calls Try.prog 24 #[.pointer none, .int .i64 x] w fun e w' => ∃ A c, e = .returned (.slice A 0 c) ∧ Below w.heap.size w w' := by
  go_enter Try.func24, Try.ntmps24
  go_wp2_with fail
  refine (nil_piece x w).mono ?_
  rintro e w1 ⟨rfl, rfl⟩
  go_wp2_with fail
  refine (clone_any none 0 0 [] w Reads.none_ (by omega)).mono ?_
  rintro e w1 ⟨v, rfl, hown, hb⟩
  obtain ⟨A, n, c, rfl, hc, hn, hr⟩ := hown.val
  simp at hn
  subst hn
  go_wp2
  go_ret
  exact ⟨A, c, rfl, hb⟩
theorem nil_left (w : World) : Calls Try.prog 25 #[.pointer none] w fun e w' => e = .returned (.int .i64 0) ∧ w = w' := by
  go_enter Try.func25, Try.ntmps25
  go_wp2
  go_ret
  exact ⟨rfl, rfl⟩
theorem nil_bad (w : World) : Calls Try.prog 27 #[.pointer none] w fun e w' => e = .returned (.bool false) ∧ w = w' := by
  go_enter Try.func27, Try.ntmps27
  go_wp2
  go_ret
  exact ⟨rfl, rfl⟩
theorem nil_end (w : World) : Calls Try.prog 28 #[.pointer none] w fun e w' => e = .returned (.bool false) ∧ w = w' := by
  go_enter Try.func28, Try.ntmps28
  go_wp2
  go_ret
  exact ⟨rfl, rfl⟩
end Go.Proofs.Ytkgkiplidjoamaa.Pk
