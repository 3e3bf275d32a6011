/- Two disks in one memory; what a call that is refused does; what is done to one file isn't seen in the other. -/
import Derived.Test.YtgocfkjibcokjaaDkOwn
namespace Go.Proofs.Ytgocfkjibcokjaa.Dk
set_option linter.unusedVariables false
theorem offs_cnt (d : DK) (k : Int) : (d.offs k).cnt = d.cnt := by unfold DK.offs; split <;> rfl
theorem raw_cnt (d : DK) : d.raw.cnt = d.cnt + 1 := by
  unfold DK.raw
  split
  · exact offs_cnt _ _
  · rfl
/-- What is refused without a raw write changes nothing. -/
theorem does_refused (d : DK) (o : Cm) : d.doesE o = 0 ∨ (d.does o).cnt ≠ d.cnt ∨ d.does o = d := by
  unfold DK.doesE DK.does
  by_cases h0 : o.kind = 0
  · rw [if_pos h0, if_pos h0]
    unfold DK.app
    right
    split
    · left; rw [raw_cnt, put_cnt]; omega
    · right; rfl
  rw [if_neg h0, if_neg h0]
  by_cases h1 : o.kind = 1
  · rw [if_pos h1, if_pos h1]
    unfold DK.syn
    right
    split
    · left
      split
      · rw [raw_cnt]; omega
      · rw [put_cnt, raw_cnt]; omega
    · right; rfl
  rw [if_neg h1, if_neg h1]
  by_cases h2 : o.kind = 2
  · rw [if_pos h2, if_pos h2]
    unfold DK.tru
    right
    split
    · left
      split
      · rw [raw_cnt]; omega
      · rw [put_cnt, raw_cnt]; omega
    · right; rfl
  rw [if_neg h2, if_neg h2]
  by_cases h6 : o.kind = 6
  · right; right
    rw [if_neg (by omega), if_neg (by omega), if_neg (by omega)]
  · left; rw [if_neg h6]

/-- Two disks that agree in file 0 and the power; nothing is armed. -/
def Mate (d o : DK) : Prop := d.f0 = o.f0 ∧ d.on = o.on ∧ d.left = 0 ∧ o.left = 0
theorem raw_idle {d : DK} (h : d.left = 0) : d.raw = d.count := by unfold DK.raw; rw [if_neg (by omega)]
theorem mate_count {d o : DK} (h : Mate d o) : Mate d.count o.count := ⟨h.1, h.2.1, by show d.left - 1 = 0; rw [h.2.2.1], by show o.left - 1 = 0; rw [h.2.2.2]⟩
theorem mate_left {d o : DK} (h : Mate d o) : Mate d.count o := ⟨h.1, h.2.1, by show d.left - 1 = 0; rw [h.2.2.1], h.2.2.2⟩
theorem mate_put0 {d o : DK} (h : Mate d o) (x : FL) : Mate (d.put 0 x) (o.put 0 x) := ⟨rfl, h.2.1, h.2.2.1, h.2.2.2⟩
theorem mate_put1 {d o : DK} (h : Mate d o) (x : FL) : Mate (d.put 1 x) o := ⟨h.1, h.2.1, h.2.2.1, h.2.2.2⟩
theorem mate_offs {d o : DK} (h : Mate d o) (k : Int) : Mate (d.offs k) (o.offs k) := by
  unfold DK.offs
  by_cases ho : d.on = true
  · rw [if_pos ho, if_pos (h.2.1 ▸ ho)]
    exact ⟨by show d.f0.lose k = o.f0.lose k; rw [h.1], rfl, rfl, rfl⟩
  · rw [if_neg ho, if_neg (h.2.1 ▸ ho)]
    exact h
theorem mate_ons {d o : DK} (h : Mate d o) : Mate d.ons o.ons := ⟨h.1, rfl, h.2.2.1, h.2.2.2⟩
theorem mate_no {d o : DK} (h : Mate d o) (f : Int) : d.no f = o.no f := by unfold DK.no; rw [h.2.1]
theorem mate_noT {d o : DK} (h : Mate d o) (n : Int) : d.noT 0 n = o.noT 0 n := by
  unfold DK.noT
  rw [mate_no h, show d.get 0 = d.f0 from rfl, show o.get 0 = o.f0 from rfl, h.1]
/-- A call of file 0, or one that both disks see. -/
theorem mate_both {d o : DK} (h : Mate d o) (c : Cm) (h3 : c.kind ≠ 3) (hf : c.f = 0 ∨ c.kind = 4 ∨ c.kind = 5) : Mate (d.does c) (o.does c) := by
  unfold DK.does
  by_cases h4 : c.kind = 4
  · rw [if_neg (by omega), if_neg (by omega), if_neg (by omega), if_neg (by omega), if_pos h4, if_neg (by omega), if_neg (by omega), if_neg (by omega), if_neg (by omega), if_pos h4]
    exact mate_offs h _
  by_cases h5 : c.kind = 5
  · rw [if_neg (by omega), if_neg (by omega), if_neg (by omega), if_neg (by omega), if_neg (by omega), if_pos h5, if_neg (by omega), if_neg (by omega), if_neg (by omega), if_neg (by omega), if_neg (by omega), if_pos h5]
    exact mate_ons h
  have hf0 : c.f = 0 := by omega
  rw [hf0]
  by_cases h0 : c.kind = 0
  · rw [if_pos h0, if_pos h0]
    unfold DK.app
    rw [← mate_no h]
    split
    · rw [raw_idle (by rw [put_left]; exact h.2.2.1), raw_idle (by rw [put_left]; exact h.2.2.2)]
      rw [show d.get 0 = d.f0 from rfl, show o.get 0 = o.f0 from rfl, h.1]
      exact mate_count (mate_put0 h _)
    · exact h
  rw [if_neg h0, if_neg h0]
  by_cases h1 : c.kind = 1
  · rw [if_pos h1, if_pos h1]
    unfold DK.syn
    rw [← mate_no h]
    split
    · rw [if_neg (by have := h.2.2.1; omega), if_neg (by have := h.2.2.2; omega), raw_idle h.2.2.1, raw_idle h.2.2.2]
      rw [show d.get 0 = d.f0 from rfl, show o.get 0 = o.f0 from rfl, h.1]
      exact mate_put0 (mate_count h) _
    · exact h
  rw [if_neg h1, if_neg h1]
  by_cases h2 : c.kind = 2
  · rw [if_pos h2, if_pos h2]
    unfold DK.tru
    rw [← mate_noT h]
    split
    · rw [if_neg (by have := h.2.2.1; omega), if_neg (by have := h.2.2.2; omega), raw_idle h.2.2.1, raw_idle h.2.2.2]
      rw [show d.get 0 = d.f0 from rfl, show o.get 0 = o.f0 from rfl, h.1]
      exact mate_put0 (mate_count h) _
    · exact h
  rw [if_neg h2, if_neg h2, if_neg h3, if_neg h3, if_neg h4, if_neg h4, if_neg h5, if_neg h5]
  exact h
/-- A call of file 1 alone. -/
theorem mate_one {d o : DK} (h : Mate d o) (c : Cm) (h3 : c.kind ≠ 3) (hf : c.f = 1) (h4 : c.kind ≠ 4) (h5 : c.kind ≠ 5) : Mate (d.does c) o := by
  unfold DK.does
  rw [hf]
  by_cases h0 : c.kind = 0
  · rw [if_pos h0]
    unfold DK.app
    split
    · rw [raw_idle (by rw [put_left]; exact h.2.2.1)]
      exact mate_left (mate_put1 h _)
    · exact h
  rw [if_neg h0]
  by_cases h1 : c.kind = 1
  · rw [if_pos h1]
    unfold DK.syn
    split
    · rw [if_neg (by have := h.2.2.1; omega), raw_idle h.2.2.1]
      exact mate_put1 (mate_left h) _
    · exact h
  rw [if_neg h1]
  by_cases h2 : c.kind = 2
  · rw [if_pos h2]
    unfold DK.tru
    split
    · rw [if_neg (by have := h.2.2.1; omega), raw_idle h.2.2.1]
      exact mate_put1 (mate_left h) _
    · exact h
  rw [if_neg h2, if_neg h3, if_neg h4, if_neg h5]
  exact h
theorem mate_rd {d o : DK} (h : Mate d o) : d.rd 0 = o.rd 0 := by
  unfold DK.rd
  rw [mate_no h, show d.get 0 = d.f0 from rfl, show o.get 0 = o.f0 from rfl, h.1]
end Go.Proofs.Ytgocfkjibcokjaa.Dk
namespace Go.Proofs.Ytgocfkjibcokjaa.Pk
open Go.RowKit Go.Proofs.Ytgocfkjibcokjaa.Dk Go.Proofs.Ytgocfkjibcokjaa.Ar
set_option linter.unusedVariables false

/-- Two disks that have no block in common. -/
def Two (w0 : World) (R : Nat) (d : DK) (S : Nat → Prop) (R' : Nat) (o : DK) (S' : Nat → Prop) (w : World) : Prop := AtD w0 R d S w ∧ AtD w0 R' o S' w ∧ ∀ b, S b → ¬ S' b
section
variable {w0 w w' : World} {R R' : Nat} {d d' o o' : DK} {S S' T : Nat → Prop}
theorem Two.next (h : Two w0 R d S R' o S' w) (hb : Below w.heap.size w w') : Two w0 R d S R' o S' w' := ⟨h.1.next hb, h.2.1.next hb, h.2.2⟩
theorem Two.alloc (h : Two w0 R d S R' o S' w) (x : Obj) : Two w0 R d S R' o S' (w.alloc x) := ⟨h.1.alloc x, h.2.1.alloc x, h.2.2⟩
theorem Two.drewN (h : Two w0 R d S R' o S' w) (n : Nat) : Two w0 R d S R' o S' (w.drewN n) := ⟨h.1.drewN n, h.2.1.drewN n, h.2.2⟩
theorem Two.one (h : Two w0 R d S R' o S' w) (h2 : DkP w' R d' T) (t : Turned S w w') (g : From S T w) : Two w0 R d' T R' o S' w' :=
  ⟨h.1.step h2 t g, ⟨h.2.1.1.stay (Stay.turned t fun b hb => ⟨h.2.1.1.lt b hb, fun hs => h.2.2 b hs hb⟩), h.2.1.2.1, t.below h.1.2.2 h.1.2.2.size h.1.2.1⟩, from_apart g h.2.2 h.2.1.1.lt⟩
theorem Two.flip (h : Two w0 R d S R' o S' w) : Two w0 R' o S' R d S w := ⟨h.2.1, h.1, fun b h1 h2 => h.2.2 b h2 h1⟩
theorem Two.other (h : Two w0 R d S R' o S' w) (h2 : DkP w' R' o' T) (t : Turned S' w w') (g : From S' T w) : Two w0 R d S R' o' T w' := (h.flip.one h2 t g).flip
end

/-! A nil disk. -/
theorem refusal_nil (f : Int) (w : World) : Calls Try.prog 56 #[.pointer none, .int .i64 f] w fun e w' => e = .returned (.int .i64 2) ∧ w = w' := by
  go_enter Try.func56, Try.ntmps56
  go_wp2
  go_ret
  exact ⟨rfl, rfl⟩
theorem has_none (f : Int) (w : World) : Calls Try.prog 55 #[.pointer none, .int .i64 f] w fun e w' => e = .returned (.bool false) ∧ w = w' := by
  go_enter Try.func55, Try.ntmps55
  go_wp2
  go_ret
  exact ⟨rfl, rfl⟩
theorem arm_none (n k : Int) (w : World) : Calls Try.prog 33 #[.pointer none, .int .i64 n, .int .i64 k] w fun e w' => e = .returned (.tuple #[]) ∧ w = w' := by
  go_enter Try.func33, Try.ntmps33
  go_wp2
  first | go_end0 | refine bodyPost_ret (results_none rfl _ _ _) rfl ?_
  exact ⟨rfl, rfl⟩
theorem off_none (k : Int) (w : World) : Calls Try.prog 34 #[.pointer none, .int .i64 k] w fun e w' => e = .returned (.tuple #[]) ∧ w = w' := by
  go_enter Try.func34, Try.ntmps34
  go_wp2
  first | go_end0 | refine bodyPost_ret (results_none rfl _ _ _) rfl ?_
  exact ⟨rfl, rfl⟩
theorem on_none (w : World) : Calls Try.prog 35 #[.pointer none] w fun e w' => e = .returned (.tuple #[]) ∧ w = w' := by
  go_enter Try.func35, Try.ntmps35
  go_wp2
  first | go_end0 | refine bodyPost_ret (results_none rfl _ _ _) rfl ?_
  exact ⟨rfl, rfl⟩
theorem down_none (w : World) : Calls Try.prog 28 #[.pointer none] w fun e w' => e = .returned (.bool false) ∧ w = w' := by
  go_enter Try.func28, Try.ntmps28
  go_wp2
  go_ret
  exact ⟨rfl, rfl⟩
theorem writes_none (w : World) : Calls Try.prog 29 #[.pointer none] w fun e w' => e = .returned (.int .i64 0) ∧ w = w' := by
  go_enter Try.func29, Try.ntmps29
  go_wp2
  go_ret
  exact ⟨rfl, rfl⟩
theorem read_none (f : Int) (w : World) : Calls Try.prog 31 #[.pointer none, .int .i64 f] w fun e w' => e = .returned (.tuple #[.slice none 0 0, .int .i64 2]) ∧ w = w' := by
  go_enter Try.func31, Try.ntmps31
  go_wp2_with fail
  refine (refusal_nil f w).mono ?_
  rintro e w1 ⟨rfl, rfl⟩
  go_wp2
  go_ret2
  exact ⟨rfl, rfl⟩
theorem safe_none (f : Int) (w : World) : Calls Try.prog 30 #[.pointer none, .int .i64 f] w fun e w' => e = .returned (.slice none 0 0) ∧ w = w' := by
  go_enter Try.func30, Try.ntmps30
  go_wp2_with fail
  refine (has_none f w).mono ?_
  rintro e w1 ⟨rfl, rfl⟩
  go_wp2
  go_ret
  exact ⟨rfl, rfl⟩
theorem append_none (f : Int) (v : Value) (w : World) : Calls Try.prog 36 #[.pointer none, .int .i64 f, v] w fun e w' => e = .returned (.int .i64 2) ∧ w = w' := by
  go_enter Try.func36, Try.ntmps36
  go_wp2_with fail
  refine (refusal_nil f w).mono ?_
  rintro e w1 ⟨rfl, rfl⟩
  go_wp2
  go_ret
  exact ⟨rfl, rfl⟩
theorem sync_none (f : Int) (w : World) : Calls Try.prog 37 #[.pointer none, .int .i64 f] w fun e w' => e = .returned (.int .i64 2) ∧ w = w' := by
  go_enter Try.func37, Try.ntmps37
  go_wp2_with fail
  refine (refusal_nil f w).mono ?_
  rintro e w1 ⟨rfl, rfl⟩
  go_wp2
  go_ret
  exact ⟨rfl, rfl⟩
theorem trunc_none (f n : Int) (w : World) : Calls Try.prog 38 #[.pointer none, .int .i64 f, .int .i64 n] w fun e w' => e = .returned (.int .i64 2) ∧ w = w' := by
  go_enter Try.func38, Try.ntmps38
  go_wp2_with fail
  refine (refusal_nil f w).mono ?_
  rintro e w1 ⟨rfl, rfl⟩
  go_wp2_with fail
  refine (has_none f w).mono ?_
  rintro e w1 ⟨rfl, rfl⟩
  go_wp2
  go_ret
  exact ⟨rfl, rfl⟩
end Go.Proofs.Ytgocfkjibcokjaa.Pk
