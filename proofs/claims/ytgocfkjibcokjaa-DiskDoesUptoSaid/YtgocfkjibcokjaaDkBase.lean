/- The program's disk in memory; its small calls. -/
import Derived.Test.YtgocfkjibcokjaaSets
import Derived.Test.YtgocfkjibcokjaaDkMath
import Derived.WalkSpells
import Derived.LoopTactic
import Derived.Outline
import Derived.Lib.Hide
import Derived.BigQuiet
import Derived.BigRegion
import Derived.IntWalk
import Derived.Deep.RegionHeld3
import Derived.Deep.DeepMust
import Derived.Deep.RegionLawGrows
namespace Go.Proofs.Ytgocfkjibcokjaa.Pk
open Go.RowKit Go.Proofs.Ytgocfkjibcokjaa.Dk
set_option linter.unusedVariables false

set_option maxHeartbeats 800000 in
theorem clone_any (A : Option Addr) (n c : Nat) (l : List Int) (w : World) (h : Reads w w.heap.size 1 A n (bts l)) (hn : n ≤ 140737488355328) :
    Calls Try.prog 48 #[.slice A n c] w fun e w' => ∃ v, e = .returned v ∧ OwnB w' w.heap.size v l ∧ Below w.heap.size w w' := by
  have HR := Lib.hid h
  clear h
  have heq := fun (w : World) => Lib.run_eql_slice_nil (P := Try.prog) w 46 5 A n c 0 0 Try.underlying46
  cases A with
  | none =>
    have hn0 : n = 0 := HR.out.nil rfl
    subst hn0
    have hl : l = [] := by have := HR.out.1; simpa using this
    subst hl
    go_enter Try.func48, Try.ntmps48
    go_wp2
    go_ret
    exact ⟨_, rfl, ⟨rfl, .inl ⟨rfl, rfl⟩⟩, Below.refl _ _⟩
  | some ad =>
    go_enter Try.func48, Try.ntmps48
    go_wp2_with (at_builtin; refine appE w rfl (.tmp 5) (.tmp 6) rfl w.heap.size rfl w.heap.size (some ad) c l n rfl HR.out (Nat.le_refl _) (by omega) (Nat.le_refl _) ?_; intro v2 w2 hown2 hb2)
    go_ret
    exact ⟨_, rfl, hown2, hb2⟩

/-- The cells of a disk. -/
def dcs (v0 v1 : Value) (d : DK) : Array Value := #[v0, .int .i64 (d.f0.s.length : Int), v1, .int .i64 (d.f1.s.length : Int), .bool (!d.on), .int .i64 (d.cnt : Int), .int .i64 (d.left : Int), .int .i64 d.keep]
/-- The blocks of a disk. -/
def dbl (R : Nat) (v0 v1 : Value) (b : Nat) : Prop := b = R ∨ v0.ownBlock = some b ∨ v1.ownBlock = some b
/-- The program's disk at block R, made of the blocks S. -/
def DkP (w : World) (R : Nat) (d : DK) (S : Nat → Prop) : Prop :=
  ∃ v0 v1, Blk w R 88 (dcs v0 v1 d) ∧ OwnB w 0 v0 d.f0.all ∧ OwnB w 0 v1 d.f1.all ∧ (∀ g, v0.ownBlock = some g → v1.ownBlock = some g → False) ∧ S = dbl R v0 v1

theorem u8_ne_disk : 5 ≠ 88 := by decide
theorem DkP.lt {w : World} {R : Nat} {d : DK} {S : Nat → Prop} (h : DkP w R d S) : ∀ b, S b → b < w.heap.size := by
  obtain ⟨v0, v1, hb, h0, h1, hd, rfl⟩ := h
  rintro b (rfl | e | e)
  · exact hb.lt
  · exact h0.lt b e
  · exact h1.lt b e
theorem DkP.stay {w w' : World} {R : Nat} {d : DK} {S : Nat → Prop} (h : DkP w R d S) (hs : Stay S w w') : DkP w' R d S := by
  obtain ⟨v0, v1, hb, h0, h1, hd, rfl⟩ := h
  exact ⟨v0, v1, (hs.2 R (.inl rfl)).trans hb, h0.stay fun g e => hs.2 g (.inr (.inl e)), h1.stay fun g e => hs.2 g (.inr (.inr e)), hd, rfl⟩
theorem DkP.next {w w' : World} {R : Nat} {d : DK} {S : Nat → Prop} (h : DkP w R d S) (hb : Below w.heap.size w w') : DkP w' R d S := h.stay (Stay.below hb h.lt)
theorem DkP.own_ne {w : World} {R : Nat} {d : DK} {v0 v1 : Value} {v : Value} {B : Nat} {l : List Int} (hb : Blk w R 88 (dcs v0 v1 d)) (h : OwnB w B v l) : v.ownBlock ≠ some R :=
  own_blk_ne h hb u8_ne_disk

/-- What a call leaves: its answer, and the disk behind it. -/
def Aft (R : Nat) (d : DK) (S : Nat → Prop) (w : World) (v : Value) (e : Ending) (w' : World) : Prop :=
  e = .returned v ∧ ∃ S', DkP w' R d S' ∧ Turned S w w' ∧ From S S' w
theorem Aft.same {R : Nat} {d : DK} {S : Nat → Prop} {w : World} {v : Value} (h : DkP w R d S) : Aft R d S w v (.returned v) w := ⟨rfl, S, h, Turned.refl _ _, From.refl _ _⟩

/-- A disk whose numbers alone have turned, in block R. -/
theorem DkP.nums {w w' : World} {R : Nat} {d : DK} {v0 v1 : Value} (h0 : OwnB w 0 v0 d.f0.all) (h1 : OwnB w 0 v1 d.f1.all) (hb : Blk w R 88 (dcs v0 v1 d)) (hd : ∀ g, v0.ownBlock = some g → v1.ownBlock = some g → False)
    (hk : ∀ b, b ≠ R → b < w.heap.size → w'.heap[b]? = w.heap[b]?) (d' : DK) (hb' : Blk w' R 88 (dcs v0 v1 d')) (e0 : d'.f0.all = d.f0.all) (e1 : d'.f1.all = d.f1.all) : DkP w' R d' (dbl R v0 v1) := by
  refine ⟨v0, v1, hb', ?_, ?_, hd, rfl⟩
  · rw [e0]; exact h0.stay fun g e => hk g (fun e2 => DkP.own_ne hb h0 (e2 ▸ e)) (h0.lt g e)
  · rw [e1]; exact h1.stay fun g e => hk g (fun e2 => DkP.own_ne hb h1 (e2 ▸ e)) (h1.lt g e)

/-- Is there such a file? -/
def isF (f : Int) : Bool := decide (f = 0 ∨ f = 1)
theorem run_min2 (P : Program) (ts : Array TypeId) (t : TypeId) (a b M : Int) (hM : M = min a b) (w : World) :
    (Builtin.min_ ts t #[.int .i64 a, .int .i64 b]).run P w = .ok (.int .i64 M) w := by
  subst hM
  have e1 : (if b < a then b else a) = min a b := by split <;> omega
  simp only [Builtin.min_, List.foldlM, Builtin.min2, e1, pure_bind]
  rfl
theorem run_max2 (P : Program) (ts : Array TypeId) (t : TypeId) (a b M : Int) (hM : M = max a b) (w : World) :
    (Builtin.max_ ts t #[.int .i64 a, .int .i64 b]).run P w = .ok (.int .i64 M) w := by
  subst hM
  have e1 : (if a < b then b else a) = max a b := by split <;> omega
  simp only [Builtin.max_, List.foldlM, Builtin.max2, e1, pure_bind]
  rfl

set_option maxHeartbeats 400000 in
theorem has_any (a : Addr) (f : Int) (w : World) : Calls Try.prog 55 #[.pointer (some a), .int .i64 f] w fun e w' => e = .returned (.bool (isF f)) ∧ w = w' := by
  by_cases h0 : f = 0
  · subst h0
    go_enter Try.func55, Try.ntmps55
    go_wp2
    go_ret
    exact ⟨rfl, rfl⟩
  by_cases h1 : f = 1
  · subst h1
    go_enter Try.func55, Try.ntmps55
    go_wp2
    go_ret
    exact ⟨rfl, rfl⟩
  have HE : Hid (isF f = false) := Lib.hid (by unfold isF; simp [h0, h1])
  by_cases h2 : 0 ≤ f
  · have h3 : ¬ f < 2 := by omega
    clear h0 h1
    go_enter Try.func55, Try.ntmps55
    go_wp2
    go_ret
    exact ⟨by rw [HE.out]; rfl, rfl⟩
  · clear h0 h1
    go_enter Try.func55, Try.ntmps55
    go_wp2
    go_ret
    exact ⟨by rw [HE.out]; rfl, rfl⟩

set_option maxHeartbeats 400000 in
theorem refusal_any (R : Nat) (f : Int) (d : DK) (S : Nat → Prop) (w : World) (h : DkP w R d S) :
    Calls Try.prog 56 #[.pointer (some ⟨R, 0, none⟩), .int .i64 f] w fun e w' => e = .returned (.int .i64 (d.no f)) ∧ w = w' := by
  obtain ⟨v0, v1, hbk, h0, h1, hd, rfl⟩ := h
  obtain ⟨f0, f1, on, cnt, left, keep⟩ := d
  have c4 : w.cell? ⟨R, 4, none⟩ = some (.bool (!on)) := by rw [hbk.cell]; rfl
  clear hbk h0 h1 hd
  by_cases hf : f = 0 ∨ f = 1
  · have HE : Hid (isF f = true) := Lib.hid (by unfold isF; simp [hf])
    have HN : Hid (DK.no ⟨f0, f1, on, cnt, left, keep⟩ f = if on = true then 0 else 40) := Lib.hid (by unfold DK.no; rw [if_pos hf])
    clear hf
    cases on
    all_goals
      go_enter Try.func56, Try.ntmps56
      go_wp2_with fail
      refine (has_any _ f w).mono ?_
      rw [HE.out]
      rintro e w1 ⟨rfl, rfl⟩
      go_wp2
      go_ret
      exact ⟨by rw [HN.out]; rfl, rfl⟩
  · have HE : Hid (isF f = false) := Lib.hid (by unfold isF; simp [hf])
    have HN : Hid (DK.no ⟨f0, f1, on, cnt, left, keep⟩ f = 1) := Lib.hid (by unfold DK.no; rw [if_neg hf])
    clear hf
    go_enter Try.func56, Try.ntmps56
    go_wp2_with fail
    refine (has_any _ f w).mono ?_
    rw [HE.out]
    rintro e w1 ⟨rfl, rfl⟩
    go_wp2
    go_ret
    exact ⟨by rw [HN.out]; rfl, rfl⟩

set_option maxHeartbeats 400000 in
theorem down_any (R : Nat) (d : DK) (S : Nat → Prop) (w : World) (h : DkP w R d S) :
    Calls Try.prog 28 #[.pointer (some ⟨R, 0, none⟩)] w fun e w' => e = .returned (.bool (!d.on)) ∧ w = w' := by
  obtain ⟨v0, v1, hbk, h0, h1, hd, rfl⟩ := h
  have c4 : w.cell? ⟨R, 4, none⟩ = some (.bool (!d.on)) := by rw [hbk.cell]; rfl
  clear hbk h0 h1 hd
  go_enter Try.func28, Try.ntmps28
  go_wp2
  go_ret
  exact ⟨rfl, rfl⟩
set_option maxHeartbeats 400000 in
theorem writes_any (R : Nat) (d : DK) (S : Nat → Prop) (w : World) (h : DkP w R d S) :
    Calls Try.prog 29 #[.pointer (some ⟨R, 0, none⟩)] w fun e w' => e = .returned (.int .i64 (d.cnt : Int)) ∧ w = w' := by
  obtain ⟨v0, v1, hbk, h0, h1, hd, rfl⟩ := h
  have c5 : w.cell? ⟨R, 5, none⟩ = some (.int .i64 (d.cnt : Int)) := by rw [hbk.cell]; rfl
  clear hbk h0 h1 hd
  go_enter Try.func29, Try.ntmps29
  go_wp2
  go_ret
  exact ⟨rfl, rfl⟩

theorem DkP.onFl {w : World} {R : Nat} {d : DK} {S : Nat → Prop} (h : DkP w R d S) (b : Bool) : DkP (w.setCell ⟨R, 4, none⟩ (.bool (!b))) R { d with on := b } S := by
  obtain ⟨v0, v1, hbk, h0, h1, hd, rfl⟩ := h
  have := hbk.set_ 4 (.bool (!b))
  exact DkP.nums h0 h1 hbk hd (fun b hb _ => Below.heap_setCell w ⟨R, 4, none⟩ _ b hb) _ (by simpa [dcs] using this) rfl rfl
theorem DkP.self {w : World} {R : Nat} {d : DK} {S : Nat → Prop} (h : DkP w R d S) : S R := by obtain ⟨v0, v1, hbk, h0, h1, hd, rfl⟩ := h; exact .inl rfl
set_option maxHeartbeats 400000 in
theorem on_any (R : Nat) (d : DK) (S : Nat → Prop) (w : World) (h : DkP w R d S) :
    Calls Try.prog 35 #[.pointer (some ⟨R, 0, none⟩)] w (Aft R d.ons S w (.tuple #[])) := by
  have H := Lib.hid h
  obtain ⟨v0, v1, hbk, h0, h1, hd, rfl⟩ := h
  have c4 : w.cell? ⟨R, 4, none⟩ = some (.bool (!d.on)) := by rw [hbk.cell]; rfl
  have f4 : w.frozen? ⟨R, 4, none⟩ = false := hbk.frozen 4
  clear hbk h0 h1 hd
  go_enter Try.func35, Try.ntmps35
  go_wp2
  go_end0
  exact ⟨rfl, _, H.out.onFl true, (Turned.refl _ _).set H.out.self _, From.refl _ _⟩

theorem DkP.setArm {w : World} {R : Nat} {d : DK} {S : Nat → Prop} (h : DkP w R d S) (x : Nat) : DkP (w.setCell ⟨R, 6, none⟩ (.int .i64 (x : Int))) R { d with left := x } S := by
  obtain ⟨v0, v1, hbk, h0, h1, hd, rfl⟩ := h
  have := hbk.set_ 6 (.int .i64 (x : Int))
  exact DkP.nums h0 h1 hbk hd (fun b hb _ => Below.heap_setCell w ⟨R, 6, none⟩ _ b hb) _ (by simpa [dcs] using this) rfl rfl
theorem DkP.setKeep {w : World} {R : Nat} {d : DK} {S : Nat → Prop} (h : DkP w R d S) (x : Int) : DkP (w.setCell ⟨R, 7, none⟩ (.int .i64 x)) R { d with keep := x } S := by
  obtain ⟨v0, v1, hbk, h0, h1, hd, rfl⟩ := h
  have := hbk.set_ 7 (.int .i64 x)
  exact DkP.nums h0 h1 hbk hd (fun b hb _ => Below.heap_setCell w ⟨R, 7, none⟩ _ b hb) _ (by simpa [dcs] using this) rfl rfl
theorem DkP.setCnt {w : World} {R : Nat} {d : DK} {S : Nat → Prop} (h : DkP w R d S) (x : Nat) : DkP (w.setCell ⟨R, 5, none⟩ (.int .i64 (x : Int))) R { d with cnt := x } S := by
  obtain ⟨v0, v1, hbk, h0, h1, hd, rfl⟩ := h
  have := hbk.set_ 5 (.int .i64 (x : Int))
  exact DkP.nums h0 h1 hbk hd (fun b hb _ => Below.heap_setCell w ⟨R, 5, none⟩ _ b hb) _ (by simpa [dcs] using this) rfl rfl
theorem DkP.drewN {w : World} {R : Nat} {d : DK} {S : Nat → Prop} (h : DkP w R d S) (n : Nat) : DkP (w.drewN n) R d S := h.stay (Stay.drewN S w n)
set_option maxHeartbeats 400000 in
theorem arm_any (R : Nat) (n k : Int) (d : DK) (S : Nat → Prop) (w : World) (h : DkP w R d S) :
    Calls Try.prog 33 #[.pointer (some ⟨R, 0, none⟩), .int .i64 n, .int .i64 k] w (Aft R (d.arm n k) S w (.tuple #[])) := by
  have H := Lib.hid h
  obtain ⟨v0, v1, hbk, h0, h1, hd, rfl⟩ := h
  have c6 : w.cell? ⟨R, 6, none⟩ = some (.int .i64 (d.left : Int)) := by rw [hbk.cell]; rfl
  have f6 : w.frozen? ⟨R, 6, none⟩ = false := hbk.frozen 6
  have c7 : w.cell? ⟨R, 7, none⟩ = some (.int .i64 d.keep) := by rw [hbk.cell]; rfl
  have f7 : w.frozen? ⟨R, 7, none⟩ = false := hbk.frozen 7
  clear hbk h0 h1 hd
  obtain ⟨m, hm⟩ : ∃ m : Nat, m = n.toNat := ⟨_, rfl⟩
  have HM := Lib.hid hm
  have km := fun (w : World) => run_max2 Try.prog #[3, 3] 3 n 0 (m : Int) (by omega) w
  clear hm
  go_enter Try.func33, Try.ntmps33
  go_wp2
  go_end0
  have e : d.arm n k = { d with left := m, keep := k } := by unfold DK.arm; rw [HM.out]
  rw [e]
  exact ⟨rfl, _, (H.out.setArm m).setKeep k, ((Turned.refl _ _).set H.out.self _).set H.out.self _, From.refl _ _⟩
end Go.Proofs.Ytgocfkjibcokjaa.Pk
