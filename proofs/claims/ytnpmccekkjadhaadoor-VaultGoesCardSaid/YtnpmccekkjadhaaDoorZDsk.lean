/- The program's disk in memory; its small calls. -/
import Derived.Test.YtnpmccekkjadhaaDoorZMem
import Derived.Test.YtnpmccekkjadhaaDoorZMath
import Derived.WalkSpells
import Derived.LoopTactic
import Derived.Outline
import Derived.Lib.Hide
import Derived.BigQuiet
import Derived.BigRegion
import Derived.IntWalk
import Derived.Deep.RegionHeld3
import Derived.Deep.DeepMust
import Derived.Deep.RegionLawGrows
import Derived.Deep.RegionLaw
namespace Go.Proofs.YtnpmccekkjadhaaDoor.Pk
open Go.RowKit Go.Proofs.YtnpmccekkjadhaaDoor.Dk
set_option linter.unusedVariables false

set_option maxHeartbeats 800000 in
theorem clone_any (A : Option Addr) (n c : Nat) (l : List Int) (w : World) (h : Reads w w.heap.size 1 A n (bts l)) (hn : n ≤ 140737488355328) :
    Calls Tryd.prog 31 #[.slice A n c] w fun e w' => ∃ v, e = .returned v ∧ OwnB w' w.heap.size v l ∧ Below w.heap.size w w' := by
  have HR := Lib.hid h
  clear h
  have heq := fun (w : World) => Lib.run_eql_slice_nil (P := Tryd.prog) w 22 5 A n c 0 0 Tryd.underlying22
  cases A with
  | none =>
    have hn0 : n = 0 := HR.out.nil rfl
    subst hn0
    have hl : l = [] := by have := HR.out.1; simpa using this
    subst hl
    go_enter Tryd.func31, Tryd.ntmps31
    go_wp2
    go_ret
    exact ⟨_, rfl, ⟨rfl, .inl ⟨rfl, rfl⟩⟩, Below.refl _ _⟩
  | some ad =>
    go_enter Tryd.func31, Tryd.ntmps31
    go_wp2_with (at_builtin; refine appE w rfl (.tmp 5) (.tmp 6) rfl w.heap.size rfl w.heap.size (some ad) c l n rfl HR.out (Nat.le_refl _) (by omega) (Nat.le_refl _) ?_; intro v2 w2 hown2 hb2)
    go_ret
    exact ⟨_, rfl, hown2, hb2⟩

/-- The cells of a disk. -/
def dcs (v0 v1 : Value) (d : DK) : Array Value := #[v0, .int .i64 (d.f0.s.length : Int), v1, .int .i64 (d.f1.s.length : Int), .bool (!d.on), .int .i64 (d.cnt : Int), .int .i64 (d.left : Int), .int .i64 d.keep]
/-- The blocks of a disk. -/
def dbl (R : Nat) (v0 v1 : Value) (b : Nat) : Prop := b = R ∨ v0.ownBlock = some b ∨ v1.ownBlock = some b
/-- The program's disk at block R, made of the blocks S. -/
def DkP (w : World) (R : Nat) (d : DK) (S : Nat → Prop) : Prop :=
  ∃ v0 v1, Blk w R 62 (dcs v0 v1 d) ∧ OwnB w 0 v0 d.f0.all ∧ OwnB w 0 v1 d.f1.all ∧ (∀ g, v0.ownBlock = some g → v1.ownBlock = some g → False) ∧ S = dbl R v0 v1

theorem u8_ne_disk : 5 ≠ 62 := by decide
theorem DkP.lt {w : World} {R : Nat} {d : DK} {S : Nat → Prop} (h : DkP w R d S) : ∀ b, S b → b < w.heap.size := by
  obtain ⟨v0, v1, hb, h0, h1, hd, rfl⟩ := h
  rintro b (rfl | e | e)
  · exact hb.lt
  · exact h0.lt b e
  · exact h1.lt b e
theorem DkP.stay {w w' : World} {R : Nat} {d : DK} {S : Nat → Prop} (h : DkP w R d S) (hs : Stay S w w') : DkP w' R d S := by
  obtain ⟨v0, v1, hb, h0, h1, hd, rfl⟩ := h
  exact ⟨v0, v1, (hs.2 R (.inl rfl)).trans hb, h0.stay fun g e => hs.2 g (.inr (.inl e)), h1.stay fun g e => hs.2 g (.inr (.inr e)), hd, rfl⟩
theorem DkP.next {w w' : World} {R : Nat} {d : DK} {S : Nat → Prop} (h : DkP w R d S) (hb : Below w.heap.size w w') : DkP w' R d S := h.stay (Stay.below hb h.lt)
theorem DkP.own_ne {w : World} {R : Nat} {d : DK} {v0 v1 : Value} {v : Value} {B : Nat} {l : List Int} (hb : Blk w R 62 (dcs v0 v1 d)) (h : OwnB w B v l) : v.ownBlock ≠ some R :=
  own_blk_ne h hb u8_ne_disk

/-- What a call leaves: its answer, and the disk behind it. -/
def Aft (R : Nat) (d : DK) (S : Nat → Prop) (w : World) (v : Value) (e : Ending) (w' : World) : Prop :=
  e = .returned v ∧ ∃ S', DkP w' R d S' ∧ Turned S w w' ∧ From S S' w
theorem Aft.same {R : Nat} {d : DK} {S : Nat → Prop} {w : World} {v : Value} (h : DkP w R d S) : Aft R d S w v (.returned v) w := ⟨rfl, S, h, Turned.refl _ _, From.refl _ _⟩

/-- A disk whose numbers alone have turned, in block R. -/
theorem DkP.nums {w w' : World} {R : Nat} {d : DK} {v0 v1 : Value} (h0 : OwnB w 0 v0 d.f0.all) (h1 : OwnB w 0 v1 d.f1.all) (hb : Blk w R 62 (dcs v0 v1 d)) (hd : ∀ g, v0.ownBlock = some g → v1.ownBlock = some g → False)
    (hk : ∀ b, b ≠ R → b < w.heap.size → w'.heap[b]? = w.heap[b]?) (d' : DK) (hb' : Blk w' R 62 (dcs v0 v1 d')) (e0 : d'.f0.all = d.f0.all) (e1 : d'.f1.all = d.f1.all) : DkP w' R d' (dbl R v0 v1) := by
  refine ⟨v0, v1, hb', ?_, ?_, hd, rfl⟩
  · rw [e0]; exact h0.stay fun g e => hk g (fun e2 => DkP.own_ne hb h0 (e2 ▸ e)) (h0.lt g e)
  · rw [e1]; exact h1.stay fun g e => hk g (fun e2 => DkP.own_ne hb h1 (e2 ▸ e)) (h1.lt g e)

/-- Is there such a file? -/
def isF (f : Int) : Bool := decide (f = 0 ∨ f = 1)
theorem run_min2 (P : Program) (ts : Array TypeId) (t : TypeId) (a b M : Int) (hM : M = min a b) (w : World) :
    (Builtin.min_ ts t #[.int .i64 a, .int .i64 b]).run P w = .ok (.int .i64 M) w := by
  subst hM
  have e1 : (if b < a then b else a) = min a b := by split <;> omega
  simp only [Builtin.min_, List.foldlM, Builtin.min2, e1, pure_bind]
  rfl
theorem run_max2 (P : Program) (ts : Array TypeId) (t : TypeId) (a b M : Int) (hM : M = max a b) (w : World) :
    (Builtin.max_ ts t #[.int .i64 a, .int .i64 b]).run P w = .ok (.int .i64 M) w := by
  subst hM
  have e1 : (if a < b then b else a) = max a b := by split <;> omega
  simp only [Builtin.max_, List.foldlM, Builtin.max2, e1, pure_bind]
  rfl

set_option maxHeartbeats 400000 in
theorem has_any (a : Addr) (f : Int) (w : World) : Calls Tryd.prog 62 #[.pointer (some a), .int .i64 f] w fun e w' => e = .returned (.bool (isF f)) ∧ w = w' := by
  by_cases h0 : f = 0
  · subst h0
    go_enter Tryd.func62, Tryd.ntmps62
    go_wp2
    go_ret
    exact ⟨rfl, rfl⟩
  by_cases h1 : f = 1
  · subst h1
    go_enter Tryd.func62, Tryd.ntmps62
    go_wp2
    go_ret
    exact ⟨rfl, rfl⟩
  have HE : Hid (isF f = false) := Lib.hid (by unfold isF; simp [h0, h1])
  by_cases h2 : 0 ≤ f
  · have h3 : ¬ f < 2 := by omega
    clear h0 h1
    go_enter Tryd.func62, Tryd.ntmps62
    go_wp2
    go_ret
    exact ⟨by rw [HE.out]; rfl, rfl⟩
  · clear h0 h1
    go_enter Tryd.func62, Tryd.ntmps62
    go_wp2
    go_ret
    exact ⟨by rw [HE.out]; rfl, rfl⟩

set_option maxHeartbeats 400000 in
theorem refusal_any (R : Nat) (f : Int) (d : DK) (S : Nat → Prop) (w : World) (h : DkP w R d S) :
    Calls Tryd.prog 63 #[.pointer (some ⟨R, 0, none⟩), .int .i64 f] w fun e w' => e = .returned (.int .i64 (d.no f)) ∧ w = w' := by
  obtain ⟨v0, v1, hbk, h0, h1, hd, rfl⟩ := h
  obtain ⟨f0, f1, on, cnt, left, keep⟩ := d
  have c4 : w.cell? ⟨R, 4, none⟩ = some (.bool (!on)) := by rw [hbk.cell]; rfl
  clear hbk h0 h1 hd
  by_cases hf : f = 0 ∨ f = 1
  · have HE : Hid (isF f = true) := Lib.hid (by unfold isF; simp [hf])
    have HN : Hid (DK.no ⟨f0, f1, on, cnt, left, keep⟩ f = if on = true then 0 else 40) := Lib.hid (by unfold DK.no; rw [if_pos hf])
    clear hf
    cases on
    all_goals
      go_enter Tryd.func63, Tryd.ntmps63
      go_wp2_with fail
      refine (has_any _ f w).mono ?_
      rw [HE.out]
      rintro e w1 ⟨rfl, rfl⟩
      go_wp2
      go_ret
      exact ⟨by rw [HN.out]; rfl, rfl⟩
  · have HE : Hid (isF f = false) := Lib.hid (by unfold isF; simp [hf])
    have HN : Hid (DK.no ⟨f0, f1, on, cnt, left, keep⟩ f = 1) := Lib.hid (by unfold DK.no; rw [if_neg hf])
    clear hf
    go_enter Tryd.func63, Tryd.ntmps63
    go_wp2_with fail
    refine (has_any _ f w).mono ?_
    rw [HE.out]
    rintro e w1 ⟨rfl, rfl⟩
    go_wp2
    go_ret
    exact ⟨by rw [HN.out]; rfl, rfl⟩

set_option maxHeartbeats 400000 in
theorem down_any (R : Nat) (d : DK) (S : Nat → Prop) (w : World) (h : DkP w R d S) :
    Calls Tryd.prog 30 #[.pointer (some ⟨R, 0, none⟩)] w fun e w' => e = .returned (.bool (!d.on)) ∧ w = w' := by
  obtain ⟨v0, v1, hbk, h0, h1, hd, rfl⟩ := h
  have c4 : w.cell? ⟨R, 4, none⟩ = some (.bool (!d.on)) := by rw [hbk.cell]; rfl
  clear hbk h0 h1 hd
  go_enter Tryd.func30, Tryd.ntmps30
  go_wp2
  go_ret
  exact ⟨rfl, rfl⟩
set_option maxHeartbeats 400000 in
theorem writes_any (R : Nat) (d : DK) (S : Nat → Prop) (w : World) (h : DkP w R d S) :
    Calls Tryd.prog 26 #[.pointer (some ⟨R, 0, none⟩)] w fun e w' => e = .returned (.int .i64 (d.cnt : Int)) ∧ w = w' := by
  obtain ⟨v0, v1, hbk, h0, h1, hd, rfl⟩ := h
  have c5 : w.cell? ⟨R, 5, none⟩ = some (.int .i64 (d.cnt : Int)) := by rw [hbk.cell]; rfl
  clear hbk h0 h1 hd
  go_enter Tryd.func26, Tryd.ntmps26
  go_wp2
  go_ret
  exact ⟨rfl, rfl⟩

theorem DkP.onFl {w : World} {R : Nat} {d : DK} {S : Nat → Prop} (h : DkP w R d S) (b : Bool) : DkP (w.setCell ⟨R, 4, none⟩ (.bool (!b))) R { d with on := b } S := by
  obtain ⟨v0, v1, hbk, h0, h1, hd, rfl⟩ := h
  have := hbk.set_ 4 (.bool (!b))
  exact DkP.nums h0 h1 hbk hd (fun b hb _ => Below.heap_setCell w ⟨R, 4, none⟩ _ b hb) _ (by simpa [dcs] using this) rfl rfl
theorem DkP.self {w : World} {R : Nat} {d : DK} {S : Nat → Prop} (h : DkP w R d S) : S R := by obtain ⟨v0, v1, hbk, h0, h1, hd, rfl⟩ := h; exact .inl rfl
set_option maxHeartbeats 400000 in
theorem on_any (R : Nat) (d : DK) (S : Nat → Prop) (w : World) (h : DkP w R d S) :
    Calls Tryd.prog 20 #[.pointer (some ⟨R, 0, none⟩)] w (Aft R d.ons S w (.tuple #[])) := by
  have H := Lib.hid h
  obtain ⟨v0, v1, hbk, h0, h1, hd, rfl⟩ := h
  have c4 : w.cell? ⟨R, 4, none⟩ = some (.bool (!d.on)) := by rw [hbk.cell]; rfl
  have f4 : w.frozen? ⟨R, 4, none⟩ = false := hbk.frozen 4
  clear hbk h0 h1 hd
  go_enter Tryd.func20, Tryd.ntmps20
  go_wp2
  go_end0
  exact ⟨rfl, _, H.out.onFl true, (Turned.refl _ _).set H.out.self _, From.refl _ _⟩

theorem DkP.setArm {w : World} {R : Nat} {d : DK} {S : Nat → Prop} (h : DkP w R d S) (x : Nat) : DkP (w.setCell ⟨R, 6, none⟩ (.int .i64 (x : Int))) R { d with left := x } S := by
  obtain ⟨v0, v1, hbk, h0, h1, hd, rfl⟩ := h
  have := hbk.set_ 6 (.int .i64 (x : Int))
  exact DkP.nums h0 h1 hbk hd (fun b hb _ => Below.heap_setCell w ⟨R, 6, none⟩ _ b hb) _ (by simpa [dcs] using this) rfl rfl
theorem DkP.setKeep {w : World} {R : Nat} {d : DK} {S : Nat → Prop} (h : DkP w R d S) (x : Int) : DkP (w.setCell ⟨R, 7, none⟩ (.int .i64 x)) R { d with keep := x } S := by
  obtain ⟨v0, v1, hbk, h0, h1, hd, rfl⟩ := h
  have := hbk.set_ 7 (.int .i64 x)
  exact DkP.nums h0 h1 hbk hd (fun b hb _ => Below.heap_setCell w ⟨R, 7, none⟩ _ b hb) _ (by simpa [dcs] using this) rfl rfl
theorem DkP.setCnt {w : World} {R : Nat} {d : DK} {S : Nat → Prop} (h : DkP w R d S) (x : Nat) : DkP (w.setCell ⟨R, 5, none⟩ (.int .i64 (x : Int))) R { d with cnt := x } S := by
  obtain ⟨v0, v1, hbk, h0, h1, hd, rfl⟩ := h
  have := hbk.set_ 5 (.int .i64 (x : Int))
  exact DkP.nums h0 h1 hbk hd (fun b hb _ => Below.heap_setCell w ⟨R, 5, none⟩ _ b hb) _ (by simpa [dcs] using this) rfl rfl
theorem DkP.drewN {w : World} {R : Nat} {d : DK} {S : Nat → Prop} (h : DkP w R d S) (n : Nat) : DkP (w.drewN n) R d S := h.stay (Stay.drewN S w n)
set_option maxHeartbeats 400000 in
theorem arm_any (R : Nat) (n k : Int) (d : DK) (S : Nat → Prop) (w : World) (h : DkP w R d S) :
    Calls Tryd.prog 16 #[.pointer (some ⟨R, 0, none⟩), .int .i64 n, .int .i64 k] w (Aft R (d.arm n k) S w (.tuple #[])) := by
  have H := Lib.hid h
  obtain ⟨v0, v1, hbk, h0, h1, hd, rfl⟩ := h
  have c6 : w.cell? ⟨R, 6, none⟩ = some (.int .i64 (d.left : Int)) := by rw [hbk.cell]; rfl
  have f6 : w.frozen? ⟨R, 6, none⟩ = false := hbk.frozen 6
  have c7 : w.cell? ⟨R, 7, none⟩ = some (.int .i64 d.keep) := by rw [hbk.cell]; rfl
  have f7 : w.frozen? ⟨R, 7, none⟩ = false := hbk.frozen 7
  clear hbk h0 h1 hd
  obtain ⟨m, hm⟩ : ∃ m : Nat, m = n.toNat := ⟨_, rfl⟩
  have HM := Lib.hid hm
  have km := fun (w : World) => run_max2 Tryd.prog #[3, 3] 3 n 0 (m : Int) (by omega) w
  clear hm
  go_enter Tryd.func16, Tryd.ntmps16
  go_wp2
  go_end0
  have e : d.arm n k = { d with left := m, keep := k } := by unfold DK.arm; rw [HM.out]
  rw [e]
  exact ⟨rfl, _, (H.out.setArm m).setKeep k, ((Turned.refl _ _).set H.out.self _).set H.out.self _, From.refl _ _⟩
end Go.Proofs.YtnpmccekkjadhaaDoor.Pk

/- The program's disk: the power goes; a raw write. -/
namespace Go.Proofs.YtnpmccekkjadhaaDoor.Pk
open Go.RowKit Go.Proofs.YtnpmccekkjadhaaDoor.Dk
set_option linter.unusedVariables false

set_option maxHeartbeats 1600000 in
theorem lose_any (R o n c s m : Nat) (A : Option Addr) (k : Int) (w : World) (h0 : w.cell? ⟨R, o, none⟩ = some (.slice A n c)) (h1 : w.cell? ⟨R, o + 1, none⟩ = some (.int .i64 (s : Int))) (f0 : w.frozen? ⟨R, o, none⟩ = false) (f1 : w.frozen? ⟨R, o + 1, none⟩ = false)
    (hs : s ≤ n) (hnc : n ≤ c) (hn : n ≤ 4611686018427387904) (hm : m = s + min k.toNat (n - s)) :
    Calls Tryd.prog 41 #[.pointer (some ⟨R, o, none⟩), .int .i64 k] w fun e w' => e = .returned (.tuple #[]) ∧ ∃ p q, w' = (((w.drewN p).setCell ⟨R, o + 1, none⟩ (.int .i64 (m : Int))).drewN q).setCell ⟨R, o, none⟩ (.slice A m c) := by
  have k1 : IntKind.i64.wrap ((n : Int) - (s : Int)) = (n : Int) - (s : Int) := IntWalk.i64_in _ (by omega)
  obtain ⟨x, hx⟩ : ∃ x : Nat, x = k.toNat := ⟨_, rfl⟩
  obtain ⟨y, hy⟩ : ∃ y : Nat, y = min x (n - s) := ⟨_, rfl⟩
  have km := fun (w : World) => run_max2 Tryd.prog #[3, 3] 3 k 0 (x : Int) (by omega) w
  have kn := fun (w : World) => run_min2 Tryd.prog #[3, 3] 3 (x : Int) ((n : Int) - (s : Int)) (y : Int) (by omega) w
  have k2 : IntKind.i64.wrap ((s : Int) + (y : Int)) = (m : Int) := by rw [IntWalk.i64_in _ (by omega)]; omega
  have hmc : m ≤ c := by omega
  clear hm hx hy
  go_enter Tryd.func41, Tryd.ntmps41
  go_wp2
  go_region
  go_wp2
  go_region
  go_wp2
  go_end0
  exact ⟨rfl, _, _, rfl⟩
theorem lose_list (k : Int) (f : FL) (n m : Nat) (hn : f.all.length = n) (hm : m = f.s.length + min k.toNat (n - f.s.length)) : (f.lose k).all = f.all.take m ∧ (f.lose k).s.length = m ∧ m ≤ n ∧ (f.lose k).s.length = (f.lose k).all.length := by
  unfold FL.all FL.lose at *
  simp only [List.length_append] at hn
  have e1 : n - f.s.length = f.w.length := by omega
  rw [e1] at hm
  have e2 : (f.w.take k.toNat).length = min k.toNat f.w.length := List.length_take
  refine ⟨?_, by simp only [List.length_append, e2]; omega, by omega, by simp⟩
  rw [List.append_nil, List.take_append, List.take_of_length_le (i := m) (l := f.s) (by omega), show m - f.s.length = min k.toNat f.w.length by omega]
  rcases Nat.le_total k.toNat f.w.length with h | h
  · rw [Nat.min_eq_left h]
  · rw [Nat.min_eq_right h, List.take_of_length_le h, List.take_of_length_le (Nat.le_refl _)]
theorem own_any (A : Option Addr) (n c m c' : Nat) : (Value.slice A n c).ownBlock = (Value.slice A m c').ownBlock := by cases A <;> rfl
theorem dbl_any0 (R : Nat) (A : Option Addr) (n c m c' : Nat) (v1 : Value) : dbl R (.slice A n c) v1 = dbl R (.slice A m c') v1 := by unfold dbl; rw [own_any A n c m c']
theorem dbl_any1 (R : Nat) (A : Option Addr) (n c m c' : Nat) (v0 : Value) : dbl R v0 (.slice A n c) = dbl R v0 (.slice A m c') := by unfold dbl; rw [own_any A n c m c']
theorem dk_far (w : World) (R : Nat) (o : Nat) (u : Value) (b : Nat) (h : b ≠ R) : (w.setCell ⟨R, o, none⟩ u).heap[b]? = w.heap[b]? := Below.heap_setCell w ⟨R, o, none⟩ u b h

/-- What the power's going leaves of one file. -/
def Lost (R : Nat) (d : DK) (S : Nat → Prop) (w : World) (e : Ending) (w' : World) : Prop := e = .returned (.tuple #[]) ∧ DkP w' R d S ∧ Turned S w w'
theorem lose_dk0 (R : Nat) (k : Int) (d : DK) (S : Nat → Prop) (w : World) (h : DkP w R d S) (hl : d.f0.all.length ≤ 4611686018427387904) :
    Calls Tryd.prog 41 #[.pointer (some ⟨R, 0, none⟩), .int .i64 k] w (Lost R { d with f0 := d.f0.lose k } S w) := by
  have hself := h.self
  obtain ⟨v0, v1, hbk, h0, h1, hd, rfl⟩ := h
  obtain ⟨A, n, c, rfl⟩ := own_slice h0
  obtain ⟨hn, hnc⟩ := own_len h0
  obtain ⟨m, hm⟩ : ∃ m, m = d.f0.s.length + min k.toNat (n - d.f0.s.length) := ⟨_, rfl⟩
  obtain ⟨e1, e2, e3, e4⟩ := lose_list k d.f0 n m hn hm
  have hs : d.f0.s.length ≤ n := by rw [← hn]; simp [FL.all]
  refine (lose_any R 0 n c d.f0.s.length m A k w (by rw [hbk.cell]; rfl) (by rw [hbk.cell]; rfl) (hbk.frozen 0) (hbk.frozen 1) hs hnc (by omega) hm).mono ?_
  rintro e w' ⟨rfl, p, q, rfl⟩
  refine ⟨rfl, ⟨.slice A m c, v1, ?_, ?_, ?_, by rw [own_any A m c n c]; exact hd, dbl_any0 _ _ _ _ _ _ _⟩, ((((Turned.refl _ _).drewN p).set hself _).drewN q).set hself _⟩
  · have := (((hbk.drewN p).set_ 1 (.int .i64 (m : Int))).drewN q).set_ 0 (.slice A m c)
    simp only [dcs]
    rw [e2]
    simpa [dcs] using this
  · show OwnB _ 0 _ (d.f0.lose k).all
    rw [e1]
    refine (h0.cut e3).stay fun g e => ?_
    have hg : g ≠ R := fun e5 => DkP.own_ne hbk h0 (by rw [← e5, own_any A n c m c]; exact e)
    exact (dk_far _ _ _ _ _ hg).trans (dk_far (w.drewN p) _ _ _ _ hg)
  · refine h1.stay fun g e => ?_
    have hg : g ≠ R := fun e5 => DkP.own_ne hbk h1 (by rw [← e5]; exact e)
    exact (dk_far _ _ _ _ _ hg).trans (dk_far (w.drewN p) _ _ _ _ hg)
theorem lose_dk1 (R : Nat) (k : Int) (d : DK) (S : Nat → Prop) (w : World) (h : DkP w R d S) (hl : d.f1.all.length ≤ 4611686018427387904) :
    Calls Tryd.prog 41 #[.pointer (some ⟨R, 2, none⟩), .int .i64 k] w (Lost R { d with f1 := d.f1.lose k } S w) := by
  have hself := h.self
  obtain ⟨v0, v1, hbk, h0, h1, hd, rfl⟩ := h
  obtain ⟨A, n, c, rfl⟩ := own_slice h1
  obtain ⟨hn, hnc⟩ := own_len h1
  obtain ⟨m, hm⟩ : ∃ m, m = d.f1.s.length + min k.toNat (n - d.f1.s.length) := ⟨_, rfl⟩
  obtain ⟨e1, e2, e3, e4⟩ := lose_list k d.f1 n m hn hm
  have hs : d.f1.s.length ≤ n := by rw [← hn]; simp [FL.all]
  refine (lose_any R 2 n c d.f1.s.length m A k w (by rw [hbk.cell]; rfl) (by rw [hbk.cell]; rfl) (hbk.frozen 2) (hbk.frozen 3) hs hnc (by omega) hm).mono ?_
  rintro e w' ⟨rfl, p, q, rfl⟩
  refine ⟨rfl, ⟨v0, .slice A m c, ?_, ?_, ?_, by rw [own_any A m c n c]; exact hd, dbl_any1 _ _ _ _ _ _ _⟩, ((((Turned.refl _ _).drewN p).set hself _).drewN q).set hself _⟩
  · have := (((hbk.drewN p).set_ 3 (.int .i64 (m : Int))).drewN q).set_ 2 (.slice A m c)
    simp only [dcs]
    rw [e2]
    simpa [dcs] using this
  · refine h0.stay fun g e => ?_
    have hg : g ≠ R := fun e5 => DkP.own_ne hbk h0 (by rw [← e5]; exact e)
    exact (dk_far _ _ _ _ _ hg).trans (dk_far (w.drewN p) _ _ _ _ hg)
  · show OwnB _ 0 _ (d.f1.lose k).all
    rw [e1]
    refine (h1.cut e3).stay fun g e => ?_
    have hg : g ≠ R := fun e5 => DkP.own_ne hbk h1 (by rw [← e5, own_any A n c m c]; exact e)
    exact (dk_far _ _ _ _ _ hg).trans (dk_far (w.drewN p) _ _ _ _ hg)

/-- The disk when j files have lost what is lost. -/
def dlost (k : Int) (d : DK) (j : Nat) : DK := if j = 0 then d else if j = 1 then { d with f0 := d.f0.lose k } else { d with f0 := d.f0.lose k, f1 := d.f1.lose k }

set_option maxHeartbeats 1600000 in
theorem off_any (R : Nat) (k : Int) (d : DK) (S : Nat → Prop) (w : World) (h : DkP w R d S) (hl0 : d.f0.all.length ≤ 4611686018427387904) (hl1 : d.f1.all.length ≤ 4611686018427387904) :
    Calls Tryd.prog 18 #[.pointer (some ⟨R, 0, none⟩), .int .i64 k] w (Aft R (d.offs k) S w (.tuple #[])) := by
  have H := Lib.hid h
  have HL := Lib.hid (And.intro hl0 hl1)
  have HS : Hid (S R) := Lib.hid h.self
  obtain ⟨v0, v1, hbk, h0, h1, hd, hS⟩ := h
  have c4 : w.cell? ⟨R, 4, none⟩ = some (.bool (!d.on)) := by rw [hbk.cell]; rfl
  clear hbk h0 h1 hd hS hl0 hl1
  obtain ⟨on, hon⟩ : ∃ on, on = d.on := ⟨_, rfl⟩
  rw [← hon] at c4
  have HO := Lib.hid hon
  clear hon
  cases on
  · have HD : Hid (d.offs k = d) := Lib.hid (by unfold DK.offs; rw [← HO.out]; rfl)
    go_enter Tryd.func18, Tryd.ntmps18
    go_wp2
    go_end0
    rw [HD.out]
    exact Aft.same H.out
  · have HD : Hid (d.offs k = { d with f0 := d.f0.lose k, f1 := d.f1.lose k, on := false, left := 0 }) := Lib.hid (by unfold DK.offs; rw [← HO.out]; rfl)
    go_enter Tryd.func18, Tryd.ntmps18
    go_wp2
    go_loopw [4, 13] (fun _ i wr => ∃ j : Nat, i = .int .i64 j ∧ j ≤ 2 ∧ DkP wr R (dlost k d j) S ∧ Turned S w wr) (fun _ i _ => 2 - (intOf i).toNat)
    case atStart => exact ⟨0, rfl, by omega, H.out, Turned.refl _ _⟩
    case round =>
      obtain ⟨j, rfl, hj, h2, t2⟩ := hrel
      obtain ⟨w2, rfl⟩ : ∃ w2 : World, w2 = wr := ⟨_, rfl⟩
      have H2 := Lib.hid h2
      have T2 := Lib.hid t2
      clear h2 t2
      obtain rfl | rfl | rfl : j = 0 ∨ j = 1 ∨ j = 2 := by omega
      · go_wp2_with fail
        refine (lose_dk0 R k (dlost k d 0) S w2 H2.out HL.out.1).mono ?_
        rintro e w3 ⟨rfl, h3, t3⟩
        have H3 := Lib.hid h3
        have T3 := Lib.hid t3
        clear h3 t3
        go_wp2
        go_roundw
        case rel => exact ⟨1, rfl, by omega, H3.out, T2.out.trans T3.out (fun _ _ h => h)⟩
        case measure => simp [intOf]
      · go_wp2_with fail
        refine (lose_dk1 R k (dlost k d 1) S w2 H2.out HL.out.2).mono ?_
        rintro e w3 ⟨rfl, h3, t3⟩
        have H3 := Lib.hid h3
        have T3 := Lib.hid t3
        clear h3 t3
        go_wp2
        go_roundw
        case rel => exact ⟨2, rfl, by omega, H3.out, T2.out.trans T3.out (fun _ _ h => h)⟩
        case measure => simp [intOf]
      · have HX := H2.out
        obtain ⟨v0, v1, hbk, _, _, _, _⟩ := HX
        have c4 : w2.cell? ⟨R, 4, none⟩ = some (.bool (!(dlost k d 2).on)) := by rw [hbk.cell]; rfl
        have c6 : w2.cell? ⟨R, 6, none⟩ = some (.int .i64 ((dlost k d 2).left : Int)) := by rw [hbk.cell]; rfl
        have f4 : w2.frozen? ⟨R, 4, none⟩ = false := hbk.frozen 4
        have f6 : w2.frozen? ⟨R, 6, none⟩ = false := hbk.frozen 6
        clear hbk
        go_wp2
        go_end0
        rw [HD.out]
        exact ⟨rfl, S, (H2.out.onFl false).setArm 0, (T2.out.set HS.out _).set HS.out _, From.refl _ _⟩
end Go.Proofs.YtnpmccekkjadhaaDoor.Pk

/- The program's disk: a raw write; Append, Sync. -/
namespace Go.Proofs.YtnpmccekkjadhaaDoor.Pk
open Go.RowKit Go.Proofs.YtnpmccekkjadhaaDoor.Dk
set_option linter.unusedVariables false

theorem Aft.on_ {R : Nat} {d' : DK} {S : Nat → Prop} {w w' : World} {v : Value} (he : DkP w' R d' S) (t : Turned S w w') : Aft R d' S w v (.returned v) w' := ⟨rfl, S, he, t, From.refl _ _⟩

set_option maxHeartbeats 1600000 in
theorem write_any (R : Nat) (d : DK) (S : Nat → Prop) (w : World) (h : DkP w R d S) (hl0 : d.f0.all.length ≤ 4611686018427387904) (hl1 : d.f1.all.length ≤ 4611686018427387904) (hc : d.cnt ≤ 4611686018427387904) (ha : d.left ≤ 9223372036854775807) :
    Calls Tryd.prog 66 #[.pointer (some ⟨R, 0, none⟩)] w (Aft R d.raw S w (.int .i64 d.rawE)) := by
  have H := Lib.hid h
  have HL := Lib.hid (And.intro hl0 hl1)
  have HS : Hid (S R) := Lib.hid h.self
  obtain ⟨v0, v1, hbk, h0, h1, hd, hS⟩ := h
  obtain ⟨a0, a1, on, cnt, left, keep⟩ := d
  simp only at hl0 hl1 hc ha HL H
  have c5 : w.cell? ⟨R, 5, none⟩ = some (.int .i64 (cnt : Int)) := by rw [hbk.cell]; rfl
  have c6 : w.cell? ⟨R, 6, none⟩ = some (.int .i64 (left : Int)) := by rw [hbk.cell]; rfl
  have c7 : w.cell? ⟨R, 7, none⟩ = some (.int .i64 keep) := by rw [hbk.cell]; rfl
  have f5 : w.frozen? ⟨R, 5, none⟩ = false := hbk.frozen 5
  have f6 : w.frozen? ⟨R, 6, none⟩ = false := hbk.frozen 6
  clear hbk h0 h1 hd hS hl0 hl1
  have K5 : Hid (Value.int .i64 ((cnt : Int) + 1) = .int .i64 ((cnt + 1 : Nat) : Int)) := Lib.hid (by simp)
  obtain rfl | rfl | ⟨y, rfl⟩ : left = 0 ∨ left = 1 ∨ ∃ y, left = y + 2 := by
    rcases left with _ | _ | y
    · exact .inl rfl
    · exact .inr (.inl rfl)
    · exact .inr (.inr ⟨y, rfl⟩)
  · go_enter Tryd.func66, Tryd.ntmps66
    go_wp2
    go_ret
    rw [K5.out]
    exact Aft.on_ (H.out.setCnt (cnt + 1)) ((Turned.refl _ _).set HS.out _)
  · have c7' : ((w.setCell ⟨R, 5, none⟩ (.int .i64 ((cnt : Int) + 1))).setCell ⟨R, 6, none⟩ (.int .i64 0)).cell? ⟨R, 7, none⟩ = some (.int .i64 keep) := by go_simp
    go_enter Tryd.func66, Tryd.ntmps66
    go_wp2_with fail
    rw [K5.out]
    refine (off_any R keep _ S _ ((H.out.setCnt (cnt + 1)).setArm 0) HL.out.1 HL.out.2).mono ?_
    rintro e w2 ⟨rfl, S2, h2, t2, g2⟩
    have H2 := Lib.hid h2
    have T2 := Lib.hid ((((Turned.refl S w).set HS.out (p := ⟨R, 5, none⟩) (.int .i64 ((cnt + 1 : Nat) : Int))).set HS.out (p := ⟨R, 6, none⟩) (.int .i64 ((0 : Nat) : Int))).trans t2 (fun _ _ h => h))
    have G2 : Hid (From S S2 w) := Lib.hid fun b hb => by
      rcases g2 b hb with h1 | h1
      · exact .inl h1
      · exact .inr (by simpa [World.setCell] using h1)
    clear h2 t2 g2
    go_wp2
    go_ret
    exact ⟨rfl, S2, H2.out, T2.out, G2.out⟩
  · have t1 : (((y + 2 : Nat) : Int) == 0) = false := beq_eq_false_iff_ne.2 (by omega)
    have k6 : IntKind.i64.wrap (((y + 2 : Nat) : Int) - 1) = ((y + 1 : Nat) : Int) := by rw [IntWalk.i64_in _ (by omega)]; omega
    have t2 : ((0 : Int) < ((y + 1 : Nat) : Int)) := by omega
    obtain ⟨z, hz⟩ : ∃ z : Int, z = ((y + 2 : Nat) : Int) := ⟨_, rfl⟩
    obtain ⟨z1, hz1⟩ : ∃ z1 : Int, z1 = ((y + 1 : Nat) : Int) := ⟨_, rfl⟩
    rw [← hz] at c6 t1 k6
    rw [← hz1] at k6 t2
    have HZ := Lib.hid hz1
    have HE : Hid (DK.raw ⟨a0, a1, on, cnt, y + 2, keep⟩ = ⟨a0, a1, on, cnt + 1, y + 1, keep⟩ ∧ DK.rawE ⟨a0, a1, on, cnt, y + 2, keep⟩ = 0) := Lib.hid (by
      constructor
      · unfold DK.raw; rw [if_neg (by simp)]; rfl
      · unfold DK.rawE; rw [if_neg (by simp)])
    clear hz hz1
    go_enter Tryd.func66, Tryd.ntmps66
    go_wp2
    go_ret
    rw [K5.out, HE.out.1, HE.out.2, HZ.out]
    exact Aft.on_ ((H.out.setCnt (cnt + 1)).setArm (y + 1)) (((Turned.refl _ _).set HS.out _).set HS.out _)
end Go.Proofs.YtnpmccekkjadhaaDoor.Pk

/- The program's disk: Append. -/
namespace Go.Proofs.YtnpmccekkjadhaaDoor.Pk
open Go.RowKit Go.Proofs.YtnpmccekkjadhaaDoor.Dk
set_option linter.unusedVariables false


theorem grown_drew {w w2 : World} {r : Option Nat} (h : w.drew.grownBy w2 r) : w.grownBy w2 r := ⟨h.os, h.tape, h.output, h.size, h.block⟩
/-- What an append to a file's bytes leaves. -/
theorem DkP.grow {w w1 : World} {R : Nat} {d : DK} {v0 v1 : Value} {l : List Int} {vo : Value} {o : Nat} (hbk : Blk w R 62 (dcs v0 v1 d)) (h0 : OwnB w 0 v0 d.f0.all) (h1 : OwnB w 0 v1 d.f1.all)
    (hvo : OwnB w 0 vo l) (hS : ∀ g, vo.ownBlock = some g → dbl R v0 v1 g) (hg : w.grownBy w1 vo.ownBlock) :
    Blk w1 R 62 (dcs v0 v1 d) ∧ w1.cell? ⟨R, o, none⟩ = w.cell? ⟨R, o, none⟩ ∧ w1.frozen? ⟨R, o, none⟩ = false ∧ Turned (dbl R v0 v1) w w1 := by
  have hb1 := hbk.grown hg (fun e => DkP.own_ne hbk hvo e.symm)
  exact ⟨hb1, by rw [hb1.cell, hbk.cell], hb1.frozen o, (Turned.refl _ _).grown hg (fun g e _ => hS g e)⟩

theorem DkP.grown0 {w w2 : World} {R : Nat} {d : DK} {v0 v1 v2 : Value} {b : List Int} (hbk : Blk w R 62 (dcs v0 v1 d)) (h0 : OwnB w 0 v0 d.f0.all) (h1 : OwnB w 0 v1 d.f1.all) (hd : ∀ g, v0.ownBlock = some g → v1.ownBlock = some g → False)
    (h2 : OwnB w2 0 v2 (d.f0.all ++ b)) (hg : w.grownBy w2 v0.ownBlock) (hat : v2.ownBlock = v0.ownBlock ∨ v2.ownBlock = some w.heap.size) :
    DkP (w2.setCell ⟨R, 0, none⟩ v2) R (d.put 0 ⟨d.f0.s, d.f0.w ++ b⟩) (dbl R v2 v1) ∧ Turned (dbl R v0 v1) w (w2.setCell ⟨R, 0, none⟩ v2) ∧ From (dbl R v0 v1) (dbl R v2 v1) w := by
  have hb1 := hbk.grown hg (fun e => DkP.own_ne hbk h0 e.symm)
  have hsz := hg.size
  have hl1 := h1.lt
  have ne2 : ∀ g, v2.ownBlock = some g → g ≠ R := fun g e e2 => by
    rcases hat with h | h
    · exact DkP.own_ne hbk h0 (by rw [← h, e, e2])
    · rw [e] at h; injection h with h; have := hbk.lt; omega
  have h1' : OwnB w2 0 v1 d.f1.all := h1.stay fun g e => hg.block g (hl1 g e) (fun e2 => hd g (e2.symm) (e))
  have dis : ∀ g, v2.ownBlock = some g → v1.ownBlock = some g → False := fun g e e2 => by
    rcases hat with h | h
    · exact hd g (by rw [← h, e]) e2
    · rw [e] at h; injection h with h; have := hl1 g e2; omega
  refine ⟨⟨v2, v1, ?_, ?_, ?_, dis, rfl⟩, ((Turned.refl _ _).grown hg (fun g e _ => .inr (.inl e))).set (.inl rfl) _, ?_⟩
  · have := hb1.set_ 0 v2
    simpa [dcs, DK.put] using this
  · show OwnB _ 0 _ (d.f0.s ++ (d.f0.w ++ b))
    rw [← List.append_assoc]
    exact h2.stay fun g e => dk_far _ _ _ _ _ (ne2 g e)
  · show OwnB _ 0 _ d.f1.all
    skip
    exact h1'.stay fun g e => dk_far _ _ _ _ _ (fun e2 => DkP.own_ne hbk h1 (by rw [← e2]; exact e))
  · rintro g (rfl | e | e)
    · exact .inl (.inl rfl)
    · rcases hat with h | h
      · exact .inl (.inr (.inl (by rw [← h, e])))
      · rw [e] at h; injection h with h; exact .inr (by omega)
    · exact .inl (.inr (.inr e))
theorem DkP.grown1 {w w2 : World} {R : Nat} {d : DK} {v0 v1 v2 : Value} {b : List Int} (hbk : Blk w R 62 (dcs v0 v1 d)) (h0 : OwnB w 0 v0 d.f0.all) (h1 : OwnB w 0 v1 d.f1.all) (hd : ∀ g, v0.ownBlock = some g → v1.ownBlock = some g → False)
    (h2 : OwnB w2 0 v2 (d.f1.all ++ b)) (hg : w.grownBy w2 v1.ownBlock) (hat : v2.ownBlock = v1.ownBlock ∨ v2.ownBlock = some w.heap.size) :
    DkP (w2.setCell ⟨R, 2, none⟩ v2) R (d.put 1 ⟨d.f1.s, d.f1.w ++ b⟩) (dbl R v0 v2) ∧ Turned (dbl R v0 v1) w (w2.setCell ⟨R, 2, none⟩ v2) ∧ From (dbl R v0 v1) (dbl R v0 v2) w := by
  have hb1 := hbk.grown hg (fun e => DkP.own_ne hbk h1 e.symm)
  have hsz := hg.size
  have hl0 := h0.lt
  have ne2 : ∀ g, v2.ownBlock = some g → g ≠ R := fun g e e2 => by
    rcases hat with h | h
    · exact DkP.own_ne hbk h1 (by rw [← h, e, e2])
    · rw [e] at h; injection h with h; have := hbk.lt; omega
  have h0' : OwnB w2 0 v0 d.f0.all := h0.stay fun g e => hg.block g (hl0 g e) (fun e2 => hd g (e) (e2.symm))
  have dis : ∀ g, v2.ownBlock = some g → v0.ownBlock = some g → False := fun g e e2 => by
    rcases hat with h | h
    · exact hd g e2 (by rw [← h, e])
    · rw [e] at h; injection h with h; have := hl0 g e2; omega
  refine ⟨⟨v0, v2, ?_, ?_, ?_, fun g e e2 => dis g e2 e, rfl⟩, ((Turned.refl _ _).grown hg (fun g e _ => .inr (.inr e))).set (.inl rfl) _, ?_⟩
  · have := hb1.set_ 2 v2
    simpa [dcs, DK.put] using this
  · show OwnB _ 0 _ d.f0.all
    skip
    exact h0'.stay fun g e => dk_far _ _ _ _ _ (fun e2 => DkP.own_ne hbk h0 (by rw [← e2]; exact e))
  · show OwnB _ 0 _ (d.f1.s ++ (d.f1.w ++ b))
    rw [← List.append_assoc]
    exact h2.stay fun g e => dk_far _ _ _ _ _ (ne2 g e)
  · rintro g (rfl | e | e)
    · exact .inl (.inl rfl)
    · exact .inl (.inr (.inl e))
    · rcases hat with h | h
      · exact .inl (.inr (.inr (by rw [← h, e])))
      · rw [e] at h; injection h with h; exact .inr (by omega)

set_option maxHeartbeats 3200000 in
theorem append_any (R : Nat) (f : Int) (A : Option Addr) (n c : Nat) (b : List Int) (d : DK) (S : Nat → Prop) (w : World) (h : DkP w R d S) (hr : Reads w w.heap.size 1 A n (bts b)) (M m : Nat) (hfit : d.fit M m) (hM : M + n ≤ 140737488355328) (hm : m ≤ 4611686018427387904) :
    Calls Tryd.prog 54 #[.pointer (some ⟨R, 0, none⟩), .int .i64 f, .slice A n c] w (Aft R (d.app f b) S w (.int .i64 (d.appE f))) := by
  have H := Lib.hid h
  have HR := Lib.hid hr
  have HB : b.length = n := by have := hr.1; simpa using this
  have hl0 := hfit.l0
  have hl1 := hfit.l1
  by_cases hno : d.no f = 0
  · have hf : f = 0 ∨ f = 1 := by
      unfold DK.no at hno
      by_cases h1 : f = 0 ∨ f = 1
      · exact h1
      · rw [if_neg h1] at hno; cases hno
    have HD : Hid (d.app f b = (d.put f ⟨(d.get f).s, (d.get f).w ++ b⟩).raw ∧ d.appE f = d.rawE) := Lib.hid (by unfold DK.app DK.appE; rw [if_pos hno, if_pos hno]; exact ⟨rfl, rfl⟩)
    have HF : Hid ((d.put f ⟨(d.get f).s, (d.get f).w ++ b⟩).fit (M + n) m) := Lib.hid ((hfit.mono (by omega) (Nat.le_refl _)).put f _ (by have := hfit.get f; simp [FL.all] at this ⊢; omega))
    have HN := Lib.hid hno
    obtain ⟨v0, v1, hbk, h0, h1, hd, rfl⟩ := h
    obtain ⟨A0, n0, c0, rfl⟩ := own_slice h0
    obtain ⟨A1, n1, c1, rfl⟩ := own_slice h1
    have o0 := (own_len h0).1
    have o1 := (own_len h1).1
    have m0 : n0 + n ≤ 140737488355328 := by omega
    have m1 : n1 + n ≤ 140737488355328 := by omega
    have L0 := Lib.hid o0
    have L1 := Lib.hid o1
    have X0 := Lib.hid h0
    have X1 := Lib.hid h1
    have HBK := Lib.hid hbk
    have HDJ := Lib.hid hd
    have c0' : w.cell? ⟨R, 0, none⟩ = some (.slice A0 n0 c0) := by rw [hbk.cell]; rfl
    have c2' : w.cell? ⟨R, 2, none⟩ = some (.slice A1 n1 c1) := by rw [hbk.cell]; rfl
    clear hbk h0 h1 hd hr hno o0 o1 HB hfit hl0 hl1
    rcases hf with rfl | rfl
    · go_enter Tryd.func54, Tryd.ntmps54
      go_wp2_with fail
      refine (refusal_any R 0 d _ w H.out).mono ?_
      rw [HN.out]
      rintro e w1 ⟨rfl, rfl⟩
      go_wp2_with fail
      go_region_law (refine stepB w.drew rfl (.tmp 22) (.tmp 23) rfl 0 (.slice A0 n0 c0) d.f0.all rfl X0.out w.heap.size A c b n rfl HR.out (by rw [L0.out]; exact m0) (Nat.zero_le _) ?_; intro A2 n2 c2 w2 hown2 hg2 hat2; have G2 := DkP.grow (o := 0) HBK.out X0.out X1.out X0.out (fun g e => .inr (.inl e)) (grown_drew hg2); have HG2 := Lib.hid (DkP.grown0 HBK.out X0.out X1.out HDJ.out hown2 (grown_drew hg2) hat2); have cc := G2.2.1.trans c0'; have ff := G2.2.2.1; clear G2 hown2 hg2 hat2)
      go_wp2_with fail
      refine (write_any R _ _ _ HG2.out.1 (Nat.le_trans HF.out.l0 (by omega)) (Nat.le_trans HF.out.l1 (by omega)) (Nat.le_trans HF.out.c hm) HF.out.a).mono ?_
      rintro e w3 ⟨rfl, S3, h3, t3, g3⟩
      have H3 := Lib.hid h3
      have T3 := Lib.hid (HG2.out.2.1.also HG2.out.2.2 t3)
      have G3 := Lib.hid (HG2.out.2.2.trans g3 HG2.out.2.1.size)
      clear h3 t3 g3
      go_wp2
      go_ret
      rw [HD.out.1, HD.out.2]
      exact ⟨rfl, S3, H3.out, T3.out, G3.out⟩
    · go_enter Tryd.func54, Tryd.ntmps54
      go_wp2_with fail
      refine (refusal_any R 1 d _ w H.out).mono ?_
      rw [HN.out]
      rintro e w1 ⟨rfl, rfl⟩
      go_wp2_with fail
      go_region_law (refine stepB w.drew rfl (.tmp 22) (.tmp 23) rfl 0 (.slice A1 n1 c1) d.f1.all rfl X1.out w.heap.size A c b n rfl HR.out (by rw [L1.out]; exact m1) (Nat.zero_le _) ?_; intro A2 n2 c2 w2 hown2 hg2 hat2; have G2 := DkP.grow (o := 2) HBK.out X0.out X1.out X1.out (fun g e => .inr (.inr e)) (grown_drew hg2); have HG2 := Lib.hid (DkP.grown1 HBK.out X0.out X1.out HDJ.out hown2 (grown_drew hg2) hat2); have cc := G2.2.1.trans c2'; have ff := G2.2.2.1; clear G2 hown2 hg2 hat2)
      go_wp2_with fail
      refine (write_any R _ _ _ HG2.out.1 (Nat.le_trans HF.out.l0 (by omega)) (Nat.le_trans HF.out.l1 (by omega)) (Nat.le_trans HF.out.c hm) HF.out.a).mono ?_
      rintro e w3 ⟨rfl, S3, h3, t3, g3⟩
      have H3 := Lib.hid h3
      have T3 := Lib.hid (HG2.out.2.1.also HG2.out.2.2 t3)
      have G3 := Lib.hid (HG2.out.2.2.trans g3 HG2.out.2.1.size)
      clear h3 t3 g3
      go_wp2
      go_ret
      rw [HD.out.1, HD.out.2]
      exact ⟨rfl, S3, H3.out, T3.out, G3.out⟩
  · have HD : Hid (d.app f b = d ∧ d.appE f = d.no f) := Lib.hid (by unfold DK.app DK.appE; rw [if_neg hno, if_neg hno]; exact ⟨rfl, rfl⟩)
    have hne : (d.no f == 0) = false := beq_eq_false_iff_ne.2 hno
    have hne' : (d.no f != 0) = true := by simp [hno]
    clear hno hfit hl0 hl1 HB h hr
    go_enter Tryd.func54, Tryd.ntmps54
    go_wp2_with fail
    refine (refusal_any R f d _ w H.out).mono ?_
    rintro e w1 ⟨rfl, rfl⟩
    go_wp2
    go_ret
    rw [HD.out.1, HD.out.2]
    exact Aft.same H.out
end Go.Proofs.YtnpmccekkjadhaaDoor.Pk

/- The program's disk: Sync, Truncate. -/
namespace Go.Proofs.YtnpmccekkjadhaaDoor.Pk
open Go.RowKit Go.Proofs.YtnpmccekkjadhaaDoor.Dk
set_option linter.unusedVariables false

theorem DkP.vals {w : World} {R : Nat} {d : DK} {S : Nat → Prop} (h : DkP w R d S) : ∃ A0 c0 A1 c1, d.f0.all.length ≤ c0 ∧ d.f1.all.length ≤ c1 ∧ w.cell? ⟨R, 0, none⟩ = some (.slice A0 d.f0.all.length c0) ∧ w.cell? ⟨R, 2, none⟩ = some (.slice A1 d.f1.all.length c1) ∧
    w.cell? ⟨R, 1, none⟩ = some (.int .i64 (d.f0.s.length : Int)) ∧ w.cell? ⟨R, 3, none⟩ = some (.int .i64 (d.f1.s.length : Int)) ∧ (∀ o, w.frozen? ⟨R, o, none⟩ = false) ∧
    S = dbl R (.slice A0 d.f0.all.length c0) (.slice A1 d.f1.all.length c1) ∧ Blk w R 62 (dcs (.slice A0 d.f0.all.length c0) (.slice A1 d.f1.all.length c1) d) ∧ OwnB w 0 (.slice A0 d.f0.all.length c0) d.f0.all ∧ OwnB w 0 (.slice A1 d.f1.all.length c1) d.f1.all ∧
    (∀ g, (Value.slice A0 d.f0.all.length c0).ownBlock = some g → (Value.slice A1 d.f1.all.length c1).ownBlock = some g → False) := by
  obtain ⟨v0, v1, hbk, h0, h1, hd, rfl⟩ := h
  obtain ⟨A0, n0, c0, rfl⟩ := own_slice h0
  obtain ⟨A1, n1, c1, rfl⟩ := own_slice h1
  obtain ⟨rfl, z0⟩ := own_len h0
  obtain ⟨rfl, z1⟩ := own_len h1
  exact ⟨A0, c0, A1, c1, z0, z1, by rw [hbk.cell]; rfl, by rw [hbk.cell]; rfl, by rw [hbk.cell]; rfl, by rw [hbk.cell]; rfl, fun o => hbk.frozen o, rfl, hbk, h0, h1, hd⟩
theorem DkP.sync0 {w : World} {R : Nat} {d : DK} {S : Nat → Prop} (h : DkP w R d S) (n : Nat) (hn : n = d.f0.all.length) : DkP (w.setCell ⟨R, 1, none⟩ (.int .i64 (n : Int))) R (d.put 0 ⟨d.f0.all, []⟩) S := by
  subst hn
  obtain ⟨v0, v1, hbk, h0, h1, hd, rfl⟩ := h
  have := hbk.set_ 1 (.int .i64 (d.f0.all.length : Int))
  exact DkP.nums h0 h1 hbk hd (fun b hb _ => Below.heap_setCell w ⟨R, 1, none⟩ _ b hb) _ (by simpa [dcs, DK.put] using this) (by simp [DK.put, FL.all]) (by simp [DK.put, FL.all])
theorem DkP.sync1 {w : World} {R : Nat} {d : DK} {S : Nat → Prop} (h : DkP w R d S) (n : Nat) (hn : n = d.f1.all.length) : DkP (w.setCell ⟨R, 3, none⟩ (.int .i64 (n : Int))) R (d.put 1 ⟨d.f1.all, []⟩) S := by
  subst hn
  obtain ⟨v0, v1, hbk, h0, h1, hd, rfl⟩ := h
  have := hbk.set_ 3 (.int .i64 (d.f1.all.length : Int))
  exact DkP.nums h0 h1 hbk hd (fun b hb _ => Below.heap_setCell w ⟨R, 3, none⟩ _ b hb) _ (by simpa [dcs, DK.put] using this) (by simp [DK.put, FL.all]) (by simp [DK.put, FL.all])
theorem raw_off {d : DK} (h : d.left = 1) : d.rawE = 40 := by unfold DK.rawE; rw [if_pos h]
theorem raw_on {d : DK} (h : d.left ≠ 1) : d.rawE = 0 ∧ d.raw = d.count := by unfold DK.rawE DK.raw; rw [if_neg h, if_neg h]; exact ⟨rfl, rfl⟩
theorem no_file {d : DK} {f : Int} (h : d.no f = 0) : f = 0 ∨ f = 1 := by
  unfold DK.no at h
  by_cases h1 : f = 0 ∨ f = 1
  · exact h1
  · rw [if_neg h1] at h; cases h

set_option maxHeartbeats 3200000 in
theorem sync_any (R : Nat) (f : Int) (d : DK) (S : Nat → Prop) (w : World) (h : DkP w R d S) (M m : Nat) (hfit : d.fit M m) (hM : M ≤ 140737488355328) (hm : m ≤ 4611686018427387904) :
    Calls Tryd.prog 67 #[.pointer (some ⟨R, 0, none⟩), .int .i64 f] w (Aft R (d.syn f) S w (.int .i64 (d.appE f))) := by
  have H := Lib.hid h
  have HF := Lib.hid hfit
  by_cases hno : d.no f = 0
  · have hf := no_file hno
    have HN := Lib.hid hno
    by_cases hlf : d.left = 1
    · have HD : Hid (d.syn f = d.raw ∧ d.appE f = 40 ∧ d.rawE = 40) := Lib.hid (by unfold DK.syn DK.appE; rw [if_pos hno, if_pos hno, if_pos hlf]; exact ⟨rfl, raw_off hlf, raw_off hlf⟩)
      clear hno hf hlf h hfit
      go_enter Tryd.func67, Tryd.ntmps67
      go_wp2_with fail
      refine (refusal_any R f d _ w H.out).mono ?_
      rw [HN.out]
      rintro e w1 ⟨rfl, rfl⟩
      go_wp2_with fail
      refine (write_any R d _ _ H.out (Nat.le_trans HF.out.l0 (by omega)) (Nat.le_trans HF.out.l1 (by omega)) (Nat.le_trans HF.out.c hm) HF.out.a).mono ?_
      rw [HD.out.2.2]
      rintro e w3 ⟨rfl, S3, h3, t3, g3⟩
      have HE := Lib.hid (And.intro h3 (And.intro t3 g3))
      clear h3 t3 g3
      go_wp2
      go_ret
      rw [HD.out.1, HD.out.2.1]
      exact ⟨rfl, S3, HE.out.1, HE.out.2.1, HE.out.2.2⟩
    · have HD : Hid (d.syn f = d.raw.put f ⟨(d.get f).all, []⟩ ∧ d.appE f = 0 ∧ d.rawE = 0 ∧ d.raw = d.count) := Lib.hid (by unfold DK.syn DK.appE; rw [if_pos hno, if_pos hno, if_neg hlf]; exact ⟨rfl, (raw_on hlf).1, raw_on hlf⟩)
      clear hno hlf h hfit
      rcases hf with rfl | rfl
      · go_enter Tryd.func67, Tryd.ntmps67
        go_wp2_with fail
        refine (refusal_any R 0 d _ w H.out).mono ?_
        rw [HN.out]
        rintro e w1 ⟨rfl, rfl⟩
        go_wp2_with fail
        refine (write_any R d _ _ H.out (Nat.le_trans HF.out.l0 (by omega)) (Nat.le_trans HF.out.l1 (by omega)) (Nat.le_trans HF.out.c hm) HF.out.a).mono ?_
        rw [HD.out.2.2.1]
        rintro e w3 ⟨rfl, S3, h3, t3, g3⟩
        have HS3 := Lib.hid h3.self
        have H3 := Lib.hid h3
        obtain ⟨A0, c0, A1, c1, _, _, x0, x2, x1, x3, ff, _⟩ := h3.vals
        have f1 := ff 1
        obtain ⟨n, hn⟩ : ∃ n, n = d.raw.f0.all.length := ⟨_, rfl⟩
        rw [← hn] at x0
        have HNN := Lib.hid hn
        have T3 := Lib.hid (And.intro t3 g3)
        clear h3 ff t3 g3 hn
        go_wp2
        go_region
        go_wp2
        go_ret
        rw [HD.out.1, HD.out.2.1]
        have e1 : (d.get 0).all = d.raw.f0.all := by rw [HD.out.2.2.2]; rfl
        rw [e1]
        exact ⟨rfl, S3, (H3.out.drewN 1).sync0 n HNN.out, T3.out.1.drew.trans ((Turned.refl S3 _).set HS3.out _) (fun b hb hs => by rcases T3.out.2 b hs with h1 | h1; exact h1; omega), T3.out.2⟩
      · go_enter Tryd.func67, Tryd.ntmps67
        go_wp2_with fail
        refine (refusal_any R 1 d _ w H.out).mono ?_
        rw [HN.out]
        rintro e w1 ⟨rfl, rfl⟩
        go_wp2_with fail
        refine (write_any R d _ _ H.out (Nat.le_trans HF.out.l0 (by omega)) (Nat.le_trans HF.out.l1 (by omega)) (Nat.le_trans HF.out.c hm) HF.out.a).mono ?_
        rw [HD.out.2.2.1]
        rintro e w3 ⟨rfl, S3, h3, t3, g3⟩
        have HS3 := Lib.hid h3.self
        have H3 := Lib.hid h3
        obtain ⟨A0, c0, A1, c1, _, _, x0, x2, x1, x3, ff, _⟩ := h3.vals
        have f3 := ff 3
        obtain ⟨n, hn⟩ : ∃ n, n = d.raw.f1.all.length := ⟨_, rfl⟩
        rw [← hn] at x2
        have HNN := Lib.hid hn
        have T3 := Lib.hid (And.intro t3 g3)
        clear h3 ff t3 g3 hn
        go_wp2
        go_region
        go_wp2
        go_ret
        rw [HD.out.1, HD.out.2.1]
        have e1 : (d.get 1).all = d.raw.f1.all := by rw [HD.out.2.2.2]; rfl
        rw [e1]
        exact ⟨rfl, S3, (H3.out.drewN 1).sync1 n HNN.out, T3.out.1.drew.trans ((Turned.refl S3 _).set HS3.out _) (fun b hb hs => by rcases T3.out.2 b hs with h1 | h1; exact h1; omega), T3.out.2⟩
  · have HD : Hid (d.syn f = d ∧ d.appE f = d.no f) := Lib.hid (by unfold DK.syn DK.appE; rw [if_neg hno, if_neg hno]; exact ⟨rfl, rfl⟩)
    have hne : (d.no f == 0) = false := beq_eq_false_iff_ne.2 hno
    clear hno hfit h
    go_enter Tryd.func67, Tryd.ntmps67
    go_wp2_with fail
    refine (refusal_any R f d _ w H.out).mono ?_
    rintro e w1 ⟨rfl, rfl⟩
    go_wp2
    go_ret
    rw [HD.out.1, HD.out.2]
    exact Aft.same H.out
end Go.Proofs.YtnpmccekkjadhaaDoor.Pk
