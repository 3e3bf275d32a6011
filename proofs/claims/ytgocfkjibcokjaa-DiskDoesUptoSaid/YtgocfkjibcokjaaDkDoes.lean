/- The statements' own 'does' and 'wakes': calls of the program's disk. -/
import Derived.Test.YtgocfkjibcokjaaDkRead
import Derived.Lib.SlBytesConst
namespace Go.Proofs.Ytgocfkjibcokjaa.Pk
open Go.RowKit Go.Proofs.Ytgocfkjibcokjaa.Dk
set_option linter.unusedVariables false

theorem From.back {S S' : Nat → Prop} {w w' : World} (h : From S S' w') (hs : w.heap.size ≤ w'.heap.size) : From S S' w := fun b hb => by
  rcases h b hb with h1 | h1
  · exact .inl h1
  · exact .inr (by omega)
/-- What a call of a script leaves: bytes of its own, an error, the disk behind it. -/
def DoP (R : Nat) (d' : DK) (S : Nat → Prop) (l : List Int) (x : Int) (w : World) (e : Ending) (w' : World) : Prop :=
  ∃ A n c, e = .returned (.tuple #[.slice A n c, .int .i64 x]) ∧ ∃ S', DkP w' R d' S' ∧ Turned S w w' ∧ From S S' w ∧ OwnB w' w.heap.size (.slice A n c) l ∧ (∀ g, (Value.slice A n c).ownBlock = some g → ¬ S' g)
theorem DoP.of {R : Nat} {d' : DK} {S : Nat → Prop} {x : Int} {w w1 w2 : World} {v : Value} {e : Ending} (h : Aft R d' S w1 v e w2) (h1 : Below w.heap.size w w1) : DoP R d' S [] x w (.returned (.tuple #[.slice none 0 0, .int .i64 x])) w2 := by
  obtain ⟨_, S', h2, t, g⟩ := h
  exact ⟨none, 0, 0, rfl, S', h2, (Turned.of h1 (Nat.le_refl _) S).trans t (fun _ _ h => h), g.back h1.size, OwnB.nil_ _ _, fun g e => by simp [Value.ownBlock] at e⟩
theorem DoP.rd {R : Nat} {d : DK} {S : Nat → Prop} {x : Int} {l : List Int} {w w1 w2 : World} {A : Option Addr} {n c : Nat} (h : DkP w1 R d S) (ho : OwnB w2 w1.heap.size (.slice A n c) l) (hb : Below w1.heap.size w1 w2) (h1 : Below w.heap.size w w1) : DoP R d S l x w (.returned (.tuple #[.slice A n c, .int .i64 x])) w2 := by
  refine ⟨A, n, c, rfl, S, h.next hb, (Turned.of h1 (Nat.le_refl _) S).next hb, From.refl _ _, ho.mono h1.size, fun g e hs => ?_⟩
  have := ho.base g e
  have := h.lt g hs
  omega
def ocell (o : Cm) (A : Option Addr) (m c : Nat) : Array Value := #[.int .i64 o.kind, .int .i64 o.f, .int .i64 o.n, .int .i64 o.k, .slice A m c]

set_option maxHeartbeats 3200000 in
theorem does_any (R : Nat) (d : DK) (S : Nat → Prop) (o : Cm) (A : Option Addr) (m c : Nat) (w : World) (h : DkP w R d S) (hr : Reads w w.heap.size 1 A m (bts o.b)) (M q : Nat) (hfit : d.fit M q) (hM : M + m ≤ 140737488355328) (hq : q ≤ 4611686018427387904) :
    Calls Try.prog 25 #[.pointer (some ⟨R, 0, none⟩), .agg (ocell o A m c)] w (DoP R (d.does o) S (d.doesB o) (d.doesE o) w) := by
  have HB : Hid (Below w.heap.size w (w.alloc (.cells (ocell o A m c) 53))) := Lib.hid ((Below.refl _ _).alloc (Nat.le_refl _) _)
  have H : Hid (DkP (w.alloc (.cells (ocell o A m c) 53)) R d S) := Lib.hid (h.next HB.out)
  have HR : Hid (Reads (w.alloc (.cells (ocell o A m c) 53)) (w.alloc (.cells (ocell o A m c) 53)).heap.size 1 A m (bts o.b)) := Lib.hid ((hr.alloc (Nat.le_refl _) _).more (by simp))
  have HF := Lib.hid hfit
  have HL : Hid (d.f0.all.length ≤ 140737488355328 ∧ d.f1.all.length ≤ 140737488355328) := Lib.hid ⟨Nat.le_trans hfit.l0 (by omega), Nat.le_trans hfit.l1 (by omega)⟩
  clear h hr hfit
  obtain ⟨kd, f, n, k, b⟩ := o
  unfold ocell at H HR HB ⊢
  simp only at H HR HB ⊢
  by_cases h0 : kd = 0
  · subst h0
    have HD : Hid (d.does ⟨0, f, n, k, b⟩ = d.app f b ∧ d.doesE ⟨0, f, n, k, b⟩ = d.appE f ∧ d.doesB ⟨0, f, n, k, b⟩ = []) := Lib.hid ⟨rfl, rfl, rfl⟩
    go_enter Try.func25, Try.ntmps25
    go_wp2_with fail
    refine (append_any R f A m c b d S _ H.out HR.out M q HF.out hM hq).mono ?_
    intro e w1 ha
    obtain ⟨rfl, ha'⟩ := id ha
    have HA := Lib.hid ha
    clear ha ha'
    go_wp2
    go_ret2
    rw [HD.out.1, HD.out.2.1, HD.out.2.2]
    exact DoP.of HA.out HB.out
  by_cases h1 : kd = 1
  · subst h1
    have HD : Hid (d.does ⟨1, f, n, k, b⟩ = d.syn f ∧ d.doesE ⟨1, f, n, k, b⟩ = d.appE f ∧ d.doesB ⟨1, f, n, k, b⟩ = []) := Lib.hid ⟨rfl, rfl, rfl⟩
    go_enter Try.func25, Try.ntmps25
    go_wp2_with fail
    refine (sync_any R f d S _ H.out M q HF.out (by omega) hq).mono ?_
    intro e w1 ha
    obtain ⟨rfl, ha'⟩ := id ha
    have HA := Lib.hid ha
    clear ha ha'
    go_wp2
    go_ret2
    rw [HD.out.1, HD.out.2.1, HD.out.2.2]
    exact DoP.of HA.out HB.out
  by_cases h2 : kd = 2
  · subst h2
    have HD : Hid (d.does ⟨2, f, n, k, b⟩ = d.tru f n ∧ d.doesE ⟨2, f, n, k, b⟩ = d.truE f n ∧ d.doesB ⟨2, f, n, k, b⟩ = []) := Lib.hid ⟨rfl, rfl, rfl⟩
    go_enter Try.func25, Try.ntmps25
    go_wp2_with fail
    refine (trunc_any R f n d S _ H.out M q HF.out (by omega) hq).mono ?_
    intro e w1 ha
    obtain ⟨rfl, ha'⟩ := id ha
    have HA := Lib.hid ha
    clear ha ha'
    go_wp2
    go_ret2
    rw [HD.out.1, HD.out.2.1, HD.out.2.2]
    exact DoP.of HA.out HB.out
  by_cases h3 : kd = 3
  · subst h3
    have HD : Hid (d.does ⟨3, f, n, k, b⟩ = d.arm n k ∧ d.doesE ⟨3, f, n, k, b⟩ = 0 ∧ d.doesB ⟨3, f, n, k, b⟩ = []) := Lib.hid ⟨rfl, rfl, rfl⟩
    go_enter Try.func25, Try.ntmps25
    go_wp2_with fail
    refine (arm_any R n k d S _ H.out).mono ?_
    intro e w1 ha
    obtain ⟨rfl, ha'⟩ := id ha
    have HA := Lib.hid ha
    clear ha ha'
    go_wp2
    go_ret2
    rw [HD.out.1, HD.out.2.1, HD.out.2.2]
    exact DoP.of HA.out HB.out
  by_cases h4 : kd = 4
  · subst h4
    have HD : Hid (d.does ⟨4, f, n, k, b⟩ = d.offs k ∧ d.doesE ⟨4, f, n, k, b⟩ = 0 ∧ d.doesB ⟨4, f, n, k, b⟩ = []) := Lib.hid ⟨rfl, rfl, rfl⟩
    go_enter Try.func25, Try.ntmps25
    go_wp2_with fail
    refine (off_any R k d S _ H.out (Nat.le_trans HL.out.1 (by omega)) (Nat.le_trans HL.out.2 (by omega))).mono ?_
    intro e w1 ha
    obtain ⟨rfl, ha'⟩ := id ha
    have HA := Lib.hid ha
    clear ha ha'
    go_wp2
    go_ret2
    rw [HD.out.1, HD.out.2.1, HD.out.2.2]
    exact DoP.of HA.out HB.out
  by_cases h5 : kd = 5
  · subst h5
    have HD : Hid (d.does ⟨5, f, n, k, b⟩ = d.ons ∧ d.doesE ⟨5, f, n, k, b⟩ = 0 ∧ d.doesB ⟨5, f, n, k, b⟩ = []) := Lib.hid ⟨rfl, rfl, rfl⟩
    go_enter Try.func25, Try.ntmps25
    go_wp2_with fail
    refine (on_any R d S _ H.out).mono ?_
    intro e w1 ha
    obtain ⟨rfl, ha'⟩ := id ha
    have HA := Lib.hid ha
    clear ha ha'
    go_wp2
    go_ret2
    rw [HD.out.1, HD.out.2.1, HD.out.2.2]
    exact DoP.of HA.out HB.out
  by_cases h6 : kd = 6
  · subst h6
    have HD : Hid (d.does ⟨6, f, n, k, b⟩ = d ∧ d.doesE ⟨6, f, n, k, b⟩ = d.no f ∧ d.doesB ⟨6, f, n, k, b⟩ = d.rd f) := Lib.hid ⟨rfl, rfl, rfl⟩
    go_enter Try.func25, Try.ntmps25
    go_wp2_with fail
    refine (read_any R f d S _ H.out HL.out.1 HL.out.2).mono ?_
    rintro e w1 ⟨A1, n1, c1, rfl, ho, hb⟩
    have HA := Lib.hid (And.intro ho hb)
    clear ho hb
    go_wp2
    go_ret2
    rw [HD.out.1, HD.out.2.1, HD.out.2.2]
    exact DoP.rd H.out HA.out.1 HA.out.2 HB.out
  have t0 : (kd == 0) = false := beq_eq_false_iff_ne.2 h0
  have t1 : (kd == 1) = false := beq_eq_false_iff_ne.2 h1
  have t2 : (kd == 2) = false := beq_eq_false_iff_ne.2 h2
  have t3 : (kd == 3) = false := beq_eq_false_iff_ne.2 h3
  have t4 : (kd == 4) = false := beq_eq_false_iff_ne.2 h4
  have t5 : (kd == 5) = false := beq_eq_false_iff_ne.2 h5
  have t6 : (kd == 6) = false := beq_eq_false_iff_ne.2 h6
  have HD : Hid (d.does ⟨kd, f, n, k, b⟩ = d ∧ d.doesE ⟨kd, f, n, k, b⟩ = 0 ∧ d.doesB ⟨kd, f, n, k, b⟩ = []) := Lib.hid (by
    unfold DK.does DK.doesE DK.doesB
    simp only [if_neg h0, if_neg h1, if_neg h2, if_neg h3, if_neg h4, if_neg h5, if_neg h6]
    exact ⟨trivial, trivial, trivial⟩)
  clear h0 h1 h2 h3 h4 h5 h6
  go_enter Try.func25, Try.ntmps25
  go_wp2
  go_ret2
  rw [HD.out.1, HD.out.2.1, HD.out.2.2]
  exact DoP.of (v := .tuple #[]) (Aft.same H.out) HB.out
end Go.Proofs.Ytgocfkjibcokjaa.Pk
