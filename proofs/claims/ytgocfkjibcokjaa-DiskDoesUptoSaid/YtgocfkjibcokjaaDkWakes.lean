/- The walk of the statements' own 'wakes'. -/
import Derived.Test.YtgocfkjibcokjaaDkDoes
import Derived.Lib.SlBytesConst
import Derived.ShutString
namespace Go.Proofs.Ytgocfkjibcokjaa.Pk
open Go.RowKit Go.Proofs.Ytgocfkjibcokjaa.Dk
set_option linter.unusedVariables false

/-- A row with a mark behind it reads as what it was made of. -/
theorem reads_marked (w : World) (cs : Array Value) (T : TypeId) (f : Nat × Nat) (B n : Nat) (xs : List Value) (h : cs.toList = xs) (hn : xs.length = n) (hB : w.heap.size < B) : Reads (w.alloc (.cells cs T f)) B 1 (some ⟨w.heap.size, 0, none⟩) n xs := by
  subst h
  refine ⟨by rw [hn]; omega, fun _ => ⟨_, rfl, hB, fun j u hu => ?_⟩⟩
  have h0 : (w.alloc (.cells cs T f)).cell? ⟨w.heap.size, j, none⟩ = cs[j]? := cell_of_row _ _ j cs T f (heap_alloc_new w _)
  have e : (⟨w.heap.size, 0, none⟩ : Addr).add j = ⟨w.heap.size, j, none⟩ := by unfold Addr.add; by_cases hj : j = 0 <;> simp [hj]
  rw [e, h0]
  simpa using hu
/-- The text of the bytes that a slice reads as. -/
theorem conv_b {w : World} {B n : Nat} {A : Option Addr} {l : List Int} (h : Reads w B 1 A n (bts l)) (c : Nat) : (convert 46 9 (.slice A n c)).run Try.prog w = .ok (.string (strOfNums l)) w := by
  have hlen : l.length = n := by have := h.1; simp at this; exact this
  rcases A with _ | ad
  · have h0 := h.nil rfl
    subst h0
    obtain rfl : l = [] := List.length_eq_zero_iff.1 hlen
    exact run_convert_bytes_nil w 46 5 Try.underlying46 Try.underlying5 0 c 9 Try.underlying9
  · have hl : (loadCells ad n).run Try.prog w = .ok (l.map (Value.int .u8)).toArray w := by
      have := run_loadCells_list (P := Try.prog) w ad (l.map (Value.int .u8)) (fun j v hj => by
        have hjn : 0 < n := by
          rcases Nat.eq_zero_or_pos n with h1 | h1
          · obtain rfl : l = [] := List.length_eq_zero_iff.1 (by omega)
            simp at hj
          · exact h1
        obtain ⟨ad', e, _, hc⟩ := h.2 hjn
        injection e with e
        subst e
        exact hc j v hj)
      simpa [hlen] using this
    rw [run_convert_bytes_string w 46 9 5 _ n c Try.underlying46 Try.underlying5 Try.underlying9, run_bytesToString w _ n c l hl, foldl_push_bytes]
    simp [strOfNums, ByteArray.empty, ByteArray.emptyWithCapacity]
    rfl

/-- A disk whose blocks are all newer than world w0, which stands otherwise. -/
def AtD (w0 : World) (R : Nat) (d : DK) (S : Nat → Prop) (w : World) : Prop := DkP w R d S ∧ (∀ b, S b → w0.heap.size ≤ b) ∧ Below w0.heap.size w0 w
theorem AtD.next {w0 : World} {R : Nat} {d : DK} {S : Nat → Prop} {w w' : World} (h : AtD w0 R d S w) (hb : Below w.heap.size w w') : AtD w0 R d S w' :=
  ⟨h.1.next hb, h.2.1, h.2.2.trans (hb.mono h.2.2.size)⟩
theorem AtD.alloc {w0 : World} {R : Nat} {d : DK} {S : Nat → Prop} {w : World} (h : AtD w0 R d S w) (o : Obj) : AtD w0 R d S (w.alloc o) := h.next ((Below.refl _ _).alloc (Nat.le_refl _) _)
theorem AtD.drewN {w0 : World} {R : Nat} {d : DK} {S : Nat → Prop} {w : World} (h : AtD w0 R d S w) (n : Nat) : AtD w0 R d S (w.drewN n) := ⟨h.1.drewN n, h.2.1, below_drewN h.2.2 n⟩
theorem AtD.step {w0 : World} {R : Nat} {d d' : DK} {S S' : Nat → Prop} {w w' : World} (h : AtD w0 R d S w) (h2 : DkP w' R d' S') (t : Turned S w w') (g : From S S' w) : AtD w0 R d' S' w' :=
  ⟨h2, from_base g h.2.1 h.2.2.size, t.below h.2.2 h.2.2.size h.2.1⟩
theorem AtD.aft {w0 : World} {R : Nat} {d d' : DK} {S : Nat → Prop} {w w' : World} {v : Value} {e : Ending} (h : AtD w0 R d S w) (k : Aft R d' S w v e w') : e = .returned v ∧ ∃ S', AtD w0 R d' S' w' := by
  obtain ⟨e1, S', h2, t, g⟩ := k
  exact ⟨e1, S', h.step h2 t g⟩

/-- The disk of 'wakes', step by step. -/
def wk0 : DK := DK.new [] []
def wk1 : DK := wk0.app 0 [97, 98]
def wk2 : DK := wk1.syn 0
def wk3 : DK := wk2.app 0 [99, 100, 101]
def wk4 : DK := wk3.offs 2
def wk5 : DK := wk4.ons
theorem wk0_fit : wk0.fit 0 0 := DK.fit.new [] [] (by simp) (by simp)
theorem wk1_fit : wk1.fit 2 1 := wk0_fit.app 0 [97, 98] (K := 2) (by simp)
theorem wk2_fit : wk2.fit 2 2 := wk1_fit.syn 0
theorem wk3_fit : wk3.fit 5 3 := wk2_fit.app 0 [99, 100, 101] (K := 3) (by simp)
theorem wk4_fit : wk4.fit 5 3 := wk3_fit.offs 2
theorem wk5_fit : wk5.fit 5 3 := ⟨wk4_fit.l0, wk4_fit.l1, wk4_fit.c, wk4_fit.a, wk4_fit.k0, wk4_fit.k1⟩

set_option maxHeartbeats 3200000 in
theorem wakes_any (w : World) : Calls Try.prog 22 #[] w fun e w' => e = .returned (.bool true) ∧ Below w.heap.size w w' := by
  have kc := fun (w : World) (C : Array Value) (n c : Nat) => Lib.run_convert_bytes_const (P := Try.prog) w 46 5 C n c Try.underlying46 Try.underlying5
  go_enter Try.func22, Try.ntmps22
  go_wp2_with fail
  refine (new_any w).mono ?_
  rintro e w1 ⟨R, S1, rfl, h1, hS, hb1⟩
  have H1 : Hid (AtD w R wk0 S1 w1) := Lib.hid ⟨h1, hS, hb1⟩
  clear h1 hS hb1
  go_wp2_with fail
  refine (append_any R 0 _ 2 2 [97, 98] wk0 S1 _ (H1.out.alloc _).1 (reads_marked w1 _ _ _ _ 2 (bts [97, 98]) rfl rfl (by simp)) 0 0 wk0_fit (by omega) (by omega)).mono ?_
  intro e w2 ha
  obtain ⟨rfl, S2, h2⟩ := AtD.aft (H1.out.alloc _) ha
  have H2 := Lib.hid h2
  clear ha h2
  go_wp2_with fail
  refine (sync_any R 0 wk1 S2 _ H2.out.1 2 1 wk1_fit (by omega) (by omega)).mono ?_
  intro e w3 ha
  obtain ⟨rfl, S3, h3⟩ := AtD.aft H2.out ha
  have H3 := Lib.hid h3
  clear ha h3
  go_wp2_with fail
  refine (append_any R 0 _ 3 3 [99, 100, 101] wk2 S3 _ (H3.out.alloc _).1 (reads_marked w3 _ _ _ _ 3 (bts [99, 100, 101]) rfl rfl (by simp)) 2 2 wk2_fit (by omega) (by omega)).mono ?_
  intro e w4 ha
  obtain ⟨rfl, S4, h4⟩ := AtD.aft (H3.out.alloc _) ha
  have H4 := Lib.hid h4
  clear ha h4
  go_wp2_with fail
  refine (off_any R 2 wk3 S4 _ H4.out.1 (Nat.le_trans wk3_fit.l0 (by omega)) (Nat.le_trans wk3_fit.l1 (by omega))).mono ?_
  intro e w5 ha
  obtain ⟨rfl, S5, h5⟩ := AtD.aft H4.out ha
  have H5 := Lib.hid h5
  clear ha h5
  go_wp2_with fail
  refine (on_any R wk4 S5 _ H5.out.1).mono ?_
  intro e w6 ha
  obtain ⟨rfl, S6, h6⟩ := AtD.aft H5.out ha
  have H6 := Lib.hid h6
  clear ha h6
  go_wp2_with fail
  refine (read_any R 0 wk5 S6 _ H6.out.1 (Nat.le_trans wk5_fit.l0 (by omega)) (Nat.le_trans wk5_fit.l1 (by omega))).mono ?_
  rw [show wk5.no 0 = 0 from rfl, show wk5.rd 0 = [97, 98, 99, 100] from rfl]
  rintro e w7 ⟨A, n, c, rfl, ho, hb⟩
  obtain ⟨A', c', e', hc', hr⟩ := ho.reads
  injection e' with e1 e2 e3
  obtain rfl : n = 4 := e2
  subst e1; subst e3
  have H7 := Lib.hid (H6.out.next hb)
  replace hr : Reads w7 w7.heap.size 1 A 4 (bts [97, 98, 99, 100]) := hr
  clear hc'
  have cv := conv_b hr c
  rw [show strOfNums [97, 98, 99, 100] = ⟨#[97, 98, 99, 100]⟩ from rfl] at cv
  clear ho hr hb
  go_wp2
  go_ret
  exact ⟨rfl, H7.out.2.2⟩
end Go.Proofs.Ytgocfkjibcokjaa.Pk
