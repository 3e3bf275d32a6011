/- The walks of bytes.Clone and of pack's reader. -/
import Derived.Test.YtkgkiplidjoamaaPackTake
import Derived.Test.YtkgkiplidjoamaaBytes
import Derived.WalkSpells
import Derived.LoopTactic
import Derived.Outline
import Derived.Lib.Hide
import Derived.Deep.RegionHeld3
import Derived.Deep.DeepMust
namespace Go.Proofs.Ytkgkiplidjoamaa.Pk
open Go.RowKit
set_option linter.unusedVariables false

set_option maxHeartbeats 800000 in
theorem clone_any (A : Option Addr) (n c : Nat) (l : List Int) (w : World) (h : Reads w w.heap.size 1 A n (bts l)) (hn : n ≤ 140737488355328) :
    Calls Try.prog 29 #[.slice A n c] w fun e w' => ∃ v, e = .returned v ∧ OwnB w' w.heap.size v l ∧ Below w.heap.size w w' := by
  have HR := Lib.hid h
  clear h
  have heq := fun (w : World) => Lib.run_eql_slice_nil (P := Try.prog) w 22 5 A n c 0 0 Try.underlying22
  cases A with
  | none =>
    have hn0 : n = 0 := HR.out.nil rfl
    subst hn0
    have hl : l = [] := by have := HR.out.1; simpa using this
    subst hl
    go_enter Try.func29, Try.ntmps29
    go_wp2
    go_ret
    exact ⟨_, rfl, ⟨rfl, .inl ⟨rfl, rfl⟩⟩, Below.refl _ _⟩
  | some ad =>
    go_enter Try.func29, Try.ntmps29
    go_wp2_with (at_builtin; refine appE w rfl (.tmp 5) (.tmp 6) rfl w.heap.size rfl w.heap.size (some ad) c l n rfl HR.out (Nat.le_refl _) (by omega) (Nat.le_refl _) ?_; intro v2 w2 hown2 hb2)
    go_ret
    exact ⟨_, rfl, hown2, hb2⟩

/-- A reader at block R: the bytes that are left, and whether there was a fault. -/
def RD (w : World) (R : Nat) (l : List Int) (bad : Bool) : Prop := ∃ A n c, Blk w R 55 #[.slice A n c, .bool bad] ∧ n ≤ c ∧ l.length = n ∧ n ≤ 140737488355328 ∧ Reads w w.heap.size 1 A n (bts l) ∧ isB l
/-- Only block R may have turned, and new blocks are there. -/
def Only (w w' : World) (R : Nat) : Prop := w.grownBy w' (some R)
theorem Only.refl (w : World) (R : Nat) : Only w w R := ⟨rfl, rfl, rfl, Nat.le_refl _, fun _ _ _ => rfl⟩
theorem Only.trans {a b c : World} {R : Nat} (h : Only a b R) (k : Only b c R) : Only a c R :=
  ⟨k.os.trans h.os, k.tape.trans h.tape, k.output.trans h.output, Nat.le_trans h.size k.size, fun i hi hn => (k.block i (Nat.lt_of_lt_of_le hi h.size) hn).trans (h.block i hi hn)⟩
theorem Only.of {w w' : World} (h : Below w.heap.size w w') (R : Nat) : Only w w' R := ⟨h.os, h.tape, h.output, h.size, fun i hi _ => h.block i hi⟩
theorem Only.drewN {a w : World} {R : Nat} (h : Only a w R) (n : Nat) : Only a (w.drewN n) R := ⟨h.os, h.tape, h.output, h.size, h.block⟩
theorem Only.set {w w' : World} {R : Nat} (h : Only w w' R) (o : Nat) (u : Value) : Only w (w'.setCell ⟨R, o, none⟩ u) R :=
  ⟨h.os, h.tape, h.output, by simpa [World.setCell] using h.size, fun i hi hn => (Below.heap_setCell w' ⟨R, o, none⟩ u i (by rintro rfl; exact hn rfl)).trans (h.block i hi hn)⟩
theorem Only.below {B : Nat} {a w w' : World} {R : Nat} (h : Below B a w) (k : Only w w' R) (hR : B ≤ R) (hB : B ≤ w.heap.size) : Below B a w' :=
  h.grown k hB (fun g e => by injection e with e; omega)

set_option maxHeartbeats 800000 in
theorem new_any (A : Option Addr) (n c : Nat) (l : List Int) (w : World) (h : Reads w w.heap.size 1 A n (bts l)) (hB : isB l) (hn : n ≤ 140737488355328) :
    Calls Try.prog 19 #[.slice A n c] w fun e w' => ∃ R, e = .returned (.pointer (some ⟨R, 0, none⟩)) ∧ w.heap.size ≤ R ∧ RD w' R l false ∧ Below w.heap.size w w' := by
  have HB := Lib.hid hB
  have HL : Hid (l.length = n) := by have := h.1; simp at this; exact this
  have HC := Lib.hid (clone_any A n c l w h hn)
  clear hB h
  go_enter Try.func19, Try.ntmps19
  go_wp2_with fail
  refine HC.out.mono ?_
  rintro e w1 ⟨v1, rfl, hown1, hb1⟩
  obtain ⟨A1, n1, c1, rfl, hc1, hn1, hr1⟩ := hown1.val
  clear hown1
  have hsz := hb1.size
  go_wp2
  go_ret
  refine ⟨w1.heap.size, rfl, hsz, ⟨A1, n1, c1, Blk.new w1 _ _, hc1, hn1, by rw [← hn1, HL.out]; exact hn, (hr1.alloc (Nat.le_refl _) _).more (by simp), HB.out⟩, hb1.alloc hsz _⟩

/-- A reader's data lies elsewhere. -/
theorem far_of {w : World} {R T n c : Nat} {A : Option Addr} {l : List Int} {bad : Bool} (hb : Blk w R T #[.slice A n c, .bool bad]) (h : Reads w w.heap.size 1 A n (bts l)) (hn : 0 < n) : ∀ ad, A = some ad → ad.block ≠ R := by
  rintro ad rfl e
  obtain ⟨b, off, e2, hbb, hc⟩ := h.u8 hn
  injection e2 with e2
  subst e2
  simp at e
  subst e
  have h0 := hc 0 hn
  rw [hb.cell] at h0
  rcases Nat.lt_or_ge (off + 0) 2 with h1 | h1
  · rcases Nat.lt_or_ge (off + 0) 1 with h2 | h2
    · rw [show off + 0 = 0 by omega] at h0; simp at h0
    · rw [show off + 0 = 1 by omega] at h0; simp at h0
  · rw [Array.getElem?_eq_none (by simpa using h1)] at h0; cases h0
theorem Reads.far {w : World} {B R o n : Nat} {A : Option Addr} {xs : List Value} (h : Reads w B 1 A n xs) (hf : 0 < n → ∀ ad, A = some ad → ad.block ≠ R) (u : Value) : Reads (w.setCell ⟨R, o, none⟩ u) B 1 A n xs := by
  refine ⟨h.1, fun hn => ?_⟩
  obtain ⟨ad, e, hb, hc⟩ := h.2 hn
  refine ⟨ad, e, hb, fun j v hv => ?_⟩
  rw [World.cell?_setCell_other _ _ _ _ (fun e2 => hf hn ad e (by have := congrArg Addr.block e2; rw [block_of_add] at this; exact this.symm))]
  exact hc j v hv

theorem size_set (w : World) (a : Addr) (u : Value) : (w.setCell a u).heap.size = w.heap.size := by simp [World.setCell]

/-- The reader behind a fault. -/
theorem RD.spent {w : World} {R : Nat} {T : TypeId} {v : Value} {bad : Bool} (hT : T = 55) (h : Blk w R T #[v, .bool bad]) : RD ((w.setCell ⟨R, 0, none⟩ (.slice none 0 0)).setCell ⟨R, 1, none⟩ (.bool true)) R [] true := by
  subst hT
  refine ⟨none, 0, 0, ?_, Nat.le_refl _, rfl, by omega, Reads.none_, fun c hc => by cases hc⟩
  have := (h.set_ 0 (.slice none 0 0)).set_ 1 (.bool true)
  simpa using this

set_option maxHeartbeats 400000 in
theorem fail_any (R : Nat) (v : Value) (bad : Bool) (w : World) (h : Blk w R 55 #[v, .bool bad]) :
    Calls Try.prog 31 #[.pointer (some ⟨R, 0, none⟩)] w fun e w' => e = .returned (.tuple #[]) ∧ w' = (w.setCell ⟨R, 0, none⟩ (.slice none 0 0)).setCell ⟨R, 1, none⟩ (.bool true) := by
  have c0 : w.cell? ⟨R, 0, none⟩ = some v := by rw [h.cell]; rfl
  have c1 : w.cell? ⟨R, 1, none⟩ = some (.bool bad) := by rw [h.cell]; rfl
  have f0 : w.frozen? ⟨R, 0, none⟩ = false := h.frozen 0
  have f1 : w.frozen? ⟨R, 1, none⟩ = false := h.frozen 1
  go_enter Try.func31, Try.ntmps31
  go_wp2
  go_end0
  exact ⟨rfl, rfl⟩

theorem Reads.cutA {w : World} {B n k : Nat} {A : Option Addr} {l : List Int} (h : Reads w B 1 A n (bts l)) (hk : k ≤ n) : Reads w B 1 (A.map fun x => x.add k) (n - k) (bts (l.drop k)) := by
  have hl : l.length = n := by have := h.1; simp at this; exact this
  refine ⟨by simp; omega, fun hn => ?_⟩
  obtain ⟨ad, rfl, hb, hc⟩ := h.2 (by omega)
  refine ⟨ad.add k, rfl, by rw [block_of_add]; exact hb, fun j u hu => ?_⟩
  rw [add_of_add]
  refine hc _ u ?_
  unfold bts at *
  rw [List.map_drop, List.getElem?_drop] at hu
  exact hu
theorem Reads.cutZ {w : World} {B n k : Nat} {A A' : Option Addr} {l : List Int} (h : Reads w B 1 A n (bts l)) (hk : n ≤ k) : Reads w B 1 A' (n - k) (bts (l.drop k)) := by
  have hl : l.length = n := by have := h.1; simp at this; exact this
  exact ⟨by simp; omega, fun hn => by omega⟩
theorem isB_drop {l : List Int} (h : isB l) (k : Nat) : isB (l.drop k) := fun c hc => h c (List.mem_of_mem_drop hc)
theorem isB_take {l : List Int} (h : isB l) (k : Nat) : isB (l.take k) := fun c hc => h c (List.mem_of_mem_take hc)

theorem RD.cut {w : World} {R : Nat} {A A' : Option Addr} {n c c' k : Nat} {l : List Int} {bad : Bool} (hbk : Blk w R 55 #[.slice A n c, .bool bad]) (hl : l.length = n) (hn : n ≤ 140737488351232 + 4096) (hr : Reads w w.heap.size 1 A n (bts l)) (hB : isB l)
    (hc' : n - k ≤ c') (hcut : ∀ w', Reads w' w.heap.size 1 A n (bts l) → Reads w' w.heap.size 1 A' (n - k) (bts (l.drop k))) :
    RD (w.setCell ⟨R, 0, none⟩ (.slice A' (n - k) c')) R (l.drop k) bad := by
  refine ⟨A', n - k, c', ?_, hc', by simp; omega, by omega, ?_, isB_drop hB k⟩
  · have := hbk.set_ 0 (.slice A' (n - k) c')
    simpa using this
  · rw [size_set]
    exact hcut _ (hr.far (far_of hbk hr) _)
theorem RD.cut1 {w : World} {R : Nat} {A : Option Addr} {n c k : Nat} {l : List Int} {bad : Bool} (hbk : Blk w R 55 #[.slice A n c, .bool bad]) (hnc : n ≤ c) (hl : l.length = n) (hn : n ≤ 140737488355328) (hr : Reads w w.heap.size 1 A n (bts l)) (hB : isB l) (hk : k ≤ n) :
    RD (w.setCell ⟨R, 0, none⟩ (.slice (A.map fun x => x.add k) (n - k) (c - k))) R (l.drop k) bad := RD.cut hbk hl (by omega) hr hB (by omega) (fun w' h => h.cutA hk)
theorem RD.cut0 {w : World} {R : Nat} {A : Option Addr} {n c k : Nat} {l : List Int} {bad : Bool} (hbk : Blk w R 55 #[.slice A n c, .bool bad]) (hl : l.length = n) (hn : n ≤ 140737488355328) (hr : Reads w w.heap.size 1 A n (bts l)) (hB : isB l) (hk : n ≤ k) :
    RD (w.setCell ⟨R, 0, none⟩ (.slice A (n - k) 0)) R (l.drop k) bad := RD.cut hbk hl (by omega) hr hB (by omega) (fun w' h => h.cutZ hk)

def numL (l : List Int) : List Int := if (tkv l).2 = 0 then [] else l.drop (tkv l).2
def numB (l : List Int) (bad : Bool) : Bool := if (tkv l).2 = 0 then true else bad

set_option maxHeartbeats 800000 in
theorem number_any (R : Nat) (l : List Int) (bad : Bool) (w : World) (h : RD w R l bad) :
    Calls Try.prog 20 #[.pointer (some ⟨R, 0, none⟩)] w fun e w' => e = .returned (.int .i64 (tkv l).1) ∧ RD w' R (numL l) (numB l bad) ∧ Only w w' R := by
  obtain ⟨A, n, c, hbk, hnc, hl, hn, hr, hB⟩ := h
  have c0 : w.cell? ⟨R, 0, none⟩ = some (.slice A n c) := by rw [hbk.cell]; rfl
  have f0 : w.frozen? ⟨R, 0, none⟩ = false := hbk.frozen 0
  have HBK := Lib.hid hbk
  have HT := Lib.hid (take_any A n c l w w.heap.size hr hB hnc (by omega))
  have HR := Lib.hid hr
  have HB := Lib.hid hB
  have HL := Lib.hid hl
  clear hbk hr hB hl
  go_enter Try.func20, Try.ntmps20
  go_wp2_with fail
  refine HT.out.mono ?_
  rcases tkv_cases l HB.out with ht | ⟨y, k, ht, hy0, hy1, hk1, hk2, hk9, hyk⟩
  · have HN : Hid (numL l = [] ∧ numB l bad = true) := by constructor <;> simp [numL, numB, ht]
    rw [ht]
    rintro e w1 ⟨rfl, rfl⟩
    go_wp2_with fail
    refine (fail_any R _ bad w HBK.out).mono ?_
    rintro e w1 ⟨rfl, rfl⟩
    go_wp2
    go_ret
    refine ⟨by rw [ht]; rfl, ?_, ((Only.refl _ _).set _ _).set _ _⟩
    rw [HN.out.1, HN.out.2]
    exact RD.spent rfl HBK.out
  · have HN : Hid (numL l = l.drop k ∧ numB l bad = bad) := by constructor <;> simp [numL, numB, ht] <;> omega
    rw [ht]
    rintro e w1 ⟨rfl, rfl⟩
    have hk3 : k ≤ n := by rw [HL.out] at hk2; exact hk2
    have hk0 : ((k : Int) == 0) = false := beq_eq_false_iff_ne.2 (by omega)
    clear hyk hk2
    by_cases hck : c = k
    · subst hck
      go_wp2
      go_ret
      refine ⟨by rw [ht]; rfl, ?_, (Only.refl _ _).set _ _⟩
      rw [HN.out.1, HN.out.2]
      have t := RD.cut0 HBK.out HL.out hn HR.out HB.out hnc
      rw [show n - c = 0 by omega] at t
      exact t
    · go_wp2
      go_ret
      refine ⟨by rw [ht]; rfl, ?_, (Only.refl _ _).set _ _⟩
      rw [HN.out.1, HN.out.2]
      exact RD.cut1 HBK.out hnc HL.out hn HR.out HB.out hk3

/-- What piece takes. -/
def pcok (l : List Int) (x : Int) : Prop := 0 ≤ x ∧ x ≤ (l.length : Int)
def pcT (l : List Int) (x : Int) : List Int := if 0 ≤ x ∧ x ≤ (l.length : Int) then l.take x.toNat else []
def pcL (l : List Int) (x : Int) : List Int := if 0 ≤ x ∧ x ≤ (l.length : Int) then l.drop x.toNat else []
def pcB (l : List Int) (x : Int) (bad : Bool) : Bool := if 0 ≤ x ∧ x ≤ (l.length : Int) then bad else true

set_option maxHeartbeats 800000 in
theorem piece_any (R : Nat) (l : List Int) (bad : Bool) (x : Int) (w : World) (h : RD w R l bad) :
    Calls Try.prog 32 #[.pointer (some ⟨R, 0, none⟩), .int .i64 x] w fun e w' => ∃ A n c, e = .returned (.slice A n c) ∧ n ≤ c ∧ n ≤ 140737488355328 ∧ Reads w' w.heap.size 1 A n (bts (pcT l x)) ∧ RD w' R (pcL l x) (pcB l x bad) ∧ Only w w' R := by
  obtain ⟨A, n, c, hbk, hnc, hl, hn, hr, hB⟩ := h
  have c0 : w.cell? ⟨R, 0, none⟩ = some (.slice A n c) := by rw [hbk.cell]; rfl
  have f0 : w.frozen? ⟨R, 0, none⟩ = false := hbk.frozen 0
  have HBK := Lib.hid hbk
  have HR := Lib.hid hr
  have HB := Lib.hid hB
  have HL := Lib.hid hl
  clear hbk hr hB hl
  by_cases hx : 0 ≤ x ∧ x ≤ (n : Int)
  · have HP : Hid (pcT l x = l.take x.toNat ∧ pcL l x = l.drop x.toNat ∧ pcB l x bad = bad) := by
      have hx' : 0 ≤ x ∧ x ≤ (l.length : Int) := by rw [HL.out]; exact hx
      unfold pcT pcL pcB
      rw [if_pos hx', if_pos hx', if_pos hx']; exact ⟨rfl, rfl, rfl⟩
    obtain ⟨hx0, hx1⟩ := hx
    obtain ⟨k, rfl⟩ := Int.eq_ofNat_of_zero_le hx0
    simp only [Int.toNat_natCast] at HP
    have hk : k ≤ n := by omega
    go_enter Try.func32, Try.ntmps32
    by_cases hck : c = k
    · subst hck
      go_wp2
      go_ret
      refine ⟨A, c, c, rfl, Nat.le_refl _, by omega, ?_, ?_, (Only.refl _ _).set _ _⟩
      · rw [HP.out.1]
        exact (HR.out.far (far_of HBK.out HR.out) _).take hk
      · rw [HP.out.2.1, HP.out.2.2]
        have t := RD.cut0 HBK.out HL.out hn HR.out HB.out hnc
        rw [show n - c = 0 by omega] at t
        exact t
    · go_wp2
      go_ret
      refine ⟨A, k, c, rfl, by omega, by omega, ?_, ?_, (Only.refl _ _).set _ _⟩
      · rw [HP.out.1]
        exact (HR.out.far (far_of HBK.out HR.out) _).take hk
      · rw [HP.out.2.1, HP.out.2.2]
        exact RD.cut1 HBK.out hnc HL.out hn HR.out HB.out hk
  · have HP : Hid (pcT l x = [] ∧ pcL l x = [] ∧ pcB l x bad = true) := by
      have hx' : ¬ (0 ≤ x ∧ x ≤ (l.length : Int)) := by rw [HL.out]; exact hx
      unfold pcT pcL pcB
      rw [if_neg hx', if_neg hx', if_neg hx']; exact ⟨rfl, rfl, rfl⟩
    by_cases hx0 : x < 0
    case' neg => have hx1 : (n : Int) < x := by omega
    all_goals
      clear hx
      go_enter Try.func32, Try.ntmps32
      go_wp2_with fail
      refine (fail_any R _ bad w HBK.out).mono ?_
      rintro e w1 ⟨rfl, rfl⟩
      go_wp2
      go_ret
      refine ⟨none, 0, 0, rfl, Nat.le_refl _, by omega, ?_, ?_, ((Only.refl _ _).set _ _).set _ _⟩
      · rw [HP.out.1]; exact Reads.none_
      · rw [HP.out.2.1, HP.out.2.2]
        exact RD.spent rfl HBK.out
end Go.Proofs.Ytkgkiplidjoamaa.Pk
