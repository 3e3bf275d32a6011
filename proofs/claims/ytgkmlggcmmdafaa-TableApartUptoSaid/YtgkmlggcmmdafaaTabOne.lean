/- The contract of the statements' own 'one', from a table's promises. -/
import Derived.Test.YtgkmlggcmmdafaaTabWords
import Derived.Deep.RegionHeld3
import Derived.Deep.DeepMust
namespace Go.Proofs.Ytgkmlggcmmdafaa.Pk
open Go.RowKit Go.Proofs.Ytgkmlggcmmdafaa.Tb
set_option linter.unusedVariables false

/-- What a call makes of the rows. -/
def does (kd k : Int) (s : ByteArray) (l : List Rw) : List Rw := if kd = 0 then ins k s l else if kd = 2 then del k l else l
/-- What 'one' leaves: rows and table alike. -/
def OneAt (Tb : World → Nat → List Rw → (Nat → Prop) → (Nat → Prop) → Prop) (T : Nat) (l : List Rw) (S D : Nat → Prop) (w : World) (e : Ending) (w' : World) : Prop :=
  ∃ A n c S' D', e = .returned (.tuple #[.slice A n c, .bool true]) ∧ n ≤ c ∧ Reads w' w'.heap.size 2 A n (rws l) ∧ Free S' A n ∧ Tb w' T l S' D' ∧ Turned S w w' ∧ From S S' w ∧ From D D' w

theorem free_own {w : World} {B : Nat} {v : Value} {l : List Rw} {A : Option Addr} {n c : Nat} {S : Nat → Prop} (h : OwnR w B v l) (e : v = .slice A n c) (hS : ∀ b, S b → b < B) : Free S A n := by
  intro hn ad ha hs
  subst e; subst ha
  have h1 := ownR_base h
  rcases h.2 with ⟨e, _⟩ | ⟨g, cap, cur, e, hg, _⟩
  · cases e
  · injection e with e1 e2 e3
    injection e1 with e1
    rw [e1] at hs
    have := hS _ hs
    simp only at this; omega

set_option maxHeartbeats 4000000 in
theorem one_put {Tb : World → Nat → List Rw → (Nat → Prop) → (Nat → Prop) → Prop} (C : TableC Tb) (w : World) (T : Nat) (l : List Rw) (S D : Nat → Prop) (A : Option Addr) (n c : Nat) (k : Int) (s : ByteArray)
    (ht : Tb w T l S D) (hr : Reads w w.heap.size 2 A n (rws l)) (hf : Free S A n) (hk : -9223372036854775808 ≤ k ∧ k ≤ 9223372036854775807) (hn : n < 4398046511104) :
    Calls Try.prog 11 #[.pointer (some ⟨T, 0, none⟩), .slice A n c, .agg #[.int .i64 0, .int .i64 k, .string s]] w (OneAt Tb T (does 0 k s l) S D w) := by
  have HC := Lib.hid C
  have HT := Lib.hid ht
  have HR := Lib.hid hr
  have HF := Lib.hid hf
  have HL := Lib.hid hr.rlen
  have HX := Lib.hid (C.rises ht)
  obtain ⟨hk1, hk2⟩ := hk
  clear C ht hr hf
  go_enter Try.func11, Try.ntmps11
  go_wp2_with fail
  refine (find_any A n c l k _ w.heap.size (HR.out.alloc (Nat.le_refl _) _) (by simp) (by omega)).mono ?_
  rintro e w1 ⟨rfl, hb1⟩
  have X0 : w1.cell? ⟨w.heap.size, 0, none⟩ = some (.int .i64 0) := ((Blk.new w 28 #[.int .i64 0, .int .i64 k, .string s]).below hb1 (by simp)).cell 0
  have X1 : w1.cell? ⟨w.heap.size, 1, none⟩ = some (.int .i64 k) := ((Blk.new w 28 #[.int .i64 0, .int .i64 k, .string s]).below hb1 (by simp)).cell 1
  have X2 : w1.cell? ⟨w.heap.size, 2, none⟩ = some (.string s) := ((Blk.new w 28 #[.int .i64 0, .int .i64 k, .string s]).below hb1 (by simp)).cell 2
  have HB1 := Lib.hid (((Below.refl w.heap.size w).alloc (Nat.le_refl _) (.cells #[.int .i64 0, .int .i64 k, .string s] 28)).trans (hb1.mono (by simp)))
  have HBX := Lib.hid ((Blk.new w 28 #[.int .i64 0, .int .i64 k, .string s]).below hb1 (by simp))
  have s1 : w.heap.size + 1 ≤ w1.heap.size := by have := hb1.size; simpa using this
  clear hb1
  have hp := put_any A n c l k s w1 w.heap.size (HR.out.below HB1.out) (by omega) (Nat.le_trans (Nat.mul_le_mul_right 24 (Nat.succ_le_of_lt hn)) (by decide))
  rw [putL_eq k s HX.out] at hp
  simp only at hp
  go_wp2_with fail
  refine hp.mono ?_
  clear hp
  rintro e w2 ⟨v, rfl, hown, hlen, hb2⟩
  have HO := Lib.hid hown
  obtain ⟨A2, c2, rfl, hc2, hr2⟩ := hown.reads
  have HR2 := Lib.hid hr2
  have HT2 := Lib.hid (HC.out.stay HT.out (Stay.below (HB1.out.trans (hb2.mono (by omega))) (HC.out.lt HT.out)))
  have HF2 : Hid (Free S A2 (ins k s l).length) := Lib.hid (free_own hown rfl (fun b hb => by have := HC.out.lt HT.out b (HC.out.sub HT.out b hb); omega))
  have X0' := (HBX.out.below hb2 (by omega)).cell 0
  have X1' := (HBX.out.below hb2 (by omega)).cell 1
  have X2' := (HBX.out.below hb2 (by omega)).cell 2
  have HB2 := Lib.hid (HB1.out.trans (hb2.mono (by omega)))
  clear hown hr2 hb2 X0 X1 X2
  go_wp2_with fail
  refine (HC.out.put w2 T l S D k s HT2.out hk1 hk2 (by rw [HL.out]; exact hn)).mono ?_
  rintro e w3 ⟨rfl, S3, D3, h3, t3, f3, g3⟩
  go_wp2
  go_ret2
  have hs2 := HB2.out.size
  exact ⟨A2, _, c2, S3, D3, by simp, hc2, HR2.out.turned HF2.out t3, HF2.out.next HR2.out f3, h3, (Turned.of HB2.out (Nat.le_refl _) S).trans t3 (fun b _ h => h), f3.back hs2, g3.back hs2⟩
end Go.Proofs.Ytgkmlggcmmdafaa.Pk
