/- The contract of the statements' own 'one' at Get and Nth. -/
import Derived.Test.YtgkmlggcmmdafaaTabOne
import Derived.Deep.QuietTactic
import Derived.BigQuiet
namespace Go.Proofs.Ytgkmlggcmmdafaa.Pk
open Go.RowKit Go.Proofs.Ytgkmlggcmmdafaa.Tb
set_option linter.unusedVariables false

theorem findI_none {k : Int} {l : List Rw} (h : at_ k l = none) : findI k l = -1 := by unfold findI; rw [h]
theorem findI_some {k : Int} {l : List Rw} {i : Nat} (h : at_ k l = some i) : findI k l = (i : Int) := by unfold findI; rw [h]

set_option maxHeartbeats 4000000 in
theorem one_get {Tb : World → Nat → List Rw → (Nat → Prop) → (Nat → Prop) → Prop} (C : TableC Tb) (w : World) (T : Nat) (l : List Rw) (S D : Nat → Prop) (A : Option Addr) (n c : Nat) (k : Int) (s : ByteArray)
    (ht : Tb w T l S D) (hr : Reads w w.heap.size 2 A n (rws l)) (hf : Free S A n) (hk : -9223372036854775808 ≤ k ∧ k ≤ 9223372036854775807) (hn : n ≤ 4398046511104) (hnc : n ≤ c) :
    Calls Try.prog 11 #[.pointer (some ⟨T, 0, none⟩), .slice A n c, .agg #[.int .i64 1, .int .i64 k, .string s]] w (OneAt Tb T (does 1 k s l) S D w) := by
  have HC := Lib.hid C
  have HT := Lib.hid ht
  have HR := Lib.hid hr
  have HF := Lib.hid hf
  have HL := Lib.hid hr.rlen
  obtain ⟨hk1, hk2⟩ := hk
  have hfind := find_any A n c l k (w.alloc (.cells #[.int .i64 1, .int .i64 k, .string s] 28)) w.heap.size (HR.out.alloc (Nat.le_refl _) _) (by simp) (by omega)
  have hget := fun w1 (h : Tb w1 T l S D) => HC.out.get w1 T l S D k h hk1 hk2 (by rw [HL.out]; exact hn)
  clear C ht hr hf
  cases hat : at_ k l with
  | none =>
    rw [findI_none hat] at hfind
    rw [look_at.2 hat] at hget
    simp only [Option.getD_none, Option.isSome_none] at hget
    have HFd := Lib.hid hfind
    have HG := Lib.hid hget
    clear hat hfind hget
    go_enter Try.func11, Try.ntmps11
    go_wp2_with fail
    refine HFd.out.mono ?_
    rintro e w1 ⟨rfl, hb1⟩
    have X0 : w1.cell? ⟨w.heap.size, 0, none⟩ = some (.int .i64 1) := ((Blk.new w 28 #[.int .i64 1, .int .i64 k, .string s]).below hb1 (by simp)).cell 0
    have X1 : w1.cell? ⟨w.heap.size, 1, none⟩ = some (.int .i64 k) := ((Blk.new w 28 #[.int .i64 1, .int .i64 k, .string s]).below hb1 (by simp)).cell 1
    have HB1 := Lib.hid (((Below.refl w.heap.size w).alloc (Nat.le_refl _) (.cells #[.int .i64 1, .int .i64 k, .string s] 28)).trans (hb1.mono (by simp)))
    have HT1 := Lib.hid (HC.out.stay HT.out (Stay.below HB1.out (HC.out.lt HT.out)))
    clear hb1
    go_wp2_with fail
    refine (HG.out w1 HT1.out).mono ?_
    rintro e w2 ⟨rfl, S2, D2, h2, t2, f2, g2⟩
    clear X0 X1
    go_wp2
    go_quiet (fail)
    go_wp2
    go_ret2
    have hs1 := HB1.out.size
    have hr1 := (HR.out.below HB1.out).more hs1
    exact ⟨A, n, c, S2, D2, rfl, hnc, (hr1.turned HF.out t2).drewN _, HF.out.next hr1 f2, HC.out.stay h2 (Stay.drewN _ _ _), ((Turned.of HB1.out (Nat.le_refl _) S).trans t2 (fun b _ h => h)).drewN _, f2.back hs1, g2.back hs1⟩
  | some i =>
    obtain ⟨v, hv1, hv2⟩ := at_get hat
    have hil : i < n := by rw [← HL.out]; exact at_lt hat
    rw [findI_some hat] at hfind
    rw [hv2] at hget
    simp only [Option.getD_some, Option.isSome_some] at hget
    have HFd := Lib.hid hfind
    have HG := Lib.hid hget
    have HV := Lib.hid hv1
    clear hat hfind hget hv1 hv2
    go_enter Try.func11, Try.ntmps11
    go_wp2_with fail
    refine HFd.out.mono ?_
    rintro e w1 ⟨rfl, hb1⟩
    have X0 : w1.cell? ⟨w.heap.size, 0, none⟩ = some (.int .i64 1) := ((Blk.new w 28 #[.int .i64 1, .int .i64 k, .string s]).below hb1 (by simp)).cell 0
    have X1 : w1.cell? ⟨w.heap.size, 1, none⟩ = some (.int .i64 k) := ((Blk.new w 28 #[.int .i64 1, .int .i64 k, .string s]).below hb1 (by simp)).cell 1
    have HB1 := Lib.hid (((Below.refl w.heap.size w).alloc (Nat.le_refl _) (.cells #[.int .i64 1, .int .i64 k, .string s] 28)).trans (hb1.mono (by simp)))
    have HT1 := Lib.hid (HC.out.stay HT.out (Stay.below HB1.out (HC.out.lt HT.out)))
    clear hb1
    go_wp2_with fail
    refine (HG.out w1 HT1.out).mono ?_
    rintro e w2 ⟨rfl, S2, D2, h2, t2, f2, g2⟩
    have hs1 := HB1.out.size
    have hr1 := (HR.out.below HB1.out).more hs1
    have hr2 := hr1.turned HF.out t2
    obtain ⟨b, off, rfl, hbb, hcell⟩ := hr2.rows (by omega)
    obtain ⟨hx, hy⟩ := hcell i _ HV.out
    have HR2 := Lib.hid hr2
    clear X0 X1 hcell hr1 hr2
    go_wp2
    go_quiet (fail)
    go_wp2
    go_ret2
    have hr1 := (HR.out.below HB1.out).more hs1
    exact ⟨_, n, c, S2, D2, rfl, hnc, HR2.out.drewN _, HF.out.next hr1 f2, HC.out.stay h2 (Stay.drewN _ _ _), ((Turned.of HB1.out (Nat.le_refl _) S).trans t2 (fun b _ h => h)).drewN _, f2.back hs1, g2.back hs1⟩

set_option maxHeartbeats 4000000 in
theorem one_nth {Tb : World → Nat → List Rw → (Nat → Prop) → (Nat → Prop) → Prop} (C : TableC Tb) (w : World) (T : Nat) (l : List Rw) (S D : Nat → Prop) (A : Option Addr) (n c : Nat) (k : Int) (s : ByteArray)
    (ht : Tb w T l S D) (hr : Reads w w.heap.size 2 A n (rws l)) (hf : Free S A n) (hk : -9223372036854775808 ≤ k ∧ k ≤ 9223372036854775807) (hn : n ≤ 4398046511104) (hnc : n ≤ c) :
    Calls Try.prog 11 #[.pointer (some ⟨T, 0, none⟩), .slice A n c, .agg #[.int .i64 3, .int .i64 k, .string s]] w (OneAt Tb T (does 3 k s l) S D w) := by
  have HC := Lib.hid C
  have HT := Lib.hid ht
  have HR := Lib.hid hr
  have HF := Lib.hid hf
  have HL := Lib.hid hr.rlen
  obtain ⟨hk1, hk2⟩ := hk
  have hfind := find_any A n c l k (w.alloc (.cells #[.int .i64 3, .int .i64 k, .string s] 28)) w.heap.size (HR.out.alloc (Nat.le_refl _) _) (by simp) (by omega)
  have hnth := fun w1 (h : Tb w1 T l S D) => HC.out.nth w1 T l S D k h hk1 hk2 (by rw [HL.out]; exact hn)
  obtain ⟨at0, hat0⟩ : ∃ a, a = findI k l := ⟨_, rfl⟩
  rw [← hat0] at hfind
  have HFd := Lib.hid hfind
  clear C ht hr hf hfind hat0
  by_cases hin : 0 ≤ k ∧ k < (n : Int)
  · obtain ⟨q, rfl⟩ := Int.eq_ofNat_of_zero_le hin.1
    have hq : q < n := by omega
    obtain ⟨r, hr⟩ : ∃ r, l[q]? = some r := ⟨_, List.getElem?_eq_getElem (by rw [HL.out]; exact hq)⟩
    rw [HL.out, if_pos hin, decide_eq_true hin, Int.toNat_natCast, hr] at hnth
    simp only [Option.map_some, Option.getD_some] at hnth
    have HG := Lib.hid hnth
    have HV := Lib.hid hr
    obtain ⟨i1, i2⟩ := hin
    have i2' : decide ((q : Int) < (n : Int)) = true := by simpa using i2
    clear hnth hr
    obtain ⟨rk, rv⟩ := r
    go_enter Try.func11, Try.ntmps11
    go_wp2_with fail
    refine HFd.out.mono ?_
    rintro e w1 ⟨rfl, hb1⟩
    have X0 : w1.cell? ⟨w.heap.size, 0, none⟩ = some (.int .i64 3) := ((Blk.new w 28 #[.int .i64 3, .int .i64 q, .string s]).below hb1 (by simp)).cell 0
    have X1 : w1.cell? ⟨w.heap.size, 1, none⟩ = some (.int .i64 q) := ((Blk.new w 28 #[.int .i64 3, .int .i64 q, .string s]).below hb1 (by simp)).cell 1
    have HBX := Lib.hid ((Blk.new w 28 #[.int .i64 3, .int .i64 q, .string s]).below hb1 (by simp))
    have HB1 := Lib.hid (((Below.refl w.heap.size w).alloc (Nat.le_refl _) (.cells #[.int .i64 3, .int .i64 q, .string s] 28)).trans (hb1.mono (by simp)))
    have HT1 := Lib.hid (HC.out.stay HT.out (Stay.below HB1.out (HC.out.lt HT.out)))
    have hsx : w.heap.size < w1.heap.size := by have := hb1.size; simp at this; omega
    clear hb1
    go_wp2_with fail
    refine (HG.out w1 HT1.out).mono ?_
    rintro e w2 ⟨rfl, S2, D2, h2, t2, f2, g2⟩
    have hs1 := HB1.out.size
    have hr1 := (HR.out.below HB1.out).more hs1
    have hr2 := hr1.turned HF.out t2
    obtain ⟨b, off, rfl, hbb, hcell⟩ := hr2.rows (by omega)
    obtain ⟨hx, hy⟩ := hcell q _ HV.out
    have hbk : w2.heap[w.heap.size]? = w1.heap[w.heap.size]? := t2.block _ hsx (fun hs => by have := HC.out.lt HT.out _ (HC.out.sub HT.out _ hs); omega)
    have X0' : w2.cell? ⟨w.heap.size, 0, none⟩ = some (.int .i64 3) := (World.cell?_of_block (a := ⟨w.heap.size, 0, none⟩) hbk).trans (HBX.out.cell 0)
    have X1' : w2.cell? ⟨w.heap.size, 1, none⟩ = some (.int .i64 q) := (World.cell?_of_block (a := ⟨w.heap.size, 1, none⟩) hbk).trans (HBX.out.cell 1)
    have HR2 := Lib.hid hr2
    clear X0 X1 hcell hr1 hr2 hbk
    go_wp2
    go_quiet (fail)
    go_wp2
    go_ret2
    have hr1 := (HR.out.below HB1.out).more hs1
    exact ⟨_, n, c, S2, D2, rfl, hnc, HR2.out.drewN _, HF.out.next hr1 f2, HC.out.stay h2 (Stay.drewN _ _ _), ((Turned.of HB1.out (Nat.le_refl _) S).trans t2 (fun b _ h => h)).drewN _, f2.back hs1, g2.back hs1⟩
  · rw [HL.out, if_neg hin, decide_eq_false hin] at hnth
    have HG := Lib.hid hnth
    clear hnth
    have fin : ∀ w1, Turned S w w1 → True := fun _ _ => trivial
    go_enter Try.func11, Try.ntmps11
    go_wp2_with fail
    refine HFd.out.mono ?_
    rintro e w1 ⟨rfl, hb1⟩
    have X0 : w1.cell? ⟨w.heap.size, 0, none⟩ = some (.int .i64 3) := ((Blk.new w 28 #[.int .i64 3, .int .i64 k, .string s]).below hb1 (by simp)).cell 0
    have X1 : w1.cell? ⟨w.heap.size, 1, none⟩ = some (.int .i64 k) := ((Blk.new w 28 #[.int .i64 3, .int .i64 k, .string s]).below hb1 (by simp)).cell 1
    have HBX := Lib.hid ((Blk.new w 28 #[.int .i64 3, .int .i64 k, .string s]).below hb1 (by simp))
    have HB1 := Lib.hid (((Below.refl w.heap.size w).alloc (Nat.le_refl _) (.cells #[.int .i64 3, .int .i64 k, .string s] 28)).trans (hb1.mono (by simp)))
    have HT1 := Lib.hid (HC.out.stay HT.out (Stay.below HB1.out (HC.out.lt HT.out)))
    have hsx : w.heap.size < w1.heap.size := by have := hb1.size; simp at this; omega
    clear hb1
    go_wp2_with fail
    refine (HG.out w1 HT1.out).mono ?_
    rintro e w2 ⟨rfl, S2, D2, h2, t2, f2, g2⟩
    have hs1 := HB1.out.size
    have hr1 := (HR.out.below HB1.out).more hs1
    have hr2 := hr1.turned HF.out t2
    have hbk : w2.heap[w.heap.size]? = w1.heap[w.heap.size]? := t2.block _ hsx (fun hs => by have := HC.out.lt HT.out _ (HC.out.sub HT.out _ hs); omega)
    have X0' : w2.cell? ⟨w.heap.size, 0, none⟩ = some (.int .i64 3) := (World.cell?_of_block (a := ⟨w.heap.size, 0, none⟩) hbk).trans (HBX.out.cell 0)
    have X1' : w2.cell? ⟨w.heap.size, 1, none⟩ = some (.int .i64 k) := (World.cell?_of_block (a := ⟨w.heap.size, 1, none⟩) hbk).trans (HBX.out.cell 1)
    have HR1 := Lib.hid hr1
    have HR2 := Lib.hid hr2
    clear X0 X1 hr1 hr2 hbk fin
    by_cases h0 : 0 ≤ k
    · have h1 : decide (k < (n : Int)) = false := by simp; omega
      clear hin
      go_wp2
      go_quiet (fail)
      go_wp2
      go_ret2
      exact ⟨_, n, c, S2, D2, rfl, hnc, HR2.out.drewN _, HF.out.next HR1.out f2, HC.out.stay h2 (Stay.drewN _ _ _), ((Turned.of HB1.out (Nat.le_refl _) S).trans t2 (fun b _ h => h)).drewN _, f2.back hs1, g2.back hs1⟩
    · have h1 : decide (0 ≤ k) = false := by simpa using h0
      clear hin h0
      go_wp2
      go_quiet (fail)
      go_wp2
      go_ret2
      exact ⟨_, n, c, S2, D2, rfl, hnc, HR2.out.drewN _, HF.out.next HR1.out f2, HC.out.stay h2 (Stay.drewN _ _ _), ((Turned.of HB1.out (Nat.le_refl _) S).trans t2 (fun b _ h => h)).drewN _, f2.back hs1, g2.back hs1⟩

set_option maxHeartbeats 4000000 in
theorem one_other {Tb : World → Nat → List Rw → (Nat → Prop) → (Nat → Prop) → Prop} (C : TableC Tb) (w : World) (T : Nat) (l : List Rw) (S D : Nat → Prop) (A : Option Addr) (n c : Nat) (kd k : Int) (s : ByteArray)
    (ht : Tb w T l S D) (hr : Reads w w.heap.size 2 A n (rws l)) (hf : Free S A n) (hn : n ≤ 4398046511104) (hnc : n ≤ c) (h0 : kd ≠ 0) (h1 : kd ≠ 1) (h2 : kd ≠ 2) (h3 : kd ≠ 3) :
    Calls Try.prog 11 #[.pointer (some ⟨T, 0, none⟩), .slice A n c, .agg #[.int .i64 kd, .int .i64 k, .string s]] w (OneAt Tb T (does kd k s l) S D w) := by
  have HC := Lib.hid C
  have HT := Lib.hid ht
  have HR := Lib.hid hr
  have HF := Lib.hid hf
  have HE : Hid (does kd k s l = l) := Lib.hid (by unfold does; rw [if_neg h0, if_neg h2])
  have hfind := find_any A n c l k (w.alloc (.cells #[.int .i64 kd, .int .i64 k, .string s] 28)) w.heap.size (HR.out.alloc (Nat.le_refl _) _) (by simp) (by omega)
  obtain ⟨at0, hat0⟩ : ∃ a, a = findI k l := ⟨_, rfl⟩
  rw [← hat0] at hfind
  have HFd := Lib.hid hfind
  have e0 : (kd == 0) = false := by simpa using h0
  have e1 : (kd == 1) = false := by simpa using h1
  have e2 : (kd == 2) = false := by simpa using h2
  have e3 : (kd == 3) = false := by simpa using h3
  clear C ht hr hf hfind hat0 h0 h1 h2 h3
  go_enter Try.func11, Try.ntmps11
  go_wp2_with fail
  refine HFd.out.mono ?_
  rintro e w1 ⟨rfl, hb1⟩
  have X0 : w1.cell? ⟨w.heap.size, 0, none⟩ = some (.int .i64 kd) := ((Blk.new w 28 #[.int .i64 kd, .int .i64 k, .string s]).below hb1 (by simp)).cell 0
  have HB1 := Lib.hid (((Below.refl w.heap.size w).alloc (Nat.le_refl _) (.cells #[.int .i64 kd, .int .i64 k, .string s] 28)).trans (hb1.mono (by simp)))
  clear hb1
  go_wp2
  go_ret2
  have hs1 := HB1.out.size
  have ht2 := Turned.of HB1.out (Nat.le_refl _) S
  rw [HE.out]
  exact ⟨A, n, c, S, D, rfl, hnc, HR.out.turned HF.out ht2, HF.out, HC.out.stay HT.out (Stay.below HB1.out (HC.out.lt HT.out)), ht2, From.refl _ _, From.refl _ _⟩
end Go.Proofs.Ytgkmlggcmmdafaa.Pk
