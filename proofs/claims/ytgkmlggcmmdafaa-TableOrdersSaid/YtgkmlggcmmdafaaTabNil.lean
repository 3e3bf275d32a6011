/- The contract of the statements' own 'one' without rows: what it makes of the table. -/
import Derived.Test.YtgkmlggcmmdafaaTabDel
namespace Go.Proofs.Ytgkmlggcmmdafaa.Pk
open Go.RowKit Go.Proofs.Ytgkmlggcmmdafaa.Tb
set_option linter.unusedVariables false

/-- What 'one' leaves of the table, whatever it answers. -/
def OneN (Tb : World → Nat → List Rw → (Nat → Prop) → (Nat → Prop) → Prop) (T : Nat) (l : List Rw) (S D : Nat → Prop) (w : World) (e : Ending) (w' : World) : Prop :=
  ∃ v b S' D', e = .returned (.tuple #[v, .bool b]) ∧ Tb w' T l S' D' ∧ Turned S w w' ∧ From S S' w ∧ From D D' w
theorem OneAt.nil {Tb : World → Nat → List Rw → (Nat → Prop) → (Nat → Prop) → Prop} {T : Nat} {l : List Rw} {S D : Nat → Prop} {w w' : World} {e : Ending} (h : OneAt Tb T l S D w e w') : OneN Tb T l S D w e w' := by
  obtain ⟨A, n, c, S', D', he, _, _, _, h1, h2, h3, h4⟩ := h
  exact ⟨_, _, S', D', he, h1, h2, h3, h4⟩

set_option maxHeartbeats 4000000 in
theorem nil_put {Tb : World → Nat → List Rw → (Nat → Prop) → (Nat → Prop) → Prop} (C : TableC Tb) (w : World) (T : Nat) (l : List Rw) (S D : Nat → Prop) (k : Int) (s : ByteArray)
    (ht : Tb w T l S D) (hk : -9223372036854775808 ≤ k ∧ k ≤ 9223372036854775807) (hl : l.length < 4398046511104) :
    Calls Try.prog 11 #[.pointer (some ⟨T, 0, none⟩), .slice none 0 0, .agg #[.int .i64 0, .int .i64 k, .string s]] w (OneN Tb T (does 0 k s l) S D w) := by
  have HC := Lib.hid C
  have HT := Lib.hid ht
  obtain ⟨hk1, hk2⟩ := hk
  clear C ht
  go_enter Try.func11, Try.ntmps11
  go_wp2_with fail
  refine (find_any none 0 0 [] k _ w.heap.size Reads.none_ (by simp) (by omega)).mono ?_
  rintro e w1 ⟨rfl, hb1⟩
  have X0 : w1.cell? ⟨w.heap.size, 0, none⟩ = some (.int .i64 0) := ((Blk.new w 28 #[.int .i64 0, .int .i64 k, .string s]).below hb1 (by simp)).cell 0
  have X1 : w1.cell? ⟨w.heap.size, 1, none⟩ = some (.int .i64 k) := ((Blk.new w 28 #[.int .i64 0, .int .i64 k, .string s]).below hb1 (by simp)).cell 1
  have X2 : w1.cell? ⟨w.heap.size, 2, none⟩ = some (.string s) := ((Blk.new w 28 #[.int .i64 0, .int .i64 k, .string s]).below hb1 (by simp)).cell 2
  have HB1 := Lib.hid (((Below.refl w.heap.size w).alloc (Nat.le_refl _) (.cells #[.int .i64 0, .int .i64 k, .string s] 28)).trans (hb1.mono (by simp)))
  have HBX := Lib.hid ((Blk.new w 28 #[.int .i64 0, .int .i64 k, .string s]).below hb1 (by simp))
  have s1 : w.heap.size + 1 ≤ w1.heap.size := by have := hb1.size; simpa using this
  clear hb1
  go_wp2_with fail
  refine (put_any none 0 0 [] k s w1 w.heap.size Reads.none_ (by omega) (by omega)).mono ?_
  rintro e w2 ⟨v, rfl, -, -, hb2⟩
  obtain ⟨fb, hfb⟩ : ∃ b, b = (putL k s ([] : List Rw)).2 := ⟨_, rfl⟩
  rw [← hfb]
  have HT2 := Lib.hid (HC.out.stay HT.out (Stay.below (HB1.out.trans (hb2.mono (by omega))) (HC.out.lt HT.out)))
  have X1' := (HBX.out.below hb2 (by omega)).cell 1
  have X2' := (HBX.out.below hb2 (by omega)).cell 2
  have HB2 := Lib.hid (HB1.out.trans (hb2.mono (by omega)))
  clear hb2 X0 X1 X2 hfb
  go_wp2_with fail
  refine (HC.out.put w2 T l S D k s HT2.out hk1 hk2 hl).mono ?_
  rintro e w3 ⟨rfl, S3, D3, h3, t3, f3, g3⟩
  go_wp2
  go_ret2
  have hs2 := HB2.out.size
  exact ⟨_, _, S3, D3, rfl, h3, (Turned.of HB2.out (Nat.le_refl _) S).trans t3 (fun b _ h => h), f3.back hs2, g3.back hs2⟩

set_option maxHeartbeats 4000000 in
theorem nil_get {Tb : World → Nat → List Rw → (Nat → Prop) → (Nat → Prop) → Prop} (C : TableC Tb) (w : World) (T : Nat) (l : List Rw) (S D : Nat → Prop) (k : Int) (s : ByteArray)
    (ht : Tb w T l S D) (hk : -9223372036854775808 ≤ k ∧ k ≤ 9223372036854775807) (hl : l.length < 4398046511104) :
    Calls Try.prog 11 #[.pointer (some ⟨T, 0, none⟩), .slice none 0 0, .agg #[.int .i64 1, .int .i64 k, .string s]] w (OneN Tb T (does 1 k s l) S D w) := by
  have HC := Lib.hid C
  have HT := Lib.hid ht
  obtain ⟨hk1, hk2⟩ := hk
  have hget := fun w1 (h : Tb w1 T l S D) => HC.out.get w1 T l S D k h hk1 hk2 (by omega)
  clear C ht
  cases hu : under k l with
  | none =>
    rw [hu] at hget
    simp only [Option.getD_none, Option.isSome_none] at hget
    have HG := Lib.hid hget
    clear hu hget
    go_enter Try.func11, Try.ntmps11
    go_wp2_with fail
    refine (find_any none 0 0 [] k _ w.heap.size Reads.none_ (by simp) (by omega)).mono ?_
    rw [show findI k ([] : List Rw) = -1 from rfl]
    rintro e w1 ⟨rfl, hb1⟩
    have X0 : w1.cell? ⟨w.heap.size, 0, none⟩ = some (.int .i64 1) := ((Blk.new w 28 #[.int .i64 1, .int .i64 k, .string s]).below hb1 (by simp)).cell 0
    have X1 : w1.cell? ⟨w.heap.size, 1, none⟩ = some (.int .i64 k) := ((Blk.new w 28 #[.int .i64 1, .int .i64 k, .string s]).below hb1 (by simp)).cell 1
    have HB1 := Lib.hid (((Below.refl w.heap.size w).alloc (Nat.le_refl _) (.cells #[.int .i64 1, .int .i64 k, .string s] 28)).trans (hb1.mono (by simp)))
    have HT1 := Lib.hid (HC.out.stay HT.out (Stay.below HB1.out (HC.out.lt HT.out)))
    clear hb1
    go_wp2_with fail
    refine (HG.out w1 HT1.out).mono ?_
    rintro e w2 ⟨rfl, S2, D2, h2, t2, f2, g2⟩
    clear X0 X1
    go_wp2
    go_quiet (fail)
    go_wp2
    go_ret2
    have hs1 := HB1.out.size
    exact ⟨_, _, S2, D2, rfl, HC.out.stay h2 (Stay.drewN _ _ _), ((Turned.of HB1.out (Nat.le_refl _) S).trans t2 (fun b _ h => h)).drewN _, f2.back hs1, g2.back hs1⟩
  | some x =>
    rw [hu] at hget
    simp only [Option.getD_some, Option.isSome_some] at hget
    have HG := Lib.hid hget
    clear hu hget
    go_enter Try.func11, Try.ntmps11
    go_wp2_with fail
    refine (find_any none 0 0 [] k _ w.heap.size Reads.none_ (by simp) (by omega)).mono ?_
    rw [show findI k ([] : List Rw) = -1 from rfl]
    rintro e w1 ⟨rfl, hb1⟩
    have X0 : w1.cell? ⟨w.heap.size, 0, none⟩ = some (.int .i64 1) := ((Blk.new w 28 #[.int .i64 1, .int .i64 k, .string s]).below hb1 (by simp)).cell 0
    have X1 : w1.cell? ⟨w.heap.size, 1, none⟩ = some (.int .i64 k) := ((Blk.new w 28 #[.int .i64 1, .int .i64 k, .string s]).below hb1 (by simp)).cell 1
    have HB1 := Lib.hid (((Below.refl w.heap.size w).alloc (Nat.le_refl _) (.cells #[.int .i64 1, .int .i64 k, .string s] 28)).trans (hb1.mono (by simp)))
    have HT1 := Lib.hid (HC.out.stay HT.out (Stay.below HB1.out (HC.out.lt HT.out)))
    clear hb1
    go_wp2_with fail
    refine (HG.out w1 HT1.out).mono ?_
    rintro e w2 ⟨rfl, S2, D2, h2, t2, f2, g2⟩
    clear X0 X1
    go_wp2
    go_quiet (fail)
    go_wp2
    go_ret2
    have hs1 := HB1.out.size
    exact ⟨_, _, S2, D2, rfl, HC.out.stay h2 (Stay.drewN _ _ _), ((Turned.of HB1.out (Nat.le_refl _) S).trans t2 (fun b _ h => h)).drewN _, f2.back hs1, g2.back hs1⟩

set_option maxHeartbeats 4000000 in
theorem nil_del {Tb : World → Nat → List Rw → (Nat → Prop) → (Nat → Prop) → Prop} (C : TableC Tb) (w : World) (T : Nat) (l : List Rw) (S D : Nat → Prop) (k : Int) (s : ByteArray)
    (ht : Tb w T l S D) (hk : -9223372036854775808 ≤ k ∧ k ≤ 9223372036854775807) (hl : l.length < 4398046511104) :
    Calls Try.prog 11 #[.pointer (some ⟨T, 0, none⟩), .slice none 0 0, .agg #[.int .i64 2, .int .i64 k, .string s]] w (OneN Tb T (does 2 k s l) S D w) := by
  have HC := Lib.hid C
  have HT := Lib.hid ht
  obtain ⟨hk1, hk2⟩ := hk
  have hdel := fun w1 (h : Tb w1 T l S D) => HC.out.del w1 T l S D k h hk1 hk2 (by omega)
  obtain ⟨b, hb⟩ : ∃ b, b = (at_ k l).isSome := ⟨_, rfl⟩
  rw [← hb] at hdel
  have HG := Lib.hid hdel
  clear C ht hdel hb
  cases b
  all_goals
    go_enter Try.func11, Try.ntmps11
    go_wp2_with fail
    refine (find_any none 0 0 [] k _ w.heap.size Reads.none_ (by simp) (by omega)).mono ?_
    rw [show findI k ([] : List Rw) = -1 from rfl]
    rintro e w1 ⟨rfl, hb1⟩
    have X0 : w1.cell? ⟨w.heap.size, 0, none⟩ = some (.int .i64 2) := ((Blk.new w 28 #[.int .i64 2, .int .i64 k, .string s]).below hb1 (by simp)).cell 0
    have X1 : w1.cell? ⟨w.heap.size, 1, none⟩ = some (.int .i64 k) := ((Blk.new w 28 #[.int .i64 2, .int .i64 k, .string s]).below hb1 (by simp)).cell 1
    have HB1 := Lib.hid (((Below.refl w.heap.size w).alloc (Nat.le_refl _) (.cells #[.int .i64 2, .int .i64 k, .string s] 28)).trans (hb1.mono (by simp)))
    have HT1 := Lib.hid (HC.out.stay HT.out (Stay.below HB1.out (HC.out.lt HT.out)))
    clear hb1
    go_wp2_with fail
    refine (HG.out w1 HT1.out).mono ?_
    rintro e w2 ⟨rfl, S2, D2, h2, t2, f2, g2⟩
    clear X0 X1
    go_wp2
    go_ret2
    have hs1 := HB1.out.size
    exact ⟨_, _, S2, D2, rfl, h2, (Turned.of HB1.out (Nat.le_refl _) S).trans t2 (fun b _ h => h), f2.back hs1, g2.back hs1⟩

set_option maxHeartbeats 4000000 in
set_option maxRecDepth 100000 in
theorem nil_nth {Tb : World → Nat → List Rw → (Nat → Prop) → (Nat → Prop) → Prop} (C : TableC Tb) (w : World) (T : Nat) (l : List Rw) (S D : Nat → Prop) (k : Int) (s : ByteArray)
    (ht : Tb w T l S D) (hk : -9223372036854775808 ≤ k ∧ k ≤ 9223372036854775807) (hl : l.length < 4398046511104) :
    Calls Try.prog 11 #[.pointer (some ⟨T, 0, none⟩), .slice none 0 0, .agg #[.int .i64 3, .int .i64 k, .string s]] w (OneN Tb T (does 3 k s l) S D w) := by
  have HC := Lib.hid C
  have HT := Lib.hid ht
  obtain ⟨hk1, hk2⟩ := hk
  have hnth := fun w1 (h : Tb w1 T l S D) => HC.out.nth w1 T l S D k h hk1 hk2 (by omega)
  obtain ⟨b, hb⟩ : ∃ b, b = decide (0 ≤ k ∧ k < l.length) := ⟨_, rfl⟩
  obtain ⟨z, hz⟩ : ∃ z, z = (if 0 ≤ k ∧ k < l.length then ((l[k.toNat]?.map (·.1)).getD 0) else 0) := ⟨_, rfl⟩
  have hbz : b = false → z = 0 := by
    intro h
    rw [hb] at h
    rw [hz, if_neg (by simpa using h)]
  rw [← hb, ← hz] at hnth
  have HG := Lib.hid hnth
  have HZ := Lib.hid hbz
  clear C ht hnth hb hz hbz
  have two : (0 ≤ k ∧ decide (k < 0) = false) ∨ decide (0 ≤ k) = false := by
    by_cases h : 0 ≤ k
    · left; exact ⟨h, by simp; omega⟩
    · right; simpa using h
  cases b
  case' false =>
    obtain rfl : z = 0 := HZ.out rfl
  all_goals
    rcases two with ⟨t1, t2⟩ | t1
    all_goals
      go_enter Try.func11, Try.ntmps11
      go_wp2_with fail
      refine (find_any none 0 0 [] k _ w.heap.size Reads.none_ (by simp) (by omega)).mono ?_
      rw [show findI k ([] : List Rw) = -1 from rfl]
      rintro e w1 ⟨rfl, hb1⟩
      have X0 : w1.cell? ⟨w.heap.size, 0, none⟩ = some (.int .i64 3) := ((Blk.new w 28 #[.int .i64 3, .int .i64 k, .string s]).below hb1 (by simp)).cell 0
      have X1 : w1.cell? ⟨w.heap.size, 1, none⟩ = some (.int .i64 k) := ((Blk.new w 28 #[.int .i64 3, .int .i64 k, .string s]).below hb1 (by simp)).cell 1
      have HBX := Lib.hid ((Blk.new w 28 #[.int .i64 3, .int .i64 k, .string s]).below hb1 (by simp))
      have HB1 := Lib.hid (((Below.refl w.heap.size w).alloc (Nat.le_refl _) (.cells #[.int .i64 3, .int .i64 k, .string s] 28)).trans (hb1.mono (by simp)))
      have HT1 := Lib.hid (HC.out.stay HT.out (Stay.below HB1.out (HC.out.lt HT.out)))
      have hsx : w.heap.size < w1.heap.size := by have := hb1.size; simp at this; omega
      clear hb1
      go_wp2_with fail
      refine (HG.out w1 HT1.out).mono ?_
      rintro e w2 ⟨rfl, S2, D2, h2, t2', f2, g2⟩
      have hbk : w2.heap[w.heap.size]? = w1.heap[w.heap.size]? := t2'.block _ hsx (fun hs => by have := HC.out.lt HT.out _ (HC.out.sub HT.out _ hs); omega)
      have X1' : w2.cell? ⟨w.heap.size, 1, none⟩ = some (.int .i64 k) := (World.cell?_of_block (a := ⟨w.heap.size, 1, none⟩) hbk).trans (HBX.out.cell 1)
      clear X0 X1 hbk
      go_wp2
      go_quiet (fail)
      go_wp2
      go_ret2
      have hs1 := HB1.out.size
      exact ⟨_, _, S2, D2, rfl, HC.out.stay h2 (Stay.drewN _ _ _), ((Turned.of HB1.out (Nat.le_refl _) S).trans t2' (fun b _ h => h)).drewN _, f2.back hs1, g2.back hs1⟩

set_option maxHeartbeats 4000000 in
theorem nil_any {Tb : World → Nat → List Rw → (Nat → Prop) → (Nat → Prop) → Prop} (C : TableC Tb) (w : World) (T : Nat) (l : List Rw) (S D : Nat → Prop) (kd k : Int) (s : ByteArray)
    (ht : Tb w T l S D) (hk : -9223372036854775808 ≤ k ∧ k ≤ 9223372036854775807) (hl : l.length < 4398046511104) :
    Calls Try.prog 11 #[.pointer (some ⟨T, 0, none⟩), .slice none 0 0, .agg #[.int .i64 kd, .int .i64 k, .string s]] w (OneN Tb T (does kd k s l) S D w) := by
  by_cases h0 : kd = 0
  · subst h0; exact nil_put C w T l S D k s ht hk hl
  by_cases h1 : kd = 1
  · subst h1; exact nil_get C w T l S D k s ht hk hl
  by_cases h2 : kd = 2
  · subst h2; exact nil_del C w T l S D k s ht hk hl
  by_cases h3 : kd = 3
  · subst h3; exact nil_nth C w T l S D k s ht hk hl
  have HC := Lib.hid C
  have HT := Lib.hid ht
  have HE : Hid (does kd k s l = l) := Lib.hid (by unfold does; rw [if_neg h0, if_neg h2])
  have e0 : (kd == 0) = false := by simpa using h0
  have e1 : (kd == 1) = false := by simpa using h1
  have e2 : (kd == 2) = false := by simpa using h2
  have e3 : (kd == 3) = false := by simpa using h3
  clear C ht h0 h1 h2 h3
  go_enter Try.func11, Try.ntmps11
  go_wp2_with fail
  refine (find_any none 0 0 [] k _ w.heap.size Reads.none_ (by simp) (by omega)).mono ?_
  rw [show findI k ([] : List Rw) = -1 from rfl]
  rintro e w1 ⟨rfl, hb1⟩
  have X0 : w1.cell? ⟨w.heap.size, 0, none⟩ = some (.int .i64 kd) := ((Blk.new w 28 #[.int .i64 kd, .int .i64 k, .string s]).below hb1 (by simp)).cell 0
  have HB1 := Lib.hid (((Below.refl w.heap.size w).alloc (Nat.le_refl _) (.cells #[.int .i64 kd, .int .i64 k, .string s] 28)).trans (hb1.mono (by simp)))
  clear hb1
  go_wp2
  go_ret2
  rw [HE.out]
  exact ⟨_, _, S, D, rfl, HC.out.stay HT.out (Stay.below HB1.out (HC.out.lt HT.out)), Turned.of HB1.out (Nat.le_refl _) S, From.refl _ _, From.refl _ _⟩
end Go.Proofs.Ytgkmlggcmmdafaa.Pk
