/- The contract of the statements' own 'one' at Delete. -/
import Derived.Test.YtgkmlggcmmdafaaTabOne2
import Derived.Deep.RegionLaw
namespace Go.Proofs.Ytgkmlggcmmdafaa.Pk
open Go.RowKit Go.Proofs.Ytgkmlggcmmdafaa.Tb
set_option linter.unusedVariables false

/-- Where a slice of a slice of rows begins. -/
def cutR (a : Option Addr) (c k : Nat) : Option Addr := if c = k then a else a.map (·.add (k * 2))
theorem run_cutR {P : Program} {t e : TypeId} (ht : P.underlying t = some (.slice e)) (hi : (P.info? e).map (·.size) = some 2) (a : Option Addr) (n c i : Nat) (h1 : i ≤ n) (w : World) :
    (Instr.slice t (.slice a n c) (some (.int .i64 (i : Int))) none none).run P w = .ok (.slice (cutR a c i) (n - i) (c - i)) w := by
  obtain ⟨f, hi1, hi2⟩ := Option.map_eq_some_iff.1 hi
  simp [Instr.slice, run_underlying ht, go_sem, Instr.sliceBounds, sizeOf, typeInfo, hi1, hi2, cutR, h1]
theorem run_headR {P : Program} {t e : TypeId} (ht : P.underlying t = some (.slice e)) (hi : (P.info? e).map (·.size) = some 2) (a : Option Addr) (n c i : Nat) (h1 : i ≤ c) (h2 : c ≠ 0) (w : World) :
    (Instr.slice t (.slice a n c) none (some (.int .i64 (i : Int))) none).run P w = .ok (.slice a i c) w := by
  obtain ⟨f, hi1, -⟩ := Option.map_eq_some_iff.1 hi
  simp [Instr.slice, run_underlying ht, go_sem, Instr.sliceBounds, sizeOf, typeInfo, hi1, h1]
theorem reads_headR {w : World} {B n i : Nat} {a : Option Addr} {l : List Rw} (h : Reads w B 2 a n (rws l)) (h1 : i ≤ n) : Reads w B 2 a i (rws (l.take i)) := by
  have hl := h.rlen
  refine ⟨by simp; omega, fun h0 => ?_⟩
  obtain ⟨ad, e, hb, hc⟩ := h.2 (by omega)
  refine ⟨ad, e, hb, fun j u hj => hc j u ?_⟩
  rw [← rws_take, List.getElem?_take] at hj
  split at hj
  · exact hj
  · cases hj
theorem reads_cutR {w : World} {B n c i : Nat} {a : Option Addr} {l : List Rw} (h : Reads w B 2 a n (rws l)) (h1 : i ≤ n) (h3 : n ≤ c) : Reads w B 2 (cutR a c i) (n - i) (rws (l.drop i)) := by
  have := h.cut (k := i) (cap := c) h1 h3
  rw [rws_drop] at this
  exact this

/-- Rows of any slice behind those of the call's own, in a region that draws. -/
theorem stepR {ops : Array Oper} {o : Oper} {a : Act} {K : Act → World → Prop} {Q : Exit → Act → World → Prop} {E : Prop} (w : World) (hgd : o.guard = none) (s x : Operand)
    (ho : o.op = .call { callee := .builtin .append, args := #[s, x], argTypes := #[26, 26] }) (B : Nat) (v : Value) (l : List Rw) (hs : a.eval s = v) (hown : OwnR w B v l)
    (B' : Nat) (A : Option Addr) (c : Nat) (r : List Rw) (n : Nat) (hx : a.eval x = .slice A n c) (hr : Reads w B' 2 A n (rws r)) (hlen : (l.length + n) * 24 ≤ 140737488355328) (hB : B ≤ w.heap.size)
    (h : ∀ v' w', OwnR w' B v' (l ++ r) → Below B w w' → K (a.put o.dst v') w') : if Region.wanted o (yielded ops a.tmps) = true then Oper.wp Try.prog o a w K Q else E := by
  obtain ⟨i0, hi0, hz0, hz1, hz2⟩ := info_parts row_info
  refine step_append_any w hgd s x _ ho B 34 i0 _ 2 24 Try.underlying26 hi0 hz0 hz1 hz2 rfl (by omega) v l.length (rws l) hs hown B' A n c (rws r) hx hr (rws_one r)
    (by unfold maxLen; omega) hlen hB ?_
  intro v' w' ho hg _
  refine h v' w' ?_ ((Below.refl _ _).grown hg hB (ownR_base hown))
  unfold OwnR
  rw [rws_append, List.length_append, hr.rlen]; exact ho
theorem OwnR.fresh (w : World) (B : Nat) (hB : B ≤ w.heap.size) : OwnR (w.alloc (.cells #[] 34)) B (.slice (some ⟨w.heap.size, 0, none⟩) 0 0) [] :=
  ⟨rfl, .inr ⟨w.heap.size, 0, #[], rfl, hB, heap_alloc_new w _, Nat.le_refl _, by unfold maxLen; omega, rfl, rfl⟩⟩

set_option maxHeartbeats 4000000 in
theorem one_del {Tb : World → Nat → List Rw → (Nat → Prop) → (Nat → Prop) → Prop} (C : TableC Tb) (w : World) (T : Nat) (l : List Rw) (S D : Nat → Prop) (A : Option Addr) (n c : Nat) (k : Int) (s : ByteArray)
    (ht : Tb w T l S D) (hr : Reads w w.heap.size 2 A n (rws l)) (hf : Free S A n) (hk : -9223372036854775808 ≤ k ∧ k ≤ 9223372036854775807) (hn : n ≤ 4398046511104) (hnc : n ≤ c) :
    Calls Try.prog 11 #[.pointer (some ⟨T, 0, none⟩), .slice A n c, .agg #[.int .i64 2, .int .i64 k, .string s]] w (OneAt Tb T (does 2 k s l) S D w) := by
  have HC := Lib.hid C
  have HT := Lib.hid ht
  have HR := Lib.hid hr
  have HF := Lib.hid hf
  have HL := Lib.hid hr.rlen
  obtain ⟨hk1, hk2⟩ := hk
  have hfind := find_any A n c l k (w.alloc (.cells #[.int .i64 2, .int .i64 k, .string s] 28)) w.heap.size (HR.out.alloc (Nat.le_refl _) _) (by simp) (by omega)
  have hdel := fun w1 (h : Tb w1 T l S D) => HC.out.del w1 T l S D k h hk1 hk2 (by rw [HL.out]; exact hn)
  clear C ht hr hf
  cases hat : at_ k l with
  | none =>
    have HE : Hid (does 2 k s l = l) := Lib.hid (del_none hat)
    rw [findI_none hat] at hfind
    rw [hat, del_none hat] at hdel
    simp only [Option.isSome_none] at hdel
    have HFd := Lib.hid hfind
    have HG := Lib.hid hdel
    clear hat hfind hdel
    go_enter Try.func11, Try.ntmps11
    go_wp2_with fail
    refine HFd.out.mono ?_
    rintro e w1 ⟨rfl, hb1⟩
    have X0 : w1.cell? ⟨w.heap.size, 0, none⟩ = some (.int .i64 2) := ((Blk.new w 28 #[.int .i64 2, .int .i64 k, .string s]).below hb1 (by simp)).cell 0
    have X1 : w1.cell? ⟨w.heap.size, 1, none⟩ = some (.int .i64 k) := ((Blk.new w 28 #[.int .i64 2, .int .i64 k, .string s]).below hb1 (by simp)).cell 1
    have HB1 := Lib.hid (((Below.refl w.heap.size w).alloc (Nat.le_refl _) (.cells #[.int .i64 2, .int .i64 k, .string s] 28)).trans (hb1.mono (by simp)))
    have HT1 := Lib.hid (HC.out.stay HT.out (Stay.below HB1.out (HC.out.lt HT.out)))
    clear hb1
    go_wp2_with fail
    refine (HG.out w1 HT1.out).mono ?_
    rintro e w2 ⟨rfl, S2, D2, h2, t2, f2, g2⟩
    clear X0 X1
    go_wp2
    go_ret2
    have hs1 := HB1.out.size
    have hr1 := (HR.out.below HB1.out).more hs1
    rw [HE.out]
    exact ⟨A, n, c, S2, D2, rfl, hnc, hr1.turned HF.out t2, HF.out.next hr1 f2, h2, (Turned.of HB1.out (Nat.le_refl _) S).trans t2 (fun b _ h => h), f2.back hs1, g2.back hs1⟩
  | some i =>
    have hil : i < n := by rw [← HL.out]; exact at_lt hat
    have HE : Hid (does 2 k s l = l.take i ++ l.drop (i + 1)) := Lib.hid (del_at hat)
    rw [findI_some hat] at hfind
    rw [hat, del_at hat] at hdel
    simp only [Option.isSome_some] at hdel
    have HFd := Lib.hid hfind
    have HG := Lib.hid hdel
    clear hat hfind hdel
    go_enter Try.func11, Try.ntmps11
    go_wp2_with fail
    refine HFd.out.mono ?_
    rintro e w1 ⟨rfl, hb1⟩
    have X0 : w1.cell? ⟨w.heap.size, 0, none⟩ = some (.int .i64 2) := ((Blk.new w 28 #[.int .i64 2, .int .i64 k, .string s]).below hb1 (by simp)).cell 0
    have X1 : w1.cell? ⟨w.heap.size, 1, none⟩ = some (.int .i64 k) := ((Blk.new w 28 #[.int .i64 2, .int .i64 k, .string s]).below hb1 (by simp)).cell 1
    have HB1 := Lib.hid (((Below.refl w.heap.size w).alloc (Nat.le_refl _) (.cells #[.int .i64 2, .int .i64 k, .string s] 28)).trans (hb1.mono (by simp)))
    have HT1 := Lib.hid (HC.out.stay HT.out (Stay.below HB1.out (HC.out.lt HT.out)))
    clear hb1
    go_wp2_with fail
    refine (HG.out w1 HT1.out).mono ?_
    rintro e w2 ⟨rfl, S2, D2, h2, t2, f2, g2⟩
    have hs1 := HB1.out.size
    have hs2 := t2.size
    have HR1 := Lib.hid ((HR.out.below HB1.out).more hs1)
    have HR2 := Lib.hid (HR1.out.turned HF.out t2)
    have k1 : ∀ u : World, (Instr.slice 26 (.slice A n c) none (some (.int .i64 (i : Int))) none).run Try.prog u = .ok (.slice A i c) u := fun u => run_headR Try.underlying26 (by kernel_rfl) A n c i (by omega) (by omega) u
    have k2 : ∀ u : World, (Instr.slice 26 (.slice A n c) (some (.int .i64 ((i : Int) + 1))) none none).run Try.prog u = .ok (.slice (cutR A c (i + 1)) (n - (i + 1)) (c - (i + 1))) u := fun u => run_cutR Try.underlying26 (by kernel_rfl) A n c (i + 1) (by omega) u
    have k3 : IntKind.i64.wrap ((i : Int) + 1) = (i : Int) + 1 := IntWalk.i64_in _ (by omega)
    have H2 := Lib.hid h2
    have T2 := Lib.hid t2
    have FF := Lib.hid (show From S S2 w ∧ From D D2 w from ⟨f2.back hs1, g2.back hs1⟩)
    clear X0 X1 h2 t2 f2 g2
    go_wp2
    have L1 : Hid ((([] : List Rw).length + i) * 24 ≤ 140737488355328) := Lib.hid (Nat.le_trans (Nat.mul_le_mul_right 24 (show 0 + i ≤ 4398046511104 by omega)) (by decide))
    have L2 : Hid (([] ++ l.take i).length + (n - (i + 1)) ≤ 4398046511104) := Lib.hid (by rw [List.nil_append, List.length_take, HL.out]; omega)
    have L3 : Hid ((([] ++ l.take i).length + (n - (i + 1))) * 24 ≤ 140737488355328) := Lib.hid (Nat.le_trans (Nat.mul_le_mul_right 24 L2.out) (by decide))
    go_region_law (first
      | (refine stepR _ rfl (.tmp 89) (.tmp 92) rfl w2.heap.size _ [] rfl (OwnR.fresh w2 w2.heap.size (Nat.le_refl _)) w2.heap.size A c (l.take i) i rfl ((reads_headR HR2.out (by omega)).alloc (Nat.le_refl _) _) L1.out (by simp) ?_; intro v3 w3 hown3 hb3; have HO3 := Lib.hid hown3; have HB3 := Lib.hid (((Below.refl w2.heap.size w2).alloc (Nat.le_refl _) (.cells #[] 34)).drew.trans hb3); clear hown3 hb3)
      | (refine stepR w3 rfl (.tmp 93) (.tmp 97) rfl w2.heap.size v3 _ rfl HO3.out w2.heap.size (cutR A c (i + 1)) (c - (i + 1)) (l.drop (i + 1)) (n - (i + 1)) rfl ((reads_cutR HR2.out (by omega) hnc).below HB3.out) L3.out HB3.out.size ?_; intro v4 w4 hown4 hb4; have HO4 := Lib.hid hown4; have HB4 := Lib.hid (HB3.out.trans hb4); clear hown4 hb4))
    go_wp2
    have hown := HO4.out
    rw [List.nil_append] at hown
    obtain ⟨A4, c4, rfl, hc4, hr4⟩ := hown.reads
    have HR4 := Lib.hid hr4
    have HF4 : Hid (Free S2 A4 (l.take i ++ l.drop (i + 1)).length) := Lib.hid (free_own hown rfl (fun b hb => HC.out.lt H2.out b (HC.out.sub H2.out b hb)))
    have HT4 := Lib.hid (HC.out.stay H2.out (Stay.below HB4.out (HC.out.lt H2.out)))
    have HE4 := Lib.hid (Turned.of HB4.out (Nat.le_refl _) S)
    clear hown hr4
    go_ret2
    rw [HE.out]
    exact ⟨A4, _, c4, S2, D2, rfl, hc4, HR4.out, HF4.out, HT4.out, ((Turned.of HB1.out (Nat.le_refl _) S).trans T2.out (fun b _ h => h)).trans HE4.out (fun b _ h => h), FF.out.1, FF.out.2⟩

/-- Every call on both. -/
theorem one_any {Tb : World → Nat → List Rw → (Nat → Prop) → (Nat → Prop) → Prop} (C : TableC Tb) (w : World) (T : Nat) (l : List Rw) (S D : Nat → Prop) (A : Option Addr) (n c : Nat) (kd k : Int) (s : ByteArray)
    (ht : Tb w T l S D) (hr : Reads w w.heap.size 2 A n (rws l)) (hf : Free S A n) (hk : -9223372036854775808 ≤ k ∧ k ≤ 9223372036854775807) (hn : n < 4398046511104) (hnc : n ≤ c) :
    Calls Try.prog 11 #[.pointer (some ⟨T, 0, none⟩), .slice A n c, .agg #[.int .i64 kd, .int .i64 k, .string s]] w (OneAt Tb T (does kd k s l) S D w) := by
  by_cases h0 : kd = 0
  · subst h0; exact one_put C w T l S D A n c k s ht hr hf hk hn
  by_cases h1 : kd = 1
  · subst h1; exact one_get C w T l S D A n c k s ht hr hf hk (by omega) hnc
  by_cases h2 : kd = 2
  · subst h2; exact one_del C w T l S D A n c k s ht hr hf hk (by omega) hnc
  by_cases h3 : kd = 3
  · subst h3; exact one_nth C w T l S D A n c k s ht hr hf hk (by omega) hnc
  exact one_other C w T l S D A n c kd k s ht hr hf (by omega) hnc h0 h1 h2 h3
theorem ins_length (k : Int) (s : ByteArray) (l : List Rw) : (ins k s l).length ≤ l.length + 1 := by
  induction l with
  | nil => simp [ins]
  | cons x l ih =>
    rw [ins_cons]
    split
    · simp only [List.length_cons]; omega
    · split <;> simp
theorem del_length (k : Int) (l : List Rw) : (del k l).length ≤ l.length := by
  induction l with
  | nil => simp [del]
  | cons x l ih =>
    rw [del_cons]
    split
    · simp
    · simp only [List.length_cons]; omega
theorem does_length (kd k : Int) (s : ByteArray) (l : List Rw) : (does kd k s l).length ≤ l.length + 1 := by
  unfold does
  split
  · exact ins_length _ _ _
  · split
    · have := del_length k l; omega
    · omega
end Go.Proofs.Ytgkmlggcmmdafaa.Pk
