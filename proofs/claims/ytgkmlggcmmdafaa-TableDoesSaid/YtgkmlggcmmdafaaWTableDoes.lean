/- The walk of the law TableDoes, from a table's promises. -/
import Derived.Test.YtgkmlggcmmdafaaTabWakes
import Derived.Test.YtgkmlggcmmdafaaTabDel
import Derived.Test.YtgkmlggcmmdafaaTabArgs
namespace Go.Proofs.Ytgkmlggcmmdafaa.Pk
open Go.RowKit Go.Proofs.Ytgkmlggcmmdafaa.Tb Go.Proofs.Ytgkmlggcmmdafaa.Ar
set_option linter.unusedVariables false

/-- Where a script's loop stands: rows and table alike, both in memory of the call's own. -/
def AtRow (Tb : World → Nat → List Rw → (Nat → Prop) → (Nat → Prop) → Prop) (T : Nat) (B : Nat) (i : Nat) (v : Value) (w wr : World) : Prop :=
  ∃ l A n c S D, v = .slice A n c ∧ n ≤ c ∧ Reads wr wr.heap.size 2 A n (rws l) ∧ Free S A n ∧ Tb wr T l S D ∧ n ≤ i ∧ Below B w wr ∧ (∀ b, D b → B ≤ b)
theorem AtRow.from_ {D D' : Nat → Prop} {w : World} {B : Nat} (h : From D D' w) (hD : ∀ b, D b → B ≤ b) (hB : B ≤ w.heap.size) : ∀ b, D' b → B ≤ b := fun b hb => by
  rcases h b hb with h1 | h1
  · exact hD b h1
  · omega

set_option maxHeartbeats 4000000 in
theorem law_TableDoes {Tb : World → Nat → List Rw → (Nat → Prop) → (Nat → Prop) → Prop} (C : TableC Tb) (a : Option Addr) (m d : Nat) (os : List Cl) (w : World) (h : ArgC w a m d os) :
    Calls Try.prog 3 #[.slice a m d] w fun e w' => e = .returned (.bool true) ∧ Below w.heap.size w w' := by
  obtain ⟨hr, hmd, hd, hk⟩ := h
  have HC := Lib.hid C
  have HR := Lib.hid hr
  have HK := Lib.hid hk
  have HM := Lib.hid hr.clen
  clear C hr hk
  go_enter Try.func3, Try.ntmps3
  go_wp2_with fail
  refine (wakes_any HC.out w).mono ?_
  rintro e w1 ⟨rfl, hb1⟩
  go_wp2_with fail
  refine (HC.out.new w1).mono ?_
  rintro e w2 ⟨T, S, D, rfl, h2, hb2, hD2⟩
  have HB2 := Lib.hid (hb1.trans (hb2.mono hb1.size))
  have HT2 := Lib.hid h2
  have HD2 : Hid (∀ b, D b → w.heap.size ≤ b) := Lib.hid fun b hb => Nat.le_trans hb1.size (hD2 b hb)
  clear hb1 hb2 h2 hD2
  go_wp2
  go_loopw [4, 6, 7, 8, 16] (fun v _ _ _ j wr => ∃ i : Nat, j = .int .i64 i ∧ i ≤ m ∧ AtRow Tb T w.heap.size i v w wr) (fun _ _ _ _ j _ => m - (intOf j).toNat)
  case atStart => exact ⟨0, rfl, by omega, [], none, 0, 0, S, D, rfl, Nat.le_refl _, Reads.none_, fun h => absurd h (by omega), HT2.out, Nat.le_refl _, HB2.out, HD2.out⟩
  case round =>
    obtain ⟨i, rfl, hi, l, A, n, c, S3, D3, rfl, hnc, hr3, hf3, ht3, hni, hb3, hd3⟩ := hrel
    obtain ⟨w3, rfl⟩ : ∃ w3 : World, w3 = wr := ⟨_, rfl⟩
    have HR3 := Lib.hid hr3
    have HF3 := Lib.hid hf3
    have HT3 := Lib.hid ht3
    have HB3 := Lib.hid hb3
    have HD3 := Lib.hid hd3
    clear hr3 hf3 ht3 hb3 hd3
    by_cases hlt : i < m
    · obtain ⟨b, off, rfl, hbb, hc⟩ := (HR.out.below HB3.out).calls (by omega)
      obtain ⟨r, hr⟩ : ∃ r, os[i]? = some r := ⟨_, List.getElem?_eq_getElem (by rw [HM.out]; exact hlt)⟩
      obtain ⟨x0, x1, x2⟩ := hc i r hr
      obtain ⟨kd, k, s⟩ := r
      have hkr := HK.out _ (List.mem_of_getElem? hr)
      simp only at x0 x1 x2 hkr
      have HKR := Lib.hid hkr
      clear hc hr hkr
      have s3 := HB3.out.size
      have HB4 := Lib.hid (HB3.out.alloc s3 (.cells #[.int .i64 kd, .int .i64 k, .string s] 28))
      have HR4 : Hid (Reads (w3.alloc (.cells #[.int .i64 kd, .int .i64 k, .string s] 28)) (w3.alloc (.cells #[.int .i64 kd, .int .i64 k, .string s] 28)).heap.size 2 A n (rws l)) := Lib.hid ((HR3.out.alloc (Nat.le_refl _) _).more (by simp))
      have HT4 := Lib.hid (HC.out.stay HT3.out (Stay.below ((Below.refl w3.heap.size w3).alloc (Nat.le_refl _) (.cells #[.int .i64 kd, .int .i64 k, .string s] 28)) (HC.out.lt HT3.out)))
      go_wp2_with fail
      refine (one_any HC.out _ T l S3 D3 A n c kd k s HT4.out HR4.out HF3.out HKR.out (by omega) hnc).mono ?_
      rintro e w5 ⟨A5, n5, c5, S5, D5, rfl, hnc5, hr5, hf5, ht5, tu5, fs5, fd5⟩
      have HR5 := Lib.hid hr5
      have HF5 := Lib.hid hf5
      have HT5 := Lib.hid ht5
      have hl5 : n5 ≤ i + 1 := by have h1 := hr5.rlen; have h2 := does_length kd k s l; have h3 := HR3.out.rlen; omega
      have HB5 := Lib.hid (tu5.below HB4.out HB4.out.size (fun b hb => HD3.out b (HC.out.sub HT3.out b hb)))
      have HD5 := Lib.hid (AtRow.from_ fd5 HD3.out HB4.out.size)
      have HN5 := Lib.hid hr5.rlen
      clear hr5 hf5 ht5 tu5 fs5 fd5
      go_wp2_with fail
      refine (HC.out.len w5 T _ S5 D5 HT5.out (by rw [HN5.out]; omega)).mono ?_
      rw [HN5.out]
      rintro e w6 ⟨rfl, S6, D6, h6, t6, f6, g6⟩
      have HR6 := Lib.hid (HR5.out.turned HF5.out t6)
      have HF6 := Lib.hid (HF5.out.next HR5.out f6)
      have HT6 := Lib.hid h6
      have HB6 := Lib.hid (t6.below HB5.out HB5.out.size (fun b hb => HD5.out b (HC.out.sub HT5.out b hb)))
      have HD6 := Lib.hid (AtRow.from_ g6 HD5.out HB5.out.size)
      clear h6 t6 f6 g6
      go_wp2
      go_roundw
      case rel => exact ⟨i + 1, by go_num, by omega, _, A5, n5, c5, S6, D6, rfl, hnc5, HR6.out, HF6.out, HT6.out, hl5, HB6.out, HD6.out⟩
      case measure => simp [intOf]; omega
    · go_wp2
      go_ret
      exact ⟨rfl, HB3.out⟩
end Go.Proofs.Ytgkmlggcmmdafaa.Pk
