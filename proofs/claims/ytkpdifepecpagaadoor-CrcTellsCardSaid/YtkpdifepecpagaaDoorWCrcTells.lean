/- The walk of the law CrcTells: bytes of up to four neighbouring places that are turned turn the sum. -/
import Derived.Test.YtkpdifepecpagaaDoorCrcWakes
import Derived.Test.YtkpdifepecpagaaDoorHold
import Derived.Test.YtkpdifepecpagaaDoorArgM
import Derived.Deep.QuietTactic
import Derived.BigQuiet
import Derived.BigRegion
namespace Go.Proofs.YtkpdifepecpagaaDoor.Pk
open Go.RowKit Go.Proofs.YtkpdifepecpagaaDoor.Ar Go.Proofs.YtkpdifepecpagaaDoor.Crc
set_option linter.unusedVariables false

theorem ints_eq (a b : Nat) : ((a : Int) == (b : Int)) = decide (a = b) := by
  by_cases h : a = b
  · subst h; simp
  · have : ¬ (a : Int) = (b : Int) := by omega
    simp only [h, decide_false, beq_eq_false_iff_ne, ne_eq]; exact this
/-- An element of an array of plain elements by value. -/
theorem run_index_array {P : Program} {t e : TypeId} {n k : Nat} {cs : Array Value} {v : Value} (h : P.underlying t = some (.array n e)) {q : IntKind} (he : P.underlying e = some (.int q)) (hi : (P.info? e).map (·.size) = some 1) (hk : k < n) (hv : cs[k]? = some v) (w : World) :
    (Instr.index t (.agg cs) (.int .i64 (k : Int))).run P w = .ok v w := by
  obtain ⟨i, hi1, hi2⟩ := Option.map_eq_some_iff.1 hi
  simp [Instr.index, run_underlying h, asIntOf, go_sem, sizeOf, typeInfo, hi1, hi2, hk, part, isAgg, run_underlying he, hv]

set_option maxRecDepth 100000 in
set_option maxHeartbeats 4000000 in
theorem law_CrcTells (a : Option Addr) (n c : Nat) (l : List Int) (i : Int) (v : Value) (w : World) (ht : Tab w) (h : ArgB w a n c l) (hi : -9223372036854775808 ≤ i ∧ i ≤ 9223372036854775807) (hm : ∃ ms, ArgM v ms) :
    Calls Tryd.prog 6 #[.slice a n c, .int .i64 i, v] w fun e w' => e = .returned (.bool true) ∧ Below w.heap.size w w' := by
  obtain ⟨hr, hnc, hc, hB⟩ := h
  obtain ⟨ms, m0, m1, m2, m3, hms, rfl, hbm⟩ := hm
  have HM : Hid (Bytes ms) := hbm
  have HB : Hid (Bytes l) := hB
  have HL : Hid (l.length = n) := by have := hr.1; simp at this; exact this
  have HMS := Lib.hid hms
  have hA := RowI.of hr
  have HT := Lib.hid ht
  obtain ⟨p, hp⟩ : ∃ p : Nat, p = if 0 ≤ i ∧ i < (n : Int) then i.toNat else n := ⟨_, rfl⟩
  have hpn : p ≤ n := by rw [hp]; split <;> omega
  have hp1 : p < n → i = (p : Int) := by rw [hp]; split <;> omega
  have hp2 : ¬ (0 ≤ i ∧ i < (n : Int)) → p = n := by intro hh; rw [hp, if_neg hh]
  have hp3 : (0 ≤ i ∧ i < (n : Int)) → p < n := by intro hh; rw [hp, if_pos hh]; omega
  have HP1 := Lib.hid hp1
  have HP3 := Lib.hid hp3
  have HP2 := Lib.hid hp2
  clear hB hr ht hms hbm hp hp1 hp2 hp3
  go_enter Tryd.func6, Tryd.ntmps6
  go_wp2_with fail
  refine (wakes_any _ (HT.out.alloc _)).mono ?_
  rintro e w1 ⟨rfl, hb1'⟩
  have hb1 : Below w.heap.size w w1 := ((Below.refl _ _).alloc (Nat.le_refl _) _).trans (hb1'.mono (by simp))
  have HBX : Hid (Blk w1 w.heap.size 33 #[.int .u8 m0, .int .u8 m1, .int .u8 m2, .int .u8 m3]) := (Blk.new w _ _).below hb1' (by simp)
  have HT1 := Lib.hid (HT.out.next hb1)
  replace hA := hA.below hb1
  have s1 : w.heap.size + 1 ≤ w1.heap.size := by have := hb1'.size; simp at this; omega
  clear hb1'
  have bel := hb1
  go_wp2_with (at_builtin; refine appE w1 rfl (.tmp 13) (.tmp 14) rfl w1.heap.size rfl w1.heap.size a c l n rfl (RowI.reads hA) (Nat.le_refl _) (by omega) (Nat.le_refl _) ?_; intro v2 w2 hown2 hb2; have s2 := hb2.size; obtain ⟨X0, X1, X2, X3⟩ : w2.cell? ⟨w.heap.size, 0, none⟩ = some (.int .u8 m0) ∧ w2.cell? ⟨w.heap.size, 1, none⟩ = some (.int .u8 m1) ∧ w2.cell? ⟨w.heap.size, 2, none⟩ = some (.int .u8 m2) ∧ w2.cell? ⟨w.heap.size, 3, none⟩ = some (.int .u8 m3) := by (have hbx := HBX.out.below hb2 (by omega); exact ⟨hbx.cell 0, hbx.cell 1, hbx.cell 2, hbx.cell 3⟩))
  clear X0 X1 X2 X3
  replace hA := hA.below hb2
  replace bel := bel.trans (hb2.mono bel.size)
  have HT2 := Lib.hid (HT1.out.next hb2)
  obtain ⟨A2, n2, c2, rfl, hc2, hn2, -⟩ := hown2.val
  obtain rfl : n = n2 := by rw [← hn2]; exact HL.out.symm
  have hO0 := OwnI.of hown2
  clear hown2 hn2
  have hm2 : (c2 : Int) ≤ 9223372036854775807 := by have := hO0.out.row.2.2.1; unfold maxLen at this; omega
  have HLM : Hid (ms.length = 4) := by rw [HMS.out]; rfl
  go_loopw [8, 9, 10, 17] (fun b _ _ j wr => ∃ (k : Nat) (u : Bool) (lc : List Int), j = .int .i64 k ∧ k ≤ 4 ∧ b = .bool u ∧ u = some1 (turns n p (ms.take k)) ∧ lc = mix l (turns n p (ms.take k)) ∧ OwnI w1.heap.size w2.heap.size (.slice A2 n c2) lc wr ∧ Mod w1.heap.size w2.heap.size w2 wr) (fun _ _ _ j _ => 4 - (intOf j).toNat)
  case atStart =>
    refine ⟨0, false, l, rfl, by omega, rfl, ?_, ?_, hO0.out, Mod.refl _ _ _⟩
    · rw [List.take_zero, turns_none]; exact ((some1_clear _).2 (clear_zeros _)).symm
    · rw [List.take_zero, turns_none, ← HL.out, mix_zero HB.out]
  case round =>
    clear hO0
    obtain ⟨k, u, lc, rfl, hk, rfl, hu, hlc, hO, hm3⟩ := hrel
    obtain ⟨w3, rfl⟩ : ∃ w3 : World, w3 = wr := ⟨_, rfl⟩
    have HU := Lib.hid hu
    have HC := Lib.hid hlc
    clear hu hlc
    have s3 := hm3.size
    by_cases hlt : k < 4
    · obtain ⟨x, hx⟩ : ∃ x, x = ms.getD k 0 := ⟨_, rfl⟩
      have hxb : 0 ≤ x ∧ x ≤ 255 := by rw [hx]; exact bytes_getD HM.out k
      obtain ⟨hx0, hx1⟩ := hxb
      have HS : Hid (ms.take (k + 1) = ms.take k ++ [x]) := by rw [hx]; exact take_snoc (by rw [HLM.out]; exact hlt)
      have HK : Hid ((ms.take k).length = k) := Lib.hid (by rw [List.length_take, HLM.out]; omega)
      have kix : ∀ u : World, (Instr.index 33 (.agg #[.int .u8 m0, .int .u8 m1, .int .u8 m2, .int .u8 m3]) (.int .i64 (k : Int))).run Tryd.prog u = .ok (.int .u8 x) u := by
        refine run_index_array Tryd.underlying33 Tryd.underlying5 (by kernel_rfl) hlt ?_
        rw [hx, HMS.out]
        have : k = 0 ∨ k = 1 ∨ k = 2 ∨ k = 3 := by omega
        rcases this with rfl | rfl | rfl | rfl <;> rfl
      clear hx
      by_cases hin : p + k < n
      · obtain rfl : i = (p : Int) := HP1.out (by omega)
        obtain ⟨gq, rfl, hg1, hg2, hg3, hc1, hf1, hst⟩ := hO.store (i := p + k) hin
        have hnx := turns_next (l := l) (ms := ms.take k) (p := p) (m := x) (by rw [HK.out, HL.out]; exact hin)
        rw [HK.out, HL.out, ← HS.out, ← HC.out, ← HU.out] at hnx
        obtain ⟨hy1, hy2, hy3⟩ := hnx
        rw [hy3] at hc1
        obtain ⟨y, hy⟩ : ∃ y : Nat, y = (l.getD (p + k) 0).toNat := ⟨_, rfl⟩
        have hyb : y < 256 := by have := bytes_getD HB.out (p + k); omega
        rw [← hy] at hc1 hy1
        obtain ⟨X, rfl⟩ := Int.eq_ofNat_of_zero_le hx0
        have hxB : X < 256 := by omega
        obtain ⟨z, hz⟩ : ∃ z, z = y ^^^ X := ⟨_, rfl⟩
        have ex : bits .xor .u8 (y : Int) (X : Int) = (z : Int) := by rw [hz]; exact u8_xor_nat y X hyb hxB
        obtain ⟨ho2, hm4⟩ := hst (z : Int)
        rw [show (((X : Nat) : Int)).toNat = X by simp] at hy1
        rw [show ((z : Nat) : Int) = ((y ^^^ X : Nat) : Int) by rw [hz], hy1] at ho2
        rw [← hz] at ho2
        have HO2 := Lib.hid ho2
        have HM2 := Lib.hid (hm3.trans hm4)
        have HY2 := Lib.hid hy2
        clear hst ho2 hm4 hO hm3 hy1 hy2 hy3 hy hz hx0
        have f0 : (0 : Int) ≤ (p : Int) := by omega
        have f1 : (p : Int) < (n : Int) - (k : Int) := by omega
        cases u
        all_goals
          go_wp2
          go_roundw
          case rel => exact ⟨k + 1, _, _, by go_num, by omega, rfl, by rw [HY2.out]; rfl, rfl, HO2.out, HM2.out⟩
          case measure => simp [intOf]; omega
      · have hsame : turns n p (ms.take (k + 1)) = turns n p (ms.take k) := by
          rw [HS.out]; exact turns_beyond (by rw [HK.out]; omega)
        have HE := Lib.hid hsame
        clear hsame
        have hno : ¬ (0 ≤ i ∧ i < (n : Int) - (k : Int)) := by
          intro hh
          by_cases hpn' : p < n
          · have := HP1.out hpn'; omega
          · have h2 : 0 ≤ i ∧ i < (n : Int) := by omega
            have := HP3.out h2
            omega
        have HO2 := Lib.hid hO
        have HM2 := Lib.hid hm3
        clear hO hm3
        by_cases hneg : 0 ≤ i
        · have f1 : decide (i < (n : Int) - (k : Int)) = false := by simp; omega
          clear hno
          go_wp2
          go_roundw
          case rel => exact ⟨k + 1, u, lc, by go_num, by omega, rfl, by rw [HE.out, HU.out], by rw [HE.out, HC.out], HO2.out, HM2.out⟩
          case measure => simp [intOf]; omega
        · have f1 : decide (0 ≤ i) = false := by simp; omega
          clear hno
          go_wp2
          go_roundw
          case rel => exact ⟨k + 1, u, lc, by go_num, by omega, rfl, by rw [HE.out, HU.out], by rw [HE.out, HC.out], HO2.out, HM2.out⟩
          case measure => simp [intOf]; omega
    · have hall : ms.take k = ms := List.take_of_length_le (by rw [HLM.out]; omega)
      have hcl : lc = mix l (turns n p ms) := by rw [HC.out, hall]
      have hul : u = some1 (turns n p ms) := by rw [HU.out, hall]
      clear hall
      obtain ⟨-, -, -, hOR⟩ := hO.row
      have hR0 : Reads w3 w3.heap.size 1 A2 n (bts lc) := hOR.1.more s3
      replace bel := hm3.below bel (by omega) bel.size
      replace hA := hA.mod hm3 (by omega)
      have hT3 : Tab w3 := HT.out.next bel
      have hBl : Bytes lc := by
        rw [hcl]
        refine bytes_mix HB.out (fun x hx => ?_)
        obtain ⟨j, hj, rfl⟩ := List.mem_map.1 hx
        split
        · exact bytes_getD HM.out _
        · omega
      have htell := crc_tells (l := l) (ms := ms) (p := p) HB.out (by rw [HL.out]; exact hpn) HM.out (by rw [HLM.out]; exact Nat.le_refl _)
      rw [HL.out, ← hcl, ← hul] at htell
      have q0 := sum_any a n c l w3 _ (RowI.reads hA) (by omega) HB.out hT3
      have q1 := sum_any A2 n c2 lc w3 _ hR0 (by omega) hBl hT3
      obtain ⟨t0, ht0⟩ : ∃ t, t = crc 0 l := ⟨_, rfl⟩
      obtain ⟨t1, ht1⟩ : ∃ t, t = crc 0 lc := ⟨_, rfl⟩
      rw [← ht0] at q0 htell
      rw [← ht1] at q1 htell
      have htell2 : ((t0 : Int) != (t1 : Int)) = u := by
        rw [← htell, bne, bne, ints_eq]
        by_cases he : t0 = t1 <;> simp [he]
      have hb : (u == u) = true := by cases u <;> rfl
      have Q0 := Lib.hid q0
      have Q1 := Lib.hid q1
      clear q0 q1 ht0 ht1 hO hm3 hOR hR0 hT3 hBl htell hcl hul HC
      go_wp2_with fail
      refine Q0.out.mono ?_
      rintro e w4 ⟨rfl, rfl⟩
      go_wp2_with fail
      refine Q1.out.mono ?_
      rintro e w4 ⟨rfl, rfl⟩
      go_wp2
      go_ret
      exact ⟨rfl, bel⟩
end Go.Proofs.YtkpdifepecpagaaDoor.Pk
