/- The walk of the law CrcMixes: the sum of three lists' exclusive or is the exclusive or of their sums. -/
import Derived.Test.YtkpdifepecpagaaDoorCrcWakes
import Derived.Test.YtkpdifepecpagaaDoorHold
import Derived.Test.YtkpdifepecpagaaDoorArgs
import Derived.Deep.QuietTactic
import Derived.BigQuiet
import Derived.BigRegion
namespace Go.Proofs.YtkpdifepecpagaaDoor.Pk
open Go.RowKit Go.Proofs.YtkpdifepecpagaaDoor.Ar Go.Proofs.YtkpdifepecpagaaDoor.Crc
set_option linter.unusedVariables false

theorem run_min3 (P : Program) (ts : Array TypeId) (t : TypeId) (a b c N : Nat) (hN : N = min (min a b) c) (w : World) :
    (Builtin.min_ ts t #[.int .i64 (a : Int), .int .i64 (b : Int), .int .i64 (c : Int)]).run P w = .ok (.int .i64 (N : Int)) w := by
  subst hN
  have e1 : (if (b : Int) < (a : Int) then (b : Int) else (a : Int)) = ((min a b : Nat) : Int) := by split <;> omega
  have e2 : (if (c : Int) < ((min a b : Nat) : Int) then (c : Int) else ((min a b : Nat) : Int)) = ((min (min a b) c : Nat) : Int) := by split <;> omega
  simp only [Builtin.min_, List.foldlM, Builtin.min2, e1, e2, pure_bind]
  rfl
/-- Three lists' first n bytes, turned together. -/
theorem mix_next {l r s m : List Int} {n k : Nat} (hl : n ≤ l.length) (hr : n ≤ r.length) (hs : n ≤ s.length) (hk : k < n) (hm : m.length = n) (h : m.take k = (mix (mix (l.take n) (r.take n)) (s.take n)).take k)
    {x : Int} (hx : x = ((((l.getD k 0).toNat ^^^ (r.getD k 0).toNat) ^^^ (s.getD k 0).toNat : Nat) : Int)) :
    (m.set k x).take (k + 1) = (mix (mix (l.take n) (r.take n)) (s.take n)).take (k + 1) := by
  have e1 : (mix (mix (l.take n) (r.take n)) (s.take n)).length = n := by simp [mix]; omega
  have e2 : (mix (mix (l.take n) (r.take n)) (s.take n))[k]? = some x := by
    subst hx
    simp [mix, List.getElem?_zipWith, hk, List.getElem?_eq_getElem (show k < l.length by omega), List.getElem?_eq_getElem (show k < r.length by omega), List.getElem?_eq_getElem (show k < s.length by omega)]
  rw [List.take_add_one, List.take_add_one, e2, ← h, List.getElem?_set, if_pos rfl, if_pos (by omega), List.take_set_of_le (by omega)]

/-- Sum in a region that draws. -/
theorem sum_quiet (A : Option Addr) (n c : Nat) (l : List Int) (w : World) (B : Nat) (hl : Reads w B 1 A n (bts l)) (hn : n ≤ 9223372036854775807) (hby : Bytes l) (htab : Tab w) (q : Nat) :
    Calls Tryd.prog 13 #[.slice A n c] (w.drewN q) fun e w' => e = .returned (.int .u32 (crc 0 l : Nat)) ∧ w' = w.drewN q :=
  (sum_any A n c l (w.drewN q) B (hl.drewN q) hn hby (htab.drewN q)).mono fun e w' ⟨he, hw⟩ => ⟨he, hw.symm⟩

set_option maxRecDepth 100000 in
set_option maxHeartbeats 4000000 in
theorem law_CrcMixes (a : Option Addr) (n c : Nat) (l : List Int) (a' : Option Addr) (n' c' : Nat) (l' : List Int) (a'' : Option Addr) (n'' c'' : Nat) (l'' : List Int) (w : World) (ht : Tab w) (h : ArgB w a n c l) (h' : ArgB w a' n' c' l') (h'' : ArgB w a'' n'' c'' l'') :
    Calls Tryd.prog 8 #[.slice a n c, .slice a' n' c', .slice a'' n'' c''] w fun e w' => e = .returned (.bool true) ∧ Below w.heap.size w w' := by
  obtain ⟨hr, hnc, hc, hB⟩ := h
  obtain ⟨hr', hnc', hc', hB'⟩ := h'
  obtain ⟨hr'', hnc'', hc'', hB''⟩ := h''
  have HB : Hid (Bytes l) := hB
  have HB' : Hid (Bytes l') := hB'
  have HB'' : Hid (Bytes l'') := hB''
  have HL : Hid (l.length = n) := by have := hr.1; simp at this; exact this
  have HL' : Hid (l'.length = n') := by have := hr'.1; simp at this; exact this
  have HL'' : Hid (l''.length = n'') := by have := hr''.1; simp at this; exact this
  have hA := RowI.of hr
  have hA' := RowI.of hr'
  have hA'' := RowI.of hr''
  have HT := Lib.hid ht
  clear hB hr hB' hr' hB'' hr'' ht
  obtain ⟨N, hN⟩ : ∃ N, N = min (min n n') n'' := ⟨_, rfl⟩
  have km := run_min3 Tryd.prog #[3, 3, 3] 3 n n' n'' N hN
  have hN1 : N ≤ n := by omega
  have hN2 : N ≤ n' := by omega
  have hN3 : N ≤ n'' := by omega
  clear hN
  go_enter Tryd.func8, Tryd.ntmps8
  go_wp2_with fail
  refine (wakes_any w HT.out).mono ?_
  rintro e w1 ⟨rfl, hb1⟩
  have HT1 := Lib.hid (HT.out.next hb1)
  replace hA := hA.below hb1
  replace hA' := hA'.below hb1
  replace hA'' := hA''.below hb1
  have s1 := hb1.size
  have bel := hb1
  go_wp2_with (refine makeF w1 rfl _ _ rfl w1.heap.size .i64 .i64 _ _ N rfl rfl rfl rfl (by omega) (Nat.le_refl _) ?_; intro w2 hown2 hb2; have s2 := hb2.size)
  replace hA := hA.below hb2
  replace hA' := hA'.below hb2
  replace hA'' := hA''.below hb2
  replace bel := bel.trans (hb2.mono bel.size)
  have HT2 := Lib.hid (HT1.out.next hb2)
  have hO0 := OwnI.of hown2
  clear hown2
  have HX : Hid (∃ z, z = mix (mix (l.take N) (l'.take N)) (l''.take N)) := ⟨_, rfl⟩
  obtain ⟨z, hz⟩ := HX.out
  have HZ := Lib.hid hz
  clear hz HX
  go_loopw [9, 23] (fun i j wr => ∃ (k : Nat) (m : List Int), j = .int .i64 k ∧ k ≤ N ∧ m.length = N ∧ m.take k = z.take k ∧ OwnI w1.heap.size w2.heap.size (.slice (some ⟨w1.heap.size, 0, none⟩) N N) m wr ∧ Mod w1.heap.size w2.heap.size w2 wr) (fun _ j _ => N - (intOf j).toNat)
  case atStart => exact ⟨0, List.replicate N 0, rfl, by omega, by simp, rfl, hO0.out, Mod.refl _ _ _⟩
  case round =>
    clear hO0
    obtain ⟨k, m, rfl, hk, hm, hmz, hO, hm3⟩ := hrel
    obtain ⟨w3, rfl⟩ : ∃ w3 : World, w3 = wr := ⟨_, rfl⟩
    have HM := Lib.hid hm
    have HMZ := Lib.hid hmz
    clear hm hmz
    have s3 := hm3.size
    replace bel := hm3.below bel (by omega) bel.size
    replace hA := hA.mod hm3 (by omega)
    replace hA' := hA'.mod hm3 (by omega)
    replace hA'' := hA''.mod hm3 (by omega)
    by_cases hlt : k < N
    · obtain ⟨gq, e, _, _, _, hc1, hf1, hst⟩ := hO.store (i := k) hlt
      injection e with e; injection e with e; subst e
      obtain ⟨b1, o1, rfl, _, c1⟩ := (RowI.reads hA).u8 (by omega)
      obtain ⟨b2, o2, rfl, _, c2⟩ := (RowI.reads hA').u8 (by omega)
      obtain ⟨b3, o3, rfl, _, c3⟩ := (RowI.reads hA'').u8 (by omega)
      have x1 := c1 k (by omega)
      have x2 := c2 k (by omega)
      have x3 := c3 k (by omega)
      clear c1 c2 c3
      obtain ⟨y1, h1⟩ : ∃ y : Nat, (l.getD k 0) = (y : Int) ∧ y < 256 := ⟨(l.getD k 0).toNat, by have := bytes_getD HB.out k; omega, by have := bytes_getD HB.out k; omega⟩
      obtain ⟨y2, h2⟩ : ∃ y : Nat, (l'.getD k 0) = (y : Int) ∧ y < 256 := ⟨(l'.getD k 0).toNat, by have := bytes_getD HB'.out k; omega, by have := bytes_getD HB'.out k; omega⟩
      obtain ⟨y3, h3⟩ : ∃ y : Nat, (l''.getD k 0) = (y : Int) ∧ y < 256 := ⟨(l''.getD k 0).toNat, by have := bytes_getD HB''.out k; omega, by have := bytes_getD HB''.out k; omega⟩
      rw [h1.1] at x1
      rw [h2.1] at x2
      rw [h3.1] at x3
      obtain ⟨u, hu⟩ : ∃ u, u = y1 ^^^ y2 := ⟨_, rfl⟩
      have hu8 : u < 256 := by rw [hu]; exact Nat.xor_lt_two_pow (n := 8) h1.2 h2.2
      obtain ⟨v, hv⟩ : ∃ v, v = u ^^^ y3 := ⟨_, rfl⟩
      have hv8 : v < 256 := by rw [hv]; exact Nat.xor_lt_two_pow (n := 8) hu8 h3.2
      have ex1 : bits .xor .u8 (y1 : Int) (y2 : Int) = (u : Int) := by rw [hu]; exact u8_xor_nat y1 y2 h1.2 h2.2
      have ex2 : bits .xor .u8 (u : Int) (y3 : Int) = (v : Int) := by rw [hv]; exact u8_xor_nat u y3 hu8 h3.2
      obtain ⟨ho2, hm2⟩ := hst (v : Int)
      have HO2 := Lib.hid ho2
      have HM2 := Lib.hid (hm3.trans hm2)
      have HQ : Hid ((m.set k (v : Int)).take (k + 1) = z.take (k + 1)) := by
        rw [HZ.out]
        refine mix_next (by rw [HL.out]; exact hN1) (by rw [HL'.out]; exact hN2) (by rw [HL''.out]; exact hN3) hlt HM.out (by rw [HMZ.out, HZ.out]) ?_
        rw [hv, hu, h1.1, h2.1, h3.1]; simp
      obtain ⟨-, y1b⟩ := h1
      obtain ⟨-, y2b⟩ := h2
      obtain ⟨-, y3b⟩ := h3
      clear hst ho2 hm2 hO hm3 hu hv
      go_wp2
      go_region
      go_wp2
      go_roundw
      case rel => exact ⟨k + 1, _, by go_num, by omega, by rw [List.length_set]; exact HM.out, HQ.out, HO2.out, HM2.out.drew⟩
      case measure => simp [intOf]; omega
    · have hmz : m = z := by
        have := HMZ.out
        have hz : z.length = N := by rw [HZ.out]; simp [mix, HL.out, HL'.out, HL''.out]; omega
        rw [List.take_of_length_le (by rw [HM.out]; omega), List.take_of_length_le (by omega)] at this; exact this
      have HMx := Lib.hid hmz
      clear hmz
      obtain ⟨-, -, -, hOR⟩ := hO.row
      have hR0 : Reads w3 w3.heap.size 1 (some ⟨w1.heap.size, 0, none⟩) N (bts z) := by rw [← HMx.out]; exact hOR.1.more s3
      have hR1 := (RowI.reads hA).take hN1
      have hR2 := (RowI.reads hA').take hN2
      have hR3 := (RowI.reads hA'').take hN3
      have hT3 : Tab w3 := HT.out.next bel
      have hBz : Bytes z := by
        rw [HZ.out]
        exact bytes_mix (bytes_mix (HB.out.take _) (HB'.out.take _)) (HB''.out.take _)
      have q0 := sum_quiet _ N N z w3 _ hR0 (by omega) hBz hT3
      have q1 := sum_quiet a N c _ w3 _ hR1 (by omega) (HB.out.take _) hT3
      have q2 := sum_quiet a' N c' _ w3 _ hR2 (by omega) (HB'.out.take _) hT3
      have q3 := sum_quiet a'' N c'' _ w3 _ hR3 (by omega) (HB''.out.take _) hT3
      have HS : Hid (crc 0 z = (crc 0 (l.take N) ^^^ crc 0 (l'.take N)) ^^^ crc 0 (l''.take N)) := by
        rw [HZ.out]
        exact mix3 (by simp [HL.out, HL'.out]; omega) (by simp [HL.out, HL''.out]; omega)
      have i1 := crc_lt (HB.out.take N) (show 0 < 4294967296 by omega)
      have i2 := crc_lt (HB'.out.take N) (show 0 < 4294967296 by omega)
      have i3 := crc_lt (HB''.out.take N) (show 0 < 4294967296 by omega)
      obtain ⟨t0, ht0⟩ : ∃ t, t = crc 0 z := ⟨_, rfl⟩
      obtain ⟨t1, ht1⟩ : ∃ t, t = crc 0 (l.take N) := ⟨_, rfl⟩
      obtain ⟨t2, ht2⟩ : ∃ t, t = crc 0 (l'.take N) := ⟨_, rfl⟩
      obtain ⟨t3, ht3⟩ : ∃ t, t = crc 0 (l''.take N) := ⟨_, rfl⟩
      have HS' : Hid (t0 = (t1 ^^^ t2) ^^^ t3) := by rw [ht0, ht1, ht2, ht3]; exact HS.out
      rw [← ht0] at q0
      rw [← ht1] at q1 i1
      rw [← ht2] at q2 i2
      rw [← ht3] at q3 i3
      obtain ⟨t4, ht4⟩ : ∃ t, t = t1 ^^^ t2 := ⟨_, rfl⟩
      have i4 : t4 < 4294967296 := by rw [ht4]; exact xor_lt i1 i2
      have ex1 : bits .xor .u32 (t1 : Int) (t2 : Int) = (t4 : Int) := by rw [ht4]; exact x32 t1 t2 i1 i2
      have ex2 : bits .xor .u32 (t4 : Int) (t3 : Int) = (t0 : Int) := by rw [HS'.out, ← ht4]; exact x32 t4 t3 i4 i3
      have Q0 := Lib.hid q0
      have Q1 := Lib.hid q1
      have Q2 := Lib.hid q2
      have Q3 := Lib.hid q3
      clear q0 q1 q2 q3 ht0 ht1 ht2 ht3 ht4 hO hm3 hOR hR0 hR1 hR2 hR3 hT3 hBz
      have f1 : (N : Int) ≤ (c : Int) := by omega
      have f2 : (N : Int) ≤ (c' : Int) := by omega
      have f3 : (N : Int) ≤ (c'' : Int) := by omega
      go_wp2
      go_quiet ((go_at_call 13; first | exact Calls.quiet_of_same (Q0.out _) | exact Calls.quiet_of_same (Q1.out _) | exact Calls.quiet_of_same (Q2.out _) | exact Calls.quiet_of_same (Q3.out _)))
      go_wp2
      go_ret
      exact ⟨rfl, below_drewN bel _⟩
end Go.Proofs.YtkpdifepecpagaaDoor.Pk
