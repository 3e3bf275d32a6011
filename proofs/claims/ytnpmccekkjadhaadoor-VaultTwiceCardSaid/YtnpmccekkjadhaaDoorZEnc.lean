/- The program's vault: the generation that a first frame's payload tells. -/
import Derived.Test.YtnpmccekkjadhaaDoorZMath
import Derived.Test.YtnpmccekkjadhaaDoorZLook
import Derived.Test.YtnpmccekkjadhaaDoorZMem
import Derived.Test.YtnpmccekkjadhaaDoorZFrm
import Derived.Lib.AppendZeros
import Derived.Laws.BitsAllLaws
import Derived.Test.YtnpmccekkjadhaaDoorZRng
namespace Go.Proofs.YtnpmccekkjadhaaDoor.Pk
open Go.RowKit Go.Proofs.YtnpmccekkjadhaaDoor.Crc Go.Proofs.YtnpmccekkjadhaaDoor.Fr Go.Proofs.YtnpmccekkjadhaaDoor.Vk
set_option linter.unusedVariables false
theorem numL_app (a b : List Int) : numL (a ++ b) = numL a + 256 ^ a.length * numL b := by
  induction a with
  | nil => simp [numL]
  | cons x a ih => simp only [List.cons_append, numL, ih, List.length_cons, Nat.pow_succ', Nat.mul_add, Nat.mul_assoc]; omega
theorem numL_next {l : List Int} {k : Nat} (h : k < l.length) : numL (l.take (k + 1)) = numL (l.take k) + 256 ^ k * (l.getD k 0).toNat := by
  have e : l.take (k + 1) = l.take k ++ [l.getD k 0] := by
    rw [List.take_add_one]
    simp [List.getD, h]
  rw [e, numL_app]
  simp [numL, Nat.min_eq_left (Nat.le_of_lt h)]
theorem or_low {x y k : Nat} (hx : x < 256 ^ k) : x ||| (y * 2 ^ (8 * k)) = x + 256 ^ k * y := by
  have e : (256 : Nat) ^ k = 2 ^ (8 * k) := by rw [show (256 : Nat) = 2 ^ 8 from rfl, ← Nat.pow_mul]
  rw [e] at hx ⊢
  have h := Nat.two_pow_add_eq_or_of_lt hx y
  rw [Nat.or_comm, Nat.mul_comm y, ← h, Nat.add_comm]
/-- What a first payload tells. -/
def genOf (p : List Int) : Nat := if p.length < 8 ∨ 4611686018427387904 < num8 p then 0 else num8 p
set_option maxRecDepth 100000 in
set_option maxHeartbeats 1600000 in
theorem genOf_any (A : Option Addr) (n c : Nat) (p : List Int) (w : World) (hr : Reads w w.heap.size 1 A n (bts p)) (hnc : n ≤ c) (hby : Bytes p) (hn : n ≤ 17179869184) :
    Calls Tryd.prog 71 #[.slice A n c] w fun e w' => e = .returned (.int .u64 ((genOf p : Nat) : Int)) ∧ w = w' := by
  have HL : Hid (p.length = n) := Lib.hid (by have := hr.1; simpa using this)
  have HR := Lib.hid hr
  have HB := Lib.hid hby
  clear hr hby
  by_cases h8 : n < 8
  · have h0 : Hid (genOf p = 0) := Lib.hid (by unfold genOf; rw [if_pos (.inl (by rw [HL.out]; exact h8))])
    go_enter Tryd.func71, Tryd.ntmps71
    go_wp2
    go_ret
    exact ⟨by rw [h0.out]; rfl, rfl⟩
  · have h8' : 8 ≤ n := by omega
    obtain ⟨b', off', rfl, hbb, hc⟩ := HR.out.u8 (by omega)
    have HC : Hid (∀ i, i < n → w.cell? ⟨b', off' + i, none⟩ = some (.int .u8 (p.getD i 0))) := Lib.hid hc
    have HT8 : Hid (Bytes (p.take 8) ∧ (p.take 8).length = 8) := Lib.hid ⟨HB.out.take 8, by simp; have := HL.out; omega⟩
    clear hc hbb h8
    go_enter Tryd.func71, Tryd.ntmps71
    go_wp2
    go_loop [3, 12] (fun x i => ∃ k : Nat, i = .int .i64 (k : Int) ∧ k ≤ 8 ∧ x = .int .u64 ((numL (p.take k) : Nat) : Int)) (fun _ i => 8 - (intOf i).toNat)
    case atStart => exact ⟨0, rfl, by omega, rfl⟩
    case round =>
      obtain ⟨k, rfl, hk, rfl⟩ := hrel
      obtain ⟨x, hx⟩ : ∃ x, x = numL (p.take k) := ⟨_, rfl⟩
      have hxl : x < 256 ^ k := by
        have h1 := numL_lt (HB.out.take k)
        rw [← hx] at h1
        exact Nat.lt_of_lt_of_le h1 (Nat.pow_le_pow_right (by omega) (by simp; omega))
      have hx8 : x < 18446744073709551616 := Nat.lt_of_lt_of_le hxl (Nat.le_trans (Nat.pow_le_pow_right (by omega) hk) (by decide))
      rw [← hx]
      have HX := Lib.hid hx
      have HXl := Lib.hid hxl
      clear hx hxl
      by_cases hlt : k < 8
      · obtain ⟨y, hy⟩ : ∃ y : Nat, y = (p.getD k 0).toNat := ⟨_, rfl⟩
        have hyr := bytes_getD HB.out k
        have hy8 : y < 256 := by omega
        have cy := HC.out k (by omega)
        rw [show p.getD k 0 = (y : Int) by omega] at cy
        obtain ⟨s, hs⟩ : ∃ s, s = y * 2 ^ (8 * k) := ⟨_, rfl⟩
        have hs64 : s < 18446744073709551616 := by
          have h1 : (2 : Nat) ^ (8 * k) ≤ 2 ^ 56 := Nat.pow_le_pow_right (by omega) (by omega)
          have h2 : y * 2 ^ (8 * k) ≤ 255 * 2 ^ 56 := Nat.mul_le_mul (by omega) h1
          have h3 : 255 * 2 ^ 56 < 18446744073709551616 := by decide
          omega
        obtain ⟨z, hz⟩ : ∃ z, z = x + 256 ^ k * y := ⟨_, rfl⟩
        have HZ : Hid (numL (p.take (k + 1)) = z) := Lib.hid (by rw [numL_next (by rw [HL.out]; omega), ← HX.out, hz, hy])
        have xz : bits .or .u64 (x : Int) (s : Int) = (z : Int) := by rw [u64_or_nat _ _ hx8 hs64, hs, or_low HXl.out, hz]
        have ss : (y : Int) * 2 ^ (8 * (k : Int)).toNat = (s : Int) := by
          rw [hs, show (8 * (k : Int)).toNat = 8 * k by omega]; simp
        have k64 : 8 * (k : Int) ≤ 64 := by omega
        clear hs hz hy hyr
        go_wp2
        go_round
        case rel => exact ⟨k + 1, by go_num, by omega, by rw [HZ.out]⟩
        case measure => simp [intOf]; omega
      · have hk8 : k = 8 := by omega
        have HN : Hid (num8 p = x) := Lib.hid (by rw [HX.out, hk8]; rfl)
        have HE : Hid (genOf p = if 4611686018427387904 < x then 0 else x) := Lib.hid (by unfold genOf; rw [HN.out]; simp [show ¬ p.length < 8 by have := HL.out; omega])
        clear HX HXl
        by_cases hbig : 4611686018427387904 < x
        · go_wp2
          go_ret
          exact ⟨by rw [HE.out, if_pos hbig]; rfl, rfl⟩
        · have hle : x ≤ 4611686018427387904 := by omega
          have HO : Hid (genOf p = x) := Lib.hid (by rw [HE.out, if_neg hbig])
          clear hbig
          go_wp2
          go_ret
          exact ⟨by rw [HO.out]; rfl, rfl⟩
end Go.Proofs.YtnpmccekkjadhaaDoor.Pk

/- The library's slices.Grow of nothing: room for n bytes. -/
namespace Go.Proofs.YtnpmccekkjadhaaDoor.Pk
open Go.RowKit Go.Proofs.YtnpmccekkjadhaaDoor.Crc Go.Proofs.YtnpmccekkjadhaaDoor.Fr
set_option linter.unusedVariables false
theorem run_appZ (w : World) (ty : TypeId) (n : Nat) (h0 : 0 < n) (hn : n ≤ 281474976710656) : ∃ c cur, n ≤ c ∧ c ≤ maxLen ∧ cur.size = c ∧
    (Builtin.append_ #[22, 3] ty #[.slice none 0 0, .int .i64 (n : Int)]).run Tryd.prog w = .ok (.slice (some ⟨w.heap.size, 0, none⟩) n c) (w.drew.alloc (.cells cur 5)) := by
  obtain ⟨i0, hi0, hz0, hz1, hz2⟩ := info_parts u8_info
  have h := Lib.run_append_nil_zeros (P := Tryd.prog) w 22 3 ty 5 i0 (.int .u8 0) .i64 .i64 Tryd.underlying22 Tryd.underlying3 hi0 hz0 n h0 (by omega) (by omega) (by rw [hz2]; omega)
  have hle := grownCap_ge w n 0 5
  have hmx := grownCap_le_maxLen w n 0 5 (by unfold maxLen; omega)
  refine ⟨_, _, hle, hmx, ?_, h⟩
  have hzc : (Value.int .u8 0).cells.size = 1 := rfl
  simp [Builtin.zeroCells, hzc]
  omega
theorem run_headN {P : Program} {t e : TypeId} (ht : P.underlying t = some (.slice e)) (hi : (P.info? e).map (·.size) = some 1) (a : Option Addr) (n c : Nat) (w : World) :
    (Instr.slice t (.slice a n c) none (some (.int .i64 0)) none).run P w = .ok (.slice a 0 c) w := by
  obtain ⟨f, hi1, hi2⟩ := Option.map_eq_some_iff.1 hi
  cases a <;> simp [Instr.slice, run_underlying ht, go_sem, Instr.sliceBounds, sizeOf, typeInfo, hi1, Addr.add]

set_option maxRecDepth 100000 in
set_option maxHeartbeats 1600000 in
theorem grow_any (n : Nat) (hn : n ≤ 281474976710656) (w : World) :
    Calls Tryd.prog 65 #[.slice none 0 0, .int .i64 (n : Int)] w fun e w' => ∃ v, e = .returned v ∧ OwnB w' w.heap.size v [] ∧ Below w.heap.size w w' := by
  have kz : ∀ u : World, (Instr.slice 22 (.slice none 0 0) none (some (.int .i64 0)) none).run Tryd.prog u = .ok (.slice none 0 0) u := fun u => run_headN Tryd.underlying22 (by kernel_rfl) none 0 0 u
  by_cases h0 : 0 < n
  · obtain ⟨c, cur, h1, h2, h3, h4⟩ := run_appZ w 22 n h0 hn
    have kc : ∀ u : World, (Instr.slice 22 (.slice (some ⟨w.heap.size, 0, none⟩) n c) none (some (.int .i64 0)) none).run Tryd.prog u = .ok (.slice (some ⟨w.heap.size, 0, none⟩) 0 c) u := fun u => run_headN Tryd.underlying22 (by kernel_rfl) _ n c u
    have H1 := Lib.hid h1
    have H2 := Lib.hid h2
    have H3 := Lib.hid h3
    clear h1 h2 h3
    go_enter Tryd.func65, Tryd.ntmps65
    go_wp2_with (at_builtin; refine Lib.wpList_append_run _ rfl _ _ _ _ rfl _ _ rfl rfl _ _ h4 ?_)
    go_ret
    refine ⟨_, rfl, ⟨rfl, .inr ⟨w.heap.size, c, cur, rfl, Nat.le_refl _, heap_alloc_new w.drew _, Nat.zero_le _, H2.out, by rw [H3.out]; omega, rfl⟩⟩, ?_⟩
    exact (⟨rfl, rfl, rfl, Nat.le_refl _, fun _ _ => rfl⟩ : Below w.heap.size w w.drew).alloc (Nat.le_refl _) _
  · obtain rfl : n = 0 := by omega
    go_enter Tryd.func65, Tryd.ntmps65
    go_wp2
    go_ret
    exact ⟨_, rfl, OwnB.nil_ _ _, Below.refl _ _⟩
end Go.Proofs.YtnpmccekkjadhaaDoor.Pk

/- The library's slices.Concat of slices of bytes. -/
namespace Go.Proofs.YtnpmccekkjadhaaDoor.Pk
open Go.RowKit Go.Proofs.YtnpmccekkjadhaaDoor.Crc Go.Proofs.YtnpmccekkjadhaaDoor.Fr
set_option linter.unusedVariables false
/-- All bytes of some pieces, one behind the other. -/
def allB (ps : List Piece) : List Int := (Piece.bytes ps).flatten
theorem allB_app (ps qs : List Piece) : allB (ps ++ qs) = allB ps ++ allB qs := by simp [allB, Piece.bytes]
theorem allB_take (ps : List Piece) (k : Nat) : (allB (ps.take k)).length ≤ (allB ps).length := by
  have h : allB ps = allB (ps.take k) ++ allB (ps.drop k) := by rw [← allB_app, List.take_append_drop]
  rw [h, List.length_append]; omega
theorem allB_next {ps : List Piece} {k : Nat} {p : Piece} (h : ps[k]? = some p) : allB (ps.take (k + 1)) = allB (ps.take k) ++ p.l := by
  obtain ⟨h1, h2⟩ := List.getElem?_eq_some_iff.1 h
  rw [List.take_succ_eq_append_getElem h1, allB_app, h2]
  simp [allB, Piece.bytes]

set_option maxRecDepth 100000 in
set_option maxHeartbeats 1600000 in
theorem concat_any (A : Option Addr) (n c : Nat) (ps : List Piece) (w : World) (hl : Lists w w.heap.size A n ps) (hn : n ≤ 1048576) (ht : (allB ps).length ≤ 140737488355328) :
    Calls Tryd.prog 53 #[.slice A n c] w fun e w' => ∃ v, e = .returned v ∧ OwnB w' w.heap.size v (allB ps) ∧ Below w.heap.size w w' := by
  have RL := Lib.hid hl
  have HT := Lib.hid ht
  have HPl : Hid (∀ p ∈ ps, p.l.length = p.n) := Lib.hid (fun p hp => by have := (hl.2 p hp).1.1; simpa using this)
  clear hl ht
  go_enter Tryd.func53, Tryd.ntmps53
  go_wp2
  go_loop [3, 5, 11] (fun s x i => ∃ k : Nat, i = .int .i64 k ∧ k ≤ n ∧ s = .int .i64 (((allB (ps.take k)).length : Nat) : Int)) (fun _ _ i => n - (intOf i).toNat)
  case atStart => exact ⟨0, rfl, by omega, rfl⟩
  case round =>
    obtain ⟨k, rfl, hk, rfl⟩ := hrel
    have hle := allB_take ps k
    obtain ⟨s, hs⟩ : ∃ s, s = (allB (ps.take k)).length := ⟨_, rfl⟩
    rw [← hs] at hle ⊢
    have hs2 : s ≤ 140737488355328 := Nat.le_trans hle HT.out
    have HS := Lib.hid hs
    clear hs hle
    by_cases hlt : k < n
    · obtain ⟨b, off, p, rfl, hp, hok, hx, -⟩ := RL.out.at_ hlt
      have hpl := HPl.out p (List.mem_of_getElem? hp)
      have hnx := allB_next hp
      have hle2 := allB_take ps (k + 1)
      rw [hnx, List.length_append, ← HS.out, hpl] at hle2
      have hs3 : s + p.n ≤ 140737488355328 := Nat.le_trans hle2 HT.out
      have HN : Hid ((allB (ps.take (k + 1))).length = s + p.n) := Lib.hid (by rw [hnx, List.length_append, ← HS.out, hpl])
      obtain ⟨pa, pn, pc, pl⟩ := p
      simp only at hs3 HN hx
      clear hpl hnx hle2 hok hp
      go_wp2
      go_round
      case rel => exact ⟨k + 1, by go_num, by omega, by rw [HN.out]; rfl⟩
      case measure => simp [intOf]; omega
    · have HE : Hid (s = (allB ps).length) := Lib.hid (by rw [HS.out, List.take_of_length_le (by rw [RL.out.length]; omega)])
      clear HS
      go_wp2_with fail
      refine (grow_any s (by omega) w).mono ?_
      rintro e w1 ⟨v1, rfl, ho1, hb1⟩
      obtain ⟨A1, n1, c1, rfl⟩ := own_slice ho1
      have HO1 := Lib.hid ho1
      have HB1 := Lib.hid hb1
      clear ho1 hb1 hlt hk
      go_wp2
      go_loopw [6, 8, 27] (fun v x i wr => ∃ k : Nat, i = .int .i64 k ∧ k ≤ n ∧ OwnB wr w.heap.size v (allB (ps.take k)) ∧ Below w.heap.size w wr) (fun _ _ i _ => n - (intOf i).toNat)
      case atStart => exact ⟨0, rfl, by omega, HO1.out, HB1.out⟩
      case round =>
        obtain ⟨k, rfl, hk, hown, hbel⟩ := hrel
        obtain ⟨w2, rfl⟩ : ∃ w2 : World, w2 = wr := ⟨_, rfl⟩
        obtain ⟨A2, n2, c2, rfl⟩ := own_slice hown
        have HO2 := Lib.hid hown
        have HB2 := Lib.hid hbel
        clear hown hbel
        by_cases hlt : k < n
        · obtain ⟨b, off, p, rfl, hp, hok, hx, -⟩ := (RL.out.below HB2.out).at_ hlt
          have hpl := HPl.out p (List.mem_of_getElem? hp)
          have hnx := allB_next hp
          have hle2 := allB_take ps (k + 1)
          rw [hnx, List.length_append, hpl] at hle2
          have hs3 : Hid ((allB (ps.take k)).length + p.n ≤ 140737488355328) := Lib.hid (Nat.le_trans hle2 HT.out)
          have HN := Lib.hid hnx
          have HOk := Lib.hid hok.1
          obtain ⟨pa, pn, pc, pl⟩ := p
          simp only at hs3 HN hx HOk
          clear hpl hnx hle2 hok hp
          go_wp2_with (at_builtin; refine appB w2 rfl (.tmp 31) (.tmp 32) rfl w.heap.size _ _ rfl HO2.out w.heap.size pa pc pl pn rfl HOk.out hs3.out HB2.out.size ?_; intro v3 w3 hown3 hb3 _ _; have HO3 := Lib.hid hown3; have HB3 := Lib.hid (HB2.out.trans hb3); clear hown3 hb3)
          go_roundw
          case rel => exact ⟨k + 1, by go_num, by omega, by rw [HN.out]; exact HO3.out, HB3.out⟩
          case measure => simp [intOf]; omega
        · have HE2 : Hid (ps.take k = ps) := Lib.hid (List.take_of_length_le (by rw [RL.out.length]; omega))
          go_wp2
          go_ret
          exact ⟨_, rfl, by rw [← HE2.out]; exact HO2.out, HB2.out⟩
end Go.Proofs.YtnpmccekkjadhaaDoor.Pk

/- Package frame: numberOf, bytesOf: a number and four bytes; the good frame at the front, by its length and its sum. -/
namespace Go.Proofs.YtnpmccekkjadhaaDoor.Fr
open Go.Proofs.YtnpmccekkjadhaaDoor.Crc
set_option linter.unusedVariables false
theorem le4_num4 {b : List Int} (hb : Bytes b) (h : 4 ≤ b.length) : le4 (num4 b) = b.take 4 := by
  match b, h with
  | x0 :: x1 :: x2 :: x3 :: r, _ =>
    have h0 := hb x0 (by simp)
    have h1 := hb x1 (by simp)
    have h2 := hb x2 (by simp)
    have h3 := hb x3 (by simp)
    show [_, _, _, _] = [x0, x1, x2, x3]
    simp only [num4, List.getD_cons_zero, List.getD_cons_succ]
    congr 1
    · omega
    · congr 1
      · omega
      · congr 1
        · omega
        · congr 1
          omega
theorem take_parts (b : List Int) (n : Nat) : b.take (8 + n) = b.take 4 ++ ((b.drop 4).take 4 ++ (b.drop 8).take n) := by
  rw [show 8 + n = 4 + (4 + n) by omega, List.take_add, List.take_add (l := b.drop 4), List.drop_drop]
/-- The good frame at the front, as a program reads it: the length, the sum. -/
theorem fst_sum {b : List Int} (hb : Bytes b) (h8 : 8 ≤ b.length) (hn : num4 b ≤ 1048576) (hl : 8 + num4 b ≤ b.length) :
    fst b = if crc 0 (b.take 4 ++ (b.drop 8).take (num4 b)) = num4 (b.drop 4) then some ((b.drop 8).take (num4 b)) else none := by
  obtain ⟨q, hq⟩ : ∃ q, q = (b.drop 8).take (num4 b) := ⟨_, rfl⟩
  have hql : q.length = num4 b := by rw [hq]; simp; omega
  rw [← hq]
  have e4 := le4_num4 hb (by omega)
  have e5 := le4_num4 (b := b.drop 4) (fun x hx => hb x (List.mem_of_mem_drop hx)) (by simp; omega)
  by_cases hs : crc 0 (b.take 4 ++ q) = num4 (b.drop 4)
  · rw [if_pos hs]
    refine fst_some.2 ⟨by omega, ?_⟩
    have : enc q = b.take (8 + num4 b) := by
      rw [take_parts, ← hq]
      unfold enc fsum
      rw [hql, e4, hs, e5]
    rw [this]
    exact List.take_prefix _ _
  · rw [if_neg hs]
    refine fst_none (fun p hp hpre => hs ?_)
    have hnp := num4_pre hp hpre
    obtain ⟨r, hr⟩ := hpre
    have hqp : q = p := by
      rw [hq, hnp, ← hr, List.drop_append_of_le_length (by rw [enc_length]; omega), enc_drop]
      simp
    have ht : b.take 4 = le4 p.length := by rw [← e4, hnp]
    rw [ht, hqp]
    have hbp : Bytes p := by rw [← hqp, hq]; exact fun x hx => hb x (List.mem_of_mem_drop (List.mem_of_mem_take hx))
    have hd : b.drop 4 = le4 (fsum p) ++ (p ++ r) := by
      rw [← hr]
      unfold enc
      rw [List.append_assoc, List.append_assoc]
      rfl
    rw [hd, num4_le4 (fsum_lt hbp)]
    rfl
theorem fst_stop {b : List Int} (h : b.length < 8 ∨ 1048576 < num4 b ∨ b.length < 8 + num4 b) : fst b = none := by
  refine fst_none (fun p hp hpre => ?_)
  have h1 := num4_pre hp hpre
  have h2 := hpre.length_le
  rw [enc_length] at h2
  omega
end Go.Proofs.YtnpmccekkjadhaaDoor.Fr
namespace Go.Proofs.YtnpmccekkjadhaaDoor.Pk
open Go.RowKit Go.Proofs.YtnpmccekkjadhaaDoor.Crc Go.Proofs.YtnpmccekkjadhaaDoor.Fr
set_option linter.unusedVariables false
theorem or_add (i a b : Nat) (hb : b < 2 ^ i) : b ||| 2 ^ i * a = b + 2 ^ i * a := by
  rw [Nat.or_comm, ← Nat.two_pow_add_eq_or_of_lt hb, Nat.add_comm]
set_option maxHeartbeats 1600000 in
theorem numberOf_any (A : Option Addr) (n c : Nat) (l : List Int) (w : World) (hr : Reads w w.heap.size 1 A n (bts l)) (hby : Bytes l) (hn : 4 ≤ n) :
    Calls Tryd.prog 77 #[.slice A n c] w fun e w' => e = .returned (.int .u32 (num4 l : Nat)) ∧ ∃ k, w' = w.drewN k := by
  obtain ⟨b, off, rfl, hbb, hc⟩ := hr.u8 (by omega)
  have h0 := bytes_getD hby 0
  have h1 := bytes_getD hby 1
  have h2 := bytes_getD hby 2
  have h3 := bytes_getD hby 3
  obtain ⟨a0, e0⟩ : ∃ a0 : Nat, a0 = (l.getD 0 0).toNat := ⟨_, rfl⟩
  obtain ⟨a1, e1⟩ : ∃ a1 : Nat, a1 = (l.getD 1 0).toNat := ⟨_, rfl⟩
  obtain ⟨a2, e2⟩ : ∃ a2 : Nat, a2 = (l.getD 2 0).toNat := ⟨_, rfl⟩
  obtain ⟨a3, e3⟩ : ∃ a3 : Nat, a3 = (l.getD 3 0).toNat := ⟨_, rfl⟩
  have c0 := hc 0 (by omega)
  have c1 := hc 1 (by omega)
  have c2 := hc 2 (by omega)
  have c3 := hc 3 (by omega)
  rw [show l.getD 0 0 = (a0 : Int) by omega] at c0
  rw [show l.getD 1 0 = (a1 : Int) by omega] at c1
  rw [show l.getD 2 0 = (a2 : Int) by omega] at c2
  rw [show l.getD 3 0 = (a3 : Int) by omega] at c3
  have b0 : a0 < 256 := by omega
  have b1 : a1 < 256 := by omega
  have b2 : a2 < 256 := by omega
  have b3 : a3 < 256 := by omega
  obtain ⟨x1, hx1⟩ : ∃ x1 : Nat, x1 = a0 + 256 * a1 := ⟨_, rfl⟩
  obtain ⟨x2, hx2⟩ : ∃ x2 : Nat, x2 = x1 + 65536 * a2 := ⟨_, rfl⟩
  obtain ⟨x3, hx3⟩ : ∃ x3 : Nat, x3 = x2 + 16777216 * a3 := ⟨_, rfl⟩
  have hN : Hid (num4 l = x3) := Lib.hid (by unfold num4; omega)
  have y1 : bits .or .u32 (a0 : Int) ((a1 : Int) * 256) = (x1 : Int) := by
    rw [show (a1 : Int) * 256 = ((2 ^ 8 * a1 : Nat) : Int) by omega, u32_or_nat _ _ (by omega) (by omega), or_add 8 a1 a0 (by omega)]; omega
  have y2 : bits .or .u32 (x1 : Int) ((a2 : Int) * 65536) = (x2 : Int) := by
    rw [show (a2 : Int) * 65536 = ((2 ^ 16 * a2 : Nat) : Int) by omega, u32_or_nat _ _ (by omega) (by omega), or_add 16 a2 x1 (by omega)]; omega
  have y3 : bits .or .u32 (x2 : Int) ((a3 : Int) * 16777216) = (x3 : Int) := by
    rw [show (a3 : Int) * 16777216 = ((2 ^ 24 * a3 : Nat) : Int) by omega, u32_or_nat _ _ (by omega) (by omega), or_add 24 a3 x2 (by omega)]; omega
  clear h0 h1 h2 h3 e0 e1 e2 e3 hx1 hx2 hx3 hc hr hby
  simp only [Nat.add_zero] at c0
  go_enter Tryd.func77, Tryd.ntmps77
  go_wp2
  go_quiet (fail)
  go_wp2
  go_ret
  exact ⟨by rw [hN.out]; rfl, _, rfl⟩


set_option maxHeartbeats 800000 in
theorem bytesOf_any (x : Nat) (hx : x < 4294967296) (w : World) :
    Calls Tryd.prog 51 #[.int .u32 (x : Int)] w fun e w' => e = .returned (.slice (some ⟨w.heap.size, 0, none⟩) 4 4) ∧ OwnB w' w.heap.size (.slice (some ⟨w.heap.size, 0, none⟩) 4 4) (le4 x) ∧ Below w.heap.size w w' := by
  go_enter Tryd.func51, Tryd.ntmps51
  go_wp2
  go_ret
  refine ⟨rfl, OwnB.lit (l := le4 x) ?_ (Nat.le_refl _) (by simp), (Below.refl _ _).alloc (Nat.le_refl _) _⟩
  show [Value.int .u8 _, Value.int .u8 _, Value.int .u8 _, Value.int .u8 _] = [Value.int .u8 _, Value.int .u8 _, Value.int .u8 _, Value.int .u8 _]
  congr 1
  congr 1
  congr 1
  congr 1
  congr 1
  omega
end Go.Proofs.YtnpmccekkjadhaaDoor.Pk

/- Package frame: Encode. -/
namespace Go.Proofs.YtnpmccekkjadhaaDoor.Pk
open Go.RowKit Go.Proofs.YtnpmccekkjadhaaDoor.Crc Go.Proofs.YtnpmccekkjadhaaDoor.Fr
set_option linter.unusedVariables false
set_option maxRecDepth 100000 in
set_option maxHeartbeats 4000000 in
theorem encC : EncC := by
  intro A n c p w ht hr hnc hby hn
  have HL : Hid (p.length = n) := Lib.hid (by have := hr.1; simpa using this)
  have HR := Lib.hid hr
  have HB := Lib.hid hby
  have HT := Lib.hid ht
  have HNc := Lib.hid hnc
  clear hr hby ht
  by_cases hlong : 1048576 < n
  · go_enter Tryd.func32, Tryd.ntmps32
    go_wp2
    go_ret2
    exact ⟨Below.refl _ _, .inr ⟨by rw [HL.out]; exact hlong, rfl⟩⟩
  · have hn2 : n ≤ 1048576 := by omega
    go_enter Tryd.func32, Tryd.ntmps32
    go_wp2_with fail
    refine (bytesOf_any n (by omega) w).mono ?_
    rintro e w1 ⟨rfl, ho1, hb1⟩
    obtain ⟨B0, hB0⟩ : ∃ B0, B0 = w.heap.size := ⟨_, rfl⟩
    rw [← hB0] at ho1 hb1 ⊢
    have hl1 := own_len ho1
    have HO1 := Lib.hid ho1
    have HB1 := Lib.hid hb1
    have HB0 := Lib.hid hB0
    have HSz : Hid (∀ V, Below B0 w V → B0 ≤ V.heap.size) := Lib.hid (fun V hV => by rw [HB0.out]; exact hV.size)
    clear ho1 hb1 hB0
    obtain ⟨s, hs⟩ : ∃ s, s = fsum p := ⟨_, rfl⟩
    have hs4 : s < 4294967296 := by rw [hs]; exact fsum_lt HB.out
    have HSf := Lib.hid hs
    clear hs
    go_wp2_with fail
    obtain ⟨w2, hw2⟩ : ∃ w2, w2 = w1.alloc (.cells #[.slice (some ⟨B0, 0, none⟩) 4 4, .slice A n c] 22) := ⟨_, rfl⟩
    have hb2 : Below w1.heap.size w1 w2 := hw2 ▸ (Below.refl _ _).alloc (Nat.le_refl _) _
    have HB2 := Lib.hid (HB1.out.trans (hb2.mono (HSz.out _ HB1.out)))
    have HO2 := Lib.hid (HO1.out.keep hb2 (Nat.le_refl _))
    have HR0 : Hid (Reads w B0 1 A n (bts p)) := Lib.hid (by rw [HB0.out]; exact HR.out)
    have HT0 : Hid (∀ V, Below B0 w V → Tab V) := Lib.hid (fun V hV => HT.out.next (by rw [← HB0.out]; exact hV))
    have hLs : Lists w2 w2.heap.size (some ⟨w1.heap.size, 0, none⟩) 2 [⟨some ⟨B0, 0, none⟩, 4, 4, le4 n⟩, ⟨A, n, c, p⟩] := by
      refine ⟨?_, fun q hq => ?_⟩
      · have := reads_new w1 #[.slice (some ⟨B0, 0, none⟩) 4 4, .slice A n c] 22 w2.heap.size 2 [.slice (some ⟨B0, 0, none⟩) 4 4, .slice A n c] rfl rfl (by rw [hw2]; simp)
        rw [← hw2] at this
        exact this
      · rcases List.mem_cons.1 hq with rfl | hq
        · exact ⟨own_reads HO2.out, Nat.le_refl _, (by show 4 ≤ _; omega), le4_bytes n⟩
        · obtain rfl := List.mem_singleton.1 hq
          exact ⟨(HR0.out.below HB2.out).more (HSz.out _ HB2.out), HNc.out, (by show n ≤ _; omega), HB.out⟩
    have hsum : sums 0 (Piece.bytes [⟨some ⟨B0, 0, none⟩, 4, 4, le4 n⟩, ⟨A, n, c, p⟩]) = s := by
      rw [HSf.out, sums_flat]
      unfold fsum
      rw [HL.out]
      simp [Piece.bytes]
    have HPt := Lib.hid (parts_any (some ⟨w1.heap.size, 0, none⟩) 2 2 _ w2 _ hLs (by omega) (HT0.out _ HB2.out))
    rw [hsum] at HPt
    rw [← hw2]
    clear hw2 hb2 hLs hsum
    refine HPt.out.mono ?_
    rintro e w3 ⟨rfl, hw⟩
    rw [← hw]
    clear hw w3 HPt
    go_wp2_with fail
    refine (bytesOf_any s hs4 w2).mono ?_
    rintro e w4 ⟨rfl, ho4, hb4⟩
    obtain ⟨B4, hB4⟩ : ∃ B4, B4 = w2.heap.size := ⟨_, rfl⟩
    rw [← hB4] at ho4 hb4 ⊢
    have HB4 := Lib.hid (HB2.out.trans (hb4.mono (by rw [hB4]; exact (HSz.out _ HB2.out))))
    have HO4 := Lib.hid ho4
    have HO14 := Lib.hid (HO2.out.keep hb4 (by rw [hB4]; exact Nat.le_refl _))
    clear ho4 hb4 hB4
    go_wp2_with fail
    obtain ⟨w5, hw5⟩ : ∃ w5, w5 = w4.alloc (.cells #[.slice (some ⟨B0, 0, none⟩) 4 4, .slice (some ⟨B4, 0, none⟩) 4 4, .slice A n c] 22) := ⟨_, rfl⟩
    have hb5 : Below w4.heap.size w4 w5 := hw5 ▸ (Below.refl _ _).alloc (Nat.le_refl _) _
    have HB5 := Lib.hid (HB4.out.trans (hb5.mono (HSz.out _ HB4.out)))
    have hLs : Lists w5 w5.heap.size (some ⟨w4.heap.size, 0, none⟩) 3 [⟨some ⟨B0, 0, none⟩, 4, 4, le4 n⟩, ⟨some ⟨B4, 0, none⟩, 4, 4, le4 s⟩, ⟨A, n, c, p⟩] := by
      refine ⟨?_, fun q hq => ?_⟩
      · have := reads_new w4 #[.slice (some ⟨B0, 0, none⟩) 4 4, .slice (some ⟨B4, 0, none⟩) 4 4, .slice A n c] 22 w5.heap.size 3 [.slice (some ⟨B0, 0, none⟩) 4 4, .slice (some ⟨B4, 0, none⟩) 4 4, .slice A n c] rfl rfl (by rw [hw5]; simp)
        rw [← hw5] at this
        exact this
      · rcases List.mem_cons.1 hq with rfl | hq
        · exact ⟨own_reads (HO14.out.keep hb5 (Nat.le_refl _)), Nat.le_refl _, (by show 4 ≤ _; omega), le4_bytes n⟩
        · rcases List.mem_cons.1 hq with rfl | hq
          · exact ⟨own_reads (HO4.out.keep hb5 (Nat.le_refl _)), Nat.le_refl _, (by show 4 ≤ _; omega), le4_bytes s⟩
          · obtain rfl := List.mem_singleton.1 hq
            exact ⟨(HR0.out.below HB5.out).more (HSz.out _ HB5.out), HNc.out, (by show n ≤ _; omega), HB.out⟩
    have hall : allB [⟨some ⟨B0, 0, none⟩, 4, 4, le4 n⟩, ⟨some ⟨B4, 0, none⟩, 4, 4, le4 s⟩, ⟨A, n, c, p⟩] = enc p := by
      unfold enc
      rw [HL.out, ← HSf.out]
      simp [allB, Piece.bytes]
    have HCt := Lib.hid (concat_any (some ⟨w4.heap.size, 0, none⟩) 3 3 _ w5 hLs (by omega) (by rw [hall, enc_length, HL.out]; omega))
    rw [hall] at HCt
    rw [← hw5]
    clear hw5 hb5 hLs hall
    refine HCt.out.mono ?_
    rintro e w6 ⟨v6, rfl, ho6, hb6⟩
    obtain ⟨A6, n6, c6, rfl⟩ := own_slice ho6
    have HO6 := Lib.hid (ho6.mono (HSz.out _ HB5.out))
    have HB6 := Lib.hid (HB5.out.trans (hb6.mono (HSz.out _ HB5.out)))
    clear ho6 hb6 HCt
    go_wp2
    go_ret2
    refine ⟨by rw [← HB0.out]; exact HB6.out, .inl ⟨by rw [HL.out]; exact hn2, A6, n6, c6, rfl, by rw [← HB0.out]; exact HO6.out⟩⟩
end Go.Proofs.YtnpmccekkjadhaaDoor.Pk

/- The program's vault: the frame of a generation and a snapshot. -/
namespace Go.Proofs.YtnpmccekkjadhaaDoor.Pk
open Go.RowKit Go.Proofs.YtnpmccekkjadhaaDoor.Crc Go.Proofs.YtnpmccekkjadhaaDoor.Fr Go.Proofs.YtnpmccekkjadhaaDoor.Vk
set_option linter.unusedVariables false
/-- The first k bytes of a number in eight. -/
def headC (k g : Nat) : Array Value := (bts (leN k g) ++ List.replicate (8 - k) (Value.int .u8 0)).toArray
theorem headC_set {k g : Nat} (hk : k < 8) : (headC k g).setIfInBounds k (.int .u8 ((g / 256 ^ k % 256 : Nat) : Int)) = headC (k + 1) g := by
  unfold headC
  rw [List.setIfInBounds_toArray]
  congr 1
  have hl : (bts (leN k g)).length = k := by simp [bts]
  rw [List.set_append_right _ _ (by omega), hl, Nat.sub_self, leN_snoc, show 8 - k = (8 - (k + 1)) + 1 by omega, List.replicate_succ, List.set_cons_zero]
  simp [bts]
set_option maxRecDepth 100000 in
set_option maxHeartbeats 1600000 in
theorem firstP_any (encC : EncC) (g : Nat) (hg : g < 9223372036854775808) (A : Option Addr) (n c : Nat) (s : List Int) (w : World) (ht : Tab w) (hr : Reads w w.heap.size 1 A n (bts s)) (hnc : n ≤ c) (hby : Bytes s) (hn : n ≤ 17179869184) :
    Calls Tryd.prog 37 #[.int .u64 (g : Int), .slice A n c] w (FirP g s w) := by
  have HL : Hid (s.length = n) := Lib.hid (by have := hr.1; simpa using this)
  have HR := Lib.hid hr
  have HB := Lib.hid hby
  have HT := Lib.hid ht
  have HE := Lib.hid encC
  clear hr hby ht encC
  go_enter Tryd.func37, Tryd.ntmps37
  obtain ⟨H, hH⟩ : ∃ H, H = w.heap.size := ⟨_, rfl⟩
  obtain ⟨w0, hw0⟩ : ∃ w0, w0 = w.alloc (.cells #[.int .u8 0, .int .u8 0, .int .u8 0, .int .u8 0, .int .u8 0, .int .u8 0, .int .u8 0, .int .u8 0] 91) := ⟨_, rfl⟩
  have hb0 : Below H w w0 := by rw [hw0, hH]; exact (Below.refl _ w).alloc (Nat.le_refl _) _
  have kb0 : Blk w0 H 91 (headC 0 g) := by rw [hw0, hH]; exact Blk.new w _ _
  have HB0 := Lib.hid hb0
  have HK0 := Lib.hid kb0
  have HH := Lib.hid hH
  clear hb0 kb0
  go_wp2
  rw [← hw0, ← hH]
  clear hw0 hH
  go_loopw [8] (fun i wr => ∃ k : Nat, i = .int .i64 (k : Int) ∧ k ≤ 8 ∧ Blk wr H 91 (headC k g) ∧ Below H w wr) (fun i _ => 8 - (intOf i).toNat)
  case atStart => exact ⟨0, rfl, by omega, HK0.out, HB0.out⟩
  case round =>
    obtain ⟨k, rfl, hk, hblk, hbel⟩ := hrel
    obtain ⟨w2, rfl⟩ : ∃ w2 : World, w2 = wr := ⟨_, rfl⟩
    have HK := Lib.hid hblk
    have HBe := Lib.hid hbel
    by_cases hlt : k < 8
    · have ck : w2.cell? ⟨H, k, none⟩ = some (.int .u8 0) := by
        rw [hblk.cell]
        unfold headC
        simp [bts, show 0 < 8 - k by omega]
      have fk : w2.frozen? ⟨H, k, none⟩ = false := hblk.frozen k
      obtain ⟨x, hx⟩ : ∃ x, x = g / 256 ^ k := ⟨_, rfl⟩
      have hx63 : x < 9223372036854775808 := by rw [hx]; exact Nat.lt_of_le_of_lt (Nat.div_le_self _ _) hg
      have gx : (g : Int) / 2 ^ (8 * (k : Int)).toNat = (x : Int) := by
        rw [hx, show (8 * (k : Int)).toNat = 8 * k by omega, show (256 : Nat) = 2 ^ 8 from rfl, ← Nat.pow_mul]; simp
      have HX := Lib.hid hx
      have HY : Hid ((x : Int) % 256 = ((g / 256 ^ k % 256 : Nat) : Int)) := Lib.hid (by rw [← HX.out]; omega)
      have k64 : 8 * (k : Int) ≤ 64 := by omega
      clear hblk hbel hx
      go_wp2
      go_roundw
      case rel =>
        refine ⟨k + 1, by go_num, by omega, ?_, ?_⟩
        · rw [← headC_set hlt, ← HY.out]
          exact HK.out.set_ k _
        · exact HBe.out.setCell (p := ⟨H, k, none⟩) (Nat.le_refl _) _
      case measure => simp [intOf]; omega
    · obtain rfl : k = 8 := by omega
      have hh8 : headC 8 g = (bts (leN 8 g)).toArray := by unfold headC; simp
      rw [hh8] at HK
      have hsz : H < w2.heap.size := hblk.lt
      have HL8 : Hid ((leN 8 g).length = 8) := Lib.hid (leN_length 8 g)
      have HSz : Hid (∀ V, Below H w V → H ≤ V.heap.size) := Lib.hid (fun V hV => by rw [HH.out]; exact hV.size)
      clear hblk hbel hh8 hlt hk
      obtain ⟨w3, hw3⟩ : ∃ w3, w3 = w2.alloc (.cells #[.slice (some ⟨H, 0, none⟩) 8 8, .slice A n c] 22) := ⟨_, rfl⟩
      have hb3 : Below w2.heap.size w2 w3 := hw3 ▸ (Below.refl _ _).alloc (Nat.le_refl _) _
      have HB3 := Lib.hid (HBe.out.trans (hb3.mono (by omega)))
      have HK3 := Lib.hid (HK.out.below hb3 HK.out.lt)
      have HR0 : Hid (Reads w H 1 A n (bts s)) := Lib.hid (by rw [HH.out]; exact HR.out)
      have hLs : Lists w3 w3.heap.size (some ⟨w2.heap.size, 0, none⟩) 2 [⟨some ⟨H, 0, none⟩, 8, 8, leN 8 g⟩, ⟨A, n, c, s⟩] := by
        refine ⟨?_, fun q hq => ?_⟩
        · have := reads_new w2 #[.slice (some ⟨H, 0, none⟩) 8 8, .slice A n c] 22 w3.heap.size 2 [.slice (some ⟨H, 0, none⟩) 8 8, .slice A n c] rfl rfl (by rw [hw3]; simp)
          rw [← hw3] at this
          exact this
        · rcases List.mem_cons.1 hq with rfl | hq
          · refine ⟨⟨by simp [bts], fun _ => ⟨⟨H, 0, none⟩, rfl, HK3.out.lt, fun j u hu => ?_⟩⟩, Nat.le_refl _, (by show 8 ≤ _; omega), leN_bytes 8 g⟩
            have e : (Addr.add ⟨H, 0, none⟩ j) = ⟨H, j, none⟩ := by unfold Addr.add; split <;> simp_all
            rw [e, HK3.out.cell]
            simpa using hu
          · obtain rfl := List.mem_singleton.1 hq
            exact ⟨(HR0.out.below HB3.out).more (HSz.out _ HB3.out), hnc, (by show n ≤ _; omega), HB.out⟩
      have hall : allB [⟨some ⟨H, 0, none⟩, 8, 8, leN 8 g⟩, ⟨A, n, c, s⟩] = fpay g s := by
        unfold fpay
        simp [allB, Piece.bytes]
      have HCt := Lib.hid (concat_any (some ⟨w2.heap.size, 0, none⟩) 2 2 _ w3 hLs (by omega) (by rw [hall, fpay_length, HL.out]; omega))
      rw [hall] at HCt
      go_wp2_with fail
      rw [← hw3]
      clear hw3 hb3 hLs hall
      refine HCt.out.mono ?_
      rintro e w4 ⟨v4, rfl, ho4, hb4⟩
      obtain ⟨A4, n4, c4, rfl⟩ := own_slice ho4
      have hl4 := own_len ho4
      have HO4 := Lib.hid (ho4.mono (HSz.out _ HB3.out))
      have HB4 := Lib.hid (HB3.out.trans (hb4.mono (HSz.out _ HB3.out)))
      have hn4 : n4 ≤ 140737488355328 := by have := hl4.1; rw [fpay_length, HL.out] at this; omega
      have HEn := Lib.hid (HE.out A4 n4 c4 (fpay g s) w4 (HT.out.next (by rw [← HH.out]; exact HB4.out)) (own_reads ho4) hl4.2 (fpay_bytes HB.out) hn4)
      clear ho4 hb4 hl4 HCt
      go_wp2_with fail
      refine HEn.out.mono ?_
      rintro e w5 ⟨hb5, hq⟩
      have HB5 := Lib.hid (HB4.out.trans (hb5.mono (HSz.out _ HB4.out)))
      rcases hq with ⟨hl5, A5, n5, c5, rfl, ho5⟩ | ⟨hl5, rfl⟩
      · have HO5 := Lib.hid (ho5.mono (HSz.out _ HB4.out))
        have HL5 := Lib.hid hl5
        clear ho5 hb5 hl5 HEn
        go_wp2
        go_ret2
        refine ⟨by rw [← HH.out]; exact HB5.out, .inl ⟨by have := HL5.out; rw [fpay_length] at this; omega, A5, n5, c5, rfl, ?_⟩⟩
        rw [← HH.out]; exact HO5.out
      · have HL5 := Lib.hid hl5
        clear hb5 hl5 HEn
        go_wp2
        go_ret2
        exact ⟨by rw [← HH.out]; exact HB5.out, .inr ⟨by have := HL5.out; rw [fpay_length] at this; omega, rfl⟩⟩
end Go.Proofs.YtnpmccekkjadhaaDoor.Pk

/- What lies where while a function is ranged over; the places of good frames. -/
namespace Go.Proofs.YtnpmccekkjadhaaDoor.Pk
open Go.RowKit Go.Shelf Go.Proofs.YtnpmccekkjadhaaDoor.Crc Go.Proofs.YtnpmccekkjadhaaDoor.Fr
set_option linter.unusedVariables false

theorem Stay.refl_ (D : Nat → Prop) (w : World) : Stay D w w := ⟨Nat.le_refl _, fun _ _ => rfl⟩
theorem Stay.trans {D : Nat → Prop} {a b c : World} (h : Stay D a b) (k : Stay D b c) : Stay D a c := ⟨Nat.le_trans h.1 k.1, fun g hg => (k.2 g hg).trans (h.2 g hg)⟩
theorem stay_b {D : Nat → Prop} {w : World} (hD : ∀ b, D b → b < w.heap.size) : ∀ (W : World) (l : Nat) (o o' : Obj), w.heap.size ≤ l → W.heap[l]? = some o → o.isCells = false → o.isWalk = false → Stay D W (W.putObj l o') := by
  intro W l o o' hl _ _ _
  exact ⟨by simp [World.putObj], fun b hb => World.putObj_heap_other (by have := hD b hb; omega)⟩
theorem stay_setAt {D : Nat → Prop} {V : World} {x o : Nat} {u : Value} (hx : ¬ D x) : Stay D V (V.setCell ⟨x, o, none⟩ u) :=
  ⟨by simp [World.setCell], fun b hb => Below.heap_setCell _ ⟨x, o, none⟩ _ b (fun e => hx (by simp at e; subst e; exact hb))⟩
theorem keepsAll_setAt {B x i : Nat} (W : World) (hx : x < B) (u : Value) : KeepsAll B W (W.setCell ⟨x, i, none⟩ u) :=
  ⟨by simp [World.setCell], fun k hB hk => Below.heap_setCell W ⟨x, i, none⟩ u k (by show ¬ k = x; omega)⟩
/-- What lies below, but some blocks, lies as it lay. -/
structure OnlyS (S : Nat → Prop) (w V : World) : Prop where
  os : V.os = w.os
  tape : V.tape = w.tape
  output : V.output = w.output
  size : w.heap.size ≤ V.heap.size
  block : ∀ i, i < w.heap.size → ¬ S i → V.heap[i]? = w.heap[i]?
section
variable {S : Nat → Prop} {w V : World}
theorem OnlyS.refl (S : Nat → Prop) (w : World) : OnlyS S w w := ⟨rfl, rfl, rfl, Nat.le_refl _, fun _ _ _ => rfl⟩
theorem OnlyS.set (h : OnlyS S w V) {x : Nat} (hx : S x) (u : Value) : OnlyS S w (V.setCell ⟨x, 0, none⟩ u) :=
  ⟨h.os, h.tape, h.output, by have := h.size; simpa [World.setCell] using this, fun i hi hn => (Below.heap_setCell V ⟨x, 0, none⟩ u i (fun e => by simp at e; subst e; exact hn hx)).trans (h.block i hi hn)⟩
theorem OnlyS.drewN (h : OnlyS S w V) (k : Nat) : OnlyS S w (V.drewN k) := ⟨h.os, h.tape, h.output, h.size, h.block⟩
theorem OnlyS.below {W' : World} (h : OnlyS S w V) (hb : Below V.heap.size V W') : OnlyS S w W' :=
  ⟨hb.os.trans h.os, hb.tape.trans h.tape, hb.output.trans h.output, Nat.le_trans h.size hb.size, fun i hi hn => (hb.block i (Nat.lt_of_lt_of_le hi h.size)).trans (h.block i hi hn)⟩
theorem OnlyS.blk {g : Nat} {t : TypeId} {cs : Array Value} (h : OnlyS S w V) (hg : Blk w g t cs) (hx : ¬ S g) : Blk V g t cs := (h.block g hg.lt hx).trans hg
theorem OnlyS.reads {B size n : Nat} {A : Option Addr} {xs : List Value} (h : OnlyS S w V) (hr : Reads w B size A n xs) (hB : B ≤ w.heap.size) (hx : 0 < n → ∀ ad, A = some ad → ¬ S ad.block) : Reads V B size A n xs := by
  refine ⟨hr.1, fun hn => ?_⟩
  obtain ⟨ad, e, hb, hc⟩ := hr.2 hn
  refine ⟨ad, e, hb, fun j u hu => (World.cell?_of_block (h.block _ (by rw [block_of_add]; omega) (by rw [block_of_add]; exact hx hn ad e))).trans (hc j u hu)⟩
theorem OnlyS.stay {D : Nat → Prop} (h : OnlyS S w V) (hD : ∀ b, D b → b < w.heap.size ∧ ¬ S b) : Stay D w V := ⟨h.size, fun b hb => h.block b (hD b hb).1 (hD b hb).2⟩
theorem OnlyS.bel {B : Nat} {a : World} (h : Below B a w) (k : OnlyS S w V) (hS : ∀ b, S b → B ≤ b) (hB : B ≤ w.heap.size) : Below B a V :=
  ⟨k.os.trans h.os, k.tape.trans h.tape, k.output.trans h.output, Nat.le_trans h.size k.size, fun i hi => (k.block i (by omega) (fun e => by have := hS i e; omega)).trans (h.block i hi)⟩
theorem OnlyS.marks {B : Nat} {ds : List Deferred} (h : Marks B ds w) (k : OnlyS S w V) (hS : ∀ b, S b → ∃ t cs, Blk w b t cs) : Marks B ds V :=
  h.keep k.size (fun q ⟨d, hd, he⟩ => k.block q (h.lt d hd q he) (fun hs => by
    obtain ⟨t, cs, hb⟩ := hS q hs
    obtain ⟨D, e1, _, h2, h3⟩ := h.mem d hd
    rw [e1] at he
    injection he with he
    injection he with he
    subst he
    unfold Blk at hb
    rw [hb] at h3; cases h3))
theorem own_onlyS {β : Type} (W1 : World) (S : Nat → Prop) : OwnFrom (β := β) W1.heap.size (fun _ W => OnlyS S W1 W) := by
  intro s A B row h hg hr
  refine ⟨hg.os.trans h.os, hg.tape.trans h.tape, hg.output.trans h.output, Nat.le_trans h.size hg.size, fun k hk hne => ?_⟩
  refine (hg.block k (Nat.lt_of_lt_of_le hk h.size) (fun e => ?_)).trans (h.block k hk hne)
  have := (hr k e.symm).1
  omega
end

def fseq (b : List Int) : List (Nat × List Int) := (List.range (frames b).length).map fun i => (atN b i, (frames b).getD i [])
@[simp] theorem fseq_length (b : List Int) : (fseq b).length = (frames b).length := by simp [fseq]
theorem fseq_get {b : List Int} {i : Nat} {p : List Int} (h : (frames b)[i]? = some p) : (fseq b)[i]? = some (atN b i, p) := by
  obtain ⟨h1, h2⟩ := List.getElem?_eq_some_iff.1 h
  rw [fseq, List.getElem?_map, List.getElem?_range h1]
  simp [List.getD, h]
theorem OwnL.stay {w V : World} {ps : List Piece} {B : Nat} {v : Value} (h : OwnL w B v ps) (hk : ∀ g, B ≤ g → g < w.heap.size → V.heap[g]? = w.heap[g]?) : OwnL V B v ps :=
  ⟨h.row.stay fun g e => hk g (own_base h.row g e) (h.row.lt g e), fun p hp => (h.each p hp).stay fun g e => hk g (own_base (h.each p hp) g e) (h.lt p hp g e), h.apart⟩
end Go.Proofs.YtnpmccekkjadhaaDoor.Pk

/- What the program's Frames promises. -/
namespace Go.Proofs.YtnpmccekkjadhaaDoor.Pk
open Go.RowKit Go.Shelf Go.Proofs.YtnpmccekkjadhaaDoor.Crc Go.Proofs.YtnpmccekkjadhaaDoor.Fr
set_option linter.unusedVariables false

/-- What comes in a round over frames: the place, the payload as it lies, its bytes. -/
structure FrX where
  at_ : Nat
  A : Option Addr
  n : Nat
  c : Nat
  p : List Int
def encF (x : FrX) : Array Value := #[.int .i64 (x.at_ : Int), .slice x.A x.n x.c]
def keyF (x : FrX) : Nat × List Int := (x.at_, x.p)
/-- The block of the payload that came. -/
def frF (x : FrX) (k : Nat) : Prop := (Value.slice x.A x.n x.c).ownBlock = some k
/-- What may come: the next frame, its payload in memory of its own, from block B on, none of the blocks R, none of a payload's that came before. -/
def OkF (b : List Int) (R : Nat → Prop) (B : Nat) (pre : List FrX) (x : FrX) (W : World) : Prop :=
  (pre ++ [x]).map keyF <+: fseq b ∧ OwnB W B (.slice x.A x.n x.c) x.p ∧ ∀ g, (Value.slice x.A x.n x.c).ownBlock = some g → ¬ R g ∧ ∀ y ∈ pre, ¬ frF y g
theorem OkF.next {b : List Int} {R : Nat → Prop} {B : Nat} {pre : List FrX} {x : FrX} {W : World} (h : OkF b R B pre x W) : pre.length < (frames b).length ∧ x.at_ = atN b pre.length ∧ (frames b)[pre.length]? = some x.p ∧ pre.length + 1 ≤ (frames b).length := by
  obtain ⟨t, ht⟩ := h.1
  have hl := congrArg List.length ht
  simp only [List.length_append, List.length_map, List.length_singleton, fseq_length] at hl
  have hlt : pre.length < (frames b).length := by omega
  have hg : (frames b)[pre.length]? = some (frames b)[pre.length] := List.getElem?_eq_getElem hlt
  have h1 := fseq_get hg
  rw [← ht] at h1
  simp [keyF] at h1
  refine ⟨hlt, h1.1, by rw [hg, h1.2], by omega⟩
theorem OkF.put {b : List Int} {R : Nat → Prop} (B : Nat) (pre : List FrX) (x : FrX) (W : World) (l : Nat) (o o' : Obj) (hl : W.heap[l]? = some o) (ho : o.isCells = false) (h : OkF b R B pre x W) : OkF b R B pre x (W.putObj l o') := by
  refine ⟨h.1, h.2.1.stay fun g e => World.putObj_heap_other (fun e2 => ?_), h.2.2⟩
  obtain ⟨cs, hh⟩ := own_kind h.2.1 g e
  subst e2
  rw [hh] at hl
  injection hl with hl
  subst hl
  simp [Obj.isCells] at ho
/-- What a round may change of what is younger than the range's own memory: the payload that came. -/
def frB (B : Nat) (x : FrX) (k : Nat) : Prop := frF x k
theorem OkF.fr {b : List Int} {R : Nat → Prop} (B : Nat) (pre : List FrX) (x : FrX) (W : World) (k : Nat) (h : OkF b R B pre x W) (hk : frB B x k) : B ≤ k := own_base h.2.1 k hk
/-- A function that goes over the good frames of b. -/
def SeqF (v : Value) (b : List Int) (R : Nat → Prop) (w : World) : Prop :=
  ∃ gf pb lb, v = .func (.func gf) pb lb ∧ (∀ args u, (callFunc gf args).run Tryd.prog u = .ok (.enter gf args) u) ∧ (∀ g, R g → g < w.heap.size) ∧
    ∀ m W, Stay R w W → GoesF m Tryd.prog gf pb lb encF (Stay R) (fun ys => ys.map keyF = fseq b) (fun pre => pre.map keyF <+: fseq b) (OkF b R) frB W
theorem SeqF.stay {v : Value} {b : List Int} {R : Nat → Prop} {w W : World} (h : SeqF v b R w) (hs : Stay R w W) : SeqF v b R W := by
  obtain ⟨gf, pb, lb, e, h1, h2, h3⟩ := h
  exact ⟨gf, pb, lb, e, h1, fun g hg => Nat.lt_of_lt_of_le (h2 g hg) hs.1, fun m W' hW => h3 m W' (hs.trans hW)⟩
theorem SeqF.lt {v : Value} {b : List Int} {R : Nat → Prop} {w : World} (h : SeqF v b R w) : ∀ g, R g → g < w.heap.size := by
  obtain ⟨_, _, _, _, _, h2, _⟩ := h
  exact h2
theorem SeqF.atF {gf : Nat} {pb lb : Array Value} {b : List Int} {R : Nat → Prop} {w : World} (h : SeqF (.func (.func gf) pb lb) b R w) (m : Nat) :
    GoesF m Tryd.prog gf pb lb encF (Stay R) (fun ys => ys.map keyF = fseq b) (fun pre => pre.map keyF <+: fseq b) (OkF b R) frB w := by
  obtain ⟨gf', pb', lb', e, _, _, h3⟩ := h
  injection e with e1 e3 e2
  injection e1 with e1
  subst e1; subst e2; subst e3
  exact h3 m w (Stay.refl_ _ _)
theorem SeqF.at_ {gf : Nat} {pb lb : Array Value} {b : List Int} {R : Nat → Prop} {w : World} (h : SeqF (.func (.func gf) pb lb) b R w) (m : Nat) :
    GoesW m Tryd.prog gf pb lb encF (Stay R) (fun ys => ys.map keyF = fseq b) (fun pre => pre.map keyF <+: fseq b) (OkF b R) w := (h.atF m).toW
def FramesP (b : List Int) (w : World) (e : Ending) (w' : World) : Prop := ∃ v R, e = .returned v ∧ SeqF v b R w' ∧ Below w.heap.size w w' ∧ ∀ g, R g → g = 0 ∨ w.heap.size ≤ g
def FramesC : Prop := ∀ (A : Option Addr) (n c : Nat) (b : List Int) (w : World), Tab w → Reads w w.heap.size 1 A n (bts b) → n ≤ c → Bytes b → n ≤ 17179869184 → Calls Tryd.prog 70 #[.slice A n c] w (FramesP b w)
theorem done_len {b : List Int} {ys : List FrX} (h : ys.map keyF = fseq b) : ys.length = (frames b).length := by
  have := congrArg List.length h
  simpa using this
theorem pre_len {b : List Int} {ys : List FrX} (h : ys.map keyF <+: fseq b) : ys.length ≤ (frames b).length := by
  have := h.length_le
  simpa using this
end Go.Proofs.YtnpmccekkjadhaaDoor.Pk

/- What the program's Frames promises where a round may change all that is younger than the iterator's own memory: each payload comes with a bound. -/
namespace Go.Proofs.YtnpmccekkjadhaaDoor.Pk
open Go.RowKit Go.Shelf Go.Proofs.YtnpmccekkjadhaaDoor.Crc Go.Proofs.YtnpmccekkjadhaaDoor.Fr
set_option linter.unusedVariables false
/-- What comes in a round, and the block from which on the round may change memory. -/
abbrev FrL := FrX × Nat
def encL (x : FrL) : Array Value := #[.int .i64 (x.1.at_ : Int), .slice x.1.A x.1.n x.1.c]
def keyL (x : FrL) : Nat × List Int := keyF x.1
def OkL (b : List Int) (R : Nat → Prop) (B : Nat) (pre : List FrL) (x : FrL) (W : World) : Prop :=
  OkF b R B (pre.map Prod.fst) x.1 W ∧ B ≤ x.2 ∧ (∀ y ∈ pre, y.2 = x.2) ∧ (∀ g, (Value.slice x.1.A x.1.n x.1.c).ownBlock = some g → x.2 ≤ g) ∧ x.2 ≤ W.heap.size
def frL (B : Nat) (x : FrL) (k : Nat) : Prop := x.2 ≤ k
theorem OkL.put {b : List Int} {R : Nat → Prop} (B : Nat) (pre : List FrL) (x : FrL) (W : World) (l : Nat) (o o' : Obj) (hl : W.heap[l]? = some o) (ho : o.isCells = false) (h : OkL b R B pre x W) : OkL b R B pre x (W.putObj l o') :=
  ⟨OkF.put B _ x.1 W l o o' hl ho h.1, h.2.1, h.2.2.1, h.2.2.2.1, by have := h.2.2.2.2; simpa [World.putObj] using this⟩
theorem OkL.fr {b : List Int} {R : Nat → Prop} (B : Nat) (pre : List FrL) (x : FrL) (W : World) (k : Nat) (h : OkL b R B pre x W) (hk : frL B x k) : B ≤ k := Nat.le_trans h.2.1 hk
/-- A function that goes over the good frames of b. -/
def SeqL (v : Value) (b : List Int) (R : Nat → Prop) (w : World) : Prop :=
  ∃ gf pb lb, v = .func (.func gf) pb lb ∧ (∀ args u, (callFunc gf args).run Tryd.prog u = .ok (.enter gf args) u) ∧ (∀ g, R g → g < w.heap.size) ∧
    ∀ m W, Stay R w W → GoesF m Tryd.prog gf pb lb encL (Stay R) (fun ys => ys.map keyL = fseq b) (fun pre => pre.map keyL <+: fseq b) (OkL b R) frL W
theorem SeqL.lt {v : Value} {b : List Int} {R : Nat → Prop} {w : World} (h : SeqL v b R w) : ∀ g, R g → g < w.heap.size := by
  obtain ⟨_, _, _, _, _, h2, _⟩ := h
  exact h2
theorem SeqL.at_ {gf : Nat} {pb lb : Array Value} {b : List Int} {R : Nat → Prop} {w : World} (h : SeqL (.func (.func gf) pb lb) b R w) (m : Nat) :
    GoesF m Tryd.prog gf pb lb encL (Stay R) (fun ys => ys.map keyL = fseq b) (fun pre => pre.map keyL <+: fseq b) (OkL b R) frL w := by
  obtain ⟨gf', pb', lb', e, _, _, h3⟩ := h
  injection e with e1 e3 e2
  injection e1 with e1
  subst e1; subst e2; subst e3
  exact h3 m w (Stay.refl_ _ _)
def FramesPL (b : List Int) (w : World) (e : Ending) (w' : World) : Prop := ∃ v R, e = .returned v ∧ SeqL v b R w' ∧ Below w.heap.size w w' ∧ ∀ g, R g → g = 0 ∨ w.heap.size ≤ g
def FramesCL : Prop := ∀ (A : Option Addr) (n c : Nat) (b : List Int) (w : World), Tab w → Reads w w.heap.size 1 A n (bts b) → n ≤ c → Bytes b → n ≤ 17179869184 → Calls Tryd.prog 70 #[.slice A n c] w (FramesPL b w)
end Go.Proofs.YtnpmccekkjadhaaDoor.Pk
