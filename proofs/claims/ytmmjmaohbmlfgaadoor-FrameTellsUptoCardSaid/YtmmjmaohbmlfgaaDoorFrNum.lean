/- Package frame: numberOf, bytesOf: a number and four bytes; the good frame at the front, by its length and its sum. -/
import Derived.Test.YtmmjmaohbmlfgaaDoorFrWakes
import Derived.Laws.BitsAllLaws
import Derived.Test.YtmmjmaohbmlfgaaDoorFrChain
namespace Go.Proofs.YtmmjmaohbmlfgaaDoor.Fr
open Go.Proofs.YtmmjmaohbmlfgaaDoor.Crc
set_option linter.unusedVariables false
theorem le4_num4 {b : List Int} (hb : Bytes b) (h : 4 ≤ b.length) : le4 (num4 b) = b.take 4 := by
  match b, h with
  | x0 :: x1 :: x2 :: x3 :: r, _ =>
    have h0 := hb x0 (by simp)
    have h1 := hb x1 (by simp)
    have h2 := hb x2 (by simp)
    have h3 := hb x3 (by simp)
    show [_, _, _, _] = [x0, x1, x2, x3]
    simp only [num4, List.getD_cons_zero, List.getD_cons_succ]
    congr 1
    · omega
    · congr 1
      · omega
      · congr 1
        · omega
        · congr 1
          omega
theorem take_parts (b : List Int) (n : Nat) : b.take (8 + n) = b.take 4 ++ ((b.drop 4).take 4 ++ (b.drop 8).take n) := by
  rw [show 8 + n = 4 + (4 + n) by omega, List.take_add, List.take_add (l := b.drop 4), List.drop_drop]
/-- The good frame at the front, as a program reads it: the length, the sum. -/
theorem fst_sum {b : List Int} (hb : Bytes b) (h8 : 8 ≤ b.length) (hn : num4 b ≤ 1048576) (hl : 8 + num4 b ≤ b.length) :
    fst b = if crc 0 (b.take 4 ++ (b.drop 8).take (num4 b)) = num4 (b.drop 4) then some ((b.drop 8).take (num4 b)) else none := by
  obtain ⟨q, hq⟩ : ∃ q, q = (b.drop 8).take (num4 b) := ⟨_, rfl⟩
  have hql : q.length = num4 b := by rw [hq]; simp; omega
  rw [← hq]
  have e4 := le4_num4 hb (by omega)
  have e5 := le4_num4 (b := b.drop 4) (fun x hx => hb x (List.mem_of_mem_drop hx)) (by simp; omega)
  by_cases hs : crc 0 (b.take 4 ++ q) = num4 (b.drop 4)
  · rw [if_pos hs]
    refine fst_some.2 ⟨by omega, ?_⟩
    have : enc q = b.take (8 + num4 b) := by
      rw [take_parts, ← hq]
      unfold enc fsum
      rw [hql, e4, hs, e5]
    rw [this]
    exact List.take_prefix _ _
  · rw [if_neg hs]
    refine fst_none (fun p hp hpre => hs ?_)
    have hnp := num4_pre hp hpre
    obtain ⟨r, hr⟩ := hpre
    have hqp : q = p := by
      rw [hq, hnp, ← hr, List.drop_append_of_le_length (by rw [enc_length]; omega), enc_drop]
      simp
    have ht : b.take 4 = le4 p.length := by rw [← e4, hnp]
    rw [ht, hqp]
    have hbp : Bytes p := by rw [← hqp, hq]; exact fun x hx => hb x (List.mem_of_mem_drop (List.mem_of_mem_take hx))
    have hd : b.drop 4 = le4 (fsum p) ++ (p ++ r) := by
      rw [← hr]
      unfold enc
      rw [List.append_assoc, List.append_assoc]
      rfl
    rw [hd, num4_le4 (fsum_lt hbp)]
    rfl
theorem fst_stop {b : List Int} (h : b.length < 8 ∨ 1048576 < num4 b ∨ b.length < 8 + num4 b) : fst b = none := by
  refine fst_none (fun p hp hpre => ?_)
  have h1 := num4_pre hp hpre
  have h2 := hpre.length_le
  rw [enc_length] at h2
  omega
end Go.Proofs.YtmmjmaohbmlfgaaDoor.Fr
namespace Go.Proofs.YtmmjmaohbmlfgaaDoor.Pk
open Go.RowKit Go.Proofs.YtmmjmaohbmlfgaaDoor.Crc Go.Proofs.YtmmjmaohbmlfgaaDoor.Fr
set_option linter.unusedVariables false
theorem or_add (i a b : Nat) (hb : b < 2 ^ i) : b ||| 2 ^ i * a = b + 2 ^ i * a := by
  rw [Nat.or_comm, ← Nat.two_pow_add_eq_or_of_lt hb, Nat.add_comm]
set_option maxHeartbeats 1600000 in
theorem numberOf_any (A : Option Addr) (n c : Nat) (l : List Int) (w : World) (hr : Reads w w.heap.size 1 A n (bts l)) (hby : Bytes l) (hn : 4 ≤ n) :
    Calls Tryd.prog 32 #[.slice A n c] w fun e w' => e = .returned (.int .u32 (num4 l : Nat)) ∧ ∃ k, w' = w.drewN k := by
  obtain ⟨b, off, rfl, hbb, hc⟩ := hr.u8 (by omega)
  have h0 := bytes_getD hby 0
  have h1 := bytes_getD hby 1
  have h2 := bytes_getD hby 2
  have h3 := bytes_getD hby 3
  obtain ⟨a0, e0⟩ : ∃ a0 : Nat, a0 = (l.getD 0 0).toNat := ⟨_, rfl⟩
  obtain ⟨a1, e1⟩ : ∃ a1 : Nat, a1 = (l.getD 1 0).toNat := ⟨_, rfl⟩
  obtain ⟨a2, e2⟩ : ∃ a2 : Nat, a2 = (l.getD 2 0).toNat := ⟨_, rfl⟩
  obtain ⟨a3, e3⟩ : ∃ a3 : Nat, a3 = (l.getD 3 0).toNat := ⟨_, rfl⟩
  have c0 := hc 0 (by omega)
  have c1 := hc 1 (by omega)
  have c2 := hc 2 (by omega)
  have c3 := hc 3 (by omega)
  rw [show l.getD 0 0 = (a0 : Int) by omega] at c0
  rw [show l.getD 1 0 = (a1 : Int) by omega] at c1
  rw [show l.getD 2 0 = (a2 : Int) by omega] at c2
  rw [show l.getD 3 0 = (a3 : Int) by omega] at c3
  have b0 : a0 < 256 := by omega
  have b1 : a1 < 256 := by omega
  have b2 : a2 < 256 := by omega
  have b3 : a3 < 256 := by omega
  obtain ⟨x1, hx1⟩ : ∃ x1 : Nat, x1 = a0 + 256 * a1 := ⟨_, rfl⟩
  obtain ⟨x2, hx2⟩ : ∃ x2 : Nat, x2 = x1 + 65536 * a2 := ⟨_, rfl⟩
  obtain ⟨x3, hx3⟩ : ∃ x3 : Nat, x3 = x2 + 16777216 * a3 := ⟨_, rfl⟩
  have hN : Hid (num4 l = x3) := Lib.hid (by unfold num4; omega)
  have y1 : bits .or .u32 (a0 : Int) ((a1 : Int) * 256) = (x1 : Int) := by
    rw [show (a1 : Int) * 256 = ((2 ^ 8 * a1 : Nat) : Int) by omega, u32_or_nat _ _ (by omega) (by omega), or_add 8 a1 a0 (by omega)]; omega
  have y2 : bits .or .u32 (x1 : Int) ((a2 : Int) * 65536) = (x2 : Int) := by
    rw [show (a2 : Int) * 65536 = ((2 ^ 16 * a2 : Nat) : Int) by omega, u32_or_nat _ _ (by omega) (by omega), or_add 16 a2 x1 (by omega)]; omega
  have y3 : bits .or .u32 (x2 : Int) ((a3 : Int) * 16777216) = (x3 : Int) := by
    rw [show (a3 : Int) * 16777216 = ((2 ^ 24 * a3 : Nat) : Int) by omega, u32_or_nat _ _ (by omega) (by omega), or_add 24 a3 x2 (by omega)]; omega
  clear h0 h1 h2 h3 e0 e1 e2 e3 hx1 hx2 hx3 hc hr hby
  simp only [Nat.add_zero] at c0
  go_enter Tryd.func32, Tryd.ntmps32
  go_wp2
  go_quiet (fail)
  go_wp2
  go_ret
  exact ⟨by rw [hN.out]; rfl, _, rfl⟩


set_option maxHeartbeats 800000 in
theorem bytesOf_any (x : Nat) (hx : x < 4294967296) (w : World) :
    Calls Tryd.prog 18 #[.int .u32 (x : Int)] w fun e w' => e = .returned (.slice (some ⟨w.heap.size, 0, none⟩) 4 4) ∧ OwnB w' w.heap.size (.slice (some ⟨w.heap.size, 0, none⟩) 4 4) (le4 x) ∧ Below w.heap.size w w' := by
  go_enter Tryd.func18, Tryd.ntmps18
  go_wp2
  go_ret
  refine ⟨rfl, OwnB.lit (l := le4 x) ?_ (Nat.le_refl _) (by simp), (Below.refl _ _).alloc (Nat.le_refl _) _⟩
  show [Value.int .u8 _, Value.int .u8 _, Value.int .u8 _, Value.int .u8 _] = [Value.int .u8 _, Value.int .u8 _, Value.int .u8 _, Value.int .u8 _]
  congr 1
  congr 1
  congr 1
  congr 1
  congr 1
  omega
end Go.Proofs.YtmmjmaohbmlfgaaDoor.Pk
