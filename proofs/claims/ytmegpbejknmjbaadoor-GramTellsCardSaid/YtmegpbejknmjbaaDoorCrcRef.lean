/- The contract of the document's own answer: bit by bit it is the same sum. -/
import Derived.Test.YtmegpbejknmjbaaDoorCrcAdd0
namespace Go.Proofs.YtmegpbejknmjbaaDoor.Pk
open Go.RowKit Go.Proofs.YtmegpbejknmjbaaDoor.Crc
set_option linter.unusedVariables false

def shN : Nat → Nat → Nat
  | 0, r => r
  | k + 1, r => sh (shN k r)
theorem shN8 (r : Nat) : shN 8 r = sh8 r := rfl
theorem shN_lt (k : Nat) {r : Nat} (h : r < 4294967296) : shN k r < 4294967296 := by
  induction k with
  | zero => exact h
  | succ k ih => exact sh_lt ih
theorem bit_one {r : Nat} (hr : r < 4294967296) (h : r % 2 = 1) : bits .and .u32 (r : Int) 1 = 1 := by
  have := u32_and_nat r 1 hr (by omega)
  rw [Nat.and_one_is_mod, h] at this; exact this
theorem bit_none {r : Nat} (hr : r < 4294967296) (h : ¬ r % 2 = 1) : bits .and .u32 (r : Int) 1 = 0 := by
  have := u32_and_nat r 1 hr (by omega)
  rw [Nat.and_one_is_mod, show r % 2 = 0 by omega] at this; exact this
theorem sh_odd {r d : Nat} (hd : d = r / 2) (h : r % 2 = 1) (hr : r < 4294967296) : bits .xor .u32 (d : Int) 3988292384 = (sh r : Int) := by
  subst hd
  have := u32_xor_nat (r / 2) 3988292384 (by omega) (by omega)
  unfold sh
  rw [if_pos h]; exact this
theorem sh_evn {r d : Nat} (hd : d = r / 2) (h : ¬ r % 2 = 1) : d = sh r := by
  subst hd
  unfold sh
  rw [if_neg h, Nat.xor_zero]

set_option maxHeartbeats 1000000 in
theorem refAdd_any (A : Option Addr) (n c s : Nat) (l : List Int) (w : World) (B : Nat) (hl : Reads w B 1 A n (bts l)) (hn : n ≤ 9223372036854775807) (hby : Bytes l) (hs : s < 4294967296) :
    Calls Tryd.prog 38 #[.int .u32 (s : Int), .slice A n c] w fun e w' => e = .returned (.int .u32 (crc s l : Nat)) ∧ w = w' := by
  have HL : Hid (l.length = n) := by have := hl.1; simp at this; exact this
  have RL := Lib.hid hl
  have HB := Lib.hid hby
  have hi := inv_lt hs
  have HI : Hid (bits .xor .u32 IntKind.u32.max (s : Int) = (inv s : Int)) := xinv s hs
  obtain ⟨si, hsi⟩ : ∃ x, x = inv s := ⟨_, rfl⟩
  rw [← hsi] at hi
  have HS := Lib.hid hsi
  have e0 : bits .xor .u32 IntKind.u32.max (s : Int) = (si : Int) := by rw [HI.out, hsi]
  clear hl hby hsi
  go_enter Tryd.func38, Tryd.ntmps38
  go_wp2
  clear e0
  go_loop [5, 6, 7, 8] (fun r i _ _ => ∃ k : Nat, i = .int .i64 k ∧ k ≤ n ∧ r = .int .u32 ((run si (l.take k) : Nat) : Int)) (fun _ i _ _ => n - (intOf i).toNat)
  case atStart => exact ⟨0, rfl, by omega, rfl⟩
  case round =>
    obtain ⟨k, rfl, hk, rfl⟩ := hrel
    have hr : run si (l.take k) < 4294967296 := run_lt (HB.out.take k) hi
    obtain ⟨r, hrr⟩ : ∃ x, x = run si (l.take k) := ⟨_, rfl⟩
    rw [← hrr] at hr ⊢
    have HR := Lib.hid hrr
    clear hrr
    by_cases hlt : k < n
    · obtain ⟨b, off, rfl, hbb, hc⟩ := RL.out.u8 (by omega)
      have hx := hc k hlt
      clear hc
      have hyb : 0 ≤ l.getD k 0 ∧ l.getD k 0 ≤ 255 := bytes_getD HB.out k
      obtain ⟨y, hyy⟩ : ∃ y, y = l.getD k 0 := ⟨_, rfl⟩
      rw [← hyy] at hx hyb
      have HY := Lib.hid hyy
      clear hyy
      obtain ⟨y0, y1⟩ := hyb
      obtain ⟨q0, h0, hq0⟩ : ∃ q, q < 4294967296 ∧ q = r ^^^ y.toNat := ⟨_, xor_lt hr (by omega), rfl⟩
      have e1 : bits .xor .u32 (r : Int) y = (q0 : Int) := by rw [hq0]; exact x32c r y hr ⟨y0, y1⟩
      have HQ := Lib.hid hq0
      clear hq0
      go_wp2
      clear e1
      go_loop [5, 7, 8] (fun r i _ => ∃ j : Nat, i = .int .i64 j ∧ j ≤ 8 ∧ r = .int .u32 ((shN j q0 : Nat) : Int)) (fun _ i _ => 8 - (intOf i).toNat)
      case atStart => exact ⟨0, rfl, by omega, rfl⟩
      case round =>
        obtain ⟨j, rfl, hj, rfl⟩ := hrel
        have hz : shN j q0 < 4294967296 := shN_lt j h0
        obtain ⟨z, hzz⟩ : ∃ x, x = shN j q0 := ⟨_, rfl⟩
        rw [← hzz] at hz ⊢
        have HZ := Lib.hid hzz
        clear hzz
        obtain ⟨d, hd⟩ : ∃ d, d = z / 2 := ⟨_, rfl⟩
        have ed : (z : Int) / 2 = (d : Int) := by omega
        have HD := Lib.hid hd
        clear hd
        by_cases hj8 : j < 8
        · by_cases hodd : z % 2 = 1
          · have e2 := bit_one hz hodd
            have e3 := sh_odd HD.out hodd hz
            clear hodd
            go_wp2
            go_round
            case rel => exact ⟨j + 1, by go_num, by omega, by rw [HZ.out]; rfl⟩
            case measure => simp [intOf]; omega
          · have e2 := bit_none hz hodd
            have HE := Lib.hid (sh_evn HD.out hodd)
            clear hodd
            go_wp2
            go_round
            case rel => exact ⟨j + 1, by go_num, by omega, by rw [HE.out, HZ.out]; rfl⟩
            case measure => simp [intOf]; omega
        · obtain rfl : 8 = j := by omega
          go_wp2
          go_round
          case rel => exact ⟨k + 1, by go_num, by omega, by rw [HZ.out, shN8, HQ.out, HR.out, HY.out, take_snoc (by rw [HL.out]; exact hlt), run_snoc]⟩
          case measure => simp [intOf]; omega
    · have ei : bits .xor .u32 IntKind.u32.max (r : Int) = (inv r : Int) := xinv r hr
      have HE : Hid (inv r = crc s l) := by
        rw [HR.out, HS.out, List.take_of_length_le (by rw [HL.out]; omega)]; rfl
      go_wp2
      go_ret
      exact ⟨by rw [← HE.out]; rfl, rfl⟩

set_option maxHeartbeats 400000 in
theorem refSum_any (A : Option Addr) (n c : Nat) (l : List Int) (w : World) (B : Nat) (hl : Reads w B 1 A n (bts l)) (hn : n ≤ 9223372036854775807) (hby : Bytes l) :
    Calls Tryd.prog 22 #[.slice A n c] w fun e w' => e = .returned (.int .u32 (crc 0 l : Nat)) ∧ w = w' := by
  have HC : Hid (Calls Tryd.prog 38 #[.int .u32 0, .slice A n c] w fun e w' => e = .returned (.int .u32 (crc 0 l : Nat)) ∧ w = w') := refAdd_any A n c 0 l w B hl hn hby (by omega)
  clear hl hby
  go_enter Tryd.func22, Tryd.ntmps22
  go_wp2_with (go_at_call 38; refine HC.out.mono ?_; rintro e w' ⟨rfl, rfl⟩)
  go_ret
  exact ⟨rfl, rfl⟩
end Go.Proofs.YtmegpbejknmjbaaDoor.Pk
