/- The contract of crc.Add: the sum goes on with the bytes; the world is left alone. -/
import Derived.Test.YtmegpbejknmjbaaDoorWords
import Derived.Test.YtmegpbejknmjbaaDoorCrcMath
import Derived.Test.YtmegpbejknmjbaaDoorProg
import Derived.LoopTactic
import Derived.Outline
import Derived.Lib.Hide
import Derived.Laws.BitsAllLaws
namespace Go.Proofs.YtmegpbejknmjbaaDoor.Pk
open Go.RowKit Go.Proofs.YtmegpbejknmjbaaDoor.Crc
set_option linter.unusedVariables false

/-- The table lies in its block. -/
def Tab (w : World) : Prop := ∀ i, i < 16 → w.cell? ⟨0, i, none⟩ = some (.int .u32 (tabN i : Int))
theorem Tab.below {w w' : World} (h : Tab w) {B : Nat} (hb : Below B w w') (hB : 0 < B) : Tab w' := fun i hi => (hb.cell (p := ⟨0, i, none⟩) hB).trans (h i hi)

theorem x32 (a b : Nat) (ha : a < 4294967296) (hb : b < 4294967296) : bits .xor .u32 (a : Int) (b : Int) = ((a ^^^ b : Nat) : Int) := u32_xor_nat a b ha hb
theorem x32c (a : Nat) (c : Int) (ha : a < 4294967296) (hc : 0 ≤ c ∧ c ≤ 255) : bits .xor .u32 (a : Int) c = ((a ^^^ c.toNat : Nat) : Int) := by
  obtain ⟨C, rfl⟩ := Int.eq_ofNat_of_zero_le hc.1
  simpa using u32_xor_nat a C ha (by omega)
theorem xinv (a : Nat) (ha : a < 4294967296) : bits .xor .u32 IntKind.u32.max (a : Int) = (inv a : Int) := by
  rw [show IntKind.u32.max = ((4294967295 : Nat) : Int) from rfl, inv_eq]
  exact u32_xor_nat 4294967295 a (by omega) ha

theorem bytes_getD {l : List Int} (h : Bytes l) (k : Nat) : 0 ≤ l.getD k 0 ∧ l.getD k 0 ≤ 255 := by
  rw [List.getD_eq_getElem?_getD]
  rcases e : l[k]? with _ | x
  · simp
  · exact h x (List.mem_of_getElem? e)
theorem take_snoc {l : List Int} {k : Nat} (h : k < l.length) : l.take (k + 1) = l.take k ++ [l.getD k 0] := by
  rw [List.take_succ_eq_append_getElem h, List.getD_eq_getElem?_getD, List.getElem?_eq_getElem h]; rfl
/-- Four shifts by the table. -/
theorem nib {w : World} (hT : Tab w) {q : Nat} (hq : q < 4294967296) : ∃ d t v q' : Nat, d < 268435456 ∧ t < 16 ∧ v < 4294967296 ∧ (q : Int) / 16 = (d : Int) ∧ (q : Int).tmod 16 = (t : Int) ∧ (q : Int) % 16 = (t : Int) ∧
    bits .xor .u32 (d : Int) (v : Int) = (q' : Int) ∧ w.cell? ⟨0, t, none⟩ = some (.int .u32 (v : Int)) ∧ q' < 4294967296 ∧ q' = sh4 q := by
  have ht := tabN_small (q % 16) (by omega)
  refine ⟨q / 16, q % 16, tabN (q % 16), sh4 q, by omega, by omega, ht.2.1, by omega, ?_, by omega, ?_, hT _ (by omega), sh4_lt hq, rfl⟩
  · rw [Int.tmod_eq_emod_of_nonneg (by omega)]; omega
  · rw [x32 _ _ (by omega) ht.2.1, nib_eq]

set_option maxHeartbeats 800000 in
theorem add_any (A : Option Addr) (n c s : Nat) (l : List Int) (w : World) (B : Nat) (hl : Reads w B 1 A n (bts l)) (hn : n ≤ 9223372036854775807) (hby : Bytes l) (hs : s < 4294967296) (htab : Tab w) :
    Calls Tryd.prog 41 #[.int .u32 (s : Int), .slice A n c] w fun e w' => e = .returned (.int .u32 (crc s l : Nat)) ∧ w = w' := by
  have HL : Hid (l.length = n) := by have := hl.1; simp at this; exact this
  have RL := Lib.hid hl
  have HB := Lib.hid hby
  have HT := Lib.hid htab
  have hi := inv_lt hs
  have HI : Hid (bits .xor .u32 IntKind.u32.max (s : Int) = (inv s : Int)) := xinv s hs
  obtain ⟨si, hsi⟩ : ∃ x, x = inv s := ⟨_, rfl⟩
  rw [← hsi] at hi
  have HS := Lib.hid hsi
  have e0 : bits .xor .u32 IntKind.u32.max (s : Int) = (si : Int) := by rw [HI.out, hsi]
  clear hl hby htab hsi
  go_enter Tryd.func41, Tryd.ntmps41
  go_wp2
  clear e0
  go_loop [5, 7, 12] (fun r x i => ∃ k : Nat, i = .int .i64 k ∧ k ≤ n ∧ r = .int .u32 ((run si (l.take k) : Nat) : Int)) (fun _ _ i => n - (intOf i).toNat)
  case atStart => exact ⟨0, rfl, by omega, rfl⟩
  case round =>
    obtain ⟨k, rfl, hk, rfl⟩ := hrel
    have hr : run si (l.take k) < 4294967296 := run_lt (HB.out.take k) hi
    obtain ⟨r, hrr⟩ : ∃ x, x = run si (l.take k) := ⟨_, rfl⟩
    rw [← hrr] at hr ⊢
    have HR := Lib.hid hrr
    clear hrr
    by_cases hlt : k < n
    · obtain ⟨b, off, rfl, hbb, hc⟩ := RL.out.u8 (by omega)
      have hx := hc k hlt
      clear hc
      have hyb : 0 ≤ l.getD k 0 ∧ l.getD k 0 ≤ 255 := bytes_getD HB.out k
      obtain ⟨y, hyy⟩ : ∃ y, y = l.getD k 0 := ⟨_, rfl⟩
      rw [← hyy] at hx hyb
      have HY := Lib.hid hyy
      clear hyy
      obtain ⟨y0, y1⟩ := hyb
      obtain ⟨q0, h0, hq0⟩ : ∃ q, q < 4294967296 ∧ q = r ^^^ y.toNat := ⟨_, xor_lt hr (by omega), rfl⟩
      have e1 : bits .xor .u32 (r : Int) y = (q0 : Int) := by rw [hq0]; exact x32c r y hr ⟨y0, y1⟩
      obtain ⟨d0, t0, v0, q1, hd0, ht0, hv0, e2, e3, e4, e5, c0, h1, hq1⟩ := nib HT.out h0
      obtain ⟨d1, t1, v1, q2, hd1, ht1, hv1, e6, e7, e8, e9, c1, h2, hq2⟩ := nib HT.out h1
      have HQ : Hid (q2 = sh8 (r ^^^ y.toNat)) := by rw [hq2, hq1, hq0]; rfl
      clear hq2 hq1 hq0
      go_wp2
      go_round
      case rel => exact ⟨k + 1, by go_num, by omega, by rw [HQ.out, HR.out, HY.out, take_snoc (by rw [HL.out]; exact hlt), run_snoc]⟩
      case measure => simp [intOf]; omega
    · have ei : bits .xor .u32 IntKind.u32.max (r : Int) = (inv r : Int) := xinv r hr
      have HE : Hid (inv r = crc s l) := by
        rw [HR.out, HS.out, List.take_of_length_le (by rw [HL.out]; omega)]; rfl
      go_wp2
      go_ret
      exact ⟨by rw [← HE.out]; rfl, rfl⟩
end Go.Proofs.YtmegpbejknmjbaaDoor.Pk
