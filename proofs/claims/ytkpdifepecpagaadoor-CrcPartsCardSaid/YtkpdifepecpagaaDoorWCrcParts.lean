/- The walk of the law CrcParts: Parts answers as the document's answer does, list by list. -/
import Derived.Test.YtkpdifepecpagaaDoorCrcParts
import Derived.Test.YtkpdifepecpagaaDoorArgs
import Derived.Deep.Matrix
namespace Go.Proofs.YtkpdifepecpagaaDoor.Pk
open Go.RowKit Go.Proofs.YtkpdifepecpagaaDoor.Ar Go.Proofs.YtkpdifepecpagaaDoor.Crc
set_option linter.unusedVariables false

set_option maxHeartbeats 1600000 in
theorem law_CrcParts (a : Option Addr) (n c : Nat) (ps : List Piece) (w : World) (ht : Tab w) (h : Lists w w.heap.size a n ps ∧ n ≤ c ∧ c ≤ 9223372036854775807) :
    Calls Tryd.prog 4 #[.slice a n c] w fun e w' => e = .returned (.bool true) ∧ Below w.heap.size w w' := by
  obtain ⟨hl, hnc, hc⟩ := h
  have RL := Lib.hid hl
  have HT := Lib.hid ht
  clear hl ht
  go_enter Tryd.func4, Tryd.ntmps4
  go_wp2
  go_loop [3, 5, 8] (fun s x i => ∃ k : Nat, i = .int .i64 k ∧ k ≤ n ∧ s = .int .u32 ((sums 0 (Piece.bytes (ps.take k)) : Nat) : Int)) (fun _ _ i => n - (intOf i).toNat)
  case atStart => exact ⟨0, rfl, by omega, rfl⟩
  case round =>
    obtain ⟨k, rfl, hk, rfl⟩ := hrel
    have hr : sums 0 (Piece.bytes (ps.take k)) < 4294967296 := sums_lt (RL.out.bytes k) (by omega)
    obtain ⟨r, hrr⟩ : ∃ x, x = sums 0 (Piece.bytes (ps.take k)) := ⟨_, rfl⟩
    rw [← hrr] at hr ⊢
    have HR := Lib.hid hrr
    clear hrr
    by_cases hlt : k < n
    · obtain ⟨b, off, p, rfl, -, hok, hx, hnext⟩ := RL.out.at_ hlt
      have HN := Lib.hid hnext
      have HO := Lib.hid hok
      clear hnext hok
      go_wp2_with (go_at_call 12; refine (refAdd_any p.a p.n p.c r p.l w w.heap.size HO.out.1 HO.out.2.2.1 HO.out.2.2.2 hr).mono ?_; rintro e w' ⟨rfl, rfl⟩)
      go_round
      case rel => exact ⟨k + 1, by go_num, by omega, by rw [HN.out, sums_snoc, ← HR.out]⟩
      case measure => simp [intOf]; omega
    · have HE : Hid (ps.take k = ps) := Lib.hid (List.take_of_length_le (by rw [RL.out.length]; omega))
      have HF : Hid (sums 0 (Piece.bytes ps) = r) := by rw [HR.out, HE.out]; exact Lib.hid rfl
      go_wp2_with fail
      refine (wakes_any w HT.out).mono ?_
      rintro e w1 ⟨rfl, hb⟩
      go_wp2_with fail
      refine (parts_any a n c ps w1 w.heap.size (RL.out.below hb) (by omega) (HT.out.next hb)).mono ?_
      rw [HF.out]
      rintro e w2 ⟨rfl, rfl⟩
      go_wp2
      go_ret
      exact ⟨rfl, hb⟩

theorem cellsSl : Tryd.prog.cellsOf 23 = 1 := by kernel_rfl
theorem cellsBy : Tryd.prog.cellsOf 5 = 1 := by kernel_rfl
theorem row_zero (a : Addr) : a.add 0 = a := by unfold Addr.add; simp
/-- How a list of lists of bytes that came in is opened. -/
theorem open_L {H : Type} {enc : TypeId × Value → H} {W : World} {d : DataW H} {ps : List MemPlace} {a : Option Addr} {n c : Nat} (h : DataW.Trod enc Tryd.prog W 0 (fun _ => true) true 28 (.slice a n c) d ps) :
    ∃ qs : List Piece, Lists W W.heap.size a n qs ∧ n ≤ c ∧ c ≤ 9223372036854775807 := by
  obtain ⟨fuel, hf⟩ := h
  rcases Deep.open_int_rows Tryd.underlying28 Tryd.underlying23 Tryd.underlying5 cellsSl cellsBy hf with ⟨hcs, hx⟩ | ⟨x, len, cap, A, L, C, Z, hcs, _, hl, hm, hx, hall⟩
  · simp [Value.cells] at hcs
    obtain ⟨rfl, rfl, rfl⟩ := hcs
    exact ⟨[], ⟨Reads.none_, fun p hp => by cases hp⟩, Nat.le_refl _, by omega⟩
  · simp [Value.cells] at hcs
    obtain ⟨rfl, rfl, rfl⟩ := hcs
    unfold maxLen at hm
    refine ⟨(List.range n).map fun r => ⟨A r, L r, C r, (Z r).take (L r)⟩, ⟨⟨by simp, fun hn => ⟨x, rfl, ?_, fun j u hj => ?_⟩⟩, fun p hp => ?_⟩, hl, hm⟩
    · have := lt_heap (hall 0 (by omega)).1
      simpa [block_of_add] using this
    · simp only [List.getElem?_map, Option.map_map] at hj
      have hjn : j < n := by
        rcases Nat.lt_or_ge j n with h1 | h1
        · exact h1
        · rw [List.getElem?_eq_none (by simpa using h1)] at hj; simp at hj
      rw [List.getElem?_eq_getElem (by simpa using hjn)] at hj
      simp at hj
      rw [(hall j (by omega)).1, ← hj]; rfl
    · obtain ⟨r, hr, rfl⟩ := List.mem_map.1 hp
      have hr' : r < n := by simpa using hr
      obtain ⟨_, h1, h2, h3, h4, h5, h6⟩ := hall r (by omega)
      unfold maxLen at h2
      refine ⟨⟨by simp; omega, fun hn => ?_⟩, h1, by show L r ≤ _; omega, fun y hy => u8_rng (h4 y (List.mem_of_mem_take hy))⟩
      have hn' : 0 < L r := hn
      cases hA : A r with
      | none => have := h5 hA; omega
      | some ad =>
        obtain ⟨_, hcell⟩ := h6 ad hA
        refine ⟨ad, rfl, ?_, fun j u hu => ?_⟩
        · have := lt_heap (hcell 0 (by omega))
          simpa [block_of_add] using this
        · have hj : j < L r := by
            rcases Nat.lt_or_ge j (L r) with h7 | h7
            · exact h7
            · rw [List.getElem?_eq_none (by simp; omega)] at hu; cases hu
          rw [hcell j (by omega)]
          simp only [bts, List.getElem?_map] at hu
          rw [List.getElem?_take_of_lt hj, List.getElem?_eq_getElem (by omega)] at hu
          simp at hu
          rw [← hu, List.getD_eq_getElem?_getD, List.getElem?_eq_getElem (by omega)]; rfl
end Go.Proofs.YtkpdifepecpagaaDoor.Pk
