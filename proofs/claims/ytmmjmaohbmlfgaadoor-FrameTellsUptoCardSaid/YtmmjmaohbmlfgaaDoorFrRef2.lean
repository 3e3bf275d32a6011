/- The document's frames: First. -/
import Derived.Test.YtmmjmaohbmlfgaaDoorFrRef
import Derived.LoopTactic
namespace Go.Proofs.YtmmjmaohbmlfgaaDoor.Fr
set_option linter.unusedVariables false
/-- The number of the highest k of four bytes. -/
def hi4 (b : List Int) : Nat → Nat
  | 0 => 0
  | k + 1 => hi4 b k * 256 + (b.getD (3 - k) 0).toNat
theorem hi4_all (b : List Int) : hi4 b 4 = num4 b := by
  show (((0 * 256 + (b.getD 3 0).toNat) * 256 + (b.getD 2 0).toNat) * 256 + (b.getD 1 0).toNat) * 256 + (b.getD 0 0).toNat = num4 b
  unfold num4
  omega
theorem hi4_le {b : List Int} (h : ∀ x ∈ b, 0 ≤ x ∧ x ≤ 255) : ∀ k, k ≤ 4 → hi4 b k ≤ 4294967295 := by
  have hb : ∀ i, (b.getD i 0).toNat ≤ 255 := fun i => by
    rw [List.getD_eq_getElem?_getD]
    rcases e : b[i]? with _ | x
    · simp
    · have := h x (List.mem_of_getElem? e)
      simp; omega
  intro k hk
  have h0 := hb 0
  have h1 := hb 1
  have h2 := hb 2
  have h3 := hb 3
  have e0 : hi4 b 0 = 0 := rfl
  have e1 : hi4 b 1 = hi4 b 0 * 256 + (b.getD 3 0).toNat := rfl
  have e2 : hi4 b 2 = hi4 b 1 * 256 + (b.getD 2 0).toNat := rfl
  have e3 : hi4 b 3 = hi4 b 2 * 256 + (b.getD 1 0).toNat := rfl
  have e4 : hi4 b 4 = hi4 b 3 * 256 + (b.getD 0 0).toNat := rfl
  have : k = 0 ∨ k = 1 ∨ k = 2 ∨ k = 3 ∨ k = 4 := by omega
  rcases this with rfl | rfl | rfl | rfl | rfl <;> omega
theorem fst_short {b : List Int} (h : b.length < 8) : fst b = none := by unfold fst; rw [if_neg (fun hh => by omega)]
theorem fst_great {b : List Int} (h : 1048576 < num4 b ∨ b.length < num4 b + 8) : fst b = none := by unfold fst; rw [if_neg (fun hh => by omega)]
theorem fst_same {b : List Int} (h8 : 8 ≤ b.length) (h1 : num4 b ≤ 1048576) (h2 : num4 b + 8 ≤ b.length) (h : ∀ j, j < 8 → (enc ((b.drop 8).take (num4 b))).getD j 0 = b.getD j 0) : fst b = some ((b.drop 8).take (num4 b)) := by
  unfold fst
  refine if_pos ⟨h8, h1, h2, ?_⟩
  have hl : ((b.drop 8).take (num4 b)).length = num4 b := by rw [List.length_take, List.length_drop]; omega
  apply List.ext_getElem (by rw [List.length_take, enc_length, hl]; omega)
  intro i hi1 hi2
  rw [List.getElem_take]
  by_cases h8' : i < 8
  · have := h i h8'
    rw [List.getD_eq_getElem?_getD, List.getD_eq_getElem?_getD, List.getElem?_eq_getElem hi2, List.getElem?_eq_getElem (by omega)] at this
    exact this.symm
  · have e : (enc ((b.drop 8).take (num4 b))).drop 8 = (b.drop 8).take (num4 b) := enc_drop _
    have h3 : ((enc ((b.drop 8).take (num4 b))).drop 8)[i - 8]? = ((b.drop 8).take (num4 b))[i - 8]? := by rw [e]
    rw [List.getElem?_drop, show 8 + (i - 8) = i by omega] at h3
    rw [enc_length, hl] at hi2
    rw [List.getElem?_take_of_lt (by omega), List.getElem?_drop, show 8 + (i - 8) = i by omega, List.getElem?_eq_getElem (by rw [enc_length, hl]; exact hi2), List.getElem?_eq_getElem (by omega)] at h3
    injection h3 with h3
    exact h3.symm
theorem fst_other {b : List Int} {j : Nat} (hj : j < 8) (h : (enc ((b.drop 8).take (num4 b))).getD j 0 ≠ b.getD j 0) : fst b = none := by
  unfold fst
  rw [if_neg]
  rintro ⟨h1, h2, h3, h4⟩
  apply h
  rw [← h4, List.getD_eq_getElem?_getD, List.getD_eq_getElem?_getD, List.getElem?_take_of_lt (by omega)]
end Go.Proofs.YtmmjmaohbmlfgaaDoor.Fr
namespace Go.Proofs.YtmmjmaohbmlfgaaDoor.Pk
open Go.RowKit Go.Proofs.YtmmjmaohbmlfgaaDoor.Crc Go.Proofs.YtmmjmaohbmlfgaaDoor.Fr
set_option linter.unusedVariables false

def cutA (a : Option Addr) (c k : Nat) : Option Addr := if c = k then a else a.map (·.add k)
theorem run_cut2 {P : Program} {t e : TypeId} (ht : P.underlying t = some (.slice e)) (hi : (P.info? e).map (·.size) = some 1) (a : Option Addr) (n c i j : Nat) (h1 : i ≤ j) (h2 : j ≤ c) (w : World) :
    (Instr.slice t (.slice a n c) (some (.int .i64 (i : Int))) (some (.int .i64 (j : Int))) none).run P w = .ok (.slice (cutA a c i) (j - i) (c - i)) w := by
  obtain ⟨f, hi1, hi2⟩ := Option.map_eq_some_iff.1 hi
  have e1 : (0 : Int) ≤ (i : Int) := by omega
  have e2 : (i : Int) ≤ (j : Int) := by omega
  have e3 : (0 : Int) ≤ (j : Int) := by omega
  have e4 : (j : Int) ≤ (c : Int) := by omega
  simp [Instr.slice, run_underlying ht, go_sem, Instr.sliceBounds, sizeOf, typeInfo, hi1, hi2, cutA, h1, h2]
theorem run_cut1 {P : Program} {t e : TypeId} (ht : P.underlying t = some (.slice e)) (hi : (P.info? e).map (·.size) = some 1) (a : Option Addr) (n c i : Nat) (h1 : i ≤ n) (w : World) :
    (Instr.slice t (.slice a n c) (some (.int .i64 (i : Int))) none none).run P w = .ok (.slice (cutA a c i) (n - i) (c - i)) w := by
  obtain ⟨f, hi1, hi2⟩ := Option.map_eq_some_iff.1 hi
  simp [Instr.slice, run_underlying ht, go_sem, Instr.sliceBounds, sizeOf, typeInfo, hi1, hi2, cutA, h1]
theorem reads_cut {w : World} {B n c i j : Nat} {a : Option Addr} {l : List Int} (h : Reads w B 1 a n (bts l)) (h1 : i ≤ j) (h2 : j ≤ n) (h3 : n ≤ c) : Reads w B 1 (cutA a c i) (j - i) (bts ((l.take j).drop i)) := by
  have := (h.take h2).cut (k := i) (cap := c) h1 (by omega)
  unfold bts at this ⊢
  rw [Nat.mul_one, ← List.map_drop] at this
  exact this

/-- What the document's First answers. -/
def FstP (b : List Int) (w : World) (e : Ending) (w' : World) : Prop :=
  Below w.heap.size w w' ∧ ((∃ p A n c, fst b = some p ∧ e = .returned (.tuple #[.slice A n c, .int .i64 ((8 + p.length : Nat) : Int)]) ∧ OwnB w' w.heap.size (.slice A n c) p) ∨ (fst b = none ∧ e = .returned (.tuple #[.slice none 0 0, .int .i64 0])))

set_option maxHeartbeats 3200000 in
theorem first_any (A : Option Addr) (n c : Nat) (b : List Int) (w : World) (hr : Reads w w.heap.size 1 A n (bts b)) (hnc : n ≤ c) (hby : Bytes b) (hn : n ≤ 140737488355328) :
    Calls Tryd.prog 23 #[.slice A n c] w (FstP b w) := by
  have HL : Hid (b.length = n) := Lib.hid (by have := hr.1; simpa using this)
  have HR := Lib.hid hr
  have HB := Lib.hid hby
  by_cases h8 : n < 8
  · clear hr hby
    go_enter Tryd.func23, Tryd.ntmps23
    go_wp2
    go_ret2
    exact ⟨Below.refl _ _, .inr ⟨fst_short (by rw [HL.out]; exact h8), rfl⟩⟩
  obtain ⟨g, off, rfl, hbb, hc⟩ := hr.u8 (by omega)
  have HC := Lib.hid hc
  have hi8 : hi4 b 4 ≤ 4294967295 := hi4_le hby 4 (by omega)
  clear hr hby hc
  go_enter Tryd.func23, Tryd.ntmps23
  go_wp2
  go_loop [4, 5] (fun x i => ∃ k : Nat, k ≤ 4 ∧ i = .int .i64 (3 - (k : Int)) ∧ x = .int .i64 (hi4 b k : Nat)) (fun _ i => (intOf i + 1).toNat)
  case atStart => exact ⟨0, by omega, rfl, rfl⟩
  case round =>
    obtain ⟨k, hk, rfl, rfl⟩ := hrel
    have hx : hi4 b k ≤ 4294967295 := hi4_le HB.out k hk
    have way : k = 0 ∨ k = 1 ∨ k = 2 ∨ k = 3 ∨ k = 4 := by omega
    have step : ∀ j, j < 4 → k = j → ∃ y : Nat, w.cell? ⟨g, off + (3 - j), none⟩ = some (.int .u8 (y : Int)) ∧ y ≤ 255 ∧ hi4 b (j + 1) = hi4 b j * 256 + y := fun j hj e => by
      have h1 := HC.out (3 - j) (by omega)
      have h2 := bytes_getD HB.out (3 - j)
      refine ⟨(b.getD (3 - j) 0).toNat, ?_, by omega, rfl⟩
      rw [h1, Int.toNat_of_nonneg h2.1]
    have HSt := Lib.hid step
    clear step
    rcases way with rfl | rfl | rfl | rfl | rfl
    · obtain ⟨y, hy, hy2, hy3⟩ := HSt.out 0 (by omega) rfl
      obtain ⟨z, hz⟩ : ∃ z, z = hi4 b 0 := ⟨_, rfl⟩
      rw [← hz] at hx hy3 ⊢
      have HY := Lib.hid hy3
      have hyy : w.cell? ⟨g, off + 3, none⟩ = some (.int .u8 (y : Int)) := hy
      have hn0 : 3 < n := by omega
      clear hz hy3 hy
      go_wp2
      go_round
      case rel => exact ⟨0 + 1, by omega, by go_num, by rw [HY.out]; go_num⟩
      case measure => simp [intOf]
    · obtain ⟨y, hy, hy2, hy3⟩ := HSt.out 1 (by omega) rfl
      obtain ⟨z, hz⟩ : ∃ z, z = hi4 b 1 := ⟨_, rfl⟩
      rw [← hz] at hx hy3 ⊢
      have HY := Lib.hid hy3
      have hyy : w.cell? ⟨g, off + 2, none⟩ = some (.int .u8 (y : Int)) := hy
      have hn1 : 2 < n := by omega
      clear hz hy3 hy
      go_wp2
      go_round
      case rel => exact ⟨1 + 1, by omega, by go_num, by rw [HY.out]; go_num⟩
      case measure => simp [intOf]
    · obtain ⟨y, hy, hy2, hy3⟩ := HSt.out 2 (by omega) rfl
      obtain ⟨z, hz⟩ : ∃ z, z = hi4 b 2 := ⟨_, rfl⟩
      rw [← hz] at hx hy3 ⊢
      have HY := Lib.hid hy3
      have hyy : w.cell? ⟨g, off + 1, none⟩ = some (.int .u8 (y : Int)) := hy
      have hn2 : 1 < n := by omega
      clear hz hy3 hy
      go_wp2
      go_round
      case rel => exact ⟨2 + 1, by omega, by go_num, by rw [HY.out]; go_num⟩
      case measure => simp [intOf]
    · obtain ⟨y, hy, hy2, hy3⟩ := HSt.out 3 (by omega) rfl
      obtain ⟨z, hz⟩ : ∃ z, z = hi4 b 3 := ⟨_, rfl⟩
      rw [← hz] at hx hy3 ⊢
      have HY := Lib.hid hy3
      have hyy : w.cell? ⟨g, off, none⟩ = some (.int .u8 (y : Int)) := hy
      have hn3 : 0 < n := by omega
      clear hz hy3 hy
      go_wp2
      go_round
      case rel => exact ⟨3 + 1, by omega, by go_num, by rw [HY.out]; go_num⟩
      case measure => simp [intOf]
    · rw [hi4_all] at hx ⊢
      obtain ⟨m, hm⟩ : ∃ m, m = num4 b := ⟨_, rfl⟩
      rw [← hm] at hx ⊢
      have HMm := Lib.hid hm
      clear hm HSt hi8
      by_cases hgt : 1048576 < m
      · go_wp2
        go_ret2
        exact ⟨Below.refl _ _, .inr ⟨fst_great (.inl (by rw [← HMm.out]; exact hgt)), rfl⟩⟩
      by_cases hgt2 : n < m + 8
      · have hge : (m : Int) > (n : Int) - 8 := by omega
        go_wp2
        go_ret2
        exact ⟨Below.refl _ _, .inr ⟨fst_great (.inr (by rw [← HMm.out, HL.out]; exact hgt2)), rfl⟩⟩
      have hm2 : m ≤ 1048576 := by omega
      have hle : (m : Int) ≤ (n : Int) - 8 := by omega
      have hle2 : 8 + m ≤ n := by omega
      have kc : ∀ u : World, (Instr.slice 22 (.slice (some ⟨g, off, none⟩) n c) (some (.int .i64 8)) (some (.int .i64 (8 + (m : Int)))) none).run Tryd.prog u = .ok (.slice (cutA (some ⟨g, off, none⟩) c 8) m (c - 8)) u := fun u => by
        have h1 := run_cut2 (P := Tryd.prog) Tryd.underlying22 (by kernel_rfl) (some ⟨g, off, none⟩) n c 8 (8 + m) (by omega) (by omega) u
        rw [show 8 + m - 8 = m by omega, show ((8 + m : Nat) : Int) = 8 + (m : Int) by omega] at h1
        exact h1
      obtain ⟨q, hq⟩ : ∃ q, q = (b.drop 8).take m := ⟨_, rfl⟩
      have HRc : Hid (Reads w w.heap.size 1 (cutA (some ⟨g, off, none⟩) c 8) m (bts q)) := Lib.hid (by
        have h1 := reads_cut HR.out (i := 8) (j := 8 + m) (by omega) (by omega) hnc
        rw [show 8 + m - 8 = m by omega] at h1
        rw [hq, List.take_drop]
        exact h1)
      have HQ := Lib.hid hq
      have HQl : Hid (q.length = m) := Lib.hid (by rw [hq, List.length_take, List.length_drop, HL.out]; omega)
      have HQb : Hid (Bytes q) := Lib.hid (by rw [hq]; exact (HB.out.drop 8).take m)
      clear hq
      go_wp2_with (at_builtin; refine appE w rfl (.tmp 34) (.tmp 38) rfl w.heap.size rfl w.heap.size _ (c - 8) q m rfl HRc.out (Nat.le_refl _) (by omega) (Nat.le_refl _) ?_; intro v2 w2 hown2 hb2; obtain ⟨A2, n2, c2, rfl⟩ := own_slice hown2; have hl2 := own_len hown2; have HO2 := Lib.hid hown2; have HB2 := Lib.hid hb2; clear hown2 hb2)
      refine (refEnc_any A2 n2 c2 q w2 (own_reads HO2.out) HQb.out (by have := HQl.out; omega)).mono ?_
      rintro e w3 ⟨hb3, ⟨_, A3, n3, c3, rfl, ho3⟩ | ⟨h3, _⟩⟩
      case inr => have := HQl.out; omega
      have HB3 := Lib.hid (HB2.out.trans (hb3.mono HB2.out.size))
      have HW3 := Lib.hid (HO2.out.keep hb3 (Nat.le_refl _))
      have hl3 : (enc q).length = n3 := (own_len ho3).1
      have hn38 : 8 ≤ n3 := by rw [enc_length] at hl3; omega
      obtain ⟨g3, off3, rfl, hbb3, hc3⟩ := (own_reads ho3).u8 (by omega)
      have HC3 := Lib.hid hc3
      have HC0 := Lib.hid (fun k (hk : k < n) => (HB3.out.cell (p := ⟨g, off + k, none⟩) hbb).trans (HC.out k hk))
      clear hb3 ho3 hl2 hc3 HC
      go_wp2
      go_loopw [9] (fun x wr => ∃ (k d : Nat), k ≤ 8 ∧ x = .int .i64 k ∧ (∀ j, j < k → (enc q).getD j 0 = b.getD j 0) ∧ wr = w3.drewN d) (fun x _ => 8 - (intOf x).toNat)
      case atStart => exact ⟨0, 0, by omega, rfl, fun j hj => by omega, rfl⟩
      case round =>
        obtain ⟨k, d, hk, rfl, hal, rfl⟩ := hrel
        have HAl := Lib.hid hal
        clear hal
        by_cases hlt : k < 8
        · have x1 := HC3.out k (by omega)
          have x2 := HC0.out k (by omega)
          obtain ⟨y1, hy1⟩ : ∃ y, y = (enc q).getD k 0 := ⟨_, rfl⟩
          obtain ⟨y2, hy2⟩ : ∃ y, y = b.getD k 0 := ⟨_, rfl⟩
          rw [← hy1] at x1
          rw [← hy2] at x2
          have hkn : (k : Int) < (n : Int) := by omega
          have hkn3 : (k : Int) < (n3 : Int) := by omega
          by_cases he : y1 = y2
          · have HE : Hid ((enc q).getD k 0 = b.getD k 0) := Lib.hid (by rw [← hy1, ← hy2, he])
            subst he
            clear hy1 hy2
            go_wp2
            go_quiet (fail)
            go_wp2
            go_roundw
            case rel => exact ⟨k + 1, _, by omega, by go_num, fun j hj => by
              rcases Nat.lt_or_ge j k with h | h
              · exact HAl.out j h
              · obtain rfl : j = k := by omega
                exact HE.out, rfl⟩
            case measure => simp [intOf]; omega
          · have HE : Hid (fst b = none) := Lib.hid (fst_other hlt (by rw [← HMm.out, ← HQ.out, ← hy1, ← hy2]; exact he))
            have t1 : (y1 != y2) = true := by simp [he]
            clear hy1 hy2 he
            go_wp2
            go_quiet (fail)
            go_wp2
            go_ret2
            exact ⟨below_drewN (below_drewN HB3.out _) _, .inr ⟨HE.out, rfl⟩⟩
        · obtain rfl : k = 8 := by omega
          have HF : Hid (fst b = some q) := Lib.hid (by
            have h1 := fst_same (b := b) (by rw [HL.out]; omega) (by rw [← HMm.out]; exact hm2) (by rw [← HMm.out, HL.out]; omega)
            rw [← HMm.out, ← HQ.out] at h1
            exact h1 HAl.out)
          go_wp2
          go_ret2
          refine ⟨below_drewN HB3.out _, .inl ⟨q, A2, n2, c2, HF.out, ?_, HW3.out⟩⟩
          rw [HQl.out]
          go_num
end Go.Proofs.YtmmjmaohbmlfgaaDoor.Pk
