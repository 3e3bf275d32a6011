/- The walk of pack.Take. -/
import Derived.Test.YtmegpbejknmjbaaDoorPackMath
import Derived.Test.YtmegpbejknmjbaaDoorProg
import Derived.Test.YtmegpbejknmjbaaDoorWords
import Derived.LoopTactic
import Derived.Outline
import Derived.Lib.Hide
namespace Go.Proofs.YtmegpbejknmjbaaDoor.Pk
open Go.RowKit
set_option linter.unusedVariables false


theorem getD_mem (l : List Int) (i : Nat) (h : i < l.length) : l.getD i 0 ∈ l := by
  rw [List.getD_eq_getElem?_getD, List.getElem?_eq_getElem h]; exact List.getElem_mem h

theorem drop_cons (l : List Int) (i : Nat) (h : i < l.length) : l.drop i = l.getD i 0 :: l.drop (i + 1) := by
  rw [List.drop_eq_getElem_cons h, List.getD_eq_getElem?_getD, List.getElem?_eq_getElem h]; rfl

def TakeRel (l : List Int) (y : Int) (k : Nat) : Prop := y < 128 ^ k ∧ tgo (9 - k) k y (l.drop k) = tkv l

theorem take_start (l : List Int) (hB : isB l) : TakeRel l 0 0 := ⟨by decide, by rw [List.drop_zero]; exact tgo_top l hB⟩
theorem take_more (l : List Int) (y : Int) (k : Nat) (hk : k < l.length) (h9 : k < 9) (hc : 128 ≤ l.getD k 0) (hc2 : l.getD k 0 ≤ 255) (h0 : 0 ≤ y) (h : TakeRel l y k) :
    bits .or .i64 y (wrap64 (l.getD k 0 % 128 * 2 ^ (7 * k))) = y + (l.getD k 0 - 128) * 128 ^ k ∧ TakeRel l (y + (l.getD k 0 - 128) * 128 ^ k) (k + 1) ∧ 0 ≤ y + (l.getD k 0 - 128) * 128 ^ k := by
  obtain ⟨h1, h2⟩ := h
  have e : l.getD k 0 % 128 = l.getD k 0 - 128 := by omega
  rw [e]
  have o := or_step k y (l.getD k 0 - 128) (by omega) h0 h1 (by omega) (by omega)
  refine ⟨o.1, ⟨o.2.1, ?_⟩, o.2.2⟩
  rw [drop_cons l k hk, show 9 - k = (9 - (k + 1)) + 1 by omega, tgo, if_pos hc] at h2
  exact h2
theorem take_zero (l : List Int) (y : Int) (k : Nat) (hk : k < l.length) (h9 : k < 9) (hc : l.getD k 0 = 0) (hp : 0 < k) (h : TakeRel l y k) : tkv l = (0, 0) := by
  obtain ⟨h1, h2⟩ := h
  rw [drop_cons l k hk, show 9 - k = (9 - (k + 1)) + 1 by omega, tgo, if_neg (by omega), if_pos ⟨hc, hp⟩] at h2
  exact h2.symm
theorem take_last (l : List Int) (y : Int) (k : Nat) (hk : k < l.length) (h9 : k < 9) (hc0 : 0 ≤ l.getD k 0) (hc : l.getD k 0 < 128) (hp : ¬ (l.getD k 0 = 0 ∧ 0 < k)) (h0 : 0 ≤ y) (h : TakeRel l y k) :
    tkv l = (y + l.getD k 0 * 128 ^ k, k + 1) ∧ bits .or .i64 y (wrap64 (l.getD k 0 * 2 ^ (7 * k))) = y + l.getD k 0 * 128 ^ k := by
  obtain ⟨h1, h2⟩ := h
  have o := or_step k y (l.getD k 0) (by omega) h0 h1 (by omega) (by omega)
  rw [drop_cons l k hk, show 9 - k = (9 - (k + 1)) + 1 by omega, tgo, if_neg (by omega), if_neg hp] at h2
  exact ⟨h2.symm, o.1⟩
theorem take_end (l : List Int) (y : Int) (k : Nat) (hk : ¬ k < l.length ∨ ¬ k < 9) (h : TakeRel l y k) : tkv l = (0, 0) := by
  obtain ⟨h1, h2⟩ := h
  rw [← h2]
  cases hn : 9 - k with
  | zero => rfl
  | succ n =>
    have : l.drop k = [] := by rw [List.drop_eq_nil_iff]; omega
    rw [this]; rfl

set_option maxHeartbeats 400000 in
theorem take_row (b off len cap : Nat) (l : List Int) (w : World) (hl : l.length = len) (hlc : len ≤ cap) (hcap : len ≤ 4611686018427387904) (hB : isB l)
    (hc : ∀ i, i < len → w.cell? ⟨b, off + i, none⟩ = some (.int .u8 (l.getD i 0))) :
    Calls Tryd.prog 30 #[.slice (some ⟨b, off, none⟩) len cap] w fun e w' => e = .returned (.tuple #[.int .i64 (tkv l).1, .int .i64 ((tkv l).2 : Nat)]) ∧ w = w' := by
  have hl' := Lib.hid hl
  have hB' := Lib.hid hB
  clear hl hB
  have HS := Lib.hid (take_start l hB'.out)
  by_cases h9 : len ≤ 9
  all_goals
    go_enter Tryd.func30, Tryd.ntmps30
    go_wp2
    go_loop [4, 5, 6, 13] (fun x i c j => ∃ (y : Int) (k : Nat), x = .int .i64 y ∧ j = .int .i64 k ∧ 0 ≤ y ∧ k ≤ 9 ∧ k ≤ len ∧ TakeRel l y k) (fun _ _ _ j => 9 - (intOf j).toNat)
    case atStart => exact ⟨0, 0, rfl, rfl, by omega, by omega, by omega, HS.out⟩
    case round =>
      obtain ⟨y, k, rfl, rfl, h0, h1, h2, hR⟩ := hrel
      have HR := Lib.hid hR
      clear hR HS
      by_cases hk : k < len ∧ k < 9
      · obtain ⟨hk1, hk2⟩ := hk
        have hm := hB'.out _ (getD_mem l k (by rw [hl'.out]; exact hk1))
        have hcx := hc k hk1
        have T1 := Lib.hid (take_more l y k (by rw [hl'.out]; exact hk1) hk2)
        have T2 := Lib.hid (take_zero l y k (by rw [hl'.out]; exact hk1) hk2)
        have T3 := Lib.hid (take_last l y k (by rw [hl'.out]; exact hk1) hk2)
        obtain ⟨c, hcc⟩ : ∃ c, c = l.getD k 0 := ⟨_, rfl⟩
        rw [← hcc] at hcx hm T1 T2 T3
        clear hcc hc
        obtain ⟨hm1, hm2⟩ := hm
        by_cases hc1 : 128 ≤ c
        · go_wp2
          go_round
          case rel =>
            have t := T1.out hc1 hm2 h0 HR.out
            exact ⟨_, k + 1, by rw [t.1], by go_num, t.2.2, by omega, by omega, t.2.1⟩
          case measure => simp [intOf]; omega
        · by_cases hc2 : c = 0 ∧ 0 < k
          · obtain ⟨hc2, hc3⟩ := hc2
            have t := Lib.hid (T2.out hc2 hc3 HR.out)
            subst hc2
            go_wp2
            go_ret2
            exact ⟨by rw [t.out]; rfl, rfl⟩
          · have t := Lib.hid (T3.out hm1 (by omega) hc2 h0 HR.out)
            by_cases hc3 : c = 0
            · have hc4 : ¬ 0 < k := by omega
              subst hc3
              have t0 := t.out
              simp [wrap64] at t0
              have t := Lib.hid t0
              clear t0
              go_wp2
              go_ret2
              refine ⟨?_, rfl⟩
              have e1 := t.out.1
              have e2 := t.out.2
              simp [e1, e2]
            · go_wp2
              go_ret2
              refine ⟨?_, rfl⟩
              have e1 := t.out.1
              have e2 := t.out.2
              simp [e1]
              rw [show c % 128 = c by omega]; exact e2
      · have t := Lib.hid (take_end l y k (by rw [hl'.out]; omega) HR.out)
        go_wp2
        go_ret2
        exact ⟨by rw [t.out]; rfl, rfl⟩

/-- An empty slice begins with no number. -/
theorem take_empty (a : Option Addr) (cap : Nat) (w : World) :
    Calls Tryd.prog 30 #[.slice a 0 cap] w fun e w' => e = .returned (.tuple #[.int .i64 0, .int .i64 0]) ∧ w = w' := by
  go_enter Tryd.func30, Tryd.ntmps30
  go_wp2
  refine wp_loop_rounds 1 ?_
  rw [rounds_succ]
  go_wp2
  go_ret2
  exact ⟨rfl, rfl⟩

theorem take_any (A : Option Addr) (n c : Nat) (l : List Int) (w : World) (B : Nat) (h : Reads w B 1 A n (bts l)) (hB : isB l) (hc : n ≤ c) (hn : n ≤ 4611686018427387904) :
    Calls Tryd.prog 30 #[.slice A n c] w fun e w' => e = .returned (.tuple #[.int .i64 (tkv l).1, .int .i64 ((tkv l).2 : Nat)]) ∧ w = w' := by
  have hl : l.length = n := by have := h.1; simp at this; exact this
  by_cases h0 : 0 < n
  · obtain ⟨b, off, rfl, hb, hcell⟩ := h.u8 h0
    exact take_row b off n c l w hl hc hn hB hcell
  · obtain rfl : n = 0 := by omega
    have : l = [] := List.length_eq_zero_iff.1 hl
    subst this
    exact take_empty A c w
end Go.Proofs.YtmegpbejknmjbaaDoor.Pk
