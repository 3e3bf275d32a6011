/- The document's answer for trees (fletchref04): Neighbours. -/
import Derived.Test.YtohlgimbohkepaaGrRef
import Derived.Test.YtohlgimbohkepaaNums
import Derived.Lib.Hide
import Derived.Outline
import Derived.Deep.QuietTactic
import Derived.BigQuiet
import Derived.Deep.DeepMust
import Derived.LoopTactic
namespace Go.Proofs.Ytohlgimbohkepaa.Pk
open Go.RowKit Go.Proofs.Ytohlgimbohkepaa.Gr
set_option linter.unusedVariables false

/-- The neighbours of v below k. -/
def nbs (ps : List Int) (v k : Nat) : List Int := List.map (fun u : Nat => (u : Int)) (List.filter (fun u : Nat => nearL ps u v) (List.range k))
theorem nbs_succ (ps : List Int) (v k : Nat) : nbs ps v (k + 1) = if nearL ps k v = true then nbs ps v k ++ [(k : Int)] else nbs ps v k := by
  unfold nbs
  rw [List.range_succ, List.filter_append, List.map_append]
  by_cases h : nearL ps k v = true
  · rw [if_pos h]; simp [h]
  · rw [if_neg h]; simp [h]
theorem nbs_len (ps : List Int) (v k : Nat) : (nbs ps v k).length ≤ k := by
  unfold nbs
  rw [List.length_map]
  exact Nat.le_trans (List.length_filter_le _ _) (by simp)
def nbsI (ps : List Int) (v : Int) : List Int := if 0 ≤ v ∧ v < (ps.length : Int) then nbs ps v.toNat ps.length else []

set_option maxHeartbeats 2000000 in
theorem nbs_any (A : Option Addr) (n c : Nat) (ps : List Int) (v : Int) (w : World) (B : Nat) (hr : Reads w B 1 A n (nms ps)) (hB : B ≤ w.heap.size) (hn : n ≤ 1099511627776) :
    Calls Try.prog 21 #[.slice A n c, .int .i64 v] w fun e w' => ∃ x, e = .returned x ∧ OwnN w' w.heap.size x (nbsI ps v) ∧ Below w.heap.size w w' := by
  have HL := Lib.hid hr.plen
  have HR := Lib.hid hr
  clear hr
  go_enter Try.func21, Try.ntmps21
  by_cases h1 : v < 0
  · have HE : Hid (nbsI ps v = []) := Lib.hid (if_neg (by omega))
    go_wp2
    go_ret
    exact ⟨_, rfl, by rw [HE.out]; exact OwnN.none_ _ _, Below.refl _ _⟩
  · by_cases h2 : v < (n : Int)
    · obtain ⟨m, rfl⟩ : ∃ m : Nat, v = (m : Int) := ⟨v.toNat, by omega⟩
      have hm : m < n := by omega
      have HE : Hid (nbsI ps (m : Int) = nbs ps m n) := Lib.hid (by unfold nbsI; rw [if_pos (by rw [HL.out]; omega), HL.out]; rfl)
      have h2' : ¬ (n : Int) ≤ (m : Int) := by omega
      have HM := Lib.hid hm
      clear h1
      go_wp2
      go_loopw [5, 6] (fun x j wr => ∃ i : Nat, j = .int .i64 i ∧ i ≤ n ∧ OwnN wr w.heap.size x (nbs ps m i) ∧ Below w.heap.size w wr) (fun _ j _ => n - (intOf j).toNat)
      case atStart => exact ⟨0, rfl, by omega, OwnN.none_ _ _, Below.refl _ _⟩
      case round =>
        obtain ⟨i, rfl, hi, hown, hb⟩ := hrel
        obtain ⟨w1, rfl⟩ : ∃ w1 : World, w1 = wr := ⟨_, rfl⟩
        have HO := Lib.hid hown
        have HBw := Lib.hid hb
        clear hown hb
        by_cases hlt : i < n
        · have HS := Lib.hid (nbs_succ ps m i)
          have HLn := Lib.hid (nbs_len ps m i)
          by_cases hne : nearL ps i m = true
          · have HN : Hid (nbs ps m (i + 1) = nbs ps m i ++ [(i : Int)]) := Lib.hid (by rw [HS.out, if_pos hne])
            go_wp2_with (first
              | (go_at_call 27; go_must (refine (near_any A n c ps i m w1 B (HR.out.below (HBw.out.mono hB)) hlt HM.out).mono ?_); rintro e w2 ⟨rfl, rfl⟩; rw [hne])
              | (at_builtin; refine appN w2 (i : Int) _ rfl (.tmp 26) (.tmp 28) rfl w.heap.size _ (nbs ps m i) rfl HO.out w2.heap.size rfl rfl (by have := HLn.out; omega) HBw.out.size ?_; intro v3 w3 hown3 hb3 _; have HO3 := Lib.hid hown3; have HB3 := Lib.hid (HBw.out.trans hb3); clear hown3 hb3))
            go_roundw
            case rel => exact ⟨i + 1, by go_num, by omega, by rw [HN.out]; exact HO3.out, HB3.out⟩
            case measure => simp [intOf]; omega
          · have hne' : nearL ps i m = false := by simpa using hne
            have HN : Hid (nbs ps m (i + 1) = nbs ps m i) := Lib.hid (by rw [HS.out, if_neg hne])
            go_wp2_with (go_at_call 27; go_must (refine (near_any A n c ps i m w1 B (HR.out.below (HBw.out.mono hB)) hlt HM.out).mono ?_); rintro e w2 ⟨rfl, rfl⟩; rw [hne'])
            go_roundw
            case rel => exact ⟨i + 1, by go_num, by omega, by rw [HN.out]; exact HO.out, HBw.out⟩
            case measure => simp [intOf]; omega
        · have HF : Hid (nbsI ps (m : Int) = nbs ps m i) := Lib.hid (by rw [HE.out]; congr 1; omega)
          go_wp2
          go_ret
          exact ⟨_, rfl, by rw [HF.out]; exact HO.out, HBw.out⟩
    · have HE : Hid (nbsI ps v = []) := Lib.hid (if_neg (by rw [HL.out]; omega))
      have h2' : (n : Int) ≤ v := by omega
      go_wp2
      go_ret
      exact ⟨_, rfl, by rw [HE.out]; exact OwnN.none_ _ _, Below.refl _ _⟩
end Go.Proofs.Ytohlgimbohkepaa.Pk
