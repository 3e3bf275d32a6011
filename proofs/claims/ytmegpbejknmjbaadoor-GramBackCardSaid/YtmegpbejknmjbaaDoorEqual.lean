/- bytes.Equal: two slices' bytes compared. -/
import Derived.Test.YtmegpbejknmjbaaDoorBytes
import Derived.Lib.SlBytesConst
import Derived.ShutString
import Derived.WideShapes
import Derived.Laws.BytesArg
import Derived.Outline
import Derived.Lib.Hide
import Derived.BigQuiet
namespace Go.Proofs.YtmegpbejknmjbaaDoor.Pk
open Go.RowKit
set_option linter.unusedVariables false
/-- The text of the bytes that a slice reads as. -/
theorem conv_g {w : World} {B n : Nat} {A : Option Addr} {l : List Int} (h : Reads w B 1 A n (bts l)) (c : Nat) : (convert 22 9 (.slice A n c)).run Tryd.prog w = .ok (.string (strOfNums l)) w := by
  have hlen : l.length = n := by have := h.1; simp at this; exact this
  rcases A with _ | ad
  · have h0 := h.nil rfl
    subst h0
    obtain rfl : l = [] := List.length_eq_zero_iff.1 hlen
    exact run_convert_bytes_nil w 22 5 Tryd.underlying22 Tryd.underlying5 0 c 9 Tryd.underlying9
  · have hl : (loadCells ad n).run Tryd.prog w = .ok (l.map (Value.int .u8)).toArray w := by
      have := run_loadCells_list (P := Tryd.prog) w ad (l.map (Value.int .u8)) (fun j v hj => by
        have hjn : 0 < n := by
          rcases Nat.eq_zero_or_pos n with h1 | h1
          · obtain rfl : l = [] := List.length_eq_zero_iff.1 (by omega)
            simp at hj
          · exact h1
        obtain ⟨ad', e, _, hc⟩ := h.2 hjn
        injection e with e
        subst e
        exact hc j v hj)
      simpa [hlen] using this
    rw [run_convert_bytes_string w 22 9 5 _ n c Tryd.underlying22 Tryd.underlying5 Tryd.underlying9, run_bytesToString w _ n c l hl, foldl_push_bytes]
    simp [strOfNums, ByteArray.empty, ByteArray.emptyWithCapacity]
    rfl

theorem map_inj_nums {f : Int → UInt8} (hf : ∀ x y : Int, 0 ≤ x ∧ x ≤ 255 → 0 ≤ y ∧ y ≤ 255 → f x = f y → x = y) : ∀ {l r : List Int}, (∀ x ∈ l, 0 ≤ x ∧ x ≤ 255) → (∀ x ∈ r, 0 ≤ x ∧ x ≤ 255) → l.map f = r.map f → l = r
  | [], [], _, _, _ => rfl
  | [], _ :: _, _, _, e => by cases e
  | _ :: _, [], _, _, e => by cases e
  | x :: l, y :: r, hl, hr, e => by
    injection e with e1 e2
    rw [hf x y (hl x (by simp)) (hr y (by simp)) e1, map_inj_nums hf (fun z hz => hl z (by simp [hz])) (fun z hz => hr z (by simp [hz])) e2]
/-- Two texts are the same just if their bytes are. -/
theorem nums_str {l r : List Int} (hl : ∀ x ∈ l, 0 ≤ x ∧ x ≤ 255) (hr : ∀ x ∈ r, 0 ≤ x ∧ x ≤ 255) : ((strOfNums l).toList == (strOfNums r).toList) = decide (l = r) := by
  have hinj : strOfNums l = strOfNums r ↔ l = r := by
    refine ⟨fun e => ?_, fun e => by rw [e]⟩
    have e1 := congrArg (fun b : ByteArray => b.data.toList) e
    simp only [strOfNums_data] at e1
    refine map_inj_nums (fun x y hx hy h => ?_) hl hr e1
    have h2 := congrArg UInt8.toNat h
    simp only [UInt8.toNat_ofNat'] at h2
    omega
  by_cases h : l = r
  · subst h
    simp
  · rw [decide_eq_false h, beq_eq_false_iff_ne]
    intro e
    rw [ByteArray.toList_eq, ByteArray.toList_eq] at e
    exact h (hinj.1 (WideShapes.bytes_inj e))
theorem equal_any (A A' : Option Addr) (n c n' c' : Nat) (l r : List Int) (w : World) (B B' : Nat) (hl : Reads w B 1 A n (bts l)) (hr : Reads w B' 1 A' n' (bts r)) (hbl : ∀ x ∈ l, 0 ≤ x ∧ x ≤ 255) (hbr : ∀ x ∈ r, 0 ≤ x ∧ x ≤ 255) :
    Calls Tryd.prog 36 #[.slice A n c, .slice A' n' c'] w fun e w' => e = .returned (.bool (decide (l = r))) ∧ w' = w := by
  have HE := Lib.hid (nums_str hbl hbr)
  obtain ⟨tl, htl⟩ : ∃ t, t = strOfNums l := ⟨_, rfl⟩
  obtain ⟨tr, htr⟩ : ∃ t, t = strOfNums r := ⟨_, rfl⟩
  have k1 : ∀ q, (convert 22 9 (.slice A n c)).run Tryd.prog (w.drewN q) = .ok (.string tl) (w.drewN q) := fun q => by rw [htl]; exact conv_g (hl.drewN q) c
  have k2 : ∀ q, (convert 22 9 (.slice A' n' c')).run Tryd.prog (w.drewN q) = .ok (.string tr) (w.drewN q) := fun q => by rw [htr]; exact conv_g (hr.drewN q) c'
  have k3 : (convert 22 9 (.slice A n c)).run Tryd.prog w = .ok (.string tl) w := k1 0
  have k4 : (convert 22 9 (.slice A' n' c')).run Tryd.prog w = .ok (.string tr) w := k2 0
  rw [← htl, ← htr] at HE
  clear htl htr hl hr hbl hbr
  go_enter Tryd.func36, Tryd.ntmps36
  go_wp2_with fail
  rw [HE.out]
  go_ret
  exact ⟨rfl, rfl⟩
end Go.Proofs.YtmegpbejknmjbaaDoor.Pk
