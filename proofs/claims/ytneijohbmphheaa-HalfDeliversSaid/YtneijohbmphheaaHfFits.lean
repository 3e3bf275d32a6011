/- The landed Fits of package half. -/
import Derived.Test.YtneijohbmphheaaHfGood
namespace Go.Proofs.Ytneijohbmphheaa.Pk
open Go.RowKit
set_option linter.unusedVariables false
set_option maxRecDepth 100000 in
set_option maxHeartbeats 4000000 in
theorem fitsH : FitsH := by
  intro h q A n c w hin iq jq
  obtain ⟨p, b, o, s⟩ := h
  have HG := Lib.hid (fun w' (hb : Below w.heap.size w w') => goodH _ A n c w' (hin.next hb))
  obtain ⟨-, -, ⟨is_, js⟩, -⟩ := hin.i
  unfold Hf.val at HG ⊢
  simp only at HG is_ js ⊢
  clear hin
  obtain ⟨r, hr⟩ : ∃ r, r = hfits ⟨p, b, o, s⟩ q := ⟨_, rfl⟩
  rw [← hr]
  have HS := Lib.hid hr
  clear hr
  by_cases hbe : Hf.Be ⟨p, b, o, s⟩
  case neg =>
    have hrf : r = false := by rw [HS.out]; exact decide_eq_false (fun h => hbe h.1)
    subst hrf
    rw [decide_eq_false hbe] at HG
    clear hbe HS
    go_enter Try.func20, Try.ntmps20
    go_wp2_with fail
    refine (HG.out _ ((Below.refl _ w).alloc (Nat.le_refl _) _)).mono ?_
    rintro e w2 ⟨rfl, hb⟩
    have HB : Hid (Below w.heap.size w w2) := Lib.hid (((Below.refl _ w).alloc (Nat.le_refl _) _).trans (hb.mono (by simp)))
    clear hb
    go_wp2
    go_ret
    exact ⟨rfl, HB.out⟩
  case pos =>
  rw [decide_eq_true hbe] at HG
  have hs9 : 0 ≤ s ∧ s ≤ 1099511627776 := ⟨hbe.2.2.2.1, hbe.2.2.2.2.1⟩
  have HBe := Lib.hid hbe
  clear hbe
  by_cases hs : s < 1099511627776
  case neg =>
    have hrf : r = false := by rw [HS.out]; exact decide_eq_false (fun h => hs h.2.1)
    subst hrf
    have t1 : decide (s < 1099511627776) = false := decide_eq_false hs
    clear hs HS
    go_enter Try.func20, Try.ntmps20
    go_wp2_with fail
    refine (HG.out _ ((Below.refl _ w).alloc (Nat.le_refl _) _)).mono ?_
    rintro e w2 ⟨rfl, hb⟩
    have hk : Blk w2 w.heap.size 24 #[.int .i64 p, .int .i64 b, .slice A n c, .int .i64 s] := (Blk.new w _ _).below hb (by simp)
    have c3 : w2.cell? ⟨w.heap.size, 3, none⟩ = some (.int .i64 s) := hk.cell 3
    have HB : Hid (Below w.heap.size w w2) := Lib.hid (((Below.refl _ w).alloc (Nat.le_refl _) _).trans (hb.mono (by simp)))
    clear hb hk
    go_wp2
    go_ret
    exact ⟨rfl, HB.out⟩
  case pos =>
  have t1 : decide (s < 1099511627776) = true := decide_eq_true hs
  have hw : IntKind.i64.wrap (s + 1) = s + 1 := IntWalk.i64_in _ (by omega)
  have HRt : Hid (r = (q == s + 1)) := Lib.hid (by
    rw [HS.out]
    unfold hfits
    by_cases hq : q = s + 1
    · rw [decide_eq_true (by exact ⟨HBe.out, hs, hq⟩)]; simpa using hq
    · rw [decide_eq_false (by rintro ⟨_, _, h⟩; exact hq h)]; symm; simpa using hq)
  have hs1 : s + 1 ≤ 1099511627776 := by omega
  clear hs HS
  go_enter Try.func20, Try.ntmps20
  go_wp2_with fail
  refine (HG.out _ ((Below.refl _ w).alloc (Nat.le_refl _) _)).mono ?_
  rintro e w2 ⟨rfl, hb⟩
  have hk : Blk w2 w.heap.size 24 #[.int .i64 p, .int .i64 b, .slice A n c, .int .i64 s] := (Blk.new w _ _).below hb (by simp)
  have c3 : w2.cell? ⟨w.heap.size, 3, none⟩ = some (.int .i64 s) := hk.cell 3
  have HB : Hid (Below w.heap.size w w2) := Lib.hid (((Below.refl _ w).alloc (Nat.le_refl _) _).trans (hb.mono (by simp)))
  clear hb hk
  go_wp2
  go_ret
  exact ⟨by rw [HRt.out]; rfl, HB.out⟩
end Go.Proofs.Ytneijohbmphheaa.Pk
