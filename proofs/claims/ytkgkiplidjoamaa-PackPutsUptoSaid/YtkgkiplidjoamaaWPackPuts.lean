/- The walk of the law PackPuts: Put and Size answer as the document's answer does. -/
import Derived.Test.YtkgkiplidjoamaaPackWakes
import Derived.Test.YtkgkiplidjoamaaPackRef
import Derived.Test.YtkgkiplidjoamaaArgs
namespace Go.Proofs.Ytkgkiplidjoamaa.Pk
open Go.RowKit Go.Proofs.Ytkgkiplidjoamaa.Ar
set_option linter.unusedVariables false

theorem encmax_len (x : Int) : (enc 8 (max x 0)).length = (enc 8 x).length := by
  by_cases h : 0 ≤ x
  · rw [Int.max_eq_left h]
  · rw [Int.max_eq_right (by omega), enc_lo _ (show x < 128 by omega), enc_lo _ (show (0 : Int) < 128 by omega)]; rfl

set_option maxHeartbeats 1600000 in
theorem law_PackPuts (a : Option Addr) (n c : Nat) (l : List Int) (b : Option Addr) (m d : Nat) (xs : List Int) (w : World) (h : ArgB w a n c l) (hx : ArgN w b m d xs) (hu : n + m ≤ 1048576) :
    Calls Try.prog 3 #[.slice a n c, .slice b m d] w fun e w' => e = .returned (.bool true) ∧ Below w.heap.size w w' := by
  obtain ⟨hr, hnc, hc, hB⟩ := h
  obtain ⟨hrx, hmd, hd, hX⟩ := hx
  have HL : Hid (l.length = n) := by have := hr.1; simp at this; exact this
  have HM : Hid (xs.length = m) := by have := hrx.1; simp at this; exact this
  have HB := Lib.hid hB
  have HR := Lib.hid hr
  have HX := Lib.hid hX
  have HRX := Lib.hid hrx
  clear hB hr hrx hX hc hd
  go_enter Try.func3, Try.ntmps3
  go_wp2_with fail
  refine (wakes_any w).mono ?_
  rintro e w1 ⟨rfl, hb⟩
  go_wp2_with (at_builtin; refine appE w1 rfl (.tmp 10) (.tmp 11) rfl w.heap.size rfl w.heap.size a c l n rfl (HR.out.below hb) hb.size (by omega) hb.size ?_; intro v2 w2 hown2 hb2)
  have hb3 := hb.trans hb2
  have hv : ValB w2 v2 (l ++ encs (xs.take 0)) := by rw [List.take_zero, encs_nil, List.append_nil]; exact hown2.val
  clear hown2 hb hb2
  go_loopw [5, 7, 15] (fun v x j wr => ∃ k : Nat, j = .int .i64 k ∧ k ≤ m ∧ ValB wr v (l ++ encs (xs.take k)) ∧ Below w.heap.size w wr) (fun _ _ j _ => m - (intOf j).toNat)
  case atStart => exact ⟨0, rfl, by omega, hv, hb3⟩
  case round =>
    clear hv hb3
    obtain ⟨k, rfl, hk, ⟨A, q, cc, rfl, hqc, hq, hrv⟩, hbel⟩ := hrel
    have HQ := Lib.hid hq
    have HRV := Lib.hid hrv
    have HEL := encs_take_len xs k
    have hqb : q ≤ n + 9 * k := by rw [← hq, List.length_append, HL.out]; omega
    clear hq hrv HEL
    obtain ⟨wo, rfl⟩ : ∃ wo : World, wo = wr := ⟨_, rfl⟩
    by_cases hlt : k < m
    · obtain ⟨b', off, rfl, hbb, hcell⟩ := HRX.out.i64 (by omega)
      have hcx := (hbel.cell (p := ⟨b', off + k, none⟩) hbb).trans (hcell k hlt)
      have hxw := HX.out (xs.getD k 0) (by rw [List.getD_eq_getElem?_getD, List.getElem?_eq_getElem (by rw [HM.out]; exact hlt)]; exact List.getElem_mem _)
      have HS := Lib.hid (encs_snoc xs k (by rw [HM.out]; exact hlt))
      obtain ⟨x, hxx⟩ : ∃ x, x = xs.getD k 0 := ⟨_, rfl⟩
      rw [← hxx] at hcx hxw HS
      clear hxx hcell
      obtain ⟨hx1, hx2⟩ := hxw
      go_wp2_with fail
      refine (refput_any A q cc _ x wo HRV.out (by omega) hx2).mono ?_
      rintro e w3 ⟨v3, rfl, hown3, hb3⟩
      have hval3 := hown3.val
      have hbel3 := hbel.trans (hb3.mono hbel.size)
      clear hown3
      go_wp2_with fail
      refine (size_any x w3 hx2).mono ?_
      rintro e w4 ⟨rfl, rfl⟩
      go_wp2_with fail
      refine (refput_any none 0 0 [] x w3 Reads.none_ (by omega) hx2).mono ?_
      rintro e w4 ⟨v4, rfl, hown4, hb4⟩
      obtain ⟨A4, n4, c4, rfl, hc4, hn4, hr4⟩ := hown4.val
      have hn4' : n4 = (enc 8 x).length := by rw [← hn4]; simp [encmax_len]
      subst hn4'
      have hne : (((enc 8 x).length : Int) != ((enc 8 x).length : Int)) = false := by simp
      clear hn4 hown4 hr4
      have hbel4 := hbel3.trans (hb4.mono hbel3.size)
      go_wp2
      go_roundw
      case rel =>
        obtain ⟨A3, n3, c3, rfl, hc3, hn3, hr3⟩ := hval3
        refine ⟨k + 1, by go_num, by omega, ⟨A3, n3, c3, rfl, hc3, ?_, ?_⟩, hbel4⟩
        · rw [HS.out, ← List.append_assoc]; exact hn3
        · rw [HS.out, ← List.append_assoc]; exact (hr3.below hb4).more hb4.size
      case measure => simp [intOf]; omega
    · have e : xs.take k = xs := List.take_of_length_le (by rw [HM.out]; omega)
      rw [e] at HQ HRV
      clear e
      go_wp2_with fail
      refine (put_any a b n c m d l xs wo ((HR.out.below hbel).more hbel.size) ((HRX.out.below hbel).more hbel.size) (by omega) hmd (fun x hx => (HX.out x hx).2)).mono ?_
      rintro e w5 ⟨v5, rfl, hown5, hb5⟩
      obtain ⟨A5, n5, c5, rfl, hc5, hn5, hr5⟩ := hown5.val
      have hq := HQ.out
      rw [hn5] at hq
      subst hq
      have hbel5 := hbel.trans (hb5.mono hbel.size)
      go_wp2_with fail
      refine (same_any A5 A n5 c5 n5 cc _ _ w5 _ _ hr5 (HRV.out.below hb5) (by omega)).mono ?_
      rintro e w6 ⟨rfl, kk, rfl⟩
      rw [decide_eq_true rfl]
      go_wp2
      go_ret
      exact ⟨rfl, below_drewN hbel5 _⟩
end Go.Proofs.Ytkgkiplidjoamaa.Pk
