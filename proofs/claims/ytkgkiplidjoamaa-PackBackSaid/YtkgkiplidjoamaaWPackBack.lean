/- The walk of the law PackBack: what was put is taken, whatever stands behind; what is taken are the very bytes that Put makes. -/
import Derived.Test.YtkgkiplidjoamaaPackWakes
import Derived.Test.YtkgkiplidjoamaaPackRefMath
import Derived.Test.YtkgkiplidjoamaaArgs
import Derived.Deep.QuietTactic
import Derived.BigQuiet
import Derived.Deep.RegionHeld3
import Derived.Deep.DeepMust
namespace Go.Proofs.Ytkgkiplidjoamaa.Pk
open Go.RowKit Go.Proofs.Ytkgkiplidjoamaa.Ar
set_option linter.unusedVariables false

theorem tkv_put (x : Int) (l : List Int) (h0 : 0 ≤ x) (h1 : x ≤ 9223372036854775807) : tkv (enc 8 x ++ l) = (x, (enc 8 x).length) := by
  unfold tkv; rw [tk_enc 8 x l h0 (fits_top x h1)]; rfl
theorem encs_one (x : Int) (h : 0 ≤ x) : encs [x] = enc 8 x := by
  have : encs [x] = enc 8 (max x 0) ++ [] := rfl
  rw [this, List.append_nil, Int.max_eq_left h]

set_option maxHeartbeats 1600000 in
theorem law_PackBack (x : Int) (a : Option Addr) (n c : Nat) (l : List Int) (w : World) (hx : -9223372036854775808 ≤ x ∧ x ≤ 9223372036854775807) (h : ArgB w a n c l) :
    Calls Try.prog 5 #[.int .i64 x, .slice a n c] w fun e w' => e = .returned (.bool true) ∧ Below w.heap.size w w' := by
  obtain ⟨hr, hnc, hc, hB⟩ := h
  obtain ⟨hx1, hx2⟩ := hx
  have HB := Lib.hid hB
  have HR := Lib.hid hr
  clear hB hr
  go_enter Try.func5, Try.ntmps5
  go_wp2_with fail
  refine (wakes_any w).mono ?_
  rintro e w1 ⟨rfl, hb⟩
  by_cases hx0 : 0 ≤ x
  case' pos =>
    have HE := Lib.hid (encs_one x hx0)
    have hl1 := enc_len_pos 8 x
    have hl2 := enc_len_le 8 x
    go_wp2_with fail
    refine (put_any none _ 0 0 1 1 [] [x] _ Reads.none_ (reads_at _ _ (by simp) _ _ _ 1 (nms [x]) rfl rfl (by simp)) (by omega) (by omega) (by simp; exact hx2)).mono ?_
    rw [HE.out, List.nil_append]
    rintro e w2 ⟨v2, rfl, hown2, hb2⟩
    obtain ⟨A2, n2, c2, rfl, hc2, hn2, hr2⟩ := hown2.val
    subst hn2
    have hbel2 : Below w.heap.size w w2 := (hb.alloc hb.size _).trans (hb2.mono (by have := hb.size; simp; omega))
    clear hb2
    go_wp2_with (at_builtin; refine appCut w2 rfl (.tmp 23) (.tmp 24) rfl w2.heap.size A2 _ (enc 8 x) rfl hr2 hr2.nil w.heap.size a n c l rfl (HR.out.below hbel2) (by omega) (Nat.le_refl _) ?_; intro v3 w3 hv3 hb3; obtain ⟨A3, n3, c3, rfl, hc3, hn3, hr3⟩ := hv3)
    have hn3' : n3 = (enc 8 x).length + n := by rw [← hn3, List.length_append]; have := HR.out.1; simp at this; omega
    refine (take_any A3 n3 c3 _ w3 _ hr3 (fun y hy => ?_) hc3 (by omega)).mono ?_
    · rcases List.mem_append.1 hy with h | h
      · exact enc_isB 8 x hx0 (fits_top x hx2) y h
      · exact HB.out y h
    rw [tkv_put x l hx0 hx2]
    rintro e w4 ⟨rfl, rfl⟩
    have hbel3 := hbel2.trans (hb3.mono hbel2.size)
    clear hb3 hr3 hn3 hn3' hc3 hr2
    have t1 : (x != x) = false := by simp
    have t2 : (((enc 8 x).length : Int) != ((enc 8 x).length : Int)) = false := by simp
    go_wp2_with fail
    refine (size_any x w3 hx2).mono ?_
    rintro e w4 ⟨rfl, rfl⟩
    obtain ⟨wt, rfl⟩ : ∃ wt : World, wt = w3 := ⟨_, rfl⟩
    have hbt := hbel3
    clear hbel3 hbel2 HE hb
  case' neg =>
    obtain ⟨wt, rfl⟩ : ∃ wt : World, wt = w1 := ⟨_, rfl⟩
    have hbt := hb
    clear hb
  all_goals
    go_wp2_with fail
    refine (take_any a n c l wt w.heap.size (HR.out.below hbt) HB.out hnc (by omega)).mono ?_
    rcases tkv_cases l HB.out with ht | ⟨y, k, ht, hy0, hy1, hk1, hk2, hk9, hyk⟩
    · rw [ht]
      rintro e w5 ⟨rfl, rfl⟩
      go_wp2
      go_ret
      exact ⟨rfl, hbt⟩
    · rw [ht]
      rintro e w5 ⟨rfl, rfl⟩
      have hk3 : k ≤ n := by have := HR.out.1; simp at this; omega
      have HY := Lib.hid hyk
      clear hyk ht hk2
      have HP := Lib.hid (encs_one y hy0)
      have hsz := hbt.size
      go_wp2
      have d1 : decide ((0 : Int) ≤ y) = true := by simp; omega
      have d2 : decide ((0 : Int) < (k : Int)) = true := by simp; omega
      have d3 : decide ((k : Int) ≤ (n : Int)) = true := by simp; omega
      have d4 : decide (0 < k) = true := by simp; omega
      have d5 : decide (k ≤ n) = true := by simp; omega
      have b4 : (k : Int) ≤ (c : Int) := by omega
      have b1 : (0 : Int) ≤ (k : Int) := by omega
      have b2 : (k : Int) ≤ (n : Int) := by omega
      have b3 : (0 : Int) < (k : Int) := by omega
      have hyw : ∀ z ∈ [y], z ≤ 9223372036854775807 := fun z hz => by rw [List.mem_singleton] at hz; rw [hz]; exact hy1
      have HYW := Lib.hid hyw
      clear hyw
      go_region_held3 (fun w' => True) (trivial) (first
        | (go_at_call 15; go_must (refine (put_any none _ 0 0 1 1 [] [y] _ Reads.none_ (reads_topd _ _ _ 1 (nms [y]) rfl rfl) (by omega) (by omega) HYW.out).mono ?_); rw [HP.out, List.nil_append]; rintro e w6 ⟨v6, rfl, hown6, hb6⟩; obtain ⟨A6, n6, c6, rfl, hc6, hn6, hr6⟩ := hown6.val; subst hn6; have hbel6 : Below w.heap.size w w6 := ((hbt.alloc hsz _).drew).trans (hb6.mono (show w.heap.size ≤ (wt.alloc _).heap.size by simp; omega)))
        | (go_at_call 14; go_must (refine (same_any A6 a _ c6 k c _ (l.take k) _ _ _ hr6 (Reads.take ((HR.out.below hbel6).drew) hk3) (by have := enc_len_le 8 y; omega)).mono ?_); rintro e w7 ⟨rfl, kk, rfl⟩))
      go_wp2
      go_ret
      refine ⟨?_, below_drewN hbel6 _⟩
      rw [← decide_eq_true HY.out]; rfl
end Go.Proofs.Ytkgkiplidjoamaa.Pk
