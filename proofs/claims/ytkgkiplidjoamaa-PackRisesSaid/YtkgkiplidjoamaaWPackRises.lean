/- The walk of the law PackRises: a greater number has no fewer bytes; unlike numbers have unlike bytes, none the beginning of the other's. -/
import Derived.Test.YtkgkiplidjoamaaPackWakes
import Derived.Test.YtkgkiplidjoamaaArgs
import Derived.Deep.QuietTactic
import Derived.BigQuiet
import Derived.Deep.RegionHeld3
import Derived.Deep.DeepMust
namespace Go.Proofs.Ytkgkiplidjoamaa.Pk
open Go.RowKit Go.Proofs.Ytkgkiplidjoamaa.Ar
set_option linter.unusedVariables false

theorem encs_single (x : Int) : encs [x] = enc 8 (max x 0) := by
  have : encs [x] = enc 8 (max x 0) ++ [] := rfl
  rw [this, List.append_nil]
theorem enc_mono (n : Nat) : ∀ (x y : Int), x ≤ y → fits n y → (enc n x).length ≤ (enc n y).length := by
  induction n with
  | zero => intro x y _ _; simp [enc]
  | succ n ih =>
    intro x y h hf
    by_cases hx : x < 128
    · rw [enc_lo _ hx]; exact enc_len_pos _ _
    · have hy : ¬ y < 128 := by omega
      obtain ⟨m, hm, h2⟩ := fits_down hf hy
      obtain rfl : n = m := by omega
      rw [enc_hi _ hx, enc_hi _ hy]
      have := ih (x / 128) (y / 128) (by omega) h2
      simp; omega
theorem enc_prefix {x y : Int} (hx : 0 ≤ x) (hy : 0 ≤ y) (fx : fits 8 x) (fy : fits 8 y) (hl : (enc 8 x).length ≤ (enc 8 y).length) (h : (enc 8 x).take (min (enc 8 x).length (enc 8 y).length) = (enc 8 y).take (min (enc 8 x).length (enc 8 y).length)) : x = y := by
  rw [Nat.min_eq_left hl, List.take_length] at h
  have e : enc 8 y = enc 8 x ++ (enc 8 y).drop (enc 8 x).length := by
    conv => lhs; rw [← List.take_append_drop (enc 8 x).length (enc 8 y), ← h]
  have a := tk_enc 8 y [] hy fy
  rw [List.append_nil, e, tk_enc 8 x _ hx fx] at a
  simp at a
  exact a.1
theorem enc_same {x y : Int} (hx : 0 ≤ x) (hy : 0 ≤ y) (fx : fits 8 x) (fy : fits 8 y) :
    decide ((enc 8 x).take (min (enc 8 x).length (enc 8 y).length) = (enc 8 y).take (min (enc 8 x).length (enc 8 y).length)) = decide (x = y) := by
  apply decide_eq_decide.2
  constructor
  · intro h
    rcases Nat.le_total (enc 8 x).length (enc 8 y).length with hl | hl
    · exact enc_prefix hx hy fx fy hl h
    · rw [Nat.min_comm] at h
      exact (enc_prefix hy hx fy fx hl h.symm).symm
  · intro h; rw [h]

set_option maxHeartbeats 1600000 in
theorem law_PackRises (x y : Int) (w : World) (hx : -9223372036854775808 ≤ x ∧ x ≤ 9223372036854775807) (hy : -9223372036854775808 ≤ y ∧ y ≤ 9223372036854775807) :
    Calls Try.prog 10 #[.int .i64 x, .int .i64 y] w fun e w' => e = .returned (.bool true) ∧ Below w.heap.size w w' := by
  obtain ⟨hx1, hx2⟩ := hx
  obtain ⟨hy1, hy2⟩ := hy
  have HXW : Hid (∀ z ∈ [x], z ≤ 9223372036854775807) := fun z hz => by rw [List.mem_singleton] at hz; rw [hz]; exact hx2
  have HYW : Hid (∀ z ∈ [y], z ≤ 9223372036854775807) := fun z hz => by rw [List.mem_singleton] at hz; rw [hz]; exact hy2
  obtain ⟨X, hX⟩ : ∃ X, X = enc 8 (max x 0) := ⟨_, rfl⟩
  obtain ⟨Y, hY⟩ : ∃ Y, Y = enc 8 (max y 0) := ⟨_, rfl⟩
  have lx1 : 1 ≤ X.length := by rw [hX]; exact enc_len_pos _ _
  have lx2 : X.length ≤ 9 := by rw [hX]; exact enc_len_le _ _
  have ly1 : 1 ≤ Y.length := by rw [hY]; exact enc_len_pos _ _
  have ly2 : Y.length ≤ 9 := by rw [hY]; exact enc_len_le _ _
  have HX := Lib.hid hX
  have HY := Lib.hid hY
  clear hX hY
  go_enter Try.func10, Try.ntmps10
  go_wp2_with fail
  refine (wakes_any w).mono ?_
  rintro e w1 ⟨rfl, hb⟩
  have hsz := hb.size
  go_wp2_with fail
  refine (put_any none _ 0 0 1 1 [] [x] _ Reads.none_ (reads_top _ _ _ 1 (nms [x]) rfl rfl) (by omega) (by omega) HXW.out).mono ?_
  rw [encs_single, List.nil_append, ← HX.out]
  rintro e w2 ⟨v2, rfl, hown2, hb2⟩
  obtain ⟨A2, n2, c2, rfl, hc2, hn2, hr2⟩ := hown2.val
  subst hn2
  have hbel2 : Below w.heap.size w w2 := (hb.alloc hsz _).trans (hb2.mono (by simp; omega))
  have hsz2 := hbel2.size
  go_wp2_with fail
  refine (put_any none _ 0 0 1 1 [] [y] _ Reads.none_ (reads_top _ _ _ 1 (nms [y]) rfl rfl) (by omega) (by omega) HYW.out).mono ?_
  rw [encs_single, List.nil_append, ← HY.out]
  rintro e w3 ⟨v3, rfl, hown3, hb3⟩
  obtain ⟨A3, n3, c3, rfl, hc3, hn3, hr3⟩ := hown3.val
  subst hn3
  have hbel3 : Below w.heap.size w w3 := (hbel2.alloc hsz2 _).trans (hb3.mono (by simp; omega))
  have hr2' := (hr2.alloc (Nat.le_refl _) _).below (hb3.mono (show w2.heap.size ≤ _ by simp))
  clear hb hb2 hb3 hown2 hown3 hr2 hbel2
  have t1 : ((X.length : Int) == 0) = false := beq_eq_false_iff_ne.2 (by omega)
  have t2 : ((Y.length : Int) == 0) = false := beq_eq_false_iff_ne.2 (by omega)
  by_cases hx0 : x < 0
  · go_wp2
    go_ret
    exact ⟨rfl, hbel3⟩
  · by_cases hy0 : y < 0
    · go_wp2
      go_ret
      exact ⟨rfl, hbel3⟩
    · have ex : max x 0 = x := Int.max_eq_left (by omega)
      have ey : max y 0 = y := Int.max_eq_left (by omega)
      have hS : decide (X.take (min X.length Y.length) = Y.take (min X.length Y.length)) = decide (x = y) := by
        rw [HX.out, HY.out, ex, ey]; exact enc_same (by omega) (by omega) (fits_top x hx2) (fits_top y hy2)
      have hm1 : x < y → X.length ≤ Y.length := fun h => by rw [HX.out, HY.out, ex, ey]; exact enc_mono 8 x y (by omega) (fits_top y hy2)
      have hm2 : y < x → Y.length ≤ X.length := fun h => by rw [HX.out, HY.out, ex, ey]; exact enc_mono 8 y x (by omega) (fits_top x hx2)
      have HS := Lib.hid hS
      clear hS ex ey
      rcases Int.lt_trichotomy x y with h | h | h
      · have hl := hm1 h
        have HQ : Hid (decide (X.take X.length = Y.take X.length) = false) := by
          have := HS.out
          rw [Nat.min_eq_left hl] at this
          rw [this]; exact decide_eq_false (by omega)
        have hxy : (x == y) = false := beq_eq_false_iff_ne.2 (by omega)
        have c1 : (0 : Int) ≤ (X.length : Int) := by omega
        have c4 : (X.length : Int) ≤ (c2 : Int) := by omega
        have c5 : (X.length : Int) ≤ (c3 : Int) := by omega
        clear hm1 hm2
        go_wp2
        go_region_held3 (fun w' => True) (trivial) (first
          | (go_at_call 14; go_must (refine (same_any A2 A3 X.length c2 X.length c3 (X.take X.length) (Y.take X.length) _ _ _ (hr2'.take (Nat.le_refl _)).drew (hr3.take hl).drew (by omega)).mono ?_); rw [HQ.out]; rintro e w7 ⟨rfl, kk, rfl⟩))
        go_wp2
        go_ret
        exact ⟨rfl, below_drewN hbel3 _⟩
      · have hXY : X = Y := by rw [HX.out, HY.out, h]
        subst h
        subst hXY
        have hxy : (x == x) = true := by simp
        have c1 : (0 : Int) ≤ (X.length : Int) := by omega
        have c4 : (X.length : Int) ≤ (c2 : Int) := by omega
        have c5 : (X.length : Int) ≤ (c3 : Int) := by omega
        clear hm1 hm2
        go_wp2
        go_region_held3 (fun w' => True) (trivial) (first
          | (go_at_call 14; go_must (refine (same_any A2 A3 X.length c2 X.length c3 (X.take X.length) (X.take X.length) _ _ _ (hr2'.take (Nat.le_refl _)).drew (hr3.take (Nat.le_refl _)).drew (by omega)).mono ?_); rw [decide_eq_true rfl]; rintro e w7 ⟨rfl, kk, rfl⟩))
        go_wp2
        go_ret
        exact ⟨rfl, below_drewN hbel3 _⟩
      · have hl := hm2 h
        have hxy : (x == y) = false := beq_eq_false_iff_ne.2 (by omega)
        by_cases hl2 : X.length ≤ Y.length
        · have HQ : Hid (decide (X.take X.length = Y.take X.length) = false) := by
            have := HS.out
            rw [Nat.min_eq_left hl2] at this
            rw [this]; exact decide_eq_false (by omega)
          have c1 : (0 : Int) ≤ (X.length : Int) := by omega
          have c4 : (X.length : Int) ≤ (c2 : Int) := by omega
          have c5 : (X.length : Int) ≤ (c3 : Int) := by omega
          clear hm1 hm2
          go_wp2
          go_region_held3 (fun w' => True) (trivial) (first
            | (go_at_call 14; go_must (refine (same_any A2 A3 X.length c2 X.length c3 (X.take X.length) (Y.take X.length) _ _ _ (hr2'.take (Nat.le_refl _)).drew (hr3.take hl2).drew (by omega)).mono ?_); rw [HQ.out]; rintro e w7 ⟨rfl, kk, rfl⟩))
          go_wp2
          go_ret
          exact ⟨rfl, below_drewN hbel3 _⟩
        · have HQ : Hid (decide (X.take Y.length = Y.take Y.length) = false) := by
            have := HS.out
            rw [Nat.min_eq_right hl] at this
            rw [this]; exact decide_eq_false (by omega)
          have c1 : (0 : Int) ≤ (Y.length : Int) := by omega
          have c4 : (Y.length : Int) ≤ (c2 : Int) := by omega
          have c5 : (Y.length : Int) ≤ (c3 : Int) := by omega
          clear hm1 hm2
          go_wp2
          go_region_held3 (fun w' => True) (trivial) (first
            | (go_at_call 14; go_must (refine (same_any A2 A3 Y.length c2 Y.length c3 (X.take Y.length) (Y.take Y.length) _ _ _ (hr2'.take hl).drew (hr3.take (Nat.le_refl _)).drew (by omega)).mono ?_); rw [HQ.out]; rintro e w7 ⟨rfl, kk, rfl⟩))
          go_wp2
          go_ret
          exact ⟨rfl, below_drewN hbel3 _⟩
end Go.Proofs.Ytkgkiplidjoamaa.Pk
