/- The tree's level: the same rows, whatever is turned. -/
import Derived.Test.YtcjfammfplcigaaTreeMake
import Derived.Deep.QuietTactic
import Derived.BigQuiet
namespace Go.Proofs.Ytcjfammfplcigaa.Pk
open Go.RowKit Go.Proofs.Ytcjfammfplcigaa.Tb
set_option linter.unusedVariables false

/-- What a call that makes a tree leaves: its rows, out of old blocks X and new ones. -/
def Made (w : World) (X : Nat → Prop) (rows : List Rw) (e : Ending) (w' : World) : Prop :=
  ∃ T : Tr, e = .returned (.pointer T.p) ∧ IsT w' T ∧ T.rows = rows ∧ Below w.heap.size w w' ∧ ∀ x, T.has x → X x ∨ w.heap.size ≤ x

theorem Top.below {w w' : World} {b : Nat} {k : Int} {v : ByteArray} (h : Top w b k v) (hb : Below w.heap.size w w') : Top w' b k v := by
  obtain ⟨l, r, h1, h2⟩ := h
  exact ⟨l, r, h1.below hb h1.lt, h2⟩

set_option maxHeartbeats 4000000 in
theorem level_right (b : Nat) (k : Int) (v : ByteArray) (L : Tr) (b1 : Nat) (l1 : Tr) (k1 : Int) (v1 : ByteArray) (r1 : Tr) (w : World) (ht : Top w b k v) (hL : IsT w L) (hR : IsT w (.node b1 l1 k1 v1 r1)) (hn : L.len + (l1.len + r1.len) ≤ 1000000000000000)
    (hc : 3 * (L.len + 1) < l1.len + 1 + r1.len + 1) :
    Calls Try.prog 37 #[.pointer (some ⟨b, 0, none⟩), .pointer L.p, .pointer (some ⟨b1, 0, none⟩)] w
      (Made w (fun x => L.has x ∨ (Tr.node b1 l1 k1 v1 r1).has x) (L.rows ++ (k, v) :: (Tr.node b1 l1 k1 v1 r1).rows)) := by
  have hwR := weight_any (.node b1 l1 k1 v1 r1) w hR (by rw [len_node]; omega)
  have hwL := weight_any L w hL (by omega)
  have hpR : (Tr.node b1 l1 k1 v1 r1).p = some ⟨b1, 0, none⟩ := rfl
  rw [len_node, hpR] at hwR
  have hc2 : 3 * ((L.len : Int) + 1) < ((l1.len + 1 + r1.len : Nat) : Int) + 1 := by omega
  have X2 := hR.1.cell 2
  have X3 := hR.1.cell 3
  simp only [ncells] at X2 X3
  have H1 := Lib.hid (fun q => weight_any l1 (w.drewN q) (hR.2.2.1.drewN q) (by omega))
  have H2 := Lib.hid (fun q => weight_any r1 (w.drewN q) (hR.2.2.2.drewN q) (by omega))
  have HT := Lib.hid ht
  have HL := Lib.hid hL
  have HR := Lib.hid hR
  clear ht hL hR hpR
  go_enter Try.func37, Try.ntmps37
  go_wp2_with fail
  refine hwR.mono ?_
  rintro e w' ⟨rfl, rfl⟩
  go_wp2_with fail
  refine hwL.mono ?_
  rintro e w' ⟨rfl, rfl⟩
  clear hwR hwL
  go_wp2_with fail
  go_quiet (first | (go_at_call_of 40 (Tr.p l1); exact Calls.quiet_of_same (H1.out _)) | (go_at_call_of 40 (Tr.p r1); exact Calls.quiet_of_same (H2.out _)))
  obtain ⟨w0, hw0⟩ : ∃ w0, w0 = w'.drewN nq := ⟨_, rfl⟩
  rw [← hw0]
  have B0 : Below w'.heap.size w' w0 := by rw [hw0]; exact below_dn (Below.refl _ _) _
  have HT0 : Hid (Top w0 b k v) := by rw [hw0]; exact HT
  have HL0 : Hid (IsT w0 L) := Lib.hid (HL.out.below B0)
  have HR0 : Hid (IsT w0 (.node b1 l1 k1 v1 r1)) := Lib.hid (HR.out.below B0)
  clear hw0 H1 H2 X2 X3
  by_cases hq : 2 * (r1.len + 1) ≤ l1.len + 1
  · obtain ⟨b2, l2, k2, v2, r2, rfl⟩ := Tr.of_len (T := l1) (by omega)
    have hq2 : 2 * ((r1.len : Int) + 1) ≤ ((Tr.node b2 l2 k2 v2 r2).len : Int) + 1 := by omega
    have hlen := len_node b2 l2 k2 v2 r2
    have HA := Lib.hid (raiseLeft_any b1 b2 l2 k2 v2 r2 k1 v1 r1 w0 HR0.out (by omega))
    go_wp2_with fail
    refine HA.out.mono ?_
    rintro e w1 ⟨b3, b4, rfl, hb3, hb4, bel1, ht1⟩
    have HC := Lib.hid (between_any b k v L (.node b3 l2 k2 v2 (.node b4 r2 k1 v1 r1)) w1 (HT0.out.below bel1) (HL0.out.below bel1) ht1 (by rw [len_node, len_node]; omega))
    clear HA
    go_wp2_with fail
    refine HC.out.mono ?_
    rintro e w2 ⟨b5, rfl, hb5, bel2, ht2⟩
    have HD := Lib.hid (raiseRight_any b5 b3 L l2 k2 v2 (.node b4 r2 k1 v1 r1) k v w2 ht2 (by rw [len_node]; omega))
    clear HC
    go_wp2_with fail
    refine HD.out.mono ?_
    rintro e w3 ⟨b6, b7, rfl, hb6, hb7, bel3, ht3⟩
    go_wp2
    go_ret
    have s0 := B0.size
    have s1 := bel1.size
    have s2 := bel2.size
    refine ⟨.node b6 (.node b7 L k v l2) k2 v2 (.node b4 r2 k1 v1 r1), rfl, ht3, by simp [rows_node, List.append_assoc], ((B0.trans (bel1.mono s0)).trans (bel2.mono (by omega))).trans (bel3.mono (by omega)), ?_⟩
    intro x hx
    simp only [Tr.has] at hx ⊢
    rcases hx with rfl | ⟨rfl | hx | hx⟩ | ⟨rfl | hx | hx⟩ <;> first | (right; omega) | (left; simp [*])
  · have hq2 : ((l1.len : Int) + 1) < 2 * ((r1.len : Int) + 1) := by omega
    have HC := Lib.hid (between_any b k v L (.node b1 l1 k1 v1 r1) w0 HT0.out HL0.out HR0.out (by rw [len_node]; omega))
    go_wp2_with fail
    refine HC.out.mono ?_
    rintro e w2 ⟨b5, rfl, hb5, bel2, ht2⟩
    have HD := Lib.hid (raiseRight_any b5 b1 L l1 k1 v1 r1 k v w2 ht2 (by omega))
    clear HC
    go_wp2_with fail
    refine HD.out.mono ?_
    rintro e w3 ⟨b6, b7, rfl, hb6, hb7, bel3, ht3⟩
    go_wp2
    go_ret
    have s0 := B0.size
    have s2 := bel2.size
    refine ⟨.node b6 (.node b7 L k v l1) k1 v1 r1, rfl, ht3, by simp [rows_node, List.append_assoc], (B0.trans (bel2.mono s0)).trans (bel3.mono (by omega)), ?_⟩
    intro x hx
    simp only [Tr.has] at hx ⊢
    rcases hx with rfl | ⟨rfl | hx | hx⟩ | hx <;> first | (right; omega) | (left; simp [*])

set_option maxHeartbeats 4000000 in
theorem level_left (b : Nat) (k : Int) (v : ByteArray) (R : Tr) (b1 : Nat) (l1 : Tr) (k1 : Int) (v1 : ByteArray) (r1 : Tr) (w : World) (ht : Top w b k v) (hL : IsT w (.node b1 l1 k1 v1 r1)) (hR : IsT w R) (hn : R.len + (l1.len + r1.len) ≤ 1000000000000000)
    (hc : 3 * (R.len + 1) < l1.len + 1 + r1.len + 1) :
    Calls Try.prog 37 #[.pointer (some ⟨b, 0, none⟩), .pointer (some ⟨b1, 0, none⟩), .pointer R.p] w
      (Made w (fun x => (Tr.node b1 l1 k1 v1 r1).has x ∨ R.has x) ((Tr.node b1 l1 k1 v1 r1).rows ++ (k, v) :: R.rows)) := by
  have hwL := weight_any (.node b1 l1 k1 v1 r1) w hL (by rw [len_node]; omega)
  have hwR := weight_any R w hR (by omega)
  have hpL : (Tr.node b1 l1 k1 v1 r1).p = some ⟨b1, 0, none⟩ := rfl
  rw [len_node, hpL] at hwL
  have hc2 : 3 * ((R.len : Int) + 1) < ((l1.len + 1 + r1.len : Nat) : Int) + 1 := by omega
  have hc3 : (R.len : Int) + 1 ≤ 3 * (((l1.len + 1 + r1.len : Nat) : Int) + 1) := by omega
  have X2 := hL.1.cell 2
  have X3 := hL.1.cell 3
  simp only [ncells] at X2 X3
  have H1 := Lib.hid (fun q => weight_any l1 (w.drewN q) (hL.2.2.1.drewN q) (by omega))
  have H2 := Lib.hid (fun q => weight_any r1 (w.drewN q) (hL.2.2.2.drewN q) (by omega))
  have HT := Lib.hid ht
  have HL := Lib.hid hL
  have HR := Lib.hid hR
  have HWL := Lib.hid hwL
  have HWR := Lib.hid hwR
  clear ht hL hR hpL hwL hwR
  go_enter Try.func37, Try.ntmps37
  go_wp2_with fail
  refine HWR.out.mono ?_
  rintro e w' ⟨rfl, rfl⟩
  go_wp2_with fail
  refine HWL.out.mono ?_
  rintro e w' ⟨rfl, rfl⟩
  go_wp2_with fail
  refine HWL.out.mono ?_
  rintro e w' ⟨rfl, rfl⟩
  go_wp2_with fail
  refine HWR.out.mono ?_
  rintro e w' ⟨rfl, rfl⟩
  go_wp2_with fail
  go_quiet (first | (go_at_call_of 40 (Tr.p l1); exact Calls.quiet_of_same (H1.out _)) | (go_at_call_of 40 (Tr.p r1); exact Calls.quiet_of_same (H2.out _)))
  obtain ⟨w0, hw0⟩ : ∃ w0, w0 = w'.drewN nq := ⟨_, rfl⟩
  rw [← hw0]
  have B0 : Below w'.heap.size w' w0 := by rw [hw0]; exact below_dn (Below.refl _ _) _
  have HT0 : Hid (Top w0 b k v) := by rw [hw0]; exact HT
  have HL0 : Hid (IsT w0 (.node b1 l1 k1 v1 r1)) := Lib.hid (HL.out.below B0)
  have HR0 : Hid (IsT w0 R) := Lib.hid (HR.out.below B0)
  clear hw0 H1 H2 X2 X3 HWL HWR
  by_cases hq : 2 * (l1.len + 1) ≤ r1.len + 1
  · obtain ⟨b2, l2, k2, v2, r2, rfl⟩ := Tr.of_len (T := r1) (by omega)
    have hq2 : 2 * ((l1.len : Int) + 1) ≤ ((Tr.node b2 l2 k2 v2 r2).len : Int) + 1 := by omega
    have hlen := len_node b2 l2 k2 v2 r2
    have HA := Lib.hid (raiseRight_any b1 b2 l1 l2 k2 v2 r2 k1 v1 w0 HL0.out (by omega))
    go_wp2_with fail
    refine HA.out.mono ?_
    rintro e w1 ⟨b3, b4, rfl, hb3, hb4, bel1, ht1⟩
    have HC := Lib.hid (between_any b k v (.node b3 (.node b4 l1 k1 v1 l2) k2 v2 r2) R w1 (HT0.out.below bel1) ht1 (HR0.out.below bel1) (by rw [len_node, len_node]; omega))
    clear HA
    go_wp2_with fail
    refine HC.out.mono ?_
    rintro e w2 ⟨b5, rfl, hb5, bel2, ht2⟩
    have HD := Lib.hid (raiseLeft_any b5 b3 (.node b4 l1 k1 v1 l2) k2 v2 r2 k v R w2 ht2 (by rw [len_node]; omega))
    clear HC
    go_wp2_with fail
    refine HD.out.mono ?_
    rintro e w3 ⟨b6, b7, rfl, hb6, hb7, bel3, ht3⟩
    go_wp2
    go_ret
    have s0 := B0.size
    have s1 := bel1.size
    have s2 := bel2.size
    refine ⟨.node b6 (.node b4 l1 k1 v1 l2) k2 v2 (.node b7 r2 k v R), rfl, ht3, by simp [rows_node, List.append_assoc], ((B0.trans (bel1.mono s0)).trans (bel2.mono (by omega))).trans (bel3.mono (by omega)), ?_⟩
    intro x hx
    simp only [Tr.has] at hx ⊢
    rcases hx with rfl | ⟨rfl | hx | hx⟩ | ⟨rfl | hx | hx⟩ <;> first | (right; omega) | (left; simp [*])
  · have hq2 : ((r1.len : Int) + 1) < 2 * ((l1.len : Int) + 1) := by omega
    have HC := Lib.hid (between_any b k v (.node b1 l1 k1 v1 r1) R w0 HT0.out HL0.out HR0.out (by rw [len_node]; omega))
    go_wp2_with fail
    refine HC.out.mono ?_
    rintro e w2 ⟨b5, rfl, hb5, bel2, ht2⟩
    have HD := Lib.hid (raiseLeft_any b5 b1 l1 k1 v1 r1 k v R w2 ht2 (by omega))
    clear HC
    go_wp2_with fail
    refine HD.out.mono ?_
    rintro e w3 ⟨b6, b7, rfl, hb6, hb7, bel3, ht3⟩
    go_wp2
    go_ret
    have s0 := B0.size
    have s2 := bel2.size
    refine ⟨.node b6 l1 k1 v1 (.node b7 r1 k v R), rfl, ht3, by simp [rows_node, List.append_assoc], (B0.trans (bel2.mono s0)).trans (bel3.mono (by omega)), ?_⟩
    intro x hx
    simp only [Tr.has] at hx ⊢
    rcases hx with rfl | hx | ⟨rfl | hx | hx⟩ <;> first | (right; omega) | (left; simp [*])

set_option maxHeartbeats 4000000 in
theorem level_mid (b : Nat) (k : Int) (v : ByteArray) (L R : Tr) (w : World) (ht : Top w b k v) (hL : IsT w L) (hR : IsT w R) (hn : L.len + R.len ≤ 1000000000000000)
    (hc1 : R.len + 1 ≤ 3 * (L.len + 1)) (hc2 : L.len + 1 ≤ 3 * (R.len + 1)) :
    Calls Try.prog 37 #[.pointer (some ⟨b, 0, none⟩), .pointer L.p, .pointer R.p] w
      (Made w (fun x => L.has x ∨ R.has x) (L.rows ++ (k, v) :: R.rows)) := by
  have HWL := Lib.hid (weight_any L w hL (by omega))
  have HWR := Lib.hid (weight_any R w hR (by omega))
  have HC := Lib.hid (between_any b k v L R w ht hL hR (by omega))
  have hd1 : (R.len : Int) + 1 ≤ 3 * ((L.len : Int) + 1) := by omega
  have hd2 : (L.len : Int) + 1 ≤ 3 * ((R.len : Int) + 1) := by omega
  clear ht hL hR
  go_enter Try.func37, Try.ntmps37
  go_wp2_with fail
  refine HWR.out.mono ?_
  rintro e w' ⟨rfl, rfl⟩
  go_wp2_with fail
  refine HWL.out.mono ?_
  rintro e w' ⟨rfl, rfl⟩
  go_wp2_with fail
  refine HWL.out.mono ?_
  rintro e w' ⟨rfl, rfl⟩
  go_wp2_with fail
  refine HWR.out.mono ?_
  rintro e w' ⟨rfl, rfl⟩
  go_wp2_with fail
  refine HC.out.mono ?_
  rintro e w2 ⟨b5, rfl, hb5, bel2, ht2⟩
  go_wp2
  go_ret
  refine ⟨.node b5 L k v R, rfl, ht2, rows_node _ _ _ _ _, bel2, ?_⟩
  intro x hx
  rcases hx with rfl | hx | hx
  · exact .inr hb5
  · exact .inl (.inl hx)
  · exact .inl (.inr hx)

theorem level_any (b : Nat) (k : Int) (v : ByteArray) (L R : Tr) (w : World) (ht : Top w b k v) (hL : IsT w L) (hR : IsT w R) (hn : L.len + R.len ≤ 100000000000000) :
    Calls Try.prog 37 #[.pointer (some ⟨b, 0, none⟩), .pointer L.p, .pointer R.p] w
      (Made w (fun x => L.has x ∨ R.has x) (L.rows ++ (k, v) :: R.rows)) := by
  by_cases h1 : 3 * (L.len + 1) < R.len + 1
  · obtain ⟨b1, l1, k1, v1, r1, rfl⟩ := Tr.of_len (T := R) (by omega)
    rw [len_node] at h1 hn
    exact level_right b k v L b1 l1 k1 v1 r1 w ht hL hR (by omega) (by omega)
  · by_cases h2 : 3 * (R.len + 1) < L.len + 1
    · obtain ⟨b1, l1, k1, v1, r1, rfl⟩ := Tr.of_len (T := L) (by omega)
      rw [len_node] at h2 hn
      exact level_left b k v R b1 l1 k1 v1 r1 w ht hL hR (by omega) (by omega)
    · exact level_mid b k v L R w ht hL hR (by omega) (by omega) (by omega)
end Go.Proofs.Ytcjfammfplcigaa.Pk
