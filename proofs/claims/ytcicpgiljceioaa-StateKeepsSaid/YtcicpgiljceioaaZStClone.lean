/- The library's slices.Clone, of each kind of row that a state has. -/
import Derived.Test.YtcicpgiljceioaaZChFacts
import Derived.Lib.SliceRun
namespace Go.Proofs.Ytcicpgiljceioaa.Pk
open Go.RowKit
set_option linter.unusedVariables false
theorem below_grown_none {w w' : World} {v : Value} (hv : ownB v = none) (h : w.grownBy w' (ownB v)) : Below w.heap.size w w' := by
  rw [hv] at h
  exact (Below.refl w.heap.size w).grown h (Nat.le_refl _) (fun k e => by cases e)
theorem below_alloc_none {w w' : World} {o : Obj} {v : Value} (hv : ownB v = none) (h : (w.alloc o).grownBy w' (ownB v)) : Below w.heap.size w w' :=
  ((Below.refl _ w).alloc (Nat.le_refl _) o).trans ((below_grown_none hv h).mono (by rw [World.size_alloc]; omega))
set_option maxRecDepth 100000 in
set_option maxHeartbeats 1600000 in
theorem clone_ceR (s : Sl) (l : List Ce) (w : World) (h : InR ceR w s l) :
    Calls Try.prog 51 #[s.val] w fun e w' => ∃ s2 : Sl, e = .returned s2.val ∧ ceR.Own w' w.heap.size s2.val l ∧ Below w.heap.size w w' := by
  obtain ⟨A, n, c⟩ := s
  have HR := Lib.hid h.rd
  have HL : Hid ((0 + n) * ceR.by_ ≤ 140737488355328) := Lib.hid (by have := h.few; simp only [Nat.zero_add]; exact Nat.le_trans this (by decide))
  have hlen : l.length = n := h.len
  clear h
  show Calls Try.prog 51 #[.slice A n c] w _
  cases A with
  | none =>
    have hn0 : n = 0 := by
      rcases Nat.eq_zero_or_pos n with h | h
      · exact h
      · obtain ⟨b, off, e, _⟩ := Row.spots _ HR.out h
        cases e
    subst hn0
    have hl : l = [] := List.length_eq_zero_iff.1 hlen
    subst hl
    clear hlen
    go_enter Try.func51, Try.ntmps51
    have E0 : (binOp .eql 53 (.slice none 0 c) (.slice none 0 0)).run Try.prog w = .ok (.bool true) w := Lib.run_eql_slice_nil w _ _ none 0 c 0 0 ceR.und
    go_wp2_with fail
    go_ret
    exact ⟨⟨none, 0, 0⟩, rfl, Row.Own.none_ _ _, Below.refl _ _⟩
  | some ad =>
    clear hlen
    go_enter Try.func51, Try.ntmps51
    have E0 : (binOp .eql 53 (.slice (some ad) n c) (.slice none 0 0)).run Try.prog w = .ok (.bool false) w := Lib.run_eql_slice_nil w _ _ (some ad) n c 0 0 ceR.und
    go_wp2_with (at_builtin; refine Row.app ceR (w.alloc (.cells #[] ceR.T)) rfl (.tmp 5) (.tmp 6) rfl w.heap.size (.slice (some ⟨w.heap.size, 0, none⟩) 0 0) [] rfl (Row.Own.zero _ _ _) w.heap.size (some ad) c l n rfl (HR.out.alloc (Nat.le_refl _) _) HL.out (by rw [World.size_alloc]; omega) ?_; intro v2 w2 hown2 hg2 hl2; have HO := Lib.hid hown2; have HB := Lib.hid (below_alloc_none (Row.ownB_zero _) hg2); clear hown2 hg2 hl2)
    go_ret
    have HO2 := HO.out
    rw [List.nil_append] at HO2
    obtain ⟨A2, c2, e⟩ := HO2.sl
    subst e
    exact ⟨⟨A2, l.length, c2⟩, rfl, HO2, HB.out⟩
set_option maxRecDepth 100000 in
set_option maxHeartbeats 1600000 in
theorem clone_mgR (s : Sl) (l : List Mg) (w : World) (h : InR mgR w s l) :
    Calls Try.prog 53 #[s.val] w fun e w' => ∃ s2 : Sl, e = .returned s2.val ∧ mgR.Own w' w.heap.size s2.val l ∧ Below w.heap.size w w' := by
  obtain ⟨A, n, c⟩ := s
  have HR := Lib.hid h.rd
  have HL : Hid ((0 + n) * mgR.by_ ≤ 140737488355328) := Lib.hid (by have := h.few; simp only [Nat.zero_add]; exact Nat.le_trans this (by decide))
  have hlen : l.length = n := h.len
  clear h
  show Calls Try.prog 53 #[.slice A n c] w _
  cases A with
  | none =>
    have hn0 : n = 0 := by
      rcases Nat.eq_zero_or_pos n with h | h
      · exact h
      · obtain ⟨b, off, e, _⟩ := Row.spots _ HR.out h
        cases e
    subst hn0
    have hl : l = [] := List.length_eq_zero_iff.1 hlen
    subst hl
    clear hlen
    go_enter Try.func53, Try.ntmps53
    have E0 : (binOp .eql 58 (.slice none 0 c) (.slice none 0 0)).run Try.prog w = .ok (.bool true) w := Lib.run_eql_slice_nil w _ _ none 0 c 0 0 mgR.und
    go_wp2_with fail
    go_ret
    exact ⟨⟨none, 0, 0⟩, rfl, Row.Own.none_ _ _, Below.refl _ _⟩
  | some ad =>
    clear hlen
    go_enter Try.func53, Try.ntmps53
    have E0 : (binOp .eql 58 (.slice (some ad) n c) (.slice none 0 0)).run Try.prog w = .ok (.bool false) w := Lib.run_eql_slice_nil w _ _ (some ad) n c 0 0 mgR.und
    go_wp2_with (at_builtin; refine Row.app mgR (w.alloc (.cells #[] mgR.T)) rfl (.tmp 5) (.tmp 6) rfl w.heap.size (.slice (some ⟨w.heap.size, 0, none⟩) 0 0) [] rfl (Row.Own.zero _ _ _) w.heap.size (some ad) c l n rfl (HR.out.alloc (Nat.le_refl _) _) HL.out (by rw [World.size_alloc]; omega) ?_; intro v2 w2 hown2 hg2 hl2; have HO := Lib.hid hown2; have HB := Lib.hid (below_alloc_none (Row.ownB_zero _) hg2); clear hown2 hg2 hl2)
    go_ret
    have HO2 := HO.out
    rw [List.nil_append] at HO2
    obtain ⟨A2, c2, e⟩ := HO2.sl
    subst e
    exact ⟨⟨A2, l.length, c2⟩, rfl, HO2, HB.out⟩
set_option maxRecDepth 100000 in
set_option maxHeartbeats 1600000 in
theorem clone_owR (s : Sl) (l : List OwL) (w : World) (h : InR owR w s l) :
    Calls Try.prog 50 #[s.val] w fun e w' => ∃ s2 : Sl, e = .returned s2.val ∧ owR.Own w' w.heap.size s2.val l ∧ Below w.heap.size w w' := by
  obtain ⟨A, n, c⟩ := s
  have HR := Lib.hid h.rd
  have HL : Hid ((0 + n) * owR.by_ ≤ 140737488355328) := Lib.hid (by have := h.few; simp only [Nat.zero_add]; exact Nat.le_trans this (by decide))
  have hlen : l.length = n := h.len
  clear h
  show Calls Try.prog 50 #[.slice A n c] w _
  cases A with
  | none =>
    have hn0 : n = 0 := by
      rcases Nat.eq_zero_or_pos n with h | h
      · exact h
      · obtain ⟨b, off, e, _⟩ := Row.spots _ HR.out h
        cases e
    subst hn0
    have hl : l = [] := List.length_eq_zero_iff.1 hlen
    subst hl
    clear hlen
    go_enter Try.func50, Try.ntmps50
    have E0 : (binOp .eql 25 (.slice none 0 c) (.slice none 0 0)).run Try.prog w = .ok (.bool true) w := Lib.run_eql_slice_nil w _ _ none 0 c 0 0 owR.und
    go_wp2_with fail
    go_ret
    exact ⟨⟨none, 0, 0⟩, rfl, Row.Own.none_ _ _, Below.refl _ _⟩
  | some ad =>
    clear hlen
    go_enter Try.func50, Try.ntmps50
    have E0 : (binOp .eql 25 (.slice (some ad) n c) (.slice none 0 0)).run Try.prog w = .ok (.bool false) w := Lib.run_eql_slice_nil w _ _ (some ad) n c 0 0 owR.und
    go_wp2_with (at_builtin; refine Row.app owR (w.alloc (.cells #[] owR.T)) rfl (.tmp 5) (.tmp 6) rfl w.heap.size (.slice (some ⟨w.heap.size, 0, none⟩) 0 0) [] rfl (Row.Own.zero _ _ _) w.heap.size (some ad) c l n rfl (HR.out.alloc (Nat.le_refl _) _) HL.out (by rw [World.size_alloc]; omega) ?_; intro v2 w2 hown2 hg2 hl2; have HO := Lib.hid hown2; have HB := Lib.hid (below_alloc_none (Row.ownB_zero _) hg2); clear hown2 hg2 hl2)
    go_ret
    have HO2 := HO.out
    rw [List.nil_append] at HO2
    obtain ⟨A2, c2, e⟩ := HO2.sl
    subst e
    exact ⟨⟨A2, l.length, c2⟩, rfl, HO2, HB.out⟩
set_option maxRecDepth 100000 in
set_option maxHeartbeats 1600000 in
theorem clone_sdR (s : Sl) (l : List SdL) (w : World) (h : InR sdR w s l) :
    Calls Try.prog 52 #[s.val] w fun e w' => ∃ s2 : Sl, e = .returned s2.val ∧ sdR.Own w' w.heap.size s2.val l ∧ Below w.heap.size w w' := by
  obtain ⟨A, n, c⟩ := s
  have HR := Lib.hid h.rd
  have HL : Hid ((0 + n) * sdR.by_ ≤ 140737488355328) := Lib.hid (by have := h.few; simp only [Nat.zero_add]; exact Nat.le_trans this (by decide))
  have hlen : l.length = n := h.len
  clear h
  show Calls Try.prog 52 #[.slice A n c] w _
  cases A with
  | none =>
    have hn0 : n = 0 := by
      rcases Nat.eq_zero_or_pos n with h | h
      · exact h
      · obtain ⟨b, off, e, _⟩ := Row.spots _ HR.out h
        cases e
    subst hn0
    have hl : l = [] := List.length_eq_zero_iff.1 hlen
    subst hl
    clear hlen
    go_enter Try.func52, Try.ntmps52
    have E0 : (binOp .eql 26 (.slice none 0 c) (.slice none 0 0)).run Try.prog w = .ok (.bool true) w := Lib.run_eql_slice_nil w _ _ none 0 c 0 0 sdR.und
    go_wp2_with fail
    go_ret
    exact ⟨⟨none, 0, 0⟩, rfl, Row.Own.none_ _ _, Below.refl _ _⟩
  | some ad =>
    clear hlen
    go_enter Try.func52, Try.ntmps52
    have E0 : (binOp .eql 26 (.slice (some ad) n c) (.slice none 0 0)).run Try.prog w = .ok (.bool false) w := Lib.run_eql_slice_nil w _ _ (some ad) n c 0 0 sdR.und
    go_wp2_with (at_builtin; refine Row.app sdR (w.alloc (.cells #[] sdR.T)) rfl (.tmp 5) (.tmp 6) rfl w.heap.size (.slice (some ⟨w.heap.size, 0, none⟩) 0 0) [] rfl (Row.Own.zero _ _ _) w.heap.size (some ad) c l n rfl (HR.out.alloc (Nat.le_refl _) _) HL.out (by rw [World.size_alloc]; omega) ?_; intro v2 w2 hown2 hg2 hl2; have HO := Lib.hid hown2; have HB := Lib.hid (below_alloc_none (Row.ownB_zero _) hg2); clear hown2 hg2 hl2)
    go_ret
    have HO2 := HO.out
    rw [List.nil_append] at HO2
    obtain ⟨A2, c2, e⟩ := HO2.sl
    subst e
    exact ⟨⟨A2, l.length, c2⟩, rfl, HO2, HB.out⟩
set_option maxRecDepth 100000 in
set_option maxHeartbeats 1600000 in
theorem clone_akR (s : Sl) (l : List Ak) (w : World) (h : InR akR w s l) :
    Calls Try.prog 54 #[s.val] w fun e w' => ∃ s2 : Sl, e = .returned s2.val ∧ akR.Own w' w.heap.size s2.val l ∧ Below w.heap.size w w' := by
  obtain ⟨A, n, c⟩ := s
  have HR := Lib.hid h.rd
  have HL : Hid ((0 + n) * akR.by_ ≤ 140737488355328) := Lib.hid (by have := h.few; simp only [Nat.zero_add]; exact Nat.le_trans this (by decide))
  have hlen : l.length = n := h.len
  clear h
  show Calls Try.prog 54 #[.slice A n c] w _
  cases A with
  | none =>
    have hn0 : n = 0 := by
      rcases Nat.eq_zero_or_pos n with h | h
      · exact h
      · obtain ⟨b, off, e, _⟩ := Row.spots _ HR.out h
        cases e
    subst hn0
    have hl : l = [] := List.length_eq_zero_iff.1 hlen
    subst hl
    clear hlen
    go_enter Try.func54, Try.ntmps54
    have E0 : (binOp .eql 27 (.slice none 0 c) (.slice none 0 0)).run Try.prog w = .ok (.bool true) w := Lib.run_eql_slice_nil w _ _ none 0 c 0 0 akR.und
    go_wp2_with fail
    go_ret
    exact ⟨⟨none, 0, 0⟩, rfl, Row.Own.none_ _ _, Below.refl _ _⟩
  | some ad =>
    clear hlen
    go_enter Try.func54, Try.ntmps54
    have E0 : (binOp .eql 27 (.slice (some ad) n c) (.slice none 0 0)).run Try.prog w = .ok (.bool false) w := Lib.run_eql_slice_nil w _ _ (some ad) n c 0 0 akR.und
    go_wp2_with (at_builtin; refine Row.app akR (w.alloc (.cells #[] akR.T)) rfl (.tmp 5) (.tmp 6) rfl w.heap.size (.slice (some ⟨w.heap.size, 0, none⟩) 0 0) [] rfl (Row.Own.zero _ _ _) w.heap.size (some ad) c l n rfl (HR.out.alloc (Nat.le_refl _) _) HL.out (by rw [World.size_alloc]; omega) ?_; intro v2 w2 hown2 hg2 hl2; have HO := Lib.hid hown2; have HB := Lib.hid (below_alloc_none (Row.ownB_zero _) hg2); clear hown2 hg2 hl2)
    go_ret
    have HO2 := HO.out
    rw [List.nil_append] at HO2
    obtain ⟨A2, c2, e⟩ := HO2.sl
    subst e
    exact ⟨⟨A2, l.length, c2⟩, rfl, HO2, HB.out⟩
set_option maxRecDepth 100000 in
set_option maxHeartbeats 1600000 in
theorem clone_fdR (s : Sl) (l : List Fnd) (w : World) (h : InR fdR w s l) :
    Calls Try.prog 55 #[s.val] w fun e w' => ∃ s2 : Sl, e = .returned s2.val ∧ fdR.Own w' w.heap.size s2.val l ∧ Below w.heap.size w w' := by
  obtain ⟨A, n, c⟩ := s
  have HR := Lib.hid h.rd
  have HL : Hid ((0 + n) * fdR.by_ ≤ 140737488355328) := Lib.hid (by have := h.few; simp only [Nat.zero_add]; exact Nat.le_trans this (by decide))
  have hlen : l.length = n := h.len
  clear h
  show Calls Try.prog 55 #[.slice A n c] w _
  cases A with
  | none =>
    have hn0 : n = 0 := by
      rcases Nat.eq_zero_or_pos n with h | h
      · exact h
      · obtain ⟨b, off, e, _⟩ := Row.spots _ HR.out h
        cases e
    subst hn0
    have hl : l = [] := List.length_eq_zero_iff.1 hlen
    subst hl
    clear hlen
    go_enter Try.func55, Try.ntmps55
    have E0 : (binOp .eql 28 (.slice none 0 c) (.slice none 0 0)).run Try.prog w = .ok (.bool true) w := Lib.run_eql_slice_nil w _ _ none 0 c 0 0 fdR.und
    go_wp2_with fail
    go_ret
    exact ⟨⟨none, 0, 0⟩, rfl, Row.Own.none_ _ _, Below.refl _ _⟩
  | some ad =>
    clear hlen
    go_enter Try.func55, Try.ntmps55
    have E0 : (binOp .eql 28 (.slice (some ad) n c) (.slice none 0 0)).run Try.prog w = .ok (.bool false) w := Lib.run_eql_slice_nil w _ _ (some ad) n c 0 0 fdR.und
    go_wp2_with (at_builtin; refine Row.app fdR (w.alloc (.cells #[] fdR.T)) rfl (.tmp 5) (.tmp 6) rfl w.heap.size (.slice (some ⟨w.heap.size, 0, none⟩) 0 0) [] rfl (Row.Own.zero _ _ _) w.heap.size (some ad) c l n rfl (HR.out.alloc (Nat.le_refl _) _) HL.out (by rw [World.size_alloc]; omega) ?_; intro v2 w2 hown2 hg2 hl2; have HO := Lib.hid hown2; have HB := Lib.hid (below_alloc_none (Row.ownB_zero _) hg2); clear hown2 hg2 hl2)
    go_ret
    have HO2 := HO.out
    rw [List.nil_append] at HO2
    obtain ⟨A2, c2, e⟩ := HO2.sl
    subst e
    exact ⟨⟨A2, l.length, c2⟩, rfl, HO2, HB.out⟩
end Go.Proofs.Ytcicpgiljceioaa.Pk
