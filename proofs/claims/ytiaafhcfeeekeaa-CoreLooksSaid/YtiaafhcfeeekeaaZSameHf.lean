/- The document's 'Same': two sides are the same. -/
import Derived.Test.YtiaafhcfeeekeaaZHfCodeA
import Derived.Test.YtiaafhcfeeekeaaZWiEq
import Derived.Deep.QuietTactic
import Derived.BigQuiet
namespace Go.Proofs.Ytiaafhcfeeekeaa.Pk
open Go.RowKit
set_option linter.unusedVariables false
theorem below_drewN_ {B : Nat} {a w : World} (h : Below B a w) (n : Nat) : Below B a (w.drewN n) := ⟨h.os, h.tape, h.output, h.size, h.block⟩
/-- The first k messages of both are the same. -/
def AlikeH (l r : List Mg) (k : Nat) : Prop := ∀ j, j < k → l[j]? = r[j]?
theorem alikeH_all {l r : List Mg} (h : AlikeH l r l.length) (hl : l.length = r.length) : l = r := by
  apply List.ext_getElem? 
  intro i
  rcases Nat.lt_or_ge i l.length with h1 | h1
  · exact h i h1
  · rw [List.getElem?_eq_none h1, List.getElem?_eq_none (by omega)]
theorem alikeH_succ {l r : List Mg} {k : Nat} (h : AlikeH l r k) (e : l[k]? = r[k]?) : AlikeH l r (k + 1) := by
  intro j hj
  rcases Nat.lt_or_ge j k with h1 | h1
  · exact h j h1
  · obtain rfl : j = k := by omega
    exact e
set_option maxRecDepth 100000 in
set_option maxHeartbeats 4000000 in
theorem sameH (h h' : Hf) (A A' : Option Addr) (n c n' c' : Nat) (w : World) (hl : Reads w w.heap.size 5 A n (mgs h.o)) (hr : Reads w w.heap.size 5 A' n' (mgs h'.o)) (hn : n ≤ 4611686018427387904) :
    Calls Try.prog 31 #[h.val (.slice A n c), h'.val (.slice A' n' c')] w fun e w' => e = .returned (.bool (decide (h = h'))) ∧ Below w.heap.size w w' := by
  have HL : Hid (h.o.length = n) := Lib.hid hl.mlen
  have HR : Hid (h'.o.length = n') := Lib.hid hr.mlen
  obtain ⟨p, b, o, s⟩ := h
  obtain ⟨p2, b2, o2, s2⟩ := h'
  unfold Hf.val
  simp only at hl hr HL HR ⊢
  have HB1 : Hid (Below w.heap.size w ((w.alloc (.cells #[.int .i64 p, .int .i64 b, .slice A n c, .int .i64 s] 50)).alloc (.cells #[.int .i64 p2, .int .i64 b2, .slice A' n' c', .int .i64 s2] 50))) := Lib.hid (((Below.refl _ _).alloc (Nat.le_refl _) _).alloc (by simp) _)
  obtain ⟨res, hres⟩ : ∃ res, res = decide ((⟨p, b, o, s⟩ : Hf) = ⟨p2, b2, o2, s2⟩) := ⟨_, rfl⟩
  rw [← hres]
  by_cases h1 : p = p2
  case neg =>
    have HS : Hid (res = false) := Lib.hid (by rw [hres]; simp [h1])
    have t1 : (p != p2) = true := by simp [h1]
    clear h1 hres
    go_enter Try.func31, Try.ntmps31
    go_wp2
    go_ret
    exact ⟨by rw [HS.out]; rfl, HB1.out⟩
  case pos =>
  by_cases h2 : b = b2
  case neg =>
    have HS : Hid (res = false) := Lib.hid (by rw [hres]; simp [h2])
    have t1 : (p != p2) = false := by simp [h1]
    have t2 : (b != b2) = true := by simp [h2]
    clear h1 h2 hres
    go_enter Try.func31, Try.ntmps31
    go_wp2
    go_ret
    exact ⟨by rw [HS.out]; rfl, HB1.out⟩
  case pos =>
  by_cases h3 : s = s2
  case neg =>
    have HS : Hid (res = false) := Lib.hid (by rw [hres]; simp [h3])
    have t1 : (p != p2) = false := by simp [h1]
    have t2 : (b != b2) = false := by simp [h2]
    have t3 : (s != s2) = true := by simp [h3]
    clear h1 h2 h3 hres
    go_enter Try.func31, Try.ntmps31
    go_wp2
    go_ret
    exact ⟨by rw [HS.out]; rfl, HB1.out⟩
  case pos =>
  by_cases h4 : n = n'
  case neg =>
    have HS : Hid (res = false) := Lib.hid (by rw [hres]; simp; intro _ _ e; exact absurd (by rw [← HL.out, ← HR.out, e]) h4)
    have t1 : (p != p2) = false := by simp [h1]
    have t2 : (b != b2) = false := by simp [h2]
    have t3 : (s != s2) = false := by simp [h3]
    have t4 : ((n : Int) != (n' : Int)) = true := by simp; omega
    clear h1 h2 h3 h4 hres
    go_enter Try.func31, Try.ntmps31
    go_wp2
    go_ret
    exact ⟨by rw [HS.out]; rfl, HB1.out⟩
  case pos =>
  have t1 : (p != p2) = false := by simp [h1]
  have t2 : (b != b2) = false := by simp [h2]
  have t3 : (s != s2) = false := by simp [h3]
  have t4 : ((n : Int) != (n' : Int)) = false := by simp; omega
  subst h1; subst h2; subst h3; subst h4
  have HRs : Hid (res = decide (o = o2)) := Lib.hid (by rw [hres]; simp)
  clear hres
  obtain ⟨x1, hx1⟩ : ∃ x, x = w.heap.size := ⟨_, rfl⟩
  obtain ⟨x2, hx2⟩ : ∃ x, x = x1 + 1 := ⟨_, rfl⟩
  obtain ⟨wa, hwa⟩ : ∃ wa, wa = w.alloc (.cells #[.int .i64 p, .int .i64 b, .slice A n c, .int .i64 s] 50) := ⟨_, rfl⟩
  obtain ⟨w1, hw1⟩ : ∃ w1, w1 = wa.alloc (.cells #[.int .i64 p, .int .i64 b, .slice A' n c', .int .i64 s] 50) := ⟨_, rfl⟩
  have hsa : wa.heap.size = x1 + 1 := by rw [hwa, World.size_alloc, hx1]
  have hba : Below w.heap.size w wa := hwa ▸ (Below.refl _ _).alloc (Nat.le_refl _) _
  have hb1 : Below w.heap.size w w1 := hw1 ▸ hba.alloc (by omega) _
  have HBw := Lib.hid hb1
  have k1 : Blk w1 x1 50 #[.int .i64 p, .int .i64 b, .slice A n c, .int .i64 s] := by rw [hw1, hwa, hx1]; exact (Blk.new w _ _).alloc _
  have k2 : Blk w1 x2 50 #[.int .i64 p, .int .i64 b, .slice A' n c', .int .i64 s] := by rw [hw1, hx2, ← hsa]; exact Blk.new wa _ _
  have RL := Lib.hid ((hl.below hb1))
  have RR := Lib.hid ((hr.below hb1))
  have c10 : w1.cell? ⟨x1, 0, none⟩ = some (.int .i64 p) := k1.cell 0
  have c11 : w1.cell? ⟨x1, 1, none⟩ = some (.int .i64 b) := k1.cell 1
  have c12 : w1.cell? ⟨x1, 2, none⟩ = some (.slice A n c) := k1.cell 2
  have c13 : w1.cell? ⟨x1, 3, none⟩ = some (.int .i64 s) := k1.cell 3
  have c20 : w1.cell? ⟨x2, 0, none⟩ = some (.int .i64 p) := k2.cell 0
  have c21 : w1.cell? ⟨x2, 1, none⟩ = some (.int .i64 b) := k2.cell 1
  have c22 : w1.cell? ⟨x2, 2, none⟩ = some (.slice A' n c') := k2.cell 2
  have c23 : w1.cell? ⟨x2, 3, none⟩ = some (.int .i64 s) := k2.cell 3
  have HC2 := Lib.hid c12
  have HC5 := Lib.hid c22
  clear hl hr hb1 hba k1 k2 HB1
  go_enter Try.func31, Try.ntmps31
  go_wp2
  rw [← hwa, ← hw1, ← hx1, ← hx2]
  clear hwa hw1 hx1 hx2 hsa
  go_loopw [5, 37] (fun i j wr => ∃ (k q : Nat), j = .int .i64 k ∧ k ≤ n ∧ AlikeH o o2 k ∧ wr = w1.drewN q) (fun _ j _ => n - (intOf j).toNat)
  case atStart => exact ⟨0, 0, rfl, by omega, fun j hj => by omega, rfl⟩
  case round =>
    obtain ⟨k, q, rfl, hk, ht, rfl⟩ := hrel
    have HT := Lib.hid ht
    clear ht
    by_cases hlt : k < n
    · obtain ⟨g, off, rfl, hbb, hc⟩ := RL.out.mgs_ (by omega)
      obtain ⟨g', off', rfl, hbb', hc'⟩ := RR.out.mgs_ (by omega)
      have hm1 : o[k]? = some (o[k]'(by have := HL.out; omega)) := List.getElem?_eq_getElem (by have := HL.out; omega)
      have hm2 : o2[k]? = some (o2[k]'(by have := HR.out; omega)) := List.getElem?_eq_getElem (by have := HR.out; omega)
      obtain ⟨m1, hm1'⟩ : ∃ m, m = o[k]'(by have := HL.out; omega) := ⟨_, rfl⟩
      obtain ⟨m2, hm2'⟩ : ∃ m, m = o2[k]'(by have := HR.out; omega) := ⟨_, rfl⟩
      rw [← hm1'] at hm1
      rw [← hm2'] at hm2
      clear hm1' hm2'
      obtain ⟨d0, d1, d2, d3, d4⟩ := hc k m1 hm1
      obtain ⟨e0, e1, e2, e3, e4⟩ := hc' k m2 hm2
      obtain ⟨a0, a1, a2, a3, a4⟩ := m1
      obtain ⟨b0, b1, b2, b3, b4⟩ := m2
      have HM1 := Lib.hid hm1
      have HM2 := Lib.hid hm2
      clear hc hc' hm1 hm2
      have ke : ∀ W : World, (Op.equalIn 10000 30 (.agg #[.int .i64 a0, .int .i64 a1, .int .i64 a2, .int .i64 a3, .int .i64 a4]) (.agg #[.int .i64 b0, .int .i64 b1, .int .i64 b2, .int .i64 b3, .int .i64 b4])).run Try.prog W = .ok (decide ((⟨a0, a1, a2, a3, a4⟩ : Mg) = ⟨b0, b1, b2, b3, b4⟩)) W := fun W => eq_msg _ _ _ _ _ _ _ _ _ _ W
      by_cases hmm : (⟨a0, a1, a2, a3, a4⟩ : Mg) = ⟨b0, b1, b2, b3, b4⟩
      · have HE : Hid (o[k]? = o2[k]?) := Lib.hid (by rw [HM1.out, HM2.out, hmm])
        have ke2 : ∀ W : World, (Op.equalIn 10000 30 (.agg #[.int .i64 a0, .int .i64 a1, .int .i64 a2, .int .i64 a3, .int .i64 a4]) (.agg #[.int .i64 b0, .int .i64 b1, .int .i64 b2, .int .i64 b3, .int .i64 b4])).run Try.prog W = .ok true W := fun W => by rw [ke, decide_eq_true hmm]
        clear ke hmm
        go_wp2
        go_quiet (fail)
        go_wp2
        go_roundw
        case rel => exact ⟨k + 1, _, by go_num, by omega, alikeH_succ HT.out HE.out, rfl⟩
        case measure => simp [intOf]; omega
      · have HE : Hid (res = false) := Lib.hid (by rw [HRs.out]; refine decide_eq_false (fun e => hmm ?_); have := HM1.out; rw [e, HM2.out] at this; injection this with this; exact this.symm)
        have ke2 : ∀ W : World, (Op.equalIn 10000 30 (.agg #[.int .i64 a0, .int .i64 a1, .int .i64 a2, .int .i64 a3, .int .i64 a4]) (.agg #[.int .i64 b0, .int .i64 b1, .int .i64 b2, .int .i64 b3, .int .i64 b4])).run Try.prog W = .ok false W := fun W => by rw [ke, decide_eq_false hmm]
        clear ke hmm
        go_wp2
        go_quiet (fail)
        go_wp2
        go_ret
        exact ⟨by rw [HE.out]; rfl, below_drewN_ (below_drewN_ HBw.out _) _⟩
    · have HE : Hid (res = true) := Lib.hid (by
        have : k = n := by omega
        subst this
        rw [HRs.out, decide_eq_true_eq]
        exact alikeH_all (by rw [HL.out]; exact HT.out) (by rw [HL.out, HR.out]))
      go_wp2
      go_ret
      exact ⟨by rw [HE.out]; rfl, below_drewN_ HBw.out _⟩
end Go.Proofs.Ytiaafhcfeeekeaa.Pk
