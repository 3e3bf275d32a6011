/- Lists of cells that a call answered, handed over again; their cells. -/
import Derived.Test.YtiaafhcfeeekeaaZChSpecA
import Derived.Test.YtiaafhcfeeekeaaZTrMath
import Derived.BigQuiet
import Derived.Deep.QuietTactic
import Derived.IntWalk
namespace Go.Proofs.Ytiaafhcfeeekeaa.Pk
open Go.RowKit
set_option linter.unusedVariables false
theorem OwnK.inK {w : World} {B n c : Nat} {A : Option Addr} {l : List Ce} (h : OwnK w B (.slice A n c) l) (hf : l.length ≤ 4398046511000) (hi : ∀ m ∈ l, m.I) : InK w l A n c := by
  obtain ⟨A', c', e, hc, hr⟩ := OwnK.reads h
  injection e with e1 e2 e3
  subst e1; subst e2; subst e3
  exact ⟨hr, hc, hf, hi⟩
theorem InK.cells {w : World} {l : List Ce} {A : Option Addr} {n c : Nat} (h : InK w l A n c) (hn : 0 < n) : ∃ b off, A = some ⟨b, off, none⟩ ∧ ∀ W, Below w.heap.size w W → ∀ i r, l[i]? = some r →
    W.cell? ⟨b, off + i * 4, none⟩ = some (.int .i64 r.n) ∧ W.cell? ⟨b, off + i * 4 + 1, none⟩ = some (.int .i64 r.s) ∧ W.cell? ⟨b, off + i * 4 + 2, none⟩ = some (.int .i64 r.d) ∧ W.cell? ⟨b, off + i * 4 + 3, none⟩ = some (.int .i64 r.x) := by
  obtain ⟨b, off, e, _, hc⟩ := h.rd.ces_ hn
  refine ⟨b, off, e, fun W hW => ?_⟩
  obtain ⟨b', off', e', _, hc'⟩ := (h.next hW).rd.ces_ hn
  rw [e] at e'
  injection e' with e'
  injection e' with e1 e2 _
  subst e1; subst e2
  exact hc'
theorem ceA_I {l : List Ce} (h : ∀ m ∈ l, m.I) {i : Nat} (hi : i < l.length) : (ceA l i).I := h _ (List.mem_of_getElem? (ceA_get hi))
end Go.Proofs.Ytiaafhcfeeekeaa.Pk

/- The landed Open of package chain. -/
namespace Go.Proofs.Ytiaafhcfeeekeaa.Pk
open Go.RowKit
set_option linter.unusedVariables false
attribute [local go_sem] Oper.semAt_some
set_option maxHeartbeats 4000000 in
theorem openC : OpenP := by
  intro A n c l w hin
  have HI := Lib.hid hin
  have HL := Lib.hid hin.len
  have hn := hin.few
  clear hin
  go_enter Try.func53, Try.ntmps53
  go_wp2
  go_loopw [3, 5, 8] (fun x _ j wr => ∃ i : Nat, j = .int .i64 i ∧ i ≤ n ∧ x = .int .i64 (openK (l.take i) : Nat) ∧ Below w.heap.size w wr) (fun _ _ j _ => n - (intOf j).toNat)
  case atStart => exact ⟨0, rfl, by omega, rfl, Below.refl _ _⟩
  case round =>
    obtain ⟨i, rfl, hi, rfl, hb⟩ := hrel
    obtain ⟨w1, rfl⟩ : ∃ w1 : World, w1 = wr := ⟨_, rfl⟩
    have HB := Lib.hid hb
    clear hb
    by_cases hlt : i < n
    · obtain ⟨b, off, rfl, _, hc⟩ := (HI.out.next HB.out).rd.ces_ (by omega)
      have HT := Lib.hid (openK_take (l := l) (i := i) (by rw [HL.out]; exact hlt))
      have HLe := Lib.hid (openK_le (l.take i))
      have hcg := hc i _ (ceA_get (by rw [HL.out]; exact hlt))
      obtain ⟨r, hr⟩ : ∃ r, r = ceA l i := ⟨_, rfl⟩
      rw [← hr] at HT hcg
      obtain ⟨rn, rs, rd, rx⟩ := r
      simp only at HT hcg
      obtain ⟨m0, m1, m2, m3⟩ := hcg
      obtain ⟨k, hk⟩ : ∃ k, k = openK (l.take i) := ⟨_, rfl⟩
      have hk2 : k ≤ n := by rw [hk]; have := HLe.out; rw [List.length_take] at this; omega
      rw [← hk] at HT ⊢
      clear hc hr hk
      have HB2 : Hid (Below w.heap.size w (w1.alloc (.cells #[.int .i64 rn, .int .i64 rs, .int .i64 rd, .int .i64 rx] 57))) := Lib.hid (HB.out.alloc HB.out.size _)
      by_cases h1 : rs = 1
      · have t1 : (rs == 1) = true := by simp [h1]
        have HS : Hid (openK (l.take (i + 1)) = k + 1) := Lib.hid (by rw [HT.out, if_pos (.inl h1)])
        clear h1
        go_wp2
        go_roundw
        case rel => exact ⟨i + 1, by go_num, by omega, by rw [HS.out]; go_num, HB2.out⟩
        case measure => simp [intOf]; omega
      · have t1 : (rs == 1) = false := by simp [h1]
        by_cases h2 : rs = 2
        · have t2 : (rs == 2) = true := by simp [h2]
          have HS : Hid (openK (l.take (i + 1)) = k + 1) := Lib.hid (by rw [HT.out, if_pos (.inr h2)])
          clear h1 h2
          go_wp2
          go_roundw
          case rel => exact ⟨i + 1, by go_num, by omega, by rw [HS.out]; go_num, HB2.out⟩
          case measure => simp [intOf]; omega
        · have t2 : (rs == 2) = false := by simp [h2]
          have HS : Hid (openK (l.take (i + 1)) = k) := Lib.hid (by rw [HT.out, if_neg (by omega)]; rfl)
          clear h1 h2
          go_wp2
          go_roundw
          case rel => exact ⟨i + 1, by go_num, by omega, by rw [HS.out], HB2.out⟩
          case measure => simp [intOf]; omega
    · have HF : Hid (openK (l.take i) = openK l) := Lib.hid (by rw [List.take_of_length_le (by rw [HL.out]; omega)])
      rw [HF.out]
      go_wp2
      go_ret
      exact ⟨rfl, HB.out⟩
end Go.Proofs.Ytiaafhcfeeekeaa.Pk

/- The landed Open of package state. -/
namespace Go.Proofs.Ytiaafhcfeeekeaa.Pk
open Go.RowKit
set_option linter.unusedVariables false
set_option maxRecDepth 100000 in
set_option maxHeartbeats 4000000 in
theorem openS_any (s : StL) (w : World) (hin : InS w s) :
    Calls Try.prog 29 #[s.val] w fun e w' => e = .returned (.int .i64 (openW s.v.os)) ∧ Below w.heap.size w w' := by
  have HI := Lib.hid hin
  have HL := Lib.hid hin.os.len
  have hn : s.so.n * 40 ≤ 140737488351232 := hin.os.few
  obtain ⟨me, os, ⟨A, n, c⟩, es, se, q, as_, sa, gs, sg⟩ := s
  simp only at hn HL
  clear hin
  obtain ⟨ve, hve⟩ : ∃ v, v = se.val := ⟨_, rfl⟩
  obtain ⟨va, hva⟩ : ∃ v, v = sa.val := ⟨_, rfl⟩
  obtain ⟨vg, hvg⟩ : ∃ v, v = sg.val := ⟨_, rfl⟩
  show Calls Try.prog 29 #[.agg #[.int .i64 me, .slice A n c, se.val, .int .i64 q, sa.val, sg.val]] w fun e w' => e = .returned (.int .i64 (openW (os.map (·.v)))) ∧ Below w.heap.size w w'
  rw [← hve, ← hva, ← hvg]
  clear hve hva hvg
  have HB0 : Hid (Below w.heap.size w (w.alloc (.cells #[.int .i64 me, .slice A n c, ve, .int .i64 q, va, vg] 28))) := Lib.hid ((Below.refl _ _).alloc (Nat.le_refl _) _)
  go_enter Try.func29, Try.ntmps29
  go_wp2
  go_loopw [3, 9] (fun x j wr => ∃ i : Nat, j = .int .i64 i ∧ i ≤ n ∧ x = .int .i64 (wrap64 (sumK ((os.take i).map (·.v)) : Int)) ∧ Below w.heap.size w wr) (fun _ j _ => n - (intOf j).toNat)
  case atStart => exact ⟨0, rfl, by omega, by simp [sumK, wrap64], HB0.out⟩
  case round =>
    obtain ⟨i, rfl, hi, rfl, hb⟩ := hrel
    obtain ⟨w1, rfl⟩ : ∃ w1 : World, w1 = wr := ⟨_, rfl⟩
    have HB := Lib.hid hb
    clear hb HB0
    by_cases hlt : i < n
    · have hil : i < os.length := by rw [HL.out]; exact hlt
      obtain ⟨b, off, rfl, _, hc⟩ := owR.spots (HI.out.os.next HB.out).rd (show 0 < n by omega)
      have hg := owA_get hil
      have HOk := Lib.hid (HI.out.o _ (List.mem_of_getElem? hg))
      have HS := Lib.hid (sumK_take hil)
      obtain ⟨r, hr⟩ : ∃ r, r = owA os i := ⟨_, rfl⟩
      rw [← hr] at hg HOk HS
      have m0 := hc i r hg 0 _ rfl
      have m1 := hc i r hg 1 _ rfl
      have m2 := hc i r hg 2 _ rfl
      obtain ⟨⟨ra, rm, rc⟩, ⟨A1, n1, c1⟩⟩ := r
      simp only [owR, Nat.add_zero, Sl.val, ← Nat.add_assoc] at m0 m1 m2 HS
      have HB2 : Hid (Below w.heap.size w (w1.alloc (.cells #[.int .i64 ra, .int .i64 rm, .slice A1 n1 c1] 55))) := Lib.hid (HB.out.alloc HB.out.size _)
      have HK := Lib.hid (openC A1 n1 c1 rc _ ((HOk.out.next HB2.out).c.inK HOk.out.i))
      obtain ⟨k, hk⟩ : ∃ k, k = openK rc := ⟨_, rfl⟩
      obtain ⟨t, ht⟩ : ∃ t : Int, t = (sumK ((os.take i).map (·.v)) : Int) := ⟨_, rfl⟩
      have HN : Hid (wrap64 (wrap64 t + (k : Int)) = wrap64 (sumK ((os.take (i + 1)).map (·.v)) : Int)) := Lib.hid (by rw [wrap_on, HS.out, ht, hk]; congr 1)
      rw [← hk] at HK
      rw [← ht]
      clear hc hr hg HOk HS hk ht
      go_wp2_with fail
      refine HK.out.mono ?_
      rintro e w2 ⟨rfl, hb⟩
      have HB3 := Lib.hid (HB2.out.trans (hb.mono HB2.out.size))
      clear hb
      go_wp2
      go_roundw
      case rel => exact ⟨i + 1, by go_num, by omega, by rw [← HN.out], HB3.out⟩
      case measure => simp [intOf]; omega
    · have HF : Hid ((os.take i).map (·.v) = os.map (·.v)) := Lib.hid (by rw [List.take_of_length_le (by rw [HL.out]; omega)])
      rw [HF.out]
      go_wp2
      go_ret
      exact ⟨rfl, HB.out⟩
theorem openS : StOpenP := openS_any
end Go.Proofs.Ytiaafhcfeeekeaa.Pk

/- The landed within, free and led of package chain. -/
namespace Go.Proofs.Ytiaafhcfeeekeaa.Pk
open Go.RowKit
set_option linter.unusedVariables false
attribute [local go_sem] Oper.semAt_some
theorem within_any {x a b : Int} (w : World) : Calls Try.prog 93 #[.int .i64 x, .int .i64 a, .int .i64 b] w fun e w' => e = .returned (.bool (decide (a ≤ x ∧ x ≤ b))) ∧ w' = w := by
  by_cases h0 : a ≤ x
  · have b1 : decide (a ≤ x) = true := decide_eq_true h0
    by_cases h1 : x ≤ b
    · have b2 : decide (x ≤ b) = true := decide_eq_true h1
      have HG : Hid (decide (a ≤ x ∧ x ≤ b) = true) := Lib.hid (decide_eq_true ⟨h0, h1⟩)
      rw [HG.out]
      clear h0 h1
      go_enter Try.func93, Try.ntmps93
      go_wp2
      go_ret
      exact ⟨rfl, rfl⟩
    · have b2 : decide (x ≤ b) = false := decide_eq_false h1
      have HG : Hid (decide (a ≤ x ∧ x ≤ b) = false) := Lib.hid (decide_eq_false (fun h => h1 h.2))
      rw [HG.out]
      clear h0 h1
      go_enter Try.func93, Try.ntmps93
      go_wp2
      go_ret
      exact ⟨rfl, rfl⟩
  · have b1 : decide (a ≤ x) = false := decide_eq_false h0
    have HG : Hid (decide (a ≤ x ∧ x ≤ b) = false) := Lib.hid (decide_eq_false (fun h => h0 h.1))
    rw [HG.out]
    clear h0
    go_enter Try.func93, Try.ntmps93
    go_wp2
    go_ret
    exact ⟨rfl, rfl⟩
theorem free_any {n s d x : Int} (w : World) : Calls Try.prog 92 #[.agg #[.int .i64 n, .int .i64 s, .int .i64 d, .int .i64 x]] w fun e w' => e = .returned (.bool (decide (d = -1 ∧ x = 0))) ∧ Below w.heap.size w w' := by
  by_cases h0 : d = -1
  · have b1 : (d == -1) = true := by simp [h0]
    by_cases h1 : x = 0
    · have b2 : (x == 0) = true := by simp [h1]
      have HG : Hid (decide (d = -1 ∧ x = 0) = true) := Lib.hid (decide_eq_true ⟨h0, h1⟩)
      rw [HG.out]
      clear h0 h1
      go_enter Try.func92, Try.ntmps92
      go_wp2
      go_ret
      exact ⟨rfl, (Below.refl _ w).alloc (Nat.le_refl _) _⟩
    · have b2 : (x == 0) = false := by simp [h1]
      have HG : Hid (decide (d = -1 ∧ x = 0) = false) := Lib.hid (decide_eq_false (fun h => h1 h.2))
      rw [HG.out]
      clear h0 h1
      go_enter Try.func92, Try.ntmps92
      go_wp2
      go_ret
      exact ⟨rfl, (Below.refl _ w).alloc (Nat.le_refl _) _⟩
  · have b1 : (d == -1) = false := by simp [h0]
    have HG : Hid (decide (d = -1 ∧ x = 0) = false) := Lib.hid (decide_eq_false (fun h => h0 h.1))
    rw [HG.out]
    clear h0
    go_enter Try.func92, Try.ntmps92
    go_wp2
    go_ret
    exact ⟨rfl, (Below.refl _ w).alloc (Nat.le_refl _) _⟩
def Led (d x me nn : Int) (m : Nat) : Prop := (0 ≤ d ∧ d ≤ 31) ∧ (1 ≤ x ∧ x ≤ 1099511627776) ∧ (d = me → 0 < m ∧ nn = x)
instance (d x me nn : Int) (m : Nat) : Decidable (Led d x me nn m) := by unfold Led; exact inferInstance
set_option maxHeartbeats 4000000 in
theorem led_any {n s d x me nn : Int} (A : Option Addr) (m c : Nat) (w : World) (hm : m ≤ 4398046511104) (hmc : m ≤ c)
    (hc : 0 < m → ∃ b off, A = some ⟨b, off, none⟩ ∧ b < w.heap.size ∧ w.cell? ⟨b, off, none⟩ = some (.int .i64 nn)) :
    Calls Try.prog 91 #[.agg #[.int .i64 n, .int .i64 s, .int .i64 d, .int .i64 x], .int .i64 me, .slice A m c] w fun e w' => e = .returned (.bool (decide (Led d x me nn m))) ∧ Below w.heap.size w w' := by
  obtain ⟨r, hr⟩ : ∃ r, r = decide (Led d x me nn m) := ⟨_, rfl⟩
  rw [← hr]
  have HR := Lib.hid hr
  clear hr
  have HW1 := Lib.hid (fun w => within_any (x := d) (a := 0) (b := 31) w)
  have HW2 := Lib.hid (fun w => within_any (x := x) (a := 1) (b := 1099511627776) w)
  have HC := Lib.hid hc
  clear hc
  by_cases h1 : 0 ≤ d ∧ d ≤ 31
  case neg =>
    have hrf : r = false := by rw [HR.out]; exact decide_eq_false (fun h => h1 h.1)
    rw [hrf]
    have HG : Hid (decide (0 ≤ d ∧ d ≤ 31) = false) := Lib.hid (decide_eq_false h1)
    rw [HG.out] at HW1
    clear h1 hrf
    go_enter Try.func91, Try.ntmps91
    go_wp2_with fail
    refine (HW1.out _).mono ?_
    rintro e w2 ⟨rfl, hw⟩
    rw [hw]
    clear hw w2
    go_wp2
    go_ret
    exact ⟨rfl, (Below.refl _ w).alloc (Nat.le_refl _) _⟩
  by_cases h2 : 1 ≤ x ∧ x ≤ 1099511627776
  case neg =>
    have hrf : r = false := by rw [HR.out]; exact decide_eq_false (fun h => h2 h.2.1)
    rw [hrf]
    have HG : Hid (decide (0 ≤ d ∧ d ≤ 31) = true) := Lib.hid (decide_eq_true h1)
    have HG2 : Hid (decide (1 ≤ x ∧ x ≤ 1099511627776) = false) := Lib.hid (decide_eq_false h2)
    rw [HG.out] at HW1
    rw [HG2.out] at HW2
    clear h1 h2 hrf
    go_enter Try.func91, Try.ntmps91
    go_wp2_with fail
    refine (HW1.out _).mono ?_
    rintro e w2 ⟨rfl, hw⟩
    rw [hw]
    clear hw w2
    go_wp2_with fail
    refine (HW2.out _).mono ?_
    rintro e w2 ⟨rfl, hw⟩
    rw [hw]
    clear hw w2
    go_wp2
    go_ret
    exact ⟨rfl, (Below.refl _ w).alloc (Nat.le_refl _) _⟩
  have HG : Hid (decide (0 ≤ d ∧ d ≤ 31) = true) := Lib.hid (decide_eq_true h1)
  have HG2 : Hid (decide (1 ≤ x ∧ x ≤ 1099511627776) = true) := Lib.hid (decide_eq_true h2)
  rw [HG.out] at HW1
  rw [HG2.out] at HW2
  have HS : Hid (r = decide (d = me → 0 < m ∧ nn = x)) := Lib.hid (by
    rw [HR.out]; exact decide_eq_decide.2 ⟨fun h => h.2.2, fun h => ⟨h1, h2, h⟩⟩)
  clear h1 h2
  obtain ⟨p, hp⟩ : ∃ p, p = w.heap.size := ⟨_, rfl⟩
  obtain ⟨W1, hW1⟩ : ∃ W1, W1 = w.alloc (.cells #[.int .i64 n, .int .i64 s, .int .i64 d, .int .i64 x] 57) := ⟨_, rfl⟩
  have HB1 : Hid (Below w.heap.size w W1) := Lib.hid (by rw [hW1]; exact (Below.refl _ w).alloc (Nat.le_refl _) _)
  have k2 : ∀ k, (W1.drewN k).cell? ⟨p, 2, none⟩ = some (.int .i64 d) := fun k => by rw [hW1, hp]; exact (Blk.new w _ _).cell 2
  have k3 : ∀ k, (W1.drewN k).cell? ⟨p, 3, none⟩ = some (.int .i64 x) := fun k => by rw [hW1, hp]; exact (Blk.new w _ _).cell 3
  by_cases h3 : d = me
  case neg =>
    have hrf : r = true := by rw [HS.out]; exact decide_eq_true (fun h => absurd h h3)
    rw [hrf]
    have b3 : (d != me) = true := by simp [h3]
    clear h3 hrf
    go_enter Try.func91, Try.ntmps91
    go_wp2_with fail
    refine (HW1.out _).mono ?_
    rintro e w2 ⟨rfl, hw⟩
    rw [hw]
    clear hw w2
    go_wp2_with fail
    refine (HW2.out _).mono ?_
    rintro e w2 ⟨rfl, hw⟩
    rw [hw]
    clear hw w2
    go_wp2_with fail
    rw [← hW1, ← hp]
    clear hW1 hp
    go_quiet (fail)
    go_wp2
    go_ret
    exact ⟨rfl, below_drewC HB1.out _⟩
  have b3 : (d != me) = false := by simp [h3]
  by_cases h4 : 0 < m
  case neg =>
    have hrf : r = false := by rw [HS.out]; exact decide_eq_false (fun h => h4 (h h3).1)
    rw [hrf]
    have hm0 : m = 0 := by omega
    have b4 : decide ((0 : Int) < (m : Int)) = false := decide_eq_false (by omega)
    clear h3 hrf h4
    go_enter Try.func91, Try.ntmps91
    go_wp2_with fail
    refine (HW1.out _).mono ?_
    rintro e w2 ⟨rfl, hw⟩
    rw [hw]
    clear hw w2
    go_wp2_with fail
    refine (HW2.out _).mono ?_
    rintro e w2 ⟨rfl, hw⟩
    rw [hw]
    clear hw w2
    go_wp2_with fail
    rw [← hW1, ← hp]
    clear hW1 hp
    go_quiet (fail)
    go_wp2
    go_ret
    exact ⟨rfl, below_drewC HB1.out _⟩
  have b4 : decide ((0 : Int) < (m : Int)) = true := decide_eq_true (by omega)
  obtain ⟨b, off, rfl, hb, hcell⟩ := HC.out h4
  have k4 : ∀ k, (W1.drewN k).cell? ⟨b, off, none⟩ = some (.int .i64 nn) := fun k => (HB1.out.cell (p := ⟨b, off, none⟩) hb).trans hcell
  clear hcell hb
  by_cases h5 : nn = x
  case neg =>
    have hrf : r = false := by rw [HS.out]; exact decide_eq_false (fun h => h5 (h h3).2)
    rw [hrf]
    have b5 : (nn == x) = false := by simp [h5]
    clear h3 hrf h5
    go_enter Try.func91, Try.ntmps91
    go_wp2_with fail
    refine (HW1.out _).mono ?_
    rintro e w2 ⟨rfl, hw⟩
    rw [hw]
    clear hw w2
    go_wp2_with fail
    refine (HW2.out _).mono ?_
    rintro e w2 ⟨rfl, hw⟩
    rw [hw]
    clear hw w2
    go_wp2_with fail
    rw [← hW1, ← hp]
    clear hW1 hp
    go_quiet (fail)
    go_wp2
    go_ret
    exact ⟨rfl, below_drewC HB1.out _⟩
  have hrf : r = true := by rw [HS.out]; exact decide_eq_true (fun _ => ⟨h4, h5⟩)
  rw [hrf]
  have b5 : (nn == x) = true := by simp [h5]
  clear h3 hrf h5
  go_enter Try.func91, Try.ntmps91
  go_wp2_with fail
  refine (HW1.out _).mono ?_
  rintro e w2 ⟨rfl, hw⟩
  rw [hw]
  clear hw w2
  go_wp2_with fail
  refine (HW2.out _).mono ?_
  rintro e w2 ⟨rfl, hw⟩
  rw [hw]
  clear hw w2
  go_wp2_with fail
  rw [← hW1, ← hp]
  clear hW1 hp
  go_quiet (fail)
  go_wp2
  go_ret
  exact ⟨rfl, below_drewC HB1.out _⟩
end Go.Proofs.Ytiaafhcfeeekeaa.Pk

/- The document's answers (fletchref13): Good. -/
namespace Go.Proofs.Ytiaafhcfeeekeaa.Pk
open Go.RowKit
set_option linter.unusedVariables false
attribute [local go_sem] Oper.semAt_some
theorem cellOk_is {l : List Ce} {me : Int} {sink : Bool} {i n : Nat} {rn rs rd rx pn nn : Int} (hl : l.length = n) (h : (⟨rn, rs, rd, rx⟩ : Ce) = ceA l i) (hp : pn = (ceA l (i - 1)).n) (hn : nn = (ceA l (i + 1)).n) :
    CellOk l me sink i ↔ (0 ≤ rn ∧ rn ≤ 1099511627776 ∧ 1 ≤ rs ∧ rs ≤ 3) ∧ (0 < i → pn < rn ∧ rs = 1) ∧ (rn = 0 → rs = 3) ∧
      (if sink = true ∧ i + 1 = n then rd = -1 ∧ rx = 0 else (rs ≠ 3 ∧ 0 ≤ rd ∧ rd < 32 ∧ 1 ≤ rx ∧ rx ≤ 1099511627776) ∧ (rd = me → i + 1 < n ∧ nn = rx)) := by
  unfold CellOk
  rw [← h, ← hp, ← hn, hl]






























































































































































































































































































































































































































































































































































































































































































































































































































































































































































































































































































































































































































































































































































































































































































































































end Go.Proofs.Ytiaafhcfeeekeaa.Pk
