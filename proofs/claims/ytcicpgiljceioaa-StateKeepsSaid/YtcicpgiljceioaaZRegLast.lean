/- The landed within, below and has of package state. -/
import Derived.Test.YtcicpgiljceioaaZStSpec
import Derived.Test.YtcicpgiljceioaaProg
import Derived.OrdersHeld
import Derived.Deep.RegionHeld3
import Derived.Lib.Hide
namespace Go.Proofs.Ytcicpgiljceioaa.Pk
open Go.RowKit Go.Proofs.Ytcicpgiljceioaa.Gr
set_option linter.unusedVariables false
theorem swithin_any {x a b : Int} (w : World) : Calls Try.prog 29 #[.int .i64 x, .int .i64 a, .int .i64 b] w fun e w' => e = .returned (.bool (decide (a ≤ x ∧ x ≤ b))) ∧ w' = w := by
  by_cases h0 : a ≤ x
  · have b1 : decide (a ≤ x) = true := decide_eq_true h0
    by_cases h1 : x ≤ b
    · have b2 : decide (x ≤ b) = true := decide_eq_true h1
      have HG : Hid (decide (a ≤ x ∧ x ≤ b) = true) := Lib.hid (decide_eq_true ⟨h0, h1⟩)
      rw [HG.out]
      clear h0 h1
      go_enter Try.func29, Try.ntmps29
      go_wp2
      go_ret
      exact ⟨rfl, rfl⟩
    · have b2 : decide (x ≤ b) = false := decide_eq_false h1
      have HG : Hid (decide (a ≤ x ∧ x ≤ b) = false) := Lib.hid (decide_eq_false (fun h => h1 h.2))
      rw [HG.out]
      clear h0 h1
      go_enter Try.func29, Try.ntmps29
      go_wp2
      go_ret
      exact ⟨rfl, rfl⟩
  · have b1 : decide (a ≤ x) = false := decide_eq_false h0
    have HG : Hid (decide (a ≤ x ∧ x ≤ b) = false) := Lib.hid (decide_eq_false (fun h => h0 h.1))
    rw [HG.out]
    clear h0
    go_enter Try.func29, Try.ntmps29
    go_wp2
    go_ret
    exact ⟨rfl, rfl⟩
theorem sbelow_any {x k : Int} (w : World) : Calls Try.prog 43 #[.int .i64 x, .int .i64 k] w fun e w' => e = .returned (.bool (decide (0 ≤ x ∧ x < k))) ∧ w' = w := by
  by_cases h0 : 0 ≤ x
  · have b1 : decide (0 ≤ x) = true := decide_eq_true h0
    by_cases h1 : x < k
    · have b2 : decide (x < k) = true := decide_eq_true h1
      have HG : Hid (decide (0 ≤ x ∧ x < k) = true) := Lib.hid (decide_eq_true ⟨h0, h1⟩)
      rw [HG.out]
      clear h0 h1
      go_enter Try.func43, Try.ntmps43
      go_wp2
      go_ret
      exact ⟨rfl, rfl⟩
    · have b2 : decide (x < k) = false := decide_eq_false h1
      have HG : Hid (decide (0 ≤ x ∧ x < k) = false) := Lib.hid (decide_eq_false (fun h => h1 h.2))
      rw [HG.out]
      clear h0 h1
      go_enter Try.func43, Try.ntmps43
      go_wp2
      go_ret
      exact ⟨rfl, rfl⟩
  · have b1 : decide (0 ≤ x) = false := decide_eq_false h0
    have HG : Hid (decide (0 ≤ x ∧ x < k) = false) := Lib.hid (decide_eq_false (fun h => h0 h.1))
    rw [HG.out]
    clear h0
    go_enter Try.func43, Try.ntmps43
    go_wp2
    go_ret
    exact ⟨rfl, rfl⟩
/-- Is it a node of the tree? -/
theorem shas_any (T g : Nat) (ps : List Int) (v : Int) (w : World) (h : IsTr w T g ps) :
    Calls Try.prog 27 #[.pointer (some ⟨T, 0, none⟩), .int .i64 v] w fun e w' => e = .returned (.bool (decide (0 ≤ v ∧ v < (ps.length : Int)))) ∧ w' = w := by
  have HS := Lib.hid (size_any T g ps w h)
  have HB := Lib.hid (sbelow_any (x := v) (k := (ps.length : Int)) w)
  obtain ⟨q, hq⟩ : ∃ q, q = decide (0 ≤ v ∧ v < (ps.length : Int)) := ⟨_, rfl⟩
  rw [← hq] at HB ⊢
  clear h hq
  go_enter Try.func27, Try.ntmps27
  go_wp2_with fail
  refine HS.out.mono ?_
  rintro e w1 ⟨rfl, hw⟩
  rw [hw]
  clear hw w1
  go_wp2_with fail
  refine HB.out.mono ?_
  rintro e w1 ⟨rfl, hw⟩
  rw [hw]
  clear hw w1
  go_wp2_with fail
  go_ret
  exact ⟨rfl, rfl⟩
theorem shas_nil (v : Int) (w : World) :
    Calls Try.prog 27 #[.pointer none, .int .i64 v] w fun e w' => e = .returned (.bool false) ∧ w' = w := by
  have HS := Lib.hid (size_nil w)
  have HB : Hid (Calls Try.prog 43 #[.int .i64 v, .int .i64 0] w fun e w' => e = .returned (.bool false) ∧ w' = w) := Lib.hid (by
    have h := sbelow_any (x := v) (k := 0) w
    rw [show decide (0 ≤ v ∧ v < 0) = false from decide_eq_false (by omega)] at h
    exact h)
  go_enter Try.func27, Try.ntmps27
  go_wp2_with fail
  refine HS.out.mono ?_
  rintro e w1 ⟨rfl, hw⟩
  rw [hw]
  clear hw w1
  go_wp2_with fail
  refine HB.out.mono ?_
  rintro e w1 ⟨rfl, hw⟩
  rw [hw]
  clear hw w1
  go_wp2_with fail
  go_ret
  exact ⟨rfl, rfl⟩
end Go.Proofs.Ytcicpgiljceioaa.Pk

/- The landed Homes and Meant of package state. -/
namespace Go.Proofs.Ytcicpgiljceioaa.Pk
open Go.RowKit Go.Proofs.Ytcicpgiljceioaa.Gr
set_option linter.unusedVariables false
attribute [local go_sem] Oper.semAt_some
theorem withinB {x a b : Int} (r : Bool) (w : World) (h : decide (a ≤ x ∧ x ≤ b) = r) : Calls Try.prog 29 #[.int .i64 x, .int .i64 a, .int .i64 b] w fun e w' => e = .returned (.bool r) ∧ w' = w := h ▸ swithin_any w
theorem belowB {x k : Int} (r : Bool) (w : World) (h : decide (0 ≤ x ∧ x < k) = r) : Calls Try.prog 43 #[.int .i64 x, .int .i64 k] w fun e w' => e = .returned (.bool r) ∧ w' = w := h ▸ sbelow_any w
theorem hasB_ {T g : Nat} {ps : List Int} {v : Int} (r : Bool) (w : World) (h : IsTr w T g ps) (hr : decide (0 ≤ v ∧ v < (ps.length : Int)) = r) :
    Calls Try.prog 27 #[.pointer (some ⟨T, 0, none⟩), .int .i64 v] w fun e w' => e = .returned (.bool r) ∧ w' = w := hr ▸ shas_any T g ps v w h
theorem homesZ : StHomesZ := by
  intro A n c hs w hin
  clear hin
  go_enter Try.func11, Try.ntmps11
  go_wp2_with fail
  go_ret
  exact ⟨rfl, Below.refl _ _⟩
set_option maxHeartbeats 4000000 in
theorem homesS : StHomesP := by
  intro T g ps A n c hs w htr G hin
  have HT := Lib.hid htr
  have HR := Lib.hid hin.rd
  have HL : Hid (hs.length = n) := Lib.hid hin.len
  have hfew := hin.few
  clear htr hin G
  unfold homesE
  by_cases h8 : 1 ≤ n ∧ n ≤ 8
  · have HW := Lib.hid (withinB (x := (n : Int)) (a := 1) (b := 8) true w (decide_eq_true (by omega)))
    go_enter Try.func11, Try.ntmps11
    go_wp2_with fail
    refine HW.out.mono ?_
    rintro e w' ⟨rfl, hw⟩
    rw [hw]
    clear hw w'
    go_wp2_with fail
    go_loop [17] (fun j => ∃ i : Nat, j = .int .i64 i ∧ i ≤ n ∧ ∀ k, k < i → 0 ≤ hs.getD k 0 ∧ hs.getD k 0 < (ps.length : Int)) (fun j => n - (intOf j).toNat)
    case atStart => exact ⟨0, rfl, by omega, fun k hk => by omega⟩
    case round =>
      obtain ⟨i, rfl, hi, hall⟩ := hrel
      have HA := Lib.hid hall
      clear hall
      by_cases hlt : i < n
      · obtain ⟨b, off, rfl, _, hc⟩ := HR.out.i64 (by omega)
        have m0 := hc i hlt
        have HX : Hid (∀ x, x = hs.getD i 0 → x ∈ hs) := Lib.hid (fun x hx => by
          rw [hx, List.getD_eq_getElem?_getD, List.getElem?_eq_getElem (by rw [HL.out]; exact hlt)]
          exact List.getElem_mem _)
        obtain ⟨x, hx⟩ : ∃ x, x = hs.getD i 0 := ⟨_, rfl⟩
        rw [← hx] at m0
        have HM := Lib.hid (HX.out x hx)
        have HXx := Lib.hid hx
        clear hc hx HX
        by_cases hq : 0 ≤ x ∧ x < (ps.length : Int)
        · have HH := Lib.hid (hasB_ (v := x) true w HT.out (decide_eq_true hq))
          have HN : Hid (∀ k, k < i + 1 → 0 ≤ hs.getD k 0 ∧ hs.getD k 0 < (ps.length : Int)) := Lib.hid (fun k hk => by
            rcases Nat.lt_or_ge k i with hk2 | hk2
            · exact HA.out k hk2
            · have : k = i := by omega
              subst this
              rw [← HXx.out]; exact hq)
          clear hq
          go_wp2_with (refine HH.out.mono ?_; rintro e w' ⟨rfl, hw⟩; rw [hw]; clear hw w')
          go_round
          case rel => exact ⟨i + 1, by go_num, by omega, HN.out⟩
          case measure => simp [intOf]; omega
        · have HH := Lib.hid (hasB_ (v := x) false w HT.out (decide_eq_false hq))
          have HD : Hid (¬ HomesS ps.length hs) := Lib.hid (fun hh => hq (hh.2 x HM.out))
          clear hq
          go_wp2_with (refine HH.out.mono ?_; rintro e w' ⟨rfl, hw⟩; rw [hw]; clear hw w')
          go_ret
          exact ⟨by first | rfl | (rw [if_neg HD.out]; rfl), Below.refl _ _⟩
      · have HD : Hid (HomesS ps.length hs) := Lib.hid ⟨by rw [HL.out]; exact h8, fun h hh => by
          obtain ⟨k, hk⟩ := List.getElem?_of_mem hh
          have h3 := (List.getElem?_eq_some_iff.1 hk).1
          have := HA.out k (by rw [HL.out] at h3; omega)
          rw [List.getD_eq_getElem?_getD, hk] at this
          exact this⟩
        go_wp2_with fail
        go_ret
        exact ⟨by first | rfl | (rw [if_pos HD.out]; rfl), Below.refl _ _⟩
  · have HD : Hid (¬ HomesS ps.length hs) := Lib.hid (fun hh => h8 (by have := hh.1; rw [HL.out] at this; exact this))
    have HW := Lib.hid (withinB (x := (n : Int)) (a := 1) (b := 8) false w (decide_eq_false (by omega)))
    clear h8
    go_enter Try.func11, Try.ntmps11
    go_wp2_with fail
    refine HW.out.mono ?_
    rintro e w' ⟨rfl, hw⟩
    rw [hw]
    clear hw w'
    go_wp2_with fail
    go_ret
    exact ⟨by first | rfl | (rw [if_neg HD.out]; rfl), Below.refl _ _⟩
set_option maxHeartbeats 4000000 in
theorem meantS : StMeantP := by
  intro T g ps k m w htr G hk hm
  obtain ⟨mk, mo, mn, mu, mv⟩ := m
  clear hk hm G
  unfold Mg.val
  simp only
  obtain ⟨w1, hw1⟩ : ∃ w1, w1 = w.alloc (.cells #[.int .i64 mk, .int .i64 mo, .int .i64 mn, .int .i64 mu, .int .i64 mv] 45) := ⟨_, rfl⟩
  have hb1 : Below w.heap.size w w1 := hw1 ▸ (Below.refl _ w).alloc (Nat.le_refl _) _
  have HB := Lib.hid hb1
  have HT := Lib.hid (htr.below_ hb1)
  have HBl := fun r h => Lib.hid (belowB (x := mo) (k := k) r w1 h)
  have HN := fun r h => Lib.hid (hasB_ (v := mn) r w1 HT.out h)
  have HV := fun r h => Lib.hid (hasB_ (v := mv) r w1 HT.out h)
  clear htr hb1
  by_cases h0 : 0 ≤ mo ∧ mo < k
  · have H0 := HBl true (decide_eq_true h0)
    by_cases h1 : 0 ≤ mn ∧ mn < (ps.length : Int)
    · have H1 := HN true (decide_eq_true h1)
      by_cases h2 : 0 ≤ mv ∧ mv < (ps.length : Int)
      · have H2 := HV true (decide_eq_true h2)
        have hd : decide (MeantS (ps.length : Int) k ⟨mk, mo, mn, mu, mv⟩) = true := decide_eq_true (by unfold MeantS; simp only; omega)
        rw [hd]
        clear hd h0 h1 h2 HBl HN HV
        go_enter Try.func20, Try.ntmps20
        go_wp2_with fail
        rw [← hw1]
        refine H0.out.mono ?_
        rintro e w' ⟨rfl, hw⟩
        rw [hw, hw1]
        clear hw w'
        go_wp2_with fail
        rw [← hw1]
        refine H1.out.mono ?_
        rintro e w' ⟨rfl, hw⟩
        rw [hw, hw1]
        clear hw w'
        go_wp2_with fail
        rw [← hw1]
        refine H2.out.mono ?_
        rintro e w' ⟨rfl, hw⟩
        rw [hw]
        clear hw w' hw1
        go_wp2_with fail
        go_ret
        exact ⟨rfl, HB.out⟩
      · have H2 := HV false (decide_eq_false h2)
        have hd : decide (MeantS (ps.length : Int) k ⟨mk, mo, mn, mu, mv⟩) = false := decide_eq_false (by unfold MeantS; simp only; omega)
        rw [hd]
        clear hd h0 h1 h2 HBl HN HV
        go_enter Try.func20, Try.ntmps20
        go_wp2_with fail
        rw [← hw1]
        refine H0.out.mono ?_
        rintro e w' ⟨rfl, hw⟩
        rw [hw, hw1]
        clear hw w'
        go_wp2_with fail
        rw [← hw1]
        refine H1.out.mono ?_
        rintro e w' ⟨rfl, hw⟩
        rw [hw, hw1]
        clear hw w'
        go_wp2_with fail
        rw [← hw1]
        refine H2.out.mono ?_
        rintro e w' ⟨rfl, hw⟩
        rw [hw]
        clear hw w' hw1
        go_wp2_with fail
        go_ret
        exact ⟨rfl, HB.out⟩
    · have H1 := HN false (decide_eq_false h1)
      have hd : decide (MeantS (ps.length : Int) k ⟨mk, mo, mn, mu, mv⟩) = false := decide_eq_false (by unfold MeantS; simp only; omega)
      rw [hd]
      clear hd h0 h1 HBl HN HV
      go_enter Try.func20, Try.ntmps20
      go_wp2_with fail
      rw [← hw1]
      refine H0.out.mono ?_
      rintro e w' ⟨rfl, hw⟩
      rw [hw, hw1]
      clear hw w'
      go_wp2_with fail
      rw [← hw1]
      refine H1.out.mono ?_
      rintro e w' ⟨rfl, hw⟩
      rw [hw]
      clear hw w' hw1
      go_wp2_with fail
      go_ret
      exact ⟨rfl, HB.out⟩
  · have H0 := HBl false (decide_eq_false h0)
    have hd : decide (MeantS (ps.length : Int) k ⟨mk, mo, mn, mu, mv⟩) = false := decide_eq_false (by unfold MeantS; simp only; omega)
    rw [hd]
    clear hd h0 HBl HN HV
    go_enter Try.func20, Try.ntmps20
    go_wp2_with fail
    rw [← hw1]
    refine H0.out.mono ?_
    rintro e w' ⟨rfl, hw⟩
    rw [hw]
    clear hw w' hw1
    go_wp2_with fail
    go_ret
    exact ⟨rfl, HB.out⟩
set_option maxHeartbeats 4000000 in
theorem meantZ : StMeantZ := by
  intro k m w hk hm
  obtain ⟨mk, mo, mn, mu, mv⟩ := m
  clear hk hm
  unfold Mg.val
  simp only
  obtain ⟨w1, hw1⟩ : ∃ w1, w1 = w.alloc (.cells #[.int .i64 mk, .int .i64 mo, .int .i64 mn, .int .i64 mu, .int .i64 mv] 45) := ⟨_, rfl⟩
  have hb1 : Below w.heap.size w w1 := hw1 ▸ (Below.refl _ w).alloc (Nat.le_refl _) _
  have HB := Lib.hid hb1
  have H1 := Lib.hid (shas_nil mn w1)
  clear hb1
  by_cases h0 : 0 ≤ mo ∧ mo < k
  · have H0 := Lib.hid (belowB (x := mo) (k := k) true w1 (decide_eq_true h0))
    clear h0
    go_enter Try.func20, Try.ntmps20
    go_wp2_with fail
    rw [← hw1]
    refine H0.out.mono ?_
    rintro e w' ⟨rfl, hw⟩
    rw [hw, hw1]
    clear hw w'
    go_wp2_with fail
    rw [← hw1]
    refine H1.out.mono ?_
    rintro e w' ⟨rfl, hw⟩
    rw [hw]
    clear hw w' hw1
    go_wp2_with fail
    go_ret
    exact ⟨rfl, HB.out⟩
  · have H0 := Lib.hid (belowB (x := mo) (k := k) false w1 (decide_eq_false h0))
    clear h0
    go_enter Try.func20, Try.ntmps20
    go_wp2_with fail
    rw [← hw1]
    refine H0.out.mono ?_
    rintro e w' ⟨rfl, hw⟩
    rw [hw]
    clear hw w' hw1
    go_wp2_with fail
    go_ret
    exact ⟨rfl, HB.out⟩
end Go.Proofs.Ytcicpgiljceioaa.Pk

/- A region that draws its order and ends with one operation for which all others are waited: what is held need not hold behind that one. -/
namespace Go.Proofs.Ytcicpgiljceioaa.Pk
open Go.RowKit
set_option linter.unusedVariables false
section
variable {P : Program} {ops : Array Oper} {Q : Exit → Act → World → Prop} {md : Region.Mode} {S : World → Prop} {L : Nat}
/-- Whatever comes up next, S holds behind it, unless it is number L. -/
def AnyL (P : Program) (md : Region.Mode) (ops : Array Oper) (Q : Exit → Act → World → Prop) (S : World → Prop) (L : Nat) : Nat → Array Bool → Act → World → Prop
  | 0, d, a, w => Region.ready md ops d = [] ∧ Q .normal a w
  | k + 1, d, a, w => (Region.ready md ops d = [] → Q .normal a w) ∧
      ∀ i ∈ Region.ready md ops d, wpOp P ops Q i (fun a' w' => (i ≠ L → S w') ∧ AnyL P md ops Q S L k (d.setIfInBounds i true) a' w') a w
theorem AnyL.any : ∀ (k : Nat) (d : Array Bool) (a : Act) (w : World), AnyL P md ops Q S L k d a w → wpAny P md ops Q k d a w := by
  intro k
  induction k with
  | zero => exact fun _ _ _ h => h
  | succ k ih => exact fun d a w h => ⟨h.1, fun i hi => wpOp_mono (fun a' w' h' => ih _ a' w' h'.2) (h.2 i hi)⟩
/-- Number L waits for number i. -/
def WaitsFor (md : Region.Mode) (ops : Array Oper) (L i : Nat) : Bool := match ops[L]? with
  | some o => o.after.any (fun e => Region.binds md e && e.on == i)
  | none => false
theorem waitsFor_spec {i : Nat} (h : WaitsFor md ops L i = true) : ∃ o, ops[L]? = some o ∧ ∃ e ∈ o.after, Region.binds md e = true ∧ e.on = i := by
  unfold WaitsFor at h
  split at h
  · rename_i o ho
    obtain ⟨q, hq, hb⟩ := Array.any_eq_true.1 h
    simp only [Bool.and_eq_true, beq_iff_eq] at hb
    exact ⟨o, ho, o.after[q], Array.getElem_mem hq, hb.1, hb.2⟩
  · cases h
theorem AnyL.take (i : Nat) {oi : Oper} (v : Value) {k : Nat} {d : Array Bool} {a : Act} {w : World} (hi : ops[i]? = some oi) (hs : Region.noSelect ops = true) (hf : Region.free md ops d i = true)
    (hr : (Region.ready md ops d).contains i = true) (hw : WaitsFor md ops L i = true) (hQ : ∀ c a w, Q (.panic c) (a.put oi.dst v) w → Q (.panic c) a w) (hy : YieldsIf P ops S oi v a) (hS : S w)
    (h : AnyL P md ops Q S L k (d.setIfInBounds i true) (a.put oi.dst v) w) : AnyL P md ops Q S L (k + 1) d a w := by
  have key : ∀ (k : Nat) (d : Array Bool) (a : Act) (w : World), (∀ j oj, ops[j]? = some oj → j ≠ i → d.getD j true = false → (∀ e ∈ oj.after, Region.binds md e = true → e.on ≠ i) → oi.apart ops oj = true) →
      i ∈ Region.ready md ops d → YieldsIf P ops S oi v a → S w → AnyL P md ops Q S L k (d.setIfInBounds i true) (a.put oi.dst v) w → AnyL P md ops Q S L (k + 1) d a w := by
    intro k
    induction k with
    | zero =>
      intro d a w _ hr hy hS H
      refine ⟨fun h => (by rw [h] at hr; cases hr), fun j hj => ?_⟩
      by_cases e : j = i
      · rw [e]; exact hy.wpOp hi hS ⟨fun _ => hS, H⟩
      · have h1 := ready_mono hj e
        rw [H.1] at h1
        cases h1
    | succ k ih =>
      intro d a w hfr hr hy hS H
      refine ⟨fun h => (by rw [h] at hr; cases hr), fun j hj => ?_⟩
      by_cases e : j = i
      · rw [e]; exact hy.wpOp hi hS ⟨fun _ => hS, H⟩
      · obtain ⟨hun, oj, hoj, hall⟩ := mem_ready.1 hj
        have hi0 := (mem_ready.1 hr).1
        have hno : ∀ e ∈ oj.after, Region.binds md e = true → e.on ≠ i := by
          intro e he hb e2
          have h1 := hall e he hb
          rw [e2] at h1
          rcases Nat.lt_or_ge i d.size with h3 | h3
          · simp [h3] at hi0 h1; rw [hi0] at h1; cases h1
          · simp [Array.getElem?_eq_none h3] at h1
        have hjL : j ≠ L := by
          rintro rfl
          obtain ⟨o, ho, e, he, hb, he2⟩ := waitsFor_spec hw
          rw [hoj] at ho
          injection ho with ho
          subst ho
          exact hno e he hb he2
        refine wpOp_mono ?_ (wpOp_putIf hoj (hfr j oj hoj e hun hno) (fun cs b => Region.noSelect_spec hs i oi cs b hi) (fun cs b => Region.noSelect_spec hs j oj cs b hoj) hQ hy (H.2 j (ready_mono hj e)))
        rintro a' w' ⟨hy', hS', H'⟩
        refine ⟨hS', ih _ a' w' (fun q oq hq hqi hqu hqn => hfr q oq hq hqi ?_ hqn) (ready_mono hr (Ne.symm e)) hy' (hS' hjL) ?_⟩
        · by_cases hjq : j = q
          · subst hjq; exact hun
          · rw [getD_set_ne true hjq] at hqu; exact hqu
        · rw [Array.setIfInBounds_comm _ _ e]
          exact H'
  exact key k d a w (fun j oj h1 h2 h3 h4 => Region.free_spec hi hf j oj h1 h2 h3 h4) (by simpa using hr) hy hS h
/-- One alone may come up. -/
theorem AnyL.one (i : Nat) {o : Oper} {k : Nat} {d : Array Bool} {a : Act} {w : World} (hr : Region.ready md ops d = [i]) (ho : ops[i]? = some o)
    (h : ∀ K' : Act → World → Prop, Hid (∀ a w, (i ≠ L → S w) → AnyL P md ops Q S L k (d.setIfInBounds i true) a w → K' a w) → if Region.wanted o (yielded ops a.tmps) = true then Oper.wp P o a w K' Q else K' (a.put o.dst undef) w) :
    AnyL P md ops Q S L (k + 1) d a w := by
  refine ⟨fun h0 => (by rw [h0] at hr; cases hr), fun j hj => ?_⟩
  rw [hr] at hj
  obtain rfl := List.mem_singleton.1 hj
  exact wpOp_step ho (fun K' hK => h K' (Lib.hid (fun a w hS hW => hK a w ⟨hS, hW⟩)))
theorem AnyL.done {d : Array Bool} {a : Act} {w : World} (hr : Region.ready md ops d = []) (h : Q .normal a w) : ∀ k, AnyL P md ops Q S L k d a w
  | 0 => ⟨hr, h⟩
  | _ + 1 => ⟨fun _ => h, by rw [hr]; simp⟩
theorem region_last {id : Nat} {a : Act} {w : World} (L : Nat) (S : World → Prop) (hm : P.follows .mixedOrders = true) (h : AnyL P .any ops Q S L ops.size (Array.replicate ops.size false) a w.drew) : (Code.region id ops true).wp P Q a w :=
  wp_region_any hm (AnyL.any _ _ _ _ h)
end
end Go.Proofs.Ytcicpgiljceioaa.Pk
