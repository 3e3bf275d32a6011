/- A region that draws its order and ends with one operation for which all others are waited: what is held need not hold behind that one. -/
import Derived.Test.YtcicpgiljceioaaProg
import Derived.OrdersHeld
import Derived.Deep.RegionHeld3
import Derived.Lib.Hide
namespace Go.Proofs.Ytcicpgiljceioaa.Pk
open Go.RowKit
set_option linter.unusedVariables false
section
variable {P : Program} {ops : Array Oper} {Q : Exit → Act → World → Prop} {md : Region.Mode} {S : World → Prop} {L : Nat}
/-- Whatever comes up next, S holds behind it, unless it is number L. -/
def AnyL (P : Program) (md : Region.Mode) (ops : Array Oper) (Q : Exit → Act → World → Prop) (S : World → Prop) (L : Nat) : Nat → Array Bool → Act → World → Prop
  | 0, d, a, w => Region.ready md ops d = [] ∧ Q .normal a w
  | k + 1, d, a, w => (Region.ready md ops d = [] → Q .normal a w) ∧
      ∀ i ∈ Region.ready md ops d, wpOp P ops Q i (fun a' w' => (i ≠ L → S w') ∧ AnyL P md ops Q S L k (d.setIfInBounds i true) a' w') a w
theorem AnyL.any : ∀ (k : Nat) (d : Array Bool) (a : Act) (w : World), AnyL P md ops Q S L k d a w → wpAny P md ops Q k d a w := by
  intro k
  induction k with
  | zero => exact fun _ _ _ h => h
  | succ k ih => exact fun d a w h => ⟨h.1, fun i hi => wpOp_mono (fun a' w' h' => ih _ a' w' h'.2) (h.2 i hi)⟩
/-- Number L waits for number i. -/
def WaitsFor (md : Region.Mode) (ops : Array Oper) (L i : Nat) : Bool := match ops[L]? with
  | some o => o.after.any (fun e => Region.binds md e && e.on == i)
  | none => false
theorem waitsFor_spec {i : Nat} (h : WaitsFor md ops L i = true) : ∃ o, ops[L]? = some o ∧ ∃ e ∈ o.after, Region.binds md e = true ∧ e.on = i := by
  unfold WaitsFor at h
  split at h
  · rename_i o ho
    obtain ⟨q, hq, hb⟩ := Array.any_eq_true.1 h
    simp only [Bool.and_eq_true, beq_iff_eq] at hb
    exact ⟨o, ho, o.after[q], Array.getElem_mem hq, hb.1, hb.2⟩
  · cases h
theorem AnyL.take (i : Nat) {oi : Oper} (v : Value) {k : Nat} {d : Array Bool} {a : Act} {w : World} (hi : ops[i]? = some oi) (hs : Region.noSelect ops = true) (hf : Region.free md ops d i = true)
    (hr : (Region.ready md ops d).contains i = true) (hw : WaitsFor md ops L i = true) (hQ : ∀ c a w, Q (.panic c) (a.put oi.dst v) w → Q (.panic c) a w) (hy : YieldsIf P ops S oi v a) (hS : S w)
    (h : AnyL P md ops Q S L k (d.setIfInBounds i true) (a.put oi.dst v) w) : AnyL P md ops Q S L (k + 1) d a w := by
  have key : ∀ (k : Nat) (d : Array Bool) (a : Act) (w : World), (∀ j oj, ops[j]? = some oj → j ≠ i → d.getD j true = false → (∀ e ∈ oj.after, Region.binds md e = true → e.on ≠ i) → oi.apart ops oj = true) →
      i ∈ Region.ready md ops d → YieldsIf P ops S oi v a → S w → AnyL P md ops Q S L k (d.setIfInBounds i true) (a.put oi.dst v) w → AnyL P md ops Q S L (k + 1) d a w := by
    intro k
    induction k with
    | zero =>
      intro d a w _ hr hy hS H
      refine ⟨fun h => (by rw [h] at hr; cases hr), fun j hj => ?_⟩
      by_cases e : j = i
      · rw [e]; exact hy.wpOp hi hS ⟨fun _ => hS, H⟩
      · have h1 := ready_mono hj e
        rw [H.1] at h1
        cases h1
    | succ k ih =>
      intro d a w hfr hr hy hS H
      refine ⟨fun h => (by rw [h] at hr; cases hr), fun j hj => ?_⟩
      by_cases e : j = i
      · rw [e]; exact hy.wpOp hi hS ⟨fun _ => hS, H⟩
      · obtain ⟨hun, oj, hoj, hall⟩ := mem_ready.1 hj
        have hi0 := (mem_ready.1 hr).1
        have hno : ∀ e ∈ oj.after, Region.binds md e = true → e.on ≠ i := by
          intro e he hb e2
          have h1 := hall e he hb
          rw [e2] at h1
          rcases Nat.lt_or_ge i d.size with h3 | h3
          · simp [h3] at hi0 h1; rw [hi0] at h1; cases h1
          · simp [Array.getElem?_eq_none h3] at h1
        have hjL : j ≠ L := by
          rintro rfl
          obtain ⟨o, ho, e, he, hb, he2⟩ := waitsFor_spec hw
          rw [hoj] at ho
          injection ho with ho
          subst ho
          exact hno e he hb he2
        refine wpOp_mono ?_ (wpOp_putIf hoj (hfr j oj hoj e hun hno) (fun cs b => Region.noSelect_spec hs i oi cs b hi) (fun cs b => Region.noSelect_spec hs j oj cs b hoj) hQ hy (H.2 j (ready_mono hj e)))
        rintro a' w' ⟨hy', hS', H'⟩
        refine ⟨hS', ih _ a' w' (fun q oq hq hqi hqu hqn => hfr q oq hq hqi ?_ hqn) (ready_mono hr (Ne.symm e)) hy' (hS' hjL) ?_⟩
        · by_cases hjq : j = q
          · subst hjq; exact hun
          · rw [getD_set_ne true hjq] at hqu; exact hqu
        · rw [Array.setIfInBounds_comm _ _ e]
          exact H'
  exact key k d a w (fun j oj h1 h2 h3 h4 => Region.free_spec hi hf j oj h1 h2 h3 h4) (by simpa using hr) hy hS h
/-- One alone may come up. -/
theorem AnyL.one (i : Nat) {o : Oper} {k : Nat} {d : Array Bool} {a : Act} {w : World} (hr : Region.ready md ops d = [i]) (ho : ops[i]? = some o)
    (h : ∀ K' : Act → World → Prop, Hid (∀ a w, (i ≠ L → S w) → AnyL P md ops Q S L k (d.setIfInBounds i true) a w → K' a w) → if Region.wanted o (yielded ops a.tmps) = true then Oper.wp P o a w K' Q else K' (a.put o.dst undef) w) :
    AnyL P md ops Q S L (k + 1) d a w := by
  refine ⟨fun h0 => (by rw [h0] at hr; cases hr), fun j hj => ?_⟩
  rw [hr] at hj
  obtain rfl := List.mem_singleton.1 hj
  exact wpOp_step ho (fun K' hK => h K' (Lib.hid (fun a w hS hW => hK a w ⟨hS, hW⟩)))
theorem AnyL.done {d : Array Bool} {a : Act} {w : World} (hr : Region.ready md ops d = []) (h : Q .normal a w) : ∀ k, AnyL P md ops Q S L k d a w
  | 0 => ⟨hr, h⟩
  | _ + 1 => ⟨fun _ => h, by rw [hr]; simp⟩
theorem region_last {id : Nat} {a : Act} {w : World} (L : Nat) (S : World → Prop) (hm : P.follows .mixedOrders = true) (h : AnyL P .any ops Q S L ops.size (Array.replicate ops.size false) a w.drew) : (Code.region id ops true).wp P Q a w :=
  wp_region_any hm (AnyL.any _ _ _ _ h)
end
end Go.Proofs.Ytcicpgiljceioaa.Pk
