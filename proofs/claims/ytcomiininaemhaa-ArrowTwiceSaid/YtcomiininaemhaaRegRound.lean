/- A region that draws its order and only reads, inside a round of a range over a function: one walk serves every order there too; needs no package. -/
import Derived.Test.YtcomiininaemhaaRangeIn
import Derived.Sort.QuietIn
namespace Go.Proofs.Ytcomiininaemhaa.Pk
open Go.RowKit Go.Shelf
set_option linter.unusedVariables false
variable {F : Fence} {n : Nat} {P : Program}

def plainOp : Op → Bool
  | .defer _ => false
  | _ => true
theorem plainOp_ne {o : Oper} (h : plainOp o.op = true) : ∀ c, o.op ≠ .defer c := by
  intro c e
  rw [e] at h
  cases h
theorem operIn_round {o : Oper} {a : Act} {w : World} {K : Act → World → Prop} {Q : Exit → Act → World → Prop} (l : Nat) (ho : plainOp o.op = true) (h : o.wpIn F n P a w K Q) : o.wpIn (F.inRound l) n P a w K Q := by
  unfold Oper.wpIn at *
  rw [Oper.semAt_plain F _ _ (plainOp_ne ho)] at h
  rw [Oper.semAt_plain (F.inRound l) _ _ (plainOp_ne ho)]
  exact h
theorem opIn_round {ops : Array Oper} (hp : ∀ (i : Nat) (o : Oper), ops[i]? = some o → plainOp o.op = true) {Q : Exit → Act → World → Prop} (l : Nat) {i : Nat} {K : Act → World → Prop} {a : Act} {w : World} (h : wpOpIn F n P ops Q i K a w) : wpOpIn (F.inRound l) n P ops Q i K a w := by
  unfold wpOpIn at *
  cases ho : ops[i]? with
  | none => simp only [ho] at h ⊢; exact h
  | some o =>
    simp only [ho] at h ⊢
    split
    · rename_i hw; simp only [hw, if_true] at h; exact operIn_round l (hp i o ho) h
    · rename_i hw; simp only [hw] at h; exact h
theorem anyIn_round {md : Region.Mode} {ops : Array Oper} (hp : ∀ (i : Nat) (o : Oper), ops[i]? = some o → plainOp o.op = true) {Q : Exit → Act → World → Prop} (l : Nat) :
    ∀ (fuel : Nat) (listed : Array Bool) (a : Act) (w : World), wpAnyIn F n P md ops Q fuel listed a w → wpAnyIn (F.inRound l) n P md ops Q fuel listed a w
  | 0, _, _, _, h => h
  | fuel + 1, _, _, _, h => ⟨h.1, fun i hi => wpOpIn_mono (fun a w h => anyIn_round hp l fuel _ a w h) (opIn_round hp l (h.2 i hi))⟩
/-- One walk of the lexical order serves every order, in a round. -/
theorem region_quiet_round {id lp : Nat} {Q : Exit → Act → World → Prop} {a : Act} {w : World} {l : List Oper} (hro : F.round = none) (hm : P.follows .mixedOrders = true) (hB : Region.lexB .any l.toArray = true) (hpl : (l.all fun o => plainOp o.op) = true)
    (h : wpQuietIn F n P l.toArray (fun w' => ∃ n, w' = w.drewN n) (fun a' => ∀ w', (∃ n, w' = w.drewN n) → Q .normal a' w') l a) : (Code.region id l.toArray true).wpIn (F.inRound lp) n P Q a w := by
  have hp : ∀ (i : Nat) (o : Oper), l.toArray[i]? = some o → plainOp o.op = true := fun i o ho => by
    have h1 : o ∈ l := by
      rw [List.getElem?_toArray] at ho
      exact List.mem_of_getElem? ho
    exact List.all_eq_true.1 hpl o h1
  simp only [Region.lexB, Bool.and_eq_true] at hB
  refine wpIn_region_any hm (anyIn_round hp lp _ _ _ _ (wpAnyIn_of_quiet (C := fun w' => ∃ n, w' = w.drewN n) (Q := fun a' => ∀ w', (∃ n, w' = w.drewN n) → Q .normal a' w') hro (fun _ w' hw' h => h w' hw') _ _ _ _ ⟨1, rfl⟩ ?_))
  have := wpAnyQIn_lex (F := F) (n := n) (C := fun w' => ∃ n, w' = w.drewN n) (md := .any) hB.1 l 0 (Array.replicate l.toArray.size false) a (by simp) (by simpa using hB.2) h
  simpa using this
end Go.Proofs.Ytcomiininaemhaa.Pk
