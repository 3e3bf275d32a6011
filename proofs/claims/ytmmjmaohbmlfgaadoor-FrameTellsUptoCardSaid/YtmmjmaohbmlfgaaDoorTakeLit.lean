/- Regions that draw their order, in a round, operation by operation; needs no package. -/
import Derived.Test.YtmmjmaohbmlfgaaDoorRegRound
namespace Go.Proofs.YtmmjmaohbmlfgaaDoor.Pk
open Go.RowKit Go.Shelf
set_option linter.unusedVariables false

/-- An operation of a region that draws is taken first; the slots stay literal. -/
theorem take_lit {F : Fence} {n : Nat} {P : Program} {md : Region.Mode} {ops : Array Oper} {Q : Exit → Act → World → Prop} {i d : Nat} {oi : Oper} {v : Value} {fuel : Nat} {listed : Array Bool} {ts ts' : Array Value} {ds : List Deferred} {w : World} (hro : F.round = none) (hi : ops[i]? = some oi) (hd : oi.dst = some d)
    (hs : Region.noSelect ops = true) (hf : Region.free md ops listed i = true) (hr : (Region.ready md ops listed).contains i = true)
    (hQ : ∀ c a w, Q (.panic c) (a.put oi.dst v) w → Q (.panic c) a w) (hy : YieldsFenced P ops oi v { tmps := ts, defers := ds }) (ht : ts.setIfInBounds d v = ts')
    (h : wpAnyIn F n P md ops Q fuel (listed.setIfInBounds i true) { tmps := ts', defers := ds } w) : wpAnyIn F n P md ops Q (fuel + 1) listed { tmps := ts, defers := ds } w :=
  wpAnyIn_take hro hi hs hf hr hQ hy (by unfold Act.put; rw [hd]; subst ht; exact h)
/-- In a round a region without a defer statement is carried out as outside. -/
theorem anyIn_roundL {F : Fence} {n : Nat} {P : Program} {md : Region.Mode} {l : List Oper} (hpl : (l.all fun o => plainOp o.op) = true) {Q : Exit → Act → World → Prop} (lp : Nat) {fuel : Nat} {listed : Array Bool} {a : Act} {w : World}
    (h : wpAnyIn F n P md l.toArray Q fuel listed a w) : wpAnyIn (F.inRound lp) n P md l.toArray Q fuel listed a w :=
  anyIn_round (fun i o ho => by
    have h1 : o ∈ l := by
      rw [List.getElem?_toArray] at ho
      exact List.mem_of_getElem? ho
    exact List.all_eq_true.1 hpl o h1) lp _ _ _ _ h
theorem roundIn_any {m m' : Nat} {P : Program} {l : Nat} {f : FuncId} {tmps : Array Value} {assign body : Code} {w : World} {R : Ending → World → Prop}
    (h : RoundIn Fence.wide m P l f tmps assign body w R) : RoundIn Fence.wide m' P l f tmps assign body w R := ⟨h.1, fun c cs _ => h.2 c cs (room_wide _)⟩
theorem roundIn_in {F : Fence} {m : Nat} {P : Program} {l : Nat} {f : FuncId} {tmps : Array Value} {assign body : Code} {w : World} {R : Ending → World → Prop} (l' : Nat)
    (h : RoundIn F m P l f tmps assign body w R) : RoundIn (F.inRound l') m P l f tmps assign body w R := h
/-- At the return each mark is taken, whatever abides it. -/
theorem Marks.leaveP {F : Fence} {n : Nat} {P : Program} {fn : Func} {tmps : Array Value} {R : Ending → World → Prop} {B : Nat} {Pp : World → Prop}
    (hPp : ∀ W D, Pp W → B ≤ D → W.heap[D]? = some (.deferred (some [])) → Pp (W.putObj D (.deferred none))) : ∀ (ds : List Deferred) (W : World), Marks B ds W → Pp W →
    (∀ W', Pp W' → LeavesIn F n P fn tmps R [] .returning W') → LeavesInM F n P fn tmps R ds .returning W := by
  intro ds
  induction ds with
  | nil => intro W _ hp h; exact h W hp
  | cons d ds ih =>
    intro W hm hp h
    obtain ⟨D, rfl, h1, h2, h3, h4, h5⟩ := hm
    refine ⟨by simp, .inl ⟨D, W.putObj D (.deferred none), rfl, run_takeDeferred h3, ?_⟩⟩
    refine ih _ (h5.keep (by simp [World.putObj]) (fun k ⟨d, hd, he⟩ => World.putObj_heap_other (fun e => ?_))) (hPp _ _ hp h1 h3) h
    exact h4 d hd (by rw [he, e])
end Go.Proofs.YtmmjmaohbmlfgaaDoor.Pk
