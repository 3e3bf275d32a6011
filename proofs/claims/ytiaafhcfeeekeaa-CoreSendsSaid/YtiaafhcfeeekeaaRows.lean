/-
  No cell of these rows narrows 'for every input' (looked for: loops, veiled, ifaces, maps, wideKeys, modest, calm, conditions, laid).
  DERIVED. THE GIVEN ROWS OF THIS SEAT. 7 by the template 'for every input the law returns true; each argument reads behind the call as it read before'; 0 by the template 'total and deterministic' (their statements: YtiaafhcfeeekeaaTotals.lean).
  GIVEN WITH THE SEED: the statements are not yours to turn. If you find one false, say at which input.
  Laid BY PROGRAM, IN A SANDBOX (cutbox-rows.mjs): the forced cells as the released guide's own fill.sh prints them over the translation ae1ca65515d0ab14… (all of the seat's roots in one cut). By AI agents, Wed Nov 11 2026. No macro, syntax, notation, axiom, sorry.
-/
import Derived.Test.YtiaafhcfeeekeaaChecked
import GoSem.Claim
import GoSem.ClaimJoined
import GoSem.ClaimMapViews
import Derived.JoinedTies
import Derived.KernelRfl
namespace Go.Proofs.Ytiaafhcfeeekeaa
/- THE CELL 'sum', in the pinned program and in every row, IS THE sha256 OF THE DUMP (.gsa) THAT YtiaafhcfeeekeaaProg.lean LOADS. Nothing in Lean hashes anything: it is a label: what it is worth is what the hold of that sum in a sandbox is worth. -/
noncomputable def Try.pinned : Pinned := { name := "ytiaafhcfeeekeaa", sum := "ae1ca65515d0ab14335e189ce6962553d23e58a987260822752410501fc78700", checked := Try.checked }
namespace Rows
def none {H : Type} : Left H := { results := [], args := [] }

/-- 'fletchlaw15.CoreStays': WHATEVER THE INPUT: true; the input reads as it did. -/
def coreStaysSpec : ChangeSpec := { name := "coreStays", fn := fun _ => fun
  | [d1, d2, d3] => { results := [.lit (.bool true)], args := [d1, d2, d3] }
  | _ => none }
def coreStaysRow : OpenClaim := { program := "ytiaafhcfeeekeaa", sum := "ae1ca65515d0ab14335e189ce6962553d23e58a987260822752410501fc78700", func := "fletch/fletchlaw15.CoreStays", spec := "coreStays", unfollowed := true, recurses := true, apart := false }
def CoreStaysSaid : Prop := coreStaysRow.holds Try.pinned (OpenSpec.ofChange coreStaysSpec)

/-- ITS FALSE NEIGHBOUR: 'it returns false'. Refute it at one input. -/
def coreStaysWrong : ChangeSpec := { name := "coreStays", fn := fun _ => fun
  | [d1, d2, d3] => { results := [.lit (.bool false)], args := [d1, d2, d3] }
  | _ => none }
def CoreStaysWrongFalsely : Prop := coreStaysRow.holds Try.pinned (OpenSpec.ofChange coreStaysWrong)

/-- 'fletchlaw15.CoreLosesNone': WHATEVER THE INPUT: true; the input reads as it did. -/
def coreLosesNoneSpec : ChangeSpec := { name := "coreLosesNone", fn := fun _ => fun
  | [d1, d2, d3] => { results := [.lit (.bool true)], args := [d1, d2, d3] }
  | _ => none }
def coreLosesNoneRow : OpenClaim := { program := "ytiaafhcfeeekeaa", sum := "ae1ca65515d0ab14335e189ce6962553d23e58a987260822752410501fc78700", func := "fletch/fletchlaw15.CoreLosesNone", spec := "coreLosesNone", unfollowed := true, recurses := true, apart := false }
def CoreLosesNoneSaid : Prop := coreLosesNoneRow.holds Try.pinned (OpenSpec.ofChange coreLosesNoneSpec)

/-- ITS FALSE NEIGHBOUR: 'it returns false'. Refute it at one input. -/
def coreLosesNoneWrong : ChangeSpec := { name := "coreLosesNone", fn := fun _ => fun
  | [d1, d2, d3] => { results := [.lit (.bool false)], args := [d1, d2, d3] }
  | _ => none }
def CoreLosesNoneWrongFalsely : Prop := coreLosesNoneRow.holds Try.pinned (OpenSpec.ofChange coreLosesNoneWrong)

/-- 'fletchlaw15.CoreLooks': WHATEVER THE INPUT: true; the input reads as it did. -/
def coreLooksSpec : ChangeSpec := { name := "coreLooks", fn := fun _ => fun
  | [d1, d2, d3] => { results := [.lit (.bool true)], args := [d1, d2, d3] }
  | _ => none }
def coreLooksRow : OpenClaim := { program := "ytiaafhcfeeekeaa", sum := "ae1ca65515d0ab14335e189ce6962553d23e58a987260822752410501fc78700", func := "fletch/fletchlaw15.CoreLooks", spec := "coreLooks", unfollowed := true, recurses := true, apart := false }
def CoreLooksSaid : Prop := coreLooksRow.holds Try.pinned (OpenSpec.ofChange coreLooksSpec)

/-- ITS FALSE NEIGHBOUR: 'it returns false'. Refute it at one input. -/
def coreLooksWrong : ChangeSpec := { name := "coreLooks", fn := fun _ => fun
  | [d1, d2, d3] => { results := [.lit (.bool false)], args := [d1, d2, d3] }
  | _ => none }
def CoreLooksWrongFalsely : Prop := coreLooksRow.holds Try.pinned (OpenSpec.ofChange coreLooksWrong)

/-- 'fletchlaw15.CoreOld': WHATEVER THE INPUT: true; the input reads as it did. -/
def coreOldSpec : ChangeSpec := { name := "coreOld", fn := fun _ => fun
  | [d1, d2, d3] => { results := [.lit (.bool true)], args := [d1, d2, d3] }
  | _ => none }
def coreOldRow : OpenClaim := { program := "ytiaafhcfeeekeaa", sum := "ae1ca65515d0ab14335e189ce6962553d23e58a987260822752410501fc78700", func := "fletch/fletchlaw15.CoreOld", spec := "coreOld", unfollowed := true, recurses := true, apart := false }
def CoreOldSaid : Prop := coreOldRow.holds Try.pinned (OpenSpec.ofChange coreOldSpec)

/-- ITS FALSE NEIGHBOUR: 'it returns false'. Refute it at one input. -/
def coreOldWrong : ChangeSpec := { name := "coreOld", fn := fun _ => fun
  | [d1, d2, d3] => { results := [.lit (.bool false)], args := [d1, d2, d3] }
  | _ => none }
def CoreOldWrongFalsely : Prop := coreOldRow.holds Try.pinned (OpenSpec.ofChange coreOldWrong)

/-- 'fletchlaw15.CoreKeeps': WHATEVER THE INPUT: true; the input reads as it did. -/
def coreKeepsSpec : ChangeSpec := { name := "coreKeeps", fn := fun _ => fun
  | [d1, d2, d3] => { results := [.lit (.bool true)], args := [d1, d2, d3] }
  | _ => none }
def coreKeepsRow : OpenClaim := { program := "ytiaafhcfeeekeaa", sum := "ae1ca65515d0ab14335e189ce6962553d23e58a987260822752410501fc78700", func := "fletch/fletchlaw15.CoreKeeps", spec := "coreKeeps", unfollowed := true, recurses := true, apart := false }
def CoreKeepsSaid : Prop := coreKeepsRow.holds Try.pinned (OpenSpec.ofChange coreKeepsSpec)

/-- ITS FALSE NEIGHBOUR: 'it returns false'. Refute it at one input. -/
def coreKeepsWrong : ChangeSpec := { name := "coreKeeps", fn := fun _ => fun
  | [d1, d2, d3] => { results := [.lit (.bool false)], args := [d1, d2, d3] }
  | _ => none }
def CoreKeepsWrongFalsely : Prop := coreKeepsRow.holds Try.pinned (OpenSpec.ofChange coreKeepsWrong)

/-- 'fletchlaw15.CoreNumbers': WHATEVER THE INPUT: true; the input reads as it did. -/
def coreNumbersSpec : ChangeSpec := { name := "coreNumbers", fn := fun _ => fun
  | [d1, d2, d3] => { results := [.lit (.bool true)], args := [d1, d2, d3] }
  | _ => none }
def coreNumbersRow : OpenClaim := { program := "ytiaafhcfeeekeaa", sum := "ae1ca65515d0ab14335e189ce6962553d23e58a987260822752410501fc78700", func := "fletch/fletchlaw15.CoreNumbers", spec := "coreNumbers", unfollowed := true, recurses := true, apart := false }
def CoreNumbersSaid : Prop := coreNumbersRow.holds Try.pinned (OpenSpec.ofChange coreNumbersSpec)

/-- ITS FALSE NEIGHBOUR: 'it returns false'. Refute it at one input. -/
def coreNumbersWrong : ChangeSpec := { name := "coreNumbers", fn := fun _ => fun
  | [d1, d2, d3] => { results := [.lit (.bool false)], args := [d1, d2, d3] }
  | _ => none }
def CoreNumbersWrongFalsely : Prop := coreNumbersRow.holds Try.pinned (OpenSpec.ofChange coreNumbersWrong)

/-- 'fletchlaw15.CoreSends': WHATEVER THE INPUT: true; the input reads as it did. -/
def coreSendsSpec : ChangeSpec := { name := "coreSends", fn := fun _ => fun
  | [d1, d2, d3] => { results := [.lit (.bool true)], args := [d1, d2, d3] }
  | _ => none }
def coreSendsRow : OpenClaim := { program := "ytiaafhcfeeekeaa", sum := "ae1ca65515d0ab14335e189ce6962553d23e58a987260822752410501fc78700", func := "fletch/fletchlaw15.CoreSends", spec := "coreSends", unfollowed := true, recurses := true, apart := false }
def CoreSendsSaid : Prop := coreSendsRow.holds Try.pinned (OpenSpec.ofChange coreSendsSpec)

/-- ITS FALSE NEIGHBOUR: 'it returns false'. Refute it at one input. -/
def coreSendsWrong : ChangeSpec := { name := "coreSends", fn := fun _ => fun
  | [d1, d2, d3] => { results := [.lit (.bool false)], args := [d1, d2, d3] }
  | _ => none }
def CoreSendsWrongFalsely : Prop := coreSendsRow.holds Try.pinned (OpenSpec.ofChange coreSendsWrong)

/- THE SECOND FORM. 'bulk': how many values and letters a reading holds, each counted each time it is reached (what is shared counts as often as it is met; a slice's spare places count too). A statement '..UptoSaid' is the law's where the arguments, and the package variables that the reading takes, are together of bulk at most 1048576: NARROWER than '..Said'. Prove '..Said' where nothing that the law and all that it calls make is longer than what came in: it says more and counts as full. Else prove '..UptoSaid'. A law counts once. -/
mutual
def uptoBulk {H : Type} : DataW H → Nat
  | .lit (.string bytes) => bytes.length + 1
  | .lit _ => 1
  | .nil => 1
  | .ptr d => uptoBulk d + 1
  | .slice elems spare => uptoBulkAll elems + uptoBulkAll spare + 1
  | .agg parts => uptoBulkAll parts + 1
  | .iface _ d => uptoBulk d + 1
  | .map entries => uptoBulkEntries entries + 1
  | .held _ => 1
def uptoBulkAll {H : Type} : List (DataW H) → Nat
  | [] => 0
  | d :: r => uptoBulk d + uptoBulkAll r
def uptoBulkEntries {H : Type} : List (Lit × DataW H) → Nat
  | [] => 0
  | x :: r => uptoBulkEntry x + uptoBulkEntries r
def uptoBulkEntry {H : Type} : Lit × DataW H → Nat
  | (.string bytes, d) => bytes.length + uptoBulk d + 1
  | (_, d) => uptoBulk d + 1
 end
def uptoSmall : (H : Type) → List (DataW H) → Bool := fun _ ds => decide (uptoBulkAll ds ≤ 1048576)
def OpenSpec.upto (s : _root_.Go.ChangeSpec) : _root_.Go.OpenSpec := { _root_.Go.OpenSpec.ofChange s with cond := some uptoSmall }

/-- 'fletchlaw15.CoreStays', WHERE WHAT IT READS IS OF BULK AT MOST 1048576: true; the input reads as it did. -/
def coreStaysUptoRow : OpenClaim := { program := "ytiaafhcfeeekeaa", sum := "ae1ca65515d0ab14335e189ce6962553d23e58a987260822752410501fc78700", func := "fletch/fletchlaw15.CoreStays", spec := "coreStays", unfollowed := true, recurses := true, apart := false, narrowed := true }
def CoreStaysUptoSaid : Prop := coreStaysUptoRow.holds Try.pinned (OpenSpec.upto coreStaysSpec)

/-- 'fletchlaw15.CoreLosesNone', WHERE WHAT IT READS IS OF BULK AT MOST 1048576: true; the input reads as it did. -/
def coreLosesNoneUptoRow : OpenClaim := { program := "ytiaafhcfeeekeaa", sum := "ae1ca65515d0ab14335e189ce6962553d23e58a987260822752410501fc78700", func := "fletch/fletchlaw15.CoreLosesNone", spec := "coreLosesNone", unfollowed := true, recurses := true, apart := false, narrowed := true }
def CoreLosesNoneUptoSaid : Prop := coreLosesNoneUptoRow.holds Try.pinned (OpenSpec.upto coreLosesNoneSpec)

/-- 'fletchlaw15.CoreLooks', WHERE WHAT IT READS IS OF BULK AT MOST 1048576: true; the input reads as it did. -/
def coreLooksUptoRow : OpenClaim := { program := "ytiaafhcfeeekeaa", sum := "ae1ca65515d0ab14335e189ce6962553d23e58a987260822752410501fc78700", func := "fletch/fletchlaw15.CoreLooks", spec := "coreLooks", unfollowed := true, recurses := true, apart := false, narrowed := true }
def CoreLooksUptoSaid : Prop := coreLooksUptoRow.holds Try.pinned (OpenSpec.upto coreLooksSpec)

/-- 'fletchlaw15.CoreOld', WHERE WHAT IT READS IS OF BULK AT MOST 1048576: true; the input reads as it did. -/
def coreOldUptoRow : OpenClaim := { program := "ytiaafhcfeeekeaa", sum := "ae1ca65515d0ab14335e189ce6962553d23e58a987260822752410501fc78700", func := "fletch/fletchlaw15.CoreOld", spec := "coreOld", unfollowed := true, recurses := true, apart := false, narrowed := true }
def CoreOldUptoSaid : Prop := coreOldUptoRow.holds Try.pinned (OpenSpec.upto coreOldSpec)

/-- 'fletchlaw15.CoreKeeps', WHERE WHAT IT READS IS OF BULK AT MOST 1048576: true; the input reads as it did. -/
def coreKeepsUptoRow : OpenClaim := { program := "ytiaafhcfeeekeaa", sum := "ae1ca65515d0ab14335e189ce6962553d23e58a987260822752410501fc78700", func := "fletch/fletchlaw15.CoreKeeps", spec := "coreKeeps", unfollowed := true, recurses := true, apart := false, narrowed := true }
def CoreKeepsUptoSaid : Prop := coreKeepsUptoRow.holds Try.pinned (OpenSpec.upto coreKeepsSpec)

/-- 'fletchlaw15.CoreNumbers', WHERE WHAT IT READS IS OF BULK AT MOST 1048576: true; the input reads as it did. -/
def coreNumbersUptoRow : OpenClaim := { program := "ytiaafhcfeeekeaa", sum := "ae1ca65515d0ab14335e189ce6962553d23e58a987260822752410501fc78700", func := "fletch/fletchlaw15.CoreNumbers", spec := "coreNumbers", unfollowed := true, recurses := true, apart := false, narrowed := true }
def CoreNumbersUptoSaid : Prop := coreNumbersUptoRow.holds Try.pinned (OpenSpec.upto coreNumbersSpec)

/-- 'fletchlaw15.CoreSends', WHERE WHAT IT READS IS OF BULK AT MOST 1048576: true; the input reads as it did. -/
def coreSendsUptoRow : OpenClaim := { program := "ytiaafhcfeeekeaa", sum := "ae1ca65515d0ab14335e189ce6962553d23e58a987260822752410501fc78700", func := "fletch/fletchlaw15.CoreSends", spec := "coreSends", unfollowed := true, recurses := true, apart := false, narrowed := true }
def CoreSendsUptoSaid : Prop := coreSendsUptoRow.holds Try.pinned (OpenSpec.upto coreSendsSpec)

end Rows
end Go.Proofs.Ytiaafhcfeeekeaa
