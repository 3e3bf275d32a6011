/- What the list of laid variables gives: the table lies in its block. A world for the witness. -/
import Derived.Test.YtmegpbejknmjbaaDoorCards
import Derived.Test.YtmegpbejknmjbaaDoorTie
import Derived.Test.YtmegpbejknmjbaaDoorGmWakes
import Derived.WalkKit
import Derived.ProofKit
import Derived.OpenShut
import Derived.Deep.DeepHandedRow
import Derived.Lib.LaidTab
namespace Go.Proofs.YtmegpbejknmjbaaDoor.Pk
open Go.ChangeShapes Go.WideShapes Go.ChangeAt Go.RowKit Go.Proofs.YtmegpbejknmjbaaDoor.Crc
set_option linter.unusedVariables false

/-- The listed variable's name, as the rows have it. -/
def tabName : String := Rows.gramPutsRow.named.headD default
theorem gTab : Tryd.prog.globalNamed tabName = some 0 := by kernel_rfl
theorem gTabType : (Tryd.prog.globals[0]?).map (·.type) = some 65 := by kernel_rfl
theorem cellsTab : Tryd.prog.cellsOf 65 = 16 := by kernel_rfl
theorem cellsU32 : Tryd.prog.cellsOf 45 = 1 := by kernel_rfl
theorem tab_of {W : World} (h : laidMetH Tryd.prog Rows.gramPutsRow.laid W) : Tab W := by
  have ht : Lib.TabIs Tryd.prog W tabName .u32 tab := Lib.tabIs_of_head (rest := []) gTab gTabType Tryd.underlying65 Tryd.underlying45 cellsU32 cellsTab h
  intro i hi
  have h1 := ht.cell gTab i hi
  rw [(tabN_small i hi).2.2] at h1
  exact h1
/-- A world for the witness: the settled one, the table holding what its initialiser lays. -/
noncomputable def laidWorld (os : Os) : World :=
  { World.holding Tryd.prog os ⟨#[], #[], []⟩ with heap := (World.holding Tryd.prog os ⟨#[], #[], []⟩).heap.modify 0 fun
      | .cells _ t frozen => .cells #[.int .u32 0, .int .u32 498536548, .int .u32 997073096, .int .u32 651767980, .int .u32 1994146192, .int .u32 1802195444, .int .u32 1303535960, .int .u32 1342533948, .int .u32 3988292384, .int .u32 4027552580, .int .u32 3604390888, .int .u32 3412177804, .int .u32 2607071920, .int .u32 2262029012, .int .u32 2685067896, .int .u32 3183342108] t frozen
      | o => o }
end Go.Proofs.YtmegpbejknmjbaaDoor.Pk
