/- What the program's vault promises, proved of the landed code. -/
import Derived.Test.YtnpmccekkjadhaaDoorZVkOpenP
import Derived.Test.YtnpmccekkjadhaaDoorZRun
import Derived.Test.YtnpmccekkjadhaaDoorZEnc
import Derived.Test.YtnpmccekkjadhaaDoorZItr
namespace Go.Proofs.YtnpmccekkjadhaaDoor.Pk
open Go.RowKit Go.Proofs.YtnpmccekkjadhaaDoor.Crc Go.Proofs.YtnpmccekkjadhaaDoor.Fr Go.Proofs.YtnpmccekkjadhaaDoor.Dk Go.Proofs.YtnpmccekkjadhaaDoor.Vk
theorem openQ' : OpenQ := openQ encC endC framesCL
theorem openC' : OpenC := fun R A n c s d S w h1 h2 h3 h4 h5 h6 h7 h8 h9 M m h10 h11 h12 =>
  (openQ' R A n c s d S w h1 h2 h3 h4 h5 h6 h7 h8 h9 M m h10 h11 h12).mono fun _ _ h => h.plain
theorem appendC' : AppendC := appendC encC
theorem ckpC' : CkpC := ckpC encC
end Go.Proofs.YtnpmccekkjadhaaDoor.Pk
