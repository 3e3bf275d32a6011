/- Rows of a number and a text. -/
import Derived.Test.YtcjfammfplcigaaWords
import Derived.Test.YtcjfammfplcigaaProg
namespace Go.Proofs.Ytcjfammfplcigaa.Pk
/-- A number with a text. -/
abbrev Rw := Int × ByteArray
end Go.Proofs.Ytcjfammfplcigaa.Pk
