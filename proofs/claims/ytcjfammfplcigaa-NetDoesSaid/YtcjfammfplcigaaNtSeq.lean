/- What lies where while a function is ranged over. -/
import Derived.Test.YtcjfammfplcigaaNtSpec
import Derived.Test.YtcjfammfplcigaaOnly
