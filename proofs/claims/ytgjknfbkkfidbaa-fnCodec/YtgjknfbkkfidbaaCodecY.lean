/- All that the law on values and their bytes reaches. -/
import Derived.Test.YtgjknfbkkfidbaaCodecX
import Derived.Test.YtgjknfbkkfidbaaOpenC
