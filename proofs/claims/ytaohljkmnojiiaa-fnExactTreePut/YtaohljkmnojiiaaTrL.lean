/- What the walks of the laws on trees import. -/
import Derived.Test.YtaohljkmnojiiaaTrO
import Derived.Test.YtaohljkmnojiiaaTrT
import Derived.Deep.RegionWith
import Derived.Deep.RegionHeld3
