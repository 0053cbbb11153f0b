/- What the walks of the laws on trees import. -/
import Derived.Test.YtnmpfooegnmknaaTrO
import Derived.Test.YtnmpfooegnmknaaTrT
import Derived.Deep.RegionWith
import Derived.Deep.RegionHeld3
