/- What the walks of the laws on trees import. -/
import Derived.Test.YtklicfcafpehfaaTrO
import Derived.Test.YtklicfcafpehfaaTrT
import Derived.Deep.RegionWith
import Derived.Deep.RegionHeld3
