/- All that the law on right filters reaches. -/
import Derived.Test.YtgjknfbkkfidbaaDoorFiltS
import Derived.Test.YtgjknfbkkfidbaaDoorRowD
import Derived.Test.YtgjknfbkkfidbaaDoorOpenF
import Derived.Deep.RegionWith
