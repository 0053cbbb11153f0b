/- All that the law on intervals reaches. -/
import Derived.Test.YtkeghknceccdmaaGreatDoorIvlW
import Derived.Test.YtkeghknceccdmaaGreatDoorOpenC
