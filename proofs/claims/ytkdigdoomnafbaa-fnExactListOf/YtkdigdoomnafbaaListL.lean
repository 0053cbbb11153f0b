/- The two functions that make lists, side by side. -/
import Derived.Test.YtkdigdoomnafbaaListT
import Derived.Test.YtkdigdoomnafbaaListJ
import Derived.Test.YtkdigdoomnafbaaOpenV
