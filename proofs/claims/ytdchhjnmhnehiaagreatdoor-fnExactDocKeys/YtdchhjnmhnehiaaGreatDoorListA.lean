/- A value as the program holds it. -/
import Derived.Test.YtdchhjnmhnehiaaGreatDoorRowV
namespace Go.Proofs.YtdchhjnmhnehiaaGreatDoor
open Go.RowKit

abbrev aggV (v : Val) : Value := .agg #[.int .i64 v.k, .int .i64 v.n, .string v.t]

end Go.Proofs.YtdchhjnmhnehiaaGreatDoor
