/- What the program's writing of values as texts answers, for every right value. -/
import Derived.Test.YtkeghknceccdmaaGreatDoorTextM
import Derived.Test.YtkeghknceccdmaaGreatDoorIn
import Derived.Test.YtkeghknceccdmaaGreatDoorOrdJ
import Derived.Test.YtkeghknceccdmaaGreatDoorLayP
import Derived.Test.YtkeghknceccdmaaGreatDoorLawB
import Derived.Lib.AppendStr
import Derived.Lib.OthersKept
import Derived.Lib.BufferKept
import Derived.Maps.AppendAt
namespace Go.Proofs.YtkeghknceccdmaaGreatDoor
open Go.RowKit
set_option linter.unusedVariables false

abbrev Tab (B : Nat) (w : World) : Prop := Lib.TabBelow Tryz.prog B w "internal/strconv.uint64pow10" .u64 Lib.pow10Tab

set_option maxRecDepth 4000 in
set_option maxHeartbeats 1000000 in
theorem appInt_any (B n : Nat) (i : Int) (h0 : -9223372036854775808 ≤ i) (h1 : i ≤ 9223372036854775807) (sv : Value) (xs : List Value) (w : World) (hown : w.ownsRow B 5 1 sv n xs) (hB : B ≤ w.heap.size) (hlim : n ≤ 1000000) (htab : Tab B w) :
    Calls Tryz.prog 215 #[sv, .int .i64 i, .int .i64 10] w fun e w' => GrewT B n xs (Lib.itoa i) w e w' :=
  Any.strconv_AppendInt_10 Tryz.laysAI B n i h0 h1 sv xs w hown hB (by omega) htab

set_option maxRecDepth 4000 in
set_option maxHeartbeats 1000000 in
theorem appBool_any (B n : Nat) (b : Bool) (sv : Value) (xs : List Value) (w : World) (hown : w.ownsRow B 5 1 sv n xs) (hB : B ≤ w.heap.size) (hlim : n ≤ 1000000) :
    Calls Tryz.prog 262 #[sv, .bool b] w fun e w' => GrewT B n xs (boolT b) w e w' := by
  cases b
  · go_enter Tryz.func262, Tryz.ntmps262
    go_wp2_with (at_builtin; refine app_str rfl _ _ rfl B n sv xs ⟨#[102, 97, 108, 115, 101]⟩ rfl rfl hown hB hlim (by decide) ?_; intro v' w' o1 b1 k1)
    go_ret
    exact GrewT.mk v' rfl o1 b1 k1
  · go_enter Tryz.func262, Tryz.ntmps262
    go_wp2_with (at_builtin; refine app_str rfl _ _ rfl B n sv xs ⟨#[116, 114, 117, 101]⟩ rfl rfl hown hB hlim (by decide) ?_; intro v' w' o1 b1 k1)
    go_ret
    exact GrewT.mk v' rfl o1 b1 k1
set_option maxRecDepth 4000 in
set_option maxHeartbeats 1000000 in
theorem appBool2_any (B n : Nat) (b : Bool) (sv : Value) (xs : List Value) (w : World) (hown : w.ownsRow B 5 1 sv n xs) (hB : B ≤ w.heap.size) (hlim : n ≤ 1000000) :
    Calls Tryz.prog 214 #[sv, .bool b] w fun e w' => GrewT B n xs (boolT b) w e w' := by
  have HC : Hid (Calls _ _ _ _ _) := appBool_any B n b sv xs w hown hB hlim
  clear hown
  go_enter Tryz.func214, Tryz.ntmps214
  go_wp2_with fail
  refine HC.out.mono ?_
  rintro e w1 ⟨v', rfl, o1, b1, k1⟩
  have HO : Hid (World.ownsRow _ _ _ _ _ _ _) := o1
  have HK : Hid (Kept _ _) := k1
  clear o1 k1
  go_wp2_with fail
  go_ret
  exact GrewT.mk v' rfl HO.out b1 HK.out

set_option maxRecDepth 4000 in
set_option maxHeartbeats 1000000 in
theorem appQuoted_any (B n : Nat) (t : ByteArray) (sv : Value) (xs : List Value) (w : World) (hown : w.ownsRow B 5 1 sv n xs) (hB : B ≤ w.heap.size) (hlim : n ≤ 500000) (ht : t.size ≤ 300) :
    Calls Tryz.prog 216 #[sv, .string t] w fun e w' => GrewT B n xs (39 :: (t.data.toList ++ [39])) w e w' := by
  go_enter Tryz.func216, Tryz.ntmps216
  go_wp2_with (at_builtin; refine app_byte rfl (.tmp 5) (.tmp 6) rfl B n sv xs 39 _ rfl rfl (by simp) hown hB (by omega) ?_; intro v1 w1 o1 b1 k1; refine Hid.out ?_)
  refine Lib.hid ?_
  have hz1 := b1.size
  go_wp2_with (at_builtin; refine app_str rfl (.tmp 8) (.tmp 9) rfl B (n + 1) v1 _ t rfl rfl o1 (by omega) (by omega) (by omega) ?_; intro v2 w2 o2 b2 k2; refine Hid.out ?_)
  refine Lib.hid ?_
  have hz2 := b2.size
  go_wp2_with (at_builtin; refine app_byte rfl (.tmp 11) (.tmp 12) rfl B (n + 1 + t.size) v2 _ 39 _ rfl rfl (by simp) o2 (by omega) (by omega) ?_; intro v3 w3 o3 b3 k3; refine Hid.out ?_)
  refine Lib.hid ?_
  have hl := toList_length t
  have o4 : w3.ownsRow B 5 1 v3 (n + (39 :: (t.data.toList ++ [39])).length) (xs ++ Lib.byteCells (39 :: (t.data.toList ++ [39]))) := by
    have e1 : n + (39 :: (t.data.toList ++ [39])).length = n + 1 + t.size + 1 := by simp; omega
    have e2 : xs ++ Lib.byteCells (39 :: (t.data.toList ++ [39])) = xs ++ [Value.int .u8 39] ++ Lib.byteCells t.data.toList ++ [Value.int .u8 39] := by simp [Lib.byteCells]
    rw [e1, e2]; exact o3
  have HO : Hid (World.ownsRow _ _ _ _ _ _ _) := o4
  have hb : Below B w w3 := b1.trans (b2.trans b3)
  have hk : Kept w w3 := k1.trans (k2.trans k3)
  have HK : Hid (Kept _ _) := hk
  clear o1 o2 o3 o4 k1 k2 k3 b1 b2 b3 hk
  go_wp2_with fail
  go_ret
  exact GrewT.mk v3 rfl HO.out hb HK.out

end Go.Proofs.YtkeghknceccdmaaGreatDoor
