/- What the program's laying of keys answers, for every right value. -/
import Derived.Test.YtdchhjnmhnehiaaGreatDoorKeyM
import Derived.Test.YtdchhjnmhnehiaaGreatDoorLawVal
import Derived.Lib.Hide
namespace Go.Proofs.YtdchhjnmhnehiaaGreatDoor
open Go.RowKit
set_option linter.unusedVariables false

set_option maxHeartbeats 400000 in
theorem firstByte_any (k : Int) (w : World) (h0 : 0 ≤ k) (h5 : k ≤ 5) : Calls Tryz.prog 129 #[.int .i64 k] w fun e w' => e = .returned (.int .u8 (k + 1)) ∧ w' = w := by
  have hw1 : IntKind.i64.wrap (k + 1) = k + 1 := by rw [IntKind.wrap_i64]; omega
  have hw3 : IntKind.u8.wrap (k + 1) = k + 1 := by simp only [IntKind.wrap, IntKind.bits, IntKind.signed]; simp; omega
  go_enter Tryz.func129, Tryz.ntmps129
  go_wp2_with fail
  go_ret
  exact ⟨rfl, rfl⟩

set_option maxRecDepth 4000 in
set_option maxHeartbeats 1000000 in
theorem appNumber_any (z : Int) (wd : Nat) (B n : Nat) (sv : Value) (xs : List Value) (w : World) (hown : w.ownsRow B 5 1 sv n xs) (hB : B ≤ w.heap.size) (hlim : n ≤ 500000) (hw : wd ≤ 8) :
    Calls Tryz.prog 142 #[sv, .int .i64 z, .int .i64 wd] w fun e w' => GrewT B n xs (u8s (numB z wd)) w e w' := by
  have HO : Hid (World.ownsRow _ _ _ _ _ _ _) := hown
  clear hown
  go_enter Tryz.func142, Tryz.ntmps142
  go_wp2_with fail
  go_loopw [0, 7] (fun v i wr => ∃ k : Nat, k ≤ wd ∧ i = .int .i64 ((wd : Int) - 1 - k) ∧ wr.ownsRow B 5 1 v (n + k) (xs ++ rowE (numK z wd k)) ∧ Kept w wr ∧ Below B w wr) (fun _ i _ => (intOf i + 1).toNat)
  case atStart => exact ⟨0, Nat.zero_le _, by go_num, by rw [numK_zero]; simpa [rowE] using HO.out, Lib.OthersKept.refl _ _ _, Below.refl _ _⟩
  case round =>
    obtain ⟨k, hk, rfl, o1, k1, b1⟩ := hrel
    have hz1 := b1.size
    have HK1 : Hid (Kept _ _) := k1
    clear k1
    by_cases hlt : k < wd
    · have h0 : (0 : Int) ≤ (wd : Int) - 1 - k := by omega
      have h8 : 0 ≤ 8 * ((wd : Int) - 1 - k) := by omega
      go_wp2_with (at_builtin; refine app_byte rfl (.tmp 14) (.tmp 20) rfl B _ _ _ (nb z (wd - 1 - k)) _ rfl rfl (by simp) o1 (by omega) (by omega) ?_; intro v2 w2 o2 b2 k2; refine Hid.out ?_)
      refine Lib.hid ?_
      have o3 : w2.ownsRow B 5 1 v2 (n + (k + 1)) (xs ++ rowE (numK z wd (k + 1))) := by
        rw [numK_succ, rowE_append, ← List.append_assoc, ← Nat.add_assoc]; exact o2
      have HO3 : Hid (World.ownsRow _ _ _ _ _ _ _) := o3
      have HK3 : Hid (Kept _ _) := HK1.out.trans k2
      have hb3 := b1.trans b2
      clear o2 o3 k2 o1 b2
      go_wp2_with fail
      go_roundw
      case rel => exact ⟨k + 1, by omega, by go_num, HO3.out, HK3.out, hb3⟩
      case measure => simp [intOf]; omega
    · obtain rfl : k = wd := by omega
      have h0 : ¬ (0 : Int) ≤ (k : Int) - 1 - k := by omega
      have O1 : Hid (World.ownsRow _ _ _ _ _ _ _) := o1
      clear o1
      go_wp2_with fail
      go_ret
      refine GrewT.mk _ rfl ?_ b1 HK1.out
      rw [u8s_len, numB_len, cells_num]
      exact O1.out

set_option maxRecDepth 4000 in
set_option maxHeartbeats 1000000 in
theorem appTextKey_any (t : ByteArray) (B n : Nat) (sv : Value) (xs : List Value) (w : World) (hown : w.ownsRow B 5 1 sv n xs) (hB : B ≤ w.heap.size) (hlim : n ≤ 500000) (ht : t.size ≤ 100000) :
    Calls Tryz.prog 143 #[sv, .string t] w fun e w' => GrewT B n xs (txtK t.data.toList) w e w' := by
  have HO : Hid (World.ownsRow _ _ _ _ _ _ _) := hown
  clear hown
  go_enter Tryz.func143, Tryz.ntmps143
  go_wp2_with fail
  go_loopw [0, 8] (fun u i wr => ∃ q : Nat, q ≤ t.size ∧ i = .int .i64 q ∧ wr.ownsRow B 5 1 u (n + (escL (t.data.toList.take q)).length) (xs ++ Lib.byteCells (escL (t.data.toList.take q))) ∧ Kept w wr ∧ Below B w wr) (fun _ i _ => t.size - (intOf i).toNat)
  case atStart => exact ⟨0, Nat.zero_le _, rfl, by simpa [escL, Lib.byteCells] using HO.out, Lib.OthersKept.refl _ _ _, Below.refl _ _⟩
  case round =>
    obtain ⟨q, hq, rfl, hown, hk0, hbel⟩ := hrel
    have hz := hbel.size
    have hlen := escL_take_len t q
    have HK0 : Hid (Kept _ _) := hk0
    clear hk0
    by_cases hlt : q < t.size
    · by_cases h0 : t[q] = 0
      · have hst := escL_zero t q hlt h0
        have HST : Hid (_ = _) := hst
        have h0' : (((t[q].toNat : Nat) : Int) == 0) = true := by rw [h0]; rfl
        clear hst h0
        go_wp2_with (at_builtin; refine app_byte rfl (.tmp 11) (.tmp 15) rfl B _ _ _ (t[q].toNat) _ rfl rfl (by simp) hown (by omega) (by omega) ?_; intro v1 w1 o1 b1 k1; refine Hid.out ?_)
        refine Lib.hid ?_
        have hz1 := b1.size
        have HO1 : Hid (World.ownsRow _ _ _ _ _ _ _) := grow_cat (b := [t[q]]) o1
        have hl1 : (escL (t.data.toList.take q) ++ [t[q]]).length ≤ 200001 := by rw [List.length_append]; simp only [List.length_cons, List.length_nil]; omega
        have HK1 : Hid (Kept _ _) := HK0.out.trans k1
        clear o1 k1 hown
        go_wp2_with (at_builtin; refine app_byte rfl (.tmp 21) (.tmp 22) rfl B _ _ _ 255 _ rfl rfl (by simp) HO1.out (by omega) (by omega) ?_; intro v2 w2 o2 b2 k2; refine Hid.out ?_)
        refine Lib.hid ?_
        have O2 : w2.ownsRow B 5 1 v2 (n + (escL (t.data.toList.take (q + 1))).length) (xs ++ Lib.byteCells (escL (t.data.toList.take (q + 1)))) := by
          rw [HST.out]; exact grow_cat (b := [255]) o2
        have HO2 : Hid (World.ownsRow _ _ _ _ _ _ _) := O2
        have HK2 : Hid (Kept _ _) := HK1.out.trans k2
        have hb2 := hbel.trans (b1.trans b2)
        clear o2 k2 O2 HO1 b1 b2
        go_wp2_with fail
        go_roundw
        case rel => exact ⟨q + 1, by omega, by go_num, HO2.out, HK2.out, hb2⟩
        case measure => simp [intOf]; omega
      · have hst := escL_other t q hlt h0
        have HST : Hid (_ = _) := hst
        have h0' : (((t[q].toNat : Nat) : Int) == 0) = false := by
          rw [beq_eq_false_iff_ne]
          intro e
          apply h0
          apply UInt8.toNat_inj.mp
          show t[q].toNat = 0
          omega
        clear hst h0
        go_wp2_with (at_builtin; refine app_byte rfl (.tmp 11) (.tmp 15) rfl B _ _ _ (t[q].toNat) _ rfl rfl (by simp) hown (by omega) (by omega) ?_; intro v1 w1 o1 b1 k1; refine Hid.out ?_)
        refine Lib.hid ?_
        have O2 : w1.ownsRow B 5 1 v1 (n + (escL (t.data.toList.take (q + 1))).length) (xs ++ Lib.byteCells (escL (t.data.toList.take (q + 1)))) := by
          rw [HST.out]; exact grow_cat (b := [t[q]]) o1
        have HO2 : Hid (World.ownsRow _ _ _ _ _ _ _) := O2
        have HK2 : Hid (Kept _ _) := HK0.out.trans k1
        have hb2 := hbel.trans b1
        clear o1 k1 O2 hown b1
        go_wp2_with fail
        go_roundw
        case rel => exact ⟨q + 1, by omega, by go_num, HO2.out, HK2.out, hb2⟩
        case measure => simp [intOf]; omega
    · have e : t.data.toList.take q = t.data.toList := List.take_of_length_le (by rw [toList_length]; omega)
      rw [e] at hown hlen
      go_wp2_with (at_builtin; refine app_str rfl (.tmp 25) _ rfl B _ _ _ ⟨#[0, 0]⟩ rfl rfl hown (by omega) (by omega) (by decide) ?_; intro v1 w1 o1 b1 k1; refine Hid.out ?_)
      refine Lib.hid ?_
      have HO2 : Hid (World.ownsRow _ _ _ _ _ _ _) := grow_cat (a := escL t.data.toList) (b := [0, 0]) o1
      have HK2 : Hid (Kept _ _) := HK0.out.trans k1
      have hb2 := hbel.trans b1
      clear o1 k1 hown b1 e
      go_wp2_with fail
      go_ret
      exact GrewT.mk v1 rfl HO2.out hb2 HK2.out

def KeyAt (d : Nat) : Prop := ∀ (v : Val) (B n : Nat) (sv : Value) (xs : List Value) (w : World), fits d v = true → w.ownsRow B 5 1 sv n xs → B ≤ w.heap.size → n + 10000 * d ≤ 100000 →
    Calls Tryz.prog 124 #[sv, .agg #[.int .i64 v.k, .int .i64 v.n, .string v.t]] w fun e w' => GrewT B n xs (keyV d v) w e w'
set_option maxRecDepth 4000 in
set_option maxHeartbeats 1000000 in
theorem key_null (m : Int) (t : ByteArray) (B n : Nat) (sv : Value) (xs : List Value) (w : World) (hown : w.ownsRow B 5 1 sv n xs) (hB : B ≤ w.heap.size) (hn : n ≤ 100000) :
    Calls Tryz.prog 124 #[sv, .agg #[.int .i64 0, .int .i64 m, .string t]] w fun e w' => GrewT B n xs ([1]) w e w' := by
  have hbox : Below B w (w.alloc (.cells #[.int .i64 0, .int .i64 m, .string t] 38)) := (Below.refl _ _).alloc hB _
  have HX : Hid (Kept _ _) := kept_alloc w (.cells #[.int .i64 0, .int .i64 m, .string t] 38)
  have HO : Hid (World.ownsRow _ _ _ _ _ _ _) := hown.alloc (.cells #[.int .i64 0, .int .i64 m, .string t] 38)
  clear hown
  go_enter Tryz.func124, Tryz.ntmps124
  go_wp2_with fail
  refine (firstByte_any 0 _ (by omega) (by omega)).mono ?_
  rintro e wf ⟨rfl, rfl⟩
  go_wp2_with (at_builtin; refine app_byte rfl (.tmp 5) (.tmp 9) rfl B n sv xs 1 _ rfl rfl (by simp) HO.out (by simp; omega) (by omega) ?_; intro v1 w1 o1 b1 k1; refine Hid.out ?_)
  refine Lib.hid ?_
  have y0 := kept_new k1 (by decide) 0
  have y1 := kept_new k1 (by decide) 1
  have y2 := kept_new k1 (by decide) 2
  simp only [List.getElem?_toArray, List.getElem?_cons_zero, List.getElem?_cons_succ] at y0 y1 y2
  have hz1 := b1.size
  have hzz : w.heap.size < w1.heap.size := by have := hz1; simp at this; omega
  have O1 : w1.ownsRow B 5 1 v1 (n + ([1] : List UInt8).length) (xs ++ Lib.byteCells [1]) := o1
  have HO1 : Hid (World.ownsRow _ _ _ _ _ _ _) := O1
  have HK1 : Hid (Kept _ _) := HX.out.trans k1
  have hb1 := hbox.trans b1
  clear o1 O1 k1 b1
  go_wp2_with fail
  go_ret
  exact GrewT.mk v1 rfl HO1.out hb1 HK1.out
set_option maxRecDepth 4000 in
set_option maxHeartbeats 1000000 in
theorem key_bool (m : Int) (t : ByteArray) (hm : m = 0 ∨ m = 1) (B n : Nat) (sv : Value) (xs : List Value) (w : World) (hown : w.ownsRow B 5 1 sv n xs) (hB : B ≤ w.heap.size) (hn : n ≤ 100000) :
    Calls Tryz.prog 124 #[sv, .agg #[.int .i64 1, .int .i64 m, .string t]] w fun e w' => GrewT B n xs (2 :: u8s (numB m 1)) w e w' := by
  have hbox : Below B w (w.alloc (.cells #[.int .i64 1, .int .i64 m, .string t] 38)) := (Below.refl _ _).alloc hB _
  have HX : Hid (Kept _ _) := kept_alloc w (.cells #[.int .i64 1, .int .i64 m, .string t] 38)
  have HO : Hid (World.ownsRow _ _ _ _ _ _ _) := hown.alloc (.cells #[.int .i64 1, .int .i64 m, .string t] 38)
  clear hown
  have hw3 : IntKind.u8.wrap m = m := by simp only [IntKind.wrap, IntKind.bits, IntKind.signed]; simp; omega
  have hu : u8s (numB m 1) = [UInt8.ofNat m.toNat] := by rcases hm with rfl | rfl <;> rfl
  have hc : (((UInt8.ofNat m.toNat).toNat : Nat) : Int) = m := by rcases hm with rfl | rfl <;> rfl
  rw [hu]
  have HC : Hid (_ = _) := hc
  clear hu hc
  go_enter Tryz.func124, Tryz.ntmps124
  go_wp2_with fail
  refine (firstByte_any 1 _ (by omega) (by omega)).mono ?_
  rintro e wf ⟨rfl, rfl⟩
  go_wp2_with (at_builtin; refine app_byte rfl (.tmp 5) (.tmp 9) rfl B n sv xs 2 _ rfl rfl (by simp) HO.out (by simp; omega) (by omega) ?_; intro v1 w1 o1 b1 k1; refine Hid.out ?_)
  refine Lib.hid ?_
  have y0 := kept_new k1 (by decide) 0
  have y1 := kept_new k1 (by decide) 1
  have y2 := kept_new k1 (by decide) 2
  simp only [List.getElem?_toArray, List.getElem?_cons_zero, List.getElem?_cons_succ] at y0 y1 y2
  have hz1 := b1.size
  have hzz : w.heap.size < w1.heap.size := by have := hz1; simp at this; omega
  have O1 : w1.ownsRow B 5 1 v1 (n + ([2] : List UInt8).length) (xs ++ Lib.byteCells [2]) := o1
  have HO1 : Hid (World.ownsRow _ _ _ _ _ _ _) := O1
  have HK1 : Hid (Kept _ _) := HX.out.trans k1
  have hb1 := hbox.trans b1
  clear o1 O1 k1 b1
  go_wp2_with (at_builtin; refine app_byte rfl (.tmp 15) (.tmp 19) rfl B _ _ _ m _ rfl rfl (by simp) HO1.out (by omega) (by simp; omega) ?_; intro v2 w2 o2 b2 k2; refine Hid.out ?_)
  refine Lib.hid ?_
  have O2 : w2.ownsRow B 5 1 v2 (n + (2 :: [UInt8.ofNat m.toNat]).length) (xs ++ Lib.byteCells (2 :: [UInt8.ofNat m.toNat])) := by
    rw [← HC.out] at o2
    exact grow_cat (a := [2]) (b := [UInt8.ofNat m.toNat]) o2
  have HO2 : Hid (World.ownsRow _ _ _ _ _ _ _) := O2
  have HK2 : Hid (Kept _ _) := HK1.out.trans k2
  have hb2 := hb1.trans b2
  clear o2 O2 k2 b2
  go_wp2_with fail
  go_ret
  exact GrewT.mk v2 rfl HO2.out hb2 HK2.out
set_option maxRecDepth 4000 in
set_option maxHeartbeats 1000000 in
theorem key_int (m : Int) (t : ByteArray) (hm : -1000000000000 ≤ m) (hm2 : m ≤ 1000000000000) (B n : Nat) (sv : Value) (xs : List Value) (w : World) (hown : w.ownsRow B 5 1 sv n xs) (hB : B ≤ w.heap.size) (hn : n ≤ 100000) :
    Calls Tryz.prog 124 #[sv, .agg #[.int .i64 2, .int .i64 m, .string t]] w fun e w' => GrewT B n xs (3 :: u8s (numB (m + 4611686018427387904) 8)) w e w' := by
  have hbox : Below B w (w.alloc (.cells #[.int .i64 2, .int .i64 m, .string t] 38)) := (Below.refl _ _).alloc hB _
  have HX : Hid (Kept _ _) := kept_alloc w (.cells #[.int .i64 2, .int .i64 m, .string t] 38)
  have HO : Hid (World.ownsRow _ _ _ _ _ _ _) := hown.alloc (.cells #[.int .i64 2, .int .i64 m, .string t] 38)
  clear hown
  go_enter Tryz.func124, Tryz.ntmps124
  go_wp2_with fail
  refine (firstByte_any 2 _ (by omega) (by omega)).mono ?_
  rintro e wf ⟨rfl, rfl⟩
  go_wp2_with (at_builtin; refine app_byte rfl (.tmp 5) (.tmp 9) rfl B n sv xs 3 _ rfl rfl (by simp) HO.out (by simp; omega) (by omega) ?_; intro v1 w1 o1 b1 k1; refine Hid.out ?_)
  refine Lib.hid ?_
  have y0 := kept_new k1 (by decide) 0
  have y1 := kept_new k1 (by decide) 1
  have y2 := kept_new k1 (by decide) 2
  simp only [List.getElem?_toArray, List.getElem?_cons_zero, List.getElem?_cons_succ] at y0 y1 y2
  have hz1 := b1.size
  have hzz : w.heap.size < w1.heap.size := by have := hz1; simp at this; omega
  have O1 : w1.ownsRow B 5 1 v1 (n + ([3] : List UInt8).length) (xs ++ Lib.byteCells [3]) := o1
  have HO1 : Hid (World.ownsRow _ _ _ _ _ _ _) := O1
  have HK1 : Hid (Kept _ _) := HX.out.trans k1
  have hb1 := hbox.trans b1
  clear o1 O1 k1 b1
  go_wp2_with fail
  refine (appNumber_any (m + 4611686018427387904) 8 B _ _ _ _ HO1.out (by omega) (by simp; omega) (by omega)).mono ?_
  rintro e w2 ⟨v2, rfl, o2, b2, k2⟩
  have HO2 : Hid (World.ownsRow _ _ _ _ _ _ _) := grow_more (a := [3]) (b := u8s (numB (m + 4611686018427387904) 8)) (c := 3 :: u8s (numB (m + 4611686018427387904) 8)) rfl o2
  have HK2 : Hid (Kept _ _) := HK1.out.trans k2
  have hb2 := hb1.trans b2
  clear o2 k2 b2
  go_wp2_with fail
  go_ret
  exact GrewT.mk v2 rfl HO2.out hb2 HK2.out
set_option maxRecDepth 4000 in
set_option maxHeartbeats 1000000 in
theorem key_text (m : Int) (t : ByteArray) (ht : t.size ≤ 300) (B n : Nat) (sv : Value) (xs : List Value) (w : World) (hown : w.ownsRow B 5 1 sv n xs) (hB : B ≤ w.heap.size) (hn : n ≤ 100000) :
    Calls Tryz.prog 124 #[sv, .agg #[.int .i64 3, .int .i64 m, .string t]] w fun e w' => GrewT B n xs (4 :: txtK t.data.toList) w e w' := by
  have hbox : Below B w (w.alloc (.cells #[.int .i64 3, .int .i64 m, .string t] 38)) := (Below.refl _ _).alloc hB _
  have HX : Hid (Kept _ _) := kept_alloc w (.cells #[.int .i64 3, .int .i64 m, .string t] 38)
  have HO : Hid (World.ownsRow _ _ _ _ _ _ _) := hown.alloc (.cells #[.int .i64 3, .int .i64 m, .string t] 38)
  clear hown
  go_enter Tryz.func124, Tryz.ntmps124
  go_wp2_with fail
  refine (firstByte_any 3 _ (by omega) (by omega)).mono ?_
  rintro e wf ⟨rfl, rfl⟩
  go_wp2_with (at_builtin; refine app_byte rfl (.tmp 5) (.tmp 9) rfl B n sv xs 4 _ rfl rfl (by simp) HO.out (by simp; omega) (by omega) ?_; intro v1 w1 o1 b1 k1; refine Hid.out ?_)
  refine Lib.hid ?_
  have y0 := kept_new k1 (by decide) 0
  have y1 := kept_new k1 (by decide) 1
  have y2 := kept_new k1 (by decide) 2
  simp only [List.getElem?_toArray, List.getElem?_cons_zero, List.getElem?_cons_succ] at y0 y1 y2
  have hz1 := b1.size
  have hzz : w.heap.size < w1.heap.size := by have := hz1; simp at this; omega
  have O1 : w1.ownsRow B 5 1 v1 (n + ([4] : List UInt8).length) (xs ++ Lib.byteCells [4]) := o1
  have HO1 : Hid (World.ownsRow _ _ _ _ _ _ _) := O1
  have HK1 : Hid (Kept _ _) := HX.out.trans k1
  have hb1 := hbox.trans b1
  clear o1 O1 k1 b1
  go_wp2_with fail
  refine (appTextKey_any t B _ _ _ _ HO1.out (by omega) (by simp; omega) (by omega)).mono ?_
  rintro e w2 ⟨v2, rfl, o2, b2, k2⟩
  have HO2 : Hid (World.ownsRow _ _ _ _ _ _ _) := grow_more (a := [4]) (b := txtK t.data.toList) (c := 4 :: txtK t.data.toList) rfl o2
  have HK2 : Hid (Kept _ _) := HK1.out.trans k2
  have hb2 := hb1.trans b2
  clear o2 k2 b2
  go_wp2_with fail
  go_ret
  exact GrewT.mk v2 rfl HO2.out hb2 HK2.out
theorem key_base (v : Val) (hb : base v = true) (B n : Nat) (sv : Value) (xs : List Value) (w : World) (hown : w.ownsRow B 5 1 sv n xs) (hB : B ≤ w.heap.size) (hn : n ≤ 100000) :
    Calls Tryz.prog 124 #[sv, .agg #[.int .i64 v.k, .int .i64 v.n, .string v.t]] w fun e w' => GrewT B n xs (baseK v) w e w' := by
  obtain ⟨k, m, t⟩ := v
  unfold base at hb
  simp only at hb
  split at hb
  · rename_i e; subst e
    exact key_null m t B n sv xs w hown hB hn
  · split at hb
    · rename_i e; subst e
      rw [decide_eq_true_eq] at hb
      exact key_bool m t (by omega) B n sv xs w hown hB hn
    · split at hb
      · rename_i e; subst e
        rw [decide_eq_true_eq] at hb
        exact key_int m t hb.1 hb.2.1 B n sv xs w hown hB hn
      · split at hb
        · rename_i e; subst e
          rw [decide_eq_true_eq] at hb
          exact key_text m t hb.2 B n sv xs w hown hB hn
        · cases hb

end Go.Proofs.YtdchhjnmhnehiaaGreatDoor
