/- The text of a value, said plainly. Nothing of the program is used here. -/
import Derived.Test.YtkeghknceccdmaaGreatDoorOwnQ
import Derived.Lib.ItoaNum
import Derived.Lib.ItoaLen
import Derived.Test.YtkeghknceccdmaaGreatDoorIn
import Derived.Test.YtkeghknceccdmaaGreatDoorOrdSQ
import Derived.Test.YtkeghknceccdmaaGreatDoorLayP
import Derived.Test.YtkeghknceccdmaaGreatDoorLawB
import Derived.Lib.AppendStr
import Derived.Lib.OthersKept
import Derived.Lib.BufferKept
import Derived.Maps.AppendAt
import Derived.Deep.DeepCutAuto
import Derived.Test.YtkeghknceccdmaaGreatDoorLawVal
namespace Go.Proofs.YtkeghknceccdmaaGreatDoor
open Go.RowKit
set_option linter.unusedVariables false

/-- Texts with a comma between. -/
def joinL : List (List UInt8) → List UInt8
  | [] => []
  | x :: r => x ++ r.flatMap (fun y => 44 :: y)
theorem joinL_more (l : List (List UInt8)) (x : List UInt8) (h : l ≠ []) : joinL (l ++ [x]) = joinL l ++ 44 :: x := by
  cases l with
  | nil => exact absurd rfl h
  | cons y r => simp [joinL]
theorem joinL_one (x : List UInt8) : joinL [x] = x := by simp [joinL]
theorem joinL_take {α : Type} (f : α → List UInt8) (l : List α) (k : Nat) (h : k < l.length) (h0 : 0 < k) : joinL ((l.take (k + 1)).map f) = joinL ((l.take k).map f) ++ 44 :: f l[k] := by
  rw [List.take_succ_eq_append_getElem h, List.map_append, List.map_singleton, joinL_more]
  intro e
  have := congrArg List.length e
  rw [List.length_map, List.length_take, List.length_nil] at this
  omega
theorem joinL_take0 {α : Type} (f : α → List UInt8) (l : List α) (h : 0 < l.length) : joinL ((l.take 1).map f) = f l[0] := by
  cases l with
  | nil => simp at h
  | cons x r => simp [joinL]
def boolT (b : Bool) : List UInt8 := if b then [116, 114, 117, 101] else [102, 97, 108, 115, 101]
/-- The text of a value that holds no other. -/
def baseT (v : Val) : List UInt8 :=
  if v.k = 0 then [110, 117, 108, 108]
  else if v.k = 1 then boolT (v.n == 1)
  else if v.k = 2 then Lib.itoa v.n
  else if v.k = 3 then 39 :: (v.t.data.toList ++ [39])
  else []
def fieldT (r : Val → List UInt8) (f : Fld) : List UInt8 := f.name.data.toList ++ 58 :: r f.v
def textV : Nat → Val → List UInt8
  | 0, v => baseT v
  | d + 1, v =>
    if v.k = 4 then 91 :: (joinL ((itms v).map (textV d)) ++ [93])
    else if v.k = 5 then 123 :: (joinL ((flds v).map (fieldT (textV d))) ++ [125])
    else baseT v
theorem textV_base (d : Nat) (v : Val) (h4 : v.k ≠ 4) (h5 : v.k ≠ 5) : textV d v = baseT v := by
  cases d with
  | zero => rfl
  | succ d => rw [textV, if_neg h4, if_neg h5]
theorem textV_list (d : Nat) (v : Val) (h : v.k = 4) : textV (d + 1) v = 91 :: (joinL ((itms v).map (textV d)) ++ [93]) := by rw [textV, if_pos h]
theorem textV_doc (d : Nat) (v : Val) (h : v.k = 5) : textV (d + 1) v = 123 :: (joinL ((flds v).map (fieldT (textV d))) ++ [125]) := by rw [textV, if_neg (by omega), if_pos h]

theorem joinL_len {α : Type} (f : α → List UInt8) (g : α → Nat) : ∀ l : List α, (∀ u ∈ l, (f u).length + 1 ≤ 22 * g u) → (joinL (l.map f)).length ≤ 22 * (l.map g).sum
  | [], _ => by simp [joinL]
  | x :: r, h => by
    have h1 := h x (by simp)
    have h2 : ∀ r : List α, (∀ u ∈ r, (f u).length + 1 ≤ 22 * g u) → ((r.map f).flatMap (fun y => (44 : UInt8) :: y)).length ≤ 22 * (r.map g).sum := by
      intro r
      induction r with
      | nil => intro _; simp
      | cons y r ih =>
        intro hr
        have h3 := hr y (by simp)
        have h4 := ih (fun u hu => hr u (by simp [hu]))
        rw [List.map_cons, List.flatMap_cons, List.length_append, List.length_cons, List.map_cons, List.sum_cons]
        omega
    have h5 := h2 r (fun u hu => h u (by simp [hu]))
    rw [List.map_cons, joinL, List.length_append, List.map_cons, List.sum_cons]
    omega
theorem base_len (v : Val) (h : base v = true) : (baseT v).length + 1 ≤ 22 * (1 + v.t.size) := by
  unfold base at h
  unfold baseT
  have hl := toList_length v.t
  split at h
  · rename_i e; rw [if_pos e]; simp; omega
  · rename_i e0; rw [if_neg e0]
    split at h
    · rename_i e; rw [if_pos e]; unfold boolT; split <;> simp <;> omega
    · rename_i e1; rw [if_neg e1]
      split at h
      · rename_i e; rw [if_pos e]
        rw [decide_eq_true_eq] at h
        have := Lib.itoa_length_le v.n (by omega) (by omega)
        omega
      · rename_i e2; rw [if_neg e2]
        split at h
        · rename_i e; rw [if_pos e]; simp; omega
        · cases h
theorem textV_len : ∀ (d : Nat) (v : Val), fits d v = true → (textV d v).length + 1 ≤ 22 * (1 + v.t.size)
  | 0, v, h => base_len v h
  | d + 1, v, h => by
    have ih := textV_len d
    by_cases h4 : v.k = 4
    · obtain ⟨hs, hi, hl, d', hd, hall⟩ := list_parts (d + 1) v h h4
      obtain rfl : d = d' := by omega
      rw [textV_list d v h4]
      have h1 := joinL_len (textV d) (fun v => 1 + v.t.size) (itms v) (fun u hu => ih u (hall u hu).1)
      have h2 := items_sum1 v.t.size v.t (itms v) (Nat.le_refl _) hi
      simp only [List.length_cons, List.length_append, List.length_nil]
      omega
    · by_cases h5 : v.k = 5
      · obtain ⟨hs, hi, hl, _, d', hd, hall, _⟩ := doc_parts (d + 1) v h h5
        obtain rfl : d = d' := by omega
        rw [textV_doc d v h5]
        have h1 := joinL_len (fieldT (textV d)) (fun f => 2 + f.name.size + f.v.t.size) (flds v) (fun f hf => by
          have := ih f.v (hall f hf).1
          have hl := toList_length f.name
          unfold fieldT
          rw [List.length_append, List.length_cons, hl]
          omega)
        have h2 := fields_sum1 v.t.size v.t (flds v) (Nat.le_refl _) hi
        simp only [List.length_cons, List.length_append, List.length_nil]
        omega
      · rw [textV_base (d + 1) v h4 h5]
        rw [fits_base (d + 1) v h4 h5] at h
        exact base_len v h
theorem list_join_len (d : Nat) (v : Val) (h : fits (d + 1) v = true) (hk : v.k = 4) (k : Nat) : (joinL (((itms v).take k).map (textV d))).length ≤ 6600 := by
  obtain ⟨hs, hi, hl, d', hd, hall⟩ := list_parts (d + 1) v h hk
  obtain rfl : d = d' := by omega
  have h1 := joinL_len (textV d) (fun v => 1 + v.t.size) ((itms v).take k) (fun u hu => textV_len d u (hall u (List.mem_of_mem_take hu)).1)
  have h2 := items_sum1 v.t.size v.t (itms v) (Nat.le_refl _) hi
  have h3 := sum_take (fun v : Val => 1 + v.t.size) (itms v) k
  omega
theorem doc_join_len (d : Nat) (v : Val) (h : fits (d + 1) v = true) (hk : v.k = 5) (k : Nat) : (joinL (((flds v).take k).map (fieldT (textV d)))).length ≤ 6600 := by
  obtain ⟨hs, hi, hl, _, d', hd, hall, _⟩ := doc_parts (d + 1) v h hk
  obtain rfl : d = d' := by omega
  have h1 := joinL_len (fieldT (textV d)) (fun f => 2 + f.name.size + f.v.t.size) ((flds v).take k) (fun f hf => by
    have := textV_len d f.v (hall f (List.mem_of_mem_take hf)).1
    have hl := toList_length f.name
    unfold fieldT
    rw [List.length_append, List.length_cons, hl]
    omega)
  have h2 := fields_sum1 v.t.size v.t (flds v) (Nat.le_refl _) hi
  have h3 := sum_take (fun f : Fld => 2 + f.name.size + f.v.t.size) (flds v) k
  omega

end Go.Proofs.YtkeghknceccdmaaGreatDoor

/- What the program's writing of values as texts answers, for every right value. -/
namespace Go.Proofs.YtkeghknceccdmaaGreatDoor
open Go.RowKit
set_option linter.unusedVariables false

abbrev Tab (B : Nat) (w : World) : Prop := Lib.TabBelow Tryz.prog B w "internal/strconv.uint64pow10" .u64 Lib.pow10Tab

set_option maxRecDepth 4000 in
set_option maxHeartbeats 1000000 in
theorem appInt_any (B n : Nat) (i : Int) (h0 : -9223372036854775808 ≤ i) (h1 : i ≤ 9223372036854775807) (sv : Value) (xs : List Value) (w : World) (hown : w.ownsRow B 5 1 sv n xs) (hB : B ≤ w.heap.size) (hlim : n ≤ 1000000) (htab : Tab B w) :
    Calls Tryz.prog 215 #[sv, .int .i64 i, .int .i64 10] w fun e w' => GrewT B n xs (Lib.itoa i) w e w' :=
  Any.strconv_AppendInt_10 Tryz.laysAI B n i h0 h1 sv xs w hown hB (by omega) htab

set_option maxRecDepth 4000 in
set_option maxHeartbeats 1000000 in
theorem appBool_any (B n : Nat) (b : Bool) (sv : Value) (xs : List Value) (w : World) (hown : w.ownsRow B 5 1 sv n xs) (hB : B ≤ w.heap.size) (hlim : n ≤ 1000000) :
    Calls Tryz.prog 262 #[sv, .bool b] w fun e w' => GrewT B n xs (boolT b) w e w' := by
  cases b
  · go_enter Tryz.func262, Tryz.ntmps262
    go_wp2_with (at_builtin; refine app_str rfl _ _ rfl B n sv xs ⟨#[102, 97, 108, 115, 101]⟩ rfl rfl hown hB hlim (by decide) ?_; intro v' w' o1 b1 k1)
    go_ret
    exact GrewT.mk v' rfl o1 b1 k1
  · go_enter Tryz.func262, Tryz.ntmps262
    go_wp2_with (at_builtin; refine app_str rfl _ _ rfl B n sv xs ⟨#[116, 114, 117, 101]⟩ rfl rfl hown hB hlim (by decide) ?_; intro v' w' o1 b1 k1)
    go_ret
    exact GrewT.mk v' rfl o1 b1 k1
set_option maxRecDepth 4000 in
set_option maxHeartbeats 1000000 in
theorem appBool2_any (B n : Nat) (b : Bool) (sv : Value) (xs : List Value) (w : World) (hown : w.ownsRow B 5 1 sv n xs) (hB : B ≤ w.heap.size) (hlim : n ≤ 1000000) :
    Calls Tryz.prog 214 #[sv, .bool b] w fun e w' => GrewT B n xs (boolT b) w e w' := by
  have HC : Hid (Calls _ _ _ _ _) := appBool_any B n b sv xs w hown hB hlim
  clear hown
  go_enter Tryz.func214, Tryz.ntmps214
  go_wp2_with fail
  refine HC.out.mono ?_
  rintro e w1 ⟨v', rfl, o1, b1, k1⟩
  have HO : Hid (World.ownsRow _ _ _ _ _ _ _) := o1
  have HK : Hid (Kept _ _) := k1
  clear o1 k1
  go_wp2_with fail
  go_ret
  exact GrewT.mk v' rfl HO.out b1 HK.out

set_option maxRecDepth 4000 in
set_option maxHeartbeats 1000000 in
theorem appQuoted_any (B n : Nat) (t : ByteArray) (sv : Value) (xs : List Value) (w : World) (hown : w.ownsRow B 5 1 sv n xs) (hB : B ≤ w.heap.size) (hlim : n ≤ 500000) (ht : t.size ≤ 300) :
    Calls Tryz.prog 216 #[sv, .string t] w fun e w' => GrewT B n xs (39 :: (t.data.toList ++ [39])) w e w' := by
  go_enter Tryz.func216, Tryz.ntmps216
  go_wp2_with (at_builtin; refine app_byte rfl (.tmp 5) (.tmp 6) rfl B n sv xs 39 _ rfl rfl (by simp) hown hB (by omega) ?_; intro v1 w1 o1 b1 k1; refine Hid.out ?_)
  refine Lib.hid ?_
  have hz1 := b1.size
  go_wp2_with (at_builtin; refine app_str rfl (.tmp 8) (.tmp 9) rfl B (n + 1) v1 _ t rfl rfl o1 (by omega) (by omega) (by omega) ?_; intro v2 w2 o2 b2 k2; refine Hid.out ?_)
  refine Lib.hid ?_
  have hz2 := b2.size
  go_wp2_with (at_builtin; refine app_byte rfl (.tmp 11) (.tmp 12) rfl B (n + 1 + t.size) v2 _ 39 _ rfl rfl (by simp) o2 (by omega) (by omega) ?_; intro v3 w3 o3 b3 k3; refine Hid.out ?_)
  refine Lib.hid ?_
  have hl := toList_length t
  have o4 : w3.ownsRow B 5 1 v3 (n + (39 :: (t.data.toList ++ [39])).length) (xs ++ Lib.byteCells (39 :: (t.data.toList ++ [39]))) := by
    have e1 : n + (39 :: (t.data.toList ++ [39])).length = n + 1 + t.size + 1 := by simp; omega
    have e2 : xs ++ Lib.byteCells (39 :: (t.data.toList ++ [39])) = xs ++ [Value.int .u8 39] ++ Lib.byteCells t.data.toList ++ [Value.int .u8 39] := by simp [Lib.byteCells]
    rw [e1, e2]; exact o3
  have HO : Hid (World.ownsRow _ _ _ _ _ _ _) := o4
  have hb : Below B w w3 := b1.trans (b2.trans b3)
  have hk : Kept w w3 := k1.trans (k2.trans k3)
  have HK : Hid (Kept _ _) := hk
  clear o1 o2 o3 o4 k1 k2 k3 b1 b2 b3 hk
  go_wp2_with fail
  go_ret
  exact GrewT.mk v3 rfl HO.out hb HK.out

end Go.Proofs.YtkeghknceccdmaaGreatDoor

/- What the program's writing of values as texts answers, for every right value: the whole of it. -/
namespace Go.Proofs.YtkeghknceccdmaaGreatDoor
open Go.RowKit
set_option linter.unusedVariables false

def AppAt (d : Nat) : Prop := ∀ (v : Val) (B n : Nat) (sv : Value) (xs : List Value) (w : World), fits d v = true → w.ownsRow B 5 1 sv n xs → B ≤ w.heap.size → n + 10000 * d ≤ 500000 → Tab B w →
    Calls Tryz.prog 143 #[sv, .agg #[.int .i64 v.k, .int .i64 v.n, .string v.t]] w fun e w' => GrewT B n xs (textV d v) w e w'

set_option maxRecDepth 4000 in
set_option maxHeartbeats 1000000 in
theorem app_base (v : Val) (hb : base v = true) (B n : Nat) (sv : Value) (xs : List Value) (w : World) (hown : w.ownsRow B 5 1 sv n xs) (hB : B ≤ w.heap.size) (hn : n ≤ 500000) (htab : Tab B w) :
    Calls Tryz.prog 143 #[sv, .agg #[.int .i64 v.k, .int .i64 v.n, .string v.t]] w fun e w' => GrewT B n xs (baseT v) w e w' := by
  obtain ⟨k, m, t⟩ := v
  have hbox : Below B w (w.alloc (.cells #[.int .i64 k, .int .i64 m, .string t] 28)) := (Below.refl _ _).alloc hB _
  have hkx := kept_alloc w (.cells #[.int .i64 k, .int .i64 m, .string t] 28)
  have O1 := hown.alloc (.cells #[.int .i64 k, .int .i64 m, .string t] 28)
  have T1 : Tab B (w.alloc (.cells #[.int .i64 k, .int .i64 m, .string t] 28)) := Lib.TabBelow.on htab hbox
  have HT : Hid (Tab _ _) := T1
  have HO : Hid (World.ownsRow _ _ _ _ _ _ _) := O1
  have HX : Hid (Kept _ _) := hkx
  clear O1 T1 hkx hown htab
  unfold base at hb
  simp only at hb
  split at hb
  · rename_i e; subst e
    show Calls _ _ _ _ fun e w' => GrewT B n xs [110, 117, 108, 108] w e w'
    go_enter Tryz.func143, Tryz.ntmps143
    go_wp2_with (at_builtin; refine app_str rfl (.tmp 9) _ rfl B n sv xs ⟨#[110, 117, 108, 108]⟩ rfl rfl HO.out (by simp; omega) (by omega) (by decide) ?_; intro v1 w1 o1 b1 k1; refine Hid.out ?_)
    refine Lib.hid ?_
    have HO1 : Hid (World.ownsRow _ _ _ _ _ _ _) := o1
    have HK1 : Hid (Kept _ _) := k1
    clear o1 k1
    go_wp2_with fail
    go_ret
    exact GrewT.mk v1 rfl HO1.out (hbox.trans b1) (HX.out.trans HK1.out)
  · split at hb
    · rename_i e; subst e
      show Calls _ _ _ _ fun e w' => GrewT B n xs (boolT (m == 1)) w e w'
      obtain ⟨b, hbq⟩ : ∃ b, b = (m == 1) := ⟨_, rfl⟩
      have HC := appBool2_any B n b sv xs _ HO.out (by simp; omega) (by omega)
      rw [hbq] at HC
      have HCC : Hid (Calls _ _ _ _ _) := HC
      clear HC hbq
      go_enter Tryz.func143, Tryz.ntmps143
      go_wp2_with fail
      refine HCC.out.mono ?_
      rintro e w1 ⟨v1, rfl, o1, b1, k1⟩
      have HO1 : Hid (World.ownsRow _ _ _ _ _ _ _) := o1
      have HK1 : Hid (Kept _ _) := k1
      clear o1 k1
      go_wp2_with fail
      go_ret
      exact GrewT.mk v1 rfl HO1.out (hbox.trans b1) (HX.out.trans HK1.out)
    · split at hb
      · rename_i e; subst e
        rw [decide_eq_true_eq] at hb
        show Calls _ _ _ _ fun e w' => GrewT B n xs (Lib.itoa m) w e w'
        have HC := appInt_any B n m (by omega) (by omega) sv xs _ HO.out (by simp; omega) (by omega) HT.out
        have HCC : Hid (Calls _ _ _ _ _) := HC
        clear HC
        go_enter Tryz.func143, Tryz.ntmps143
        go_wp2_with fail
        refine HCC.out.mono ?_
        rintro e w1 ⟨v1, rfl, o1, b1, k1⟩
        have HO1 : Hid (World.ownsRow _ _ _ _ _ _ _) := o1
        have HK1 : Hid (Kept _ _) := k1
        clear o1 k1
        go_wp2_with fail
        go_ret
        exact GrewT.mk v1 rfl HO1.out (hbox.trans b1) (HX.out.trans HK1.out)
      · split at hb
        · rename_i e; subst e
          rw [decide_eq_true_eq] at hb
          obtain ⟨rfl, hts⟩ := hb
          show Calls _ _ _ _ fun e w' => GrewT B n xs (39 :: (t.data.toList ++ [39])) w e w'
          have HC := appQuoted_any B n t sv xs _ HO.out (by simp; omega) (by omega) hts
          have HCC : Hid (Calls _ _ _ _ _) := HC
          clear HC
          go_enter Tryz.func143, Tryz.ntmps143
          go_wp2_with fail
          refine HCC.out.mono ?_
          rintro e w1 ⟨v1, rfl, o1, b1, k1⟩
          have HO1 : Hid (World.ownsRow _ _ _ _ _ _ _) := o1
          have HK1 : Hid (Kept _ _) := k1
          clear o1 k1
          go_wp2_with fail
          go_ret
          exact GrewT.mk v1 rfl HO1.out (hbox.trans b1) (HX.out.trans HK1.out)
        · cases hb

set_option maxRecDepth 4000 in
set_option maxHeartbeats 1000000 in
theorem appList_any (d : Nat) (ih : AppAt d) (L : List Val) (t : ByteArray) (hi : items t = some L) (hs : t.size ≤ 300) (hl : L.length ≤ 300) (hall : ∀ u ∈ L, fits d u = true) (hj : ∀ k, (joinL ((L.take k).map (textV d))).length ≤ 6600)
    (B n : Nat) (sv : Value) (xs : List Value) (w : World) (hown : w.ownsRow B 5 1 sv n xs) (hB : B ≤ w.heap.size) (hn : n + 10000 * (d + 1) ≤ 500000) (htab : Tab B w) :
    Calls Tryz.prog 217 #[sv, .string t] w fun e w' => GrewT B n xs (91 :: (joinL (L.map (textV d)) ++ [93])) w e w' := by
  have HI : Hid (AppAt d) := ih
  have HF : Hid _ := hi
  have HA : Hid _ := hall
  have HJ : Hid _ := hj
  have HT : Hid (Tab _ _) := htab
  clear ih hi hall hj htab
  go_enter Tryz.func217, Tryz.ntmps217
  go_wp2_with (at_builtin; refine app_byte rfl (.tmp 7) (.tmp 8) rfl B n sv xs 91 _ rfl rfl (by simp) hown hB (by omega) ?_; intro v1 w1 o1 b1 k1; refine Hid.out ?_)
  refine Lib.hid ?_
  have hz1 := b1.size
  have HO1 : Hid (World.ownsRow _ _ _ _ _ _ _) := o1
  have HK1 : Hid (Kept _ _) := k1
  clear o1 k1 hown
  go_wp2_with fail
  refine (itemsIn_own t L _ (by omega) HF.out).mono ?_
  rintro e w2 ⟨⟨p, cap, rfl, r2, hp⟩, b2⟩
  have HO2 : Hid (World.ownsRow _ _ _ _ _ _ _) := owns_below HO1.out b2
  have HK2 : Hid (Kept _ _) := kept_below HK1.out b2
  have HB2 : Hid _ := b1.trans (b2.mono (by omega))
  have HR2 : Hid (World.ownsRow _ _ _ _ _ _ _) := r2
  have HP : Hid _ := hp
  clear r2 hp b2 b1 HO1 HK1
  go_wp2_with fail
  go_loopw [0, 13] (fun u i wr => ∃ q : Nat, q ≤ L.length ∧ i = .int .i64 q ∧ wr.ownsRow B 5 1 u (n + (91 :: joinL ((L.take q).map (textV d))).length) (xs ++ Lib.byteCells (91 :: joinL ((L.take q).map (textV d)))) ∧ wr.ownsRow w1.heap.size 28 3 (.slice p L.length cap) L.length (flat L) ∧ Kept w wr ∧ Below B w wr) (fun _ i _ => L.length - (intOf i).toNat)
  case atStart => exact ⟨0, Nat.zero_le _, rfl, HO2.out, HR2.out, HK2.out, HB2.out⟩
  case round =>
    obtain ⟨q, hq, rfl, o3, r3, k3, b3⟩ := hrel
    have hz3 := b3.size
    have hjq := HJ.out q
    have hlq : (91 :: joinL ((L.take q).map (textV d))).length ≤ 6601 := by rw [List.length_cons]; omega
    have HK3 : Hid (Kept _ _) := k3
    have HR3 : Hid (World.ownsRow _ _ _ _ _ _ _) := r3
    clear k3 HO2 HK2 HR2
    by_cases hlt : q < L.length
    · obtain ⟨g, rfl⟩ := HP.out (fun e => by rw [e] at hlt; simp at hlt)
      have R := ReadV.of_own r3
      obtain ⟨x0, x1, x2⟩ := R.cells q hlt
      have hgl := R.lt
      have hfq := HA.out L[q] (List.getElem_mem _)
      have HFQ : Hid _ := hfq
      clear R r3 hfq
      have hab : Below B wr (wr.alloc (.cells #[.int .i64 L[q].k, .int .i64 L[q].n, .string L[q].t] 28)) := (Below.refl _ _).alloc (by omega) _
      have O4 := o3.alloc (.cells #[.int .i64 L[q].k, .int .i64 L[q].n, .string L[q].t] 28)
      have hkx := kept_alloc wr (.cells #[.int .i64 L[q].k, .int .i64 L[q].n, .string L[q].t] 28)
      have HAB : Hid _ := hab
      have HKX : Hid (Kept _ _) := hkx
      have HO4 : Hid (World.ownsRow _ _ _ _ _ _ _) := O4
      clear hab O4 hkx o3
      by_cases hq0 : q = 0
      · subst hq0
        have hnq : ¬ (0 : Int) < 0 := by omega
        have hcat : 91 :: joinL ((L.take (0 + 1)).map (textV d)) = (91 :: joinL ((L.take 0).map (textV d))) ++ textV d L[0] := by rw [Nat.zero_add, joinL_take0 _ _ hlt]; rfl
        have HCAT : Hid _ := hcat
        clear hcat
        go_wp2_with fail
        refine (HI.out L[0] B _ _ _ _ HFQ.out HO4.out (by simp; omega) (by omega) (Lib.TabBelow.on HT.out (b3.trans HAB.out))).mono ?_
        rintro e w5 ⟨v5, rfl, o5, b5, k5⟩
        have HO5 : Hid (World.ownsRow _ _ _ _ _ _ _) := grow_more HCAT.out o5
        have HR5 : Hid (World.ownsRow _ _ _ _ _ _ _) := owns_kept HR3.out (HKX.out.trans k5) (by decide)
        have HK5 : Hid (Kept _ _) := HK3.out.trans (HKX.out.trans k5)
        have hb5 : Below B w w5 := b3.trans (HAB.out.trans b5)
        clear o5 k5 b5
        go_wp2_with fail
        go_roundw
        case rel => exact ⟨0 + 1, by omega, by go_num, HO5.out, HR5.out, HK5.out, hb5⟩
        case measure => simp [intOf]; omega
      · have hq1 : 0 < q := by omega
        have hcat : 91 :: joinL ((L.take (q + 1)).map (textV d)) = (91 :: joinL ((L.take q).map (textV d)) ++ [44]) ++ textV d L[q] := by rw [joinL_take _ _ _ hlt (by omega)]; simp
        have HCAT : Hid (_ = _) := hcat
        clear hcat hq0
        go_wp2_with (at_builtin; refine app_byte rfl (.tmp 20) (.tmp 21) rfl B _ _ _ 44 _ rfl rfl (by simp) HO4.out (by simp; omega) (by omega) ?_; intro v4 w4 o4 b4 k4; refine Hid.out ?_)
        refine Lib.hid ?_
        have hz4 := b4.size
        have o44 : w4.ownsRow B 5 1 v4 (n + (91 :: joinL ((L.take q).map (textV d)) ++ [44]).length) (xs ++ Lib.byteCells (91 :: joinL ((L.take q).map (textV d)) ++ [44])) := grow_cat (b := [44]) o4
        have HO44 : Hid (World.ownsRow _ _ _ _ _ _ _) := o44
        have HK4 : Hid (Kept _ _) := k4
        have y0 := kept_new k4 (by decide) 0
        have y1 := kept_new k4 (by decide) 1
        have y2 := kept_new k4 (by decide) 2
        simp only [List.getElem?_toArray, List.getElem?_cons_zero, List.getElem?_cons_succ] at y0 y1 y2
        have hn44 : (91 :: joinL ((L.take q).map (textV d)) ++ [44]).length ≤ 6602 := by rw [List.length_append]; simp at hlq ⊢; omega
        have hzz : wr.heap.size < w4.heap.size := by have := hz4; simp at this; omega
        clear o4 k4 o44
        go_wp2_with fail
        refine (HI.out L[q] B _ _ _ _ HFQ.out HO44.out (by omega) (by omega) (Lib.TabBelow.on HT.out (b3.trans (HAB.out.trans b4)))).mono ?_
        rintro e w5 ⟨v5, rfl, o5, b5, k5⟩
        have HO5 : Hid (World.ownsRow _ _ _ _ _ _ _) := grow_more HCAT.out o5
        have HR5 : Hid (World.ownsRow _ _ _ _ _ _ _) := owns_kept HR3.out (HKX.out.trans (HK4.out.trans k5)) (by decide)
        have HK5 : Hid (Kept _ _) := HK3.out.trans (HKX.out.trans (HK4.out.trans k5))
        have hb5 : Below B w w5 := b3.trans (HAB.out.trans (b4.trans b5))
        clear o5 k5 b5
        go_wp2_with fail
        go_roundw
        case rel => exact ⟨q + 1, by omega, by go_num, HO5.out, HR5.out, HK5.out, hb5⟩
        case measure => simp [intOf]; omega
    · have e : L.take q = L := List.take_of_length_le (by omega)
      rw [e] at o3 hlq
      go_wp2_with (at_builtin; refine app_byte rfl (.tmp 27) (.tmp 28) rfl B _ _ _ 93 _ rfl rfl (by simp) o3 (by omega) (by omega) ?_; intro v4 w4 o4 b4 k4; refine Hid.out ?_)
      refine Lib.hid ?_
      have o44 : w4.ownsRow B 5 1 v4 (n + (91 :: (joinL (L.map (textV d)) ++ [93])).length) (xs ++ Lib.byteCells (91 :: (joinL (L.map (textV d)) ++ [93]))) := grow_more (a := 91 :: joinL (L.map (textV d))) (b := [93]) rfl o4
      have HO44 : Hid (World.ownsRow _ _ _ _ _ _ _) := o44
      have HK4 : Hid (Kept _ _) := HK3.out.trans k4
      have hb4 := b3.trans b4
      clear o4 k4 o44 o3 b4
      go_wp2_with fail
      go_ret
      exact GrewT.mk v4 rfl HO44.out hb4 HK4.out

end Go.Proofs.YtkeghknceccdmaaGreatDoor

/- What the program's writing of documents as texts answers; and of all right values. -/
namespace Go.Proofs.YtkeghknceccdmaaGreatDoor
open Go.RowKit
set_option linter.unusedVariables false

set_option maxRecDepth 4000 in
set_option maxHeartbeats 2000000 in
theorem appDoc_any (d : Nat) (ih : AppAt d) (L : List Fld) (t : ByteArray) (hi : fields t = some L) (hs : t.size ≤ 300) (hl : L.length ≤ 300) (hall : ∀ f ∈ L, fits d f.v = true ∧ f.name.size ≤ 300) (hj : ∀ k, (joinL ((L.take k).map (fieldT (textV d)))).length ≤ 6600)
    (B n : Nat) (sv : Value) (xs : List Value) (w : World) (hown : w.ownsRow B 5 1 sv n xs) (hB : B ≤ w.heap.size) (hn : n + 10000 * (d + 1) ≤ 500000) (htab : Tab B w) :
    Calls Tryz.prog 218 #[sv, .string t] w fun e w' => GrewT B n xs (123 :: (joinL (L.map (fieldT (textV d))) ++ [125])) w e w' := by
  have HI : Hid (AppAt d) := ih
  have HF : Hid _ := hi
  have HA : Hid _ := hall
  have HJ : Hid _ := hj
  have HT : Hid (Tab _ _) := htab
  clear ih hi hall hj htab
  go_enter Tryz.func218, Tryz.ntmps218
  go_wp2_with (at_builtin; refine app_byte rfl (.tmp 7) (.tmp 8) rfl B n sv xs 123 _ rfl rfl (by simp) hown hB (by omega) ?_; intro v1 w1 o1 b1 k1; refine Hid.out ?_)
  refine Lib.hid ?_
  have hz1 := b1.size
  have HO1 : Hid (World.ownsRow _ _ _ _ _ _ _) := o1
  have HK1 : Hid (Kept _ _) := k1
  clear o1 k1 hown
  go_wp2_with fail
  refine (fieldsIn_own t L _ (by omega) HF.out).mono ?_
  rintro e w2 ⟨⟨p, cap, rfl, r2, hp⟩, b2⟩
  have HO2 : Hid (World.ownsRow _ _ _ _ _ _ _) := owns_below HO1.out b2
  have HK2 : Hid (Kept _ _) := kept_below HK1.out b2
  have HB2 : Hid _ := b1.trans (b2.mono (by omega))
  have HR2 : Hid (World.ownsRow _ _ _ _ _ _ _) := r2
  have HP : Hid _ := hp
  clear r2 hp b2 b1 HO1 HK1
  go_wp2_with fail
  go_loopw [0, 13] (fun u i wr => ∃ q : Nat, q ≤ L.length ∧ i = .int .i64 q ∧ wr.ownsRow B 5 1 u (n + (123 :: joinL ((L.take q).map (fieldT (textV d)))).length) (xs ++ Lib.byteCells (123 :: joinL ((L.take q).map (fieldT (textV d))))) ∧ wr.ownsRow w1.heap.size 39 4 (.slice p L.length cap) L.length (flatF L) ∧ Kept w wr ∧ Below B w wr) (fun _ i _ => L.length - (intOf i).toNat)
  case atStart => exact ⟨0, Nat.zero_le _, rfl, HO2.out, HR2.out, HK2.out, HB2.out⟩
  case round =>
    obtain ⟨q, hq, rfl, o3, r3, k3, b3⟩ := hrel
    have hz3 := b3.size
    have hjq := HJ.out q
    have hlq : (123 :: joinL ((L.take q).map (fieldT (textV d)))).length ≤ 6601 := by rw [List.length_cons]; omega
    have HK3 : Hid (Kept _ _) := k3
    have HR3 : Hid (World.ownsRow _ _ _ _ _ _ _) := r3
    clear k3 HO2 HK2 HR2
    by_cases hlt : q < L.length
    · obtain ⟨g, rfl⟩ := HP.out (fun e => by rw [e] at hlt; simp at hlt)
      have R := ReadF.of_own r3
      obtain ⟨x0, x1, x2, x3⟩ := R.cells q hlt
      have hgl := R.lt
      have hfq := HA.out L[q] (List.getElem_mem _)
      have HFQ : Hid _ := hfq.1
      have hnm := hfq.2
      have hnl := toList_length L[q].name
      clear R r3 hfq
      have hab : Below B wr (wr.alloc (.cells #[.string L[q].name, .int .i64 L[q].v.k, .int .i64 L[q].v.n, .string L[q].v.t] 39)) := (Below.refl _ _).alloc (by omega) _
      have O4 := o3.alloc (.cells #[.string L[q].name, .int .i64 L[q].v.k, .int .i64 L[q].v.n, .string L[q].v.t] 39)
      have hkx := kept_alloc wr (.cells #[.string L[q].name, .int .i64 L[q].v.k, .int .i64 L[q].v.n, .string L[q].v.t] 39)
      have HAB : Hid _ := hab
      have HKX : Hid (Kept _ _) := hkx
      have HO4 : Hid (World.ownsRow _ _ _ _ _ _ _) := O4
      clear hab O4 hkx o3
      by_cases hq0 : q = 0
      · subst hq0
        have hnq : ¬ (0 : Int) < 0 := by omega
        have hcat : 123 :: joinL ((L.take (0 + 1)).map (fieldT (textV d))) = ((123 :: joinL ((L.take 0).map (fieldT (textV d)))) ++ L[0].name.data.toList ++ ([58] : List UInt8)) ++ textV d L[0].v := by rw [Nat.zero_add, joinL_take0 _ _ hlt]; simp [fieldT, joinL]
        have HCAT : Hid (_ = _) := hcat
        clear hcat
        go_wp2_with (at_builtin; refine app_str rfl (.tmp 23) (.tmp 25) rfl B _ _ _ L[0].name rfl rfl HO4.out (by simp; omega) (by omega) (by omega) ?_; intro v5 w5 o5 b5 k5; refine Hid.out ?_)
        refine Lib.hid ?_
        have o55 : w5.ownsRow B 5 1 v5 (n + ((123 :: joinL ((L.take 0).map (fieldT (textV d)))) ++ L[0].name.data.toList).length) (xs ++ Lib.byteCells ((123 :: joinL ((L.take 0).map (fieldT (textV d)))) ++ L[0].name.data.toList)) := grow_cat (by rw [hnl]; exact o5)
        have HO55 : Hid (World.ownsRow _ _ _ _ _ _ _) := o55
        have hz5 := b5.size
        have HK5 : Hid (Kept _ _) := k5
        have hlen5 : ((123 :: joinL ((L.take 0).map (fieldT (textV d)))) ++ L[0].name.data.toList).length ≤ 6902 := by rw [List.length_append]; omega
        clear o5 k5 o55
        have hzb : B ≤ w5.heap.size := by have := hz5; simp at this; omega
        go_wp2_with (at_builtin; refine app_byte rfl (.tmp 27) (.tmp 28) rfl B _ _ _ 58 _ rfl rfl (by simp) HO55.out hzb (by omega) ?_; intro v6 w6 o6 b6 k6; refine Hid.out ?_)
        refine Lib.hid ?_
        have o66 : w6.ownsRow B 5 1 v6 (n + ((123 :: joinL ((L.take 0).map (fieldT (textV d)))) ++ L[0].name.data.toList ++ [58]).length) (xs ++ Lib.byteCells ((123 :: joinL ((L.take 0).map (fieldT (textV d)))) ++ L[0].name.data.toList ++ [58])) := grow_cat (b := [58]) o6
        have HO66 : Hid (World.ownsRow _ _ _ _ _ _ _) := o66
        have hk6 : Kept _ w6 := HK5.out.trans k6
        have y1 := kept_new hk6 (by decide) 1
        have y2 := kept_new hk6 (by decide) 2
        have y3 := kept_new hk6 (by decide) 3
        simp only [List.getElem?_toArray, List.getElem?_cons_zero, List.getElem?_cons_succ] at y1 y2 y3
        have hlen6 : ((123 :: joinL ((L.take 0).map (fieldT (textV d)))) ++ L[0].name.data.toList ++ [58]).length ≤ 6903 := by rw [List.length_append]; simp only [List.length_cons, List.length_nil]; omega
        have HK6 : Hid (Kept _ _) := hk6
        have hz6 := b6.size
        have hzc : wr.heap.size < w6.heap.size := by have := hz5; simp at this; omega
        have HB6 : Hid (Below _ _ _) := b3.trans (HAB.out.trans (b5.trans b6))
        clear o6 k6 o66 hk6
        go_wp2_with fail
        refine (HI.out L[0].v B _ _ _ _ HFQ.out HO66.out (by omega) (by omega) (Lib.TabBelow.on HT.out HB6.out)).mono ?_
        rintro e w7 ⟨v7, rfl, o7, b7, k7⟩
        have HO7 : Hid (World.ownsRow _ _ _ _ _ _ _) := grow_more HCAT.out o7
        have HR7 : Hid (World.ownsRow _ _ _ _ _ _ _) := owns_kept HR3.out (HKX.out.trans (HK6.out.trans k7)) (by decide)
        have HK7 : Hid (Kept _ _) := HK3.out.trans (HKX.out.trans (HK6.out.trans k7))
        have hb7 : Below B w w7 := HB6.out.trans b7
        clear o7 k7 b7
        go_wp2_with fail
        go_roundw
        case rel => exact ⟨0 + 1, by omega, by go_num, HO7.out, HR7.out, HK7.out, hb7⟩
        case measure => simp [intOf]; omega
      · have hq1 : 0 < q := by omega
        have hcat : 123 :: joinL ((L.take (q + 1)).map (fieldT (textV d))) = ((123 :: joinL ((L.take q).map (fieldT (textV d))) ++ [44]) ++ L[q].name.data.toList ++ [58]) ++ textV d L[q].v := by rw [joinL_take _ _ _ hlt (by omega)]; simp [fieldT]
        have HCAT : Hid (_ = _) := hcat
        clear hcat hq0
        go_wp2_with (at_builtin; refine app_byte rfl (.tmp 20) (.tmp 21) rfl B _ _ _ 44 _ rfl rfl (by simp) HO4.out (by simp; omega) (by omega) ?_; intro v4 w4 o4 b4 k4; refine Hid.out ?_)
        refine Lib.hid ?_
        have hz4 := b4.size
        have o44 : w4.ownsRow B 5 1 v4 (n + (123 :: joinL ((L.take q).map (fieldT (textV d))) ++ [44]).length) (xs ++ Lib.byteCells (123 :: joinL ((L.take q).map (fieldT (textV d))) ++ [44])) := grow_cat (b := [44]) o4
        have HO44 : Hid (World.ownsRow _ _ _ _ _ _ _) := o44
        have HK4 : Hid (Kept _ _) := k4
        have z0 := kept_new k4 (by decide) 0
        simp only [List.getElem?_toArray, List.getElem?_cons_zero] at z0
        have hn44 : (123 :: joinL ((L.take q).map (fieldT (textV d))) ++ [44]).length ≤ 6602 := by rw [List.length_append]; simp only [List.length_cons, List.length_nil] at hlq ⊢; omega
        have hzz : wr.heap.size < w4.heap.size := by have := hz4; simp at this; omega
        clear o4 k4 o44
        go_wp2_with (at_builtin; refine app_str rfl (.tmp 23) (.tmp 25) rfl B _ _ _ L[q].name rfl rfl HO44.out (by omega) (by omega) (by omega) ?_; intro v5 w5 o5 b5 k5; refine Hid.out ?_)
        refine Lib.hid ?_
        have o55 : w5.ownsRow B 5 1 v5 (n + ((123 :: joinL ((L.take q).map (fieldT (textV d))) ++ [44]) ++ L[q].name.data.toList).length) (xs ++ Lib.byteCells ((123 :: joinL ((L.take q).map (fieldT (textV d))) ++ [44]) ++ L[q].name.data.toList)) := grow_cat (by rw [hnl]; exact o5)
        have HO55 : Hid (World.ownsRow _ _ _ _ _ _ _) := o55
        have hz5 := b5.size
        have HK5 : Hid (Kept _ _) := HK4.out.trans k5
        have hlen5 : ((123 :: joinL ((L.take q).map (fieldT (textV d))) ++ [44]) ++ L[q].name.data.toList).length ≤ 6902 := by rw [List.length_append]; omega
        clear o5 k5 o55
        have hzb : B ≤ w5.heap.size := by omega
        go_wp2_with (at_builtin; refine app_byte rfl (.tmp 27) (.tmp 28) rfl B _ _ _ 58 _ rfl rfl (by simp) HO55.out hzb (by omega) ?_; intro v6 w6 o6 b6 k6; refine Hid.out ?_)
        refine Lib.hid ?_
        have o66 : w6.ownsRow B 5 1 v6 (n + ((123 :: joinL ((L.take q).map (fieldT (textV d))) ++ [44]) ++ L[q].name.data.toList ++ [58]).length) (xs ++ Lib.byteCells ((123 :: joinL ((L.take q).map (fieldT (textV d))) ++ [44]) ++ L[q].name.data.toList ++ [58])) := grow_cat (b := [58]) o6
        have HO66 : Hid (World.ownsRow _ _ _ _ _ _ _) := o66
        have hk6 : Kept _ w6 := HK5.out.trans k6
        have y1 := kept_new hk6 (by decide) 1
        have y2 := kept_new hk6 (by decide) 2
        have y3 := kept_new hk6 (by decide) 3
        simp only [List.getElem?_toArray, List.getElem?_cons_zero, List.getElem?_cons_succ] at y1 y2 y3
        have hlen6 : ((123 :: joinL ((L.take q).map (fieldT (textV d))) ++ [44]) ++ L[q].name.data.toList ++ [58]).length ≤ 6903 := by rw [List.length_append]; simp only [List.length_cons, List.length_nil]; omega
        have HK6 : Hid (Kept _ _) := hk6
        have hz6 := b6.size
        have hzc : wr.heap.size < w6.heap.size := by omega
        have HB6 : Hid (Below _ _ _) := b3.trans (HAB.out.trans (b4.trans (b5.trans b6)))
        clear o6 k6 o66 hk6
        go_wp2_with fail
        refine (HI.out L[q].v B _ _ _ _ HFQ.out HO66.out (by omega) (by omega) (Lib.TabBelow.on HT.out HB6.out)).mono ?_
        rintro e w7 ⟨v7, rfl, o7, b7, k7⟩
        have HO7 : Hid (World.ownsRow _ _ _ _ _ _ _) := grow_more HCAT.out o7
        have HR7 : Hid (World.ownsRow _ _ _ _ _ _ _) := owns_kept HR3.out (HKX.out.trans (HK6.out.trans k7)) (by decide)
        have HK7 : Hid (Kept _ _) := HK3.out.trans (HKX.out.trans (HK6.out.trans k7))
        have hb7 : Below B w w7 := HB6.out.trans b7
        clear o7 k7 b7
        go_wp2_with fail
        go_roundw
        case rel => exact ⟨q + 1, by omega, by go_num, HO7.out, HR7.out, HK7.out, hb7⟩
        case measure => simp [intOf]; omega
    · have e : L.take q = L := List.take_of_length_le (by omega)
      rw [e] at o3 hlq
      go_wp2_with (at_builtin; refine app_byte rfl (.tmp 35) (.tmp 36) rfl B _ _ _ 125 _ rfl rfl (by simp) o3 (by omega) (by omega) ?_; intro v4 w4 o4 b4 k4; refine Hid.out ?_)
      refine Lib.hid ?_
      have o44 : w4.ownsRow B 5 1 v4 (n + (123 :: (joinL (L.map (fieldT (textV d))) ++ [125])).length) (xs ++ Lib.byteCells (123 :: (joinL (L.map (fieldT (textV d))) ++ [125]))) := grow_more (a := 123 :: joinL (L.map (fieldT (textV d)))) (b := [125]) rfl o4
      have HO44 : Hid (World.ownsRow _ _ _ _ _ _ _) := o44
      have HK4 : Hid (Kept _ _) := HK3.out.trans k4
      have hb4 := b3.trans b4
      clear o4 k4 o44 o3 b4
      go_wp2_with fail
      go_ret
      exact GrewT.mk v4 rfl HO44.out hb4 HK4.out

set_option maxRecDepth 4000 in
set_option maxHeartbeats 1000000 in
theorem app_list (d : Nat) (ih : AppAt d) (m : Int) (t : ByteArray) (B n : Nat) (sv : Value) (xs : List Value) (w : World) (hf : fits (d + 1) ⟨4, m, t⟩ = true) (hown : w.ownsRow B 5 1 sv n xs) (hB : B ≤ w.heap.size) (hn : n + 10000 * (d + 1) ≤ 500000) (htab : Tab B w) :
    Calls Tryz.prog 143 #[sv, .agg #[.int .i64 4, .int .i64 m, .string t]] w fun e w' => GrewT B n xs (91 :: (joinL ((itms ⟨4, m, t⟩).map (textV d)) ++ [93])) w e w' := by
  obtain ⟨hs, hi, hl, d', hd, hall⟩ := list_parts (d + 1) ⟨4, m, t⟩ hf rfl
  obtain rfl : d = d' := by omega
  have hbox : Below B w (w.alloc (.cells #[.int .i64 4, .int .i64 m, .string t] 28)) := (Below.refl _ _).alloc hB _
  have hkx := kept_alloc w (.cells #[.int .i64 4, .int .i64 m, .string t] 28)
  have HC := appList_any d ih (itms ⟨4, m, t⟩) t hi hs hl (fun u hu => (hall u hu).1) (list_join_len d ⟨4, m, t⟩ hf rfl) B n sv xs _ (hown.alloc (.cells #[.int .i64 4, .int .i64 m, .string t] 28)) (by simp; omega) hn (Lib.TabBelow.on htab hbox)
  have HCC : Hid (Calls _ _ _ _ _) := HC
  have HX : Hid (Kept _ _) := hkx
  clear HC hkx hi hall hown htab hf ih
  go_enter Tryz.func143, Tryz.ntmps143
  go_wp2_with fail
  refine HCC.out.mono ?_
  rintro e w1 ⟨v1, rfl, o1, b1, k1⟩
  have HO1 : Hid (World.ownsRow _ _ _ _ _ _ _) := o1
  have HK1 : Hid (Kept _ _) := k1
  clear o1 k1
  go_wp2_with fail
  go_ret
  exact GrewT.mk v1 rfl HO1.out (hbox.trans b1) (HX.out.trans HK1.out)
set_option maxRecDepth 4000 in
set_option maxHeartbeats 1000000 in
theorem app_doc (d : Nat) (ih : AppAt d) (m : Int) (t : ByteArray) (B n : Nat) (sv : Value) (xs : List Value) (w : World) (hf : fits (d + 1) ⟨5, m, t⟩ = true) (hown : w.ownsRow B 5 1 sv n xs) (hB : B ≤ w.heap.size) (hn : n + 10000 * (d + 1) ≤ 500000) (htab : Tab B w) :
    Calls Tryz.prog 143 #[sv, .agg #[.int .i64 5, .int .i64 m, .string t]] w fun e w' => GrewT B n xs (123 :: (joinL ((flds ⟨5, m, t⟩).map (fieldT (textV d))) ++ [125])) w e w' := by
  obtain ⟨hs, hi, hl, _, d', hd, hall, _⟩ := doc_parts (d + 1) ⟨5, m, t⟩ hf rfl
  obtain rfl : d = d' := by omega
  have hbox : Below B w (w.alloc (.cells #[.int .i64 5, .int .i64 m, .string t] 28)) := (Below.refl _ _).alloc hB _
  have hkx := kept_alloc w (.cells #[.int .i64 5, .int .i64 m, .string t] 28)
  have HC := appDoc_any d ih (flds ⟨5, m, t⟩) t hi hs hl (fun u hu => ⟨(hall u hu).1, (hall u hu).2.2⟩) (doc_join_len d ⟨5, m, t⟩ hf rfl) B n sv xs _ (hown.alloc (.cells #[.int .i64 5, .int .i64 m, .string t] 28)) (by simp; omega) hn (Lib.TabBelow.on htab hbox)
  have HCC : Hid (Calls _ _ _ _ _) := HC
  have HX : Hid (Kept _ _) := hkx
  clear HC hkx hi hall hown htab hf ih
  go_enter Tryz.func143, Tryz.ntmps143
  go_wp2_with fail
  refine HCC.out.mono ?_
  rintro e w1 ⟨v1, rfl, o1, b1, k1⟩
  have HO1 : Hid (World.ownsRow _ _ _ _ _ _ _) := o1
  have HK1 : Hid (Kept _ _) := k1
  clear o1 k1
  go_wp2_with fail
  go_ret
  exact GrewT.mk v1 rfl HO1.out (hbox.trans b1) (HX.out.trans HK1.out)
theorem app_at : ∀ d : Nat, AppAt d
  | 0 => fun v B n sv xs w hf hown hB hn htab => app_base v hf B n sv xs w hown hB (by omega) htab
  | d + 1 => by
    have ih := app_at d
    intro v B n sv xs w hf hown hB hn htab
    by_cases h4 : v.k = 4
    · rw [textV_list d v h4]
      obtain ⟨k, m, t⟩ := v
      have h4' : k = 4 := h4
      subst h4'
      exact app_list d ih m t B n sv xs w hf hown hB hn htab
    · by_cases h5 : v.k = 5
      · rw [textV_doc d v h5]
        obtain ⟨k, m, t⟩ := v
        have h5' : k = 5 := h5
        subst h5'
        exact app_doc d ih m t B n sv xs w hf hown hB hn htab
      · rw [textV_base (d + 1) v h4 h5]
        rw [fits_base (d + 1) v h4 h5] at hf
        exact app_base v hf B n sv xs w hown hB (by omega) htab

end Go.Proofs.YtkeghknceccdmaaGreatDoor
