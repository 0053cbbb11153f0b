/- What the program's writing of values as texts answers, for every right value. -/
import Derived.Test.YtbeaappnodnmbaaDoorTextM
import Derived.Test.YtbeaappnodnmbaaDoorIn
import Derived.Test.YtbeaappnodnmbaaDoorOrdJ
import Derived.Test.YtbeaappnodnmbaaDoorLayP
import Derived.Test.YtbeaappnodnmbaaDoorLawB
import Derived.Lib.AppendStr
import Derived.Lib.OthersKept
import Derived.Lib.BufferKept
import Derived.Maps.AppendAt
namespace Go.Proofs.YtbeaappnodnmbaaDoor
open Go.RowKit
set_option linter.unusedVariables false

abbrev Kept (w w' : World) : Prop := Lib.OthersKept 5 none w w'
theorem own_tag {w : World} {B n : Nat} {v : Value} {xs : List Value} (h : w.ownsRow B 5 1 v n xs) : ∀ g, v.ownBlock = some g → ∃ c fz, w.heap[g]? = some (.cells c 5 fz) := by
  intro g hg
  rcases h.2 with ⟨rfl, _⟩ | ⟨g', cap, cur, rfl, _, hh, _⟩
  · cases hg
  · simp [Value.ownBlock] at hg; subst hg; exact ⟨_, _, hh⟩
/-- One byte behind a row of the call's own. -/
theorem app_byte {ops : Array Oper} {rest : List Oper} {o : Oper} {a : Act} {Q : Exit → Act → World → Prop} {w : World} (hgd : o.guard = none) (s x : Operand)
    (ho : o.op = .call { callee := .builtin .append, args := #[s, x], argTypes := #[22, 22] }) (B n : Nat) (v : Value) (xs : List Value) (c : Int)
    (ad : Nat) (hs : a.eval s = v) (hx : a.eval x = .slice (some ⟨ad, 0, none⟩) 1 1) (had : ad = w.heap.size) (hown : w.ownsRow B 5 1 v n xs) (hB : B ≤ w.heap.size) (hlim : n ≤ 1000000)
    (h : ∀ v' w', w'.ownsRow B 5 1 v' (n + 1) (xs ++ [.int .u8 c]) → Below B w w' → Kept w w' → wpList Tryd.prog ops Q rest (a.put o.dst v') w') :
    wpList Tryd.prog ops Q (o :: rest) a (w.alloc (.cells #[.int .u8 c] 5)) := by
  subst had
  obtain ⟨i0, hi, hz0, hz1, hz2⟩ := info_parts infoB
  refine wpList_append_own _ hgd s x 22 ho B 5 i0 (.int .u8 0) 1 1 Tryd.underlying22 hi hz0 hz1 hz2 rfl (by decide) _ _ _ hs (hown.alloc _) ⟨w.heap.size, 0, none⟩ 1 1 [.int .u8 c] hx rfl (cell_one_new _ _ _) (by intro u hu; simp at hu; subst hu; rfl) (by unfold maxLen; omega) (by omega) (by simp; omega) ?_
  intro v' w' hown' hgrow _
  have ha : Below B w (w.alloc (.cells #[.int .u8 c] 5)) := (Below.refl _ _).alloc hB _
  refine h v' w' hown' (Below.grown ha hgrow (by simp; omega) (fun k hk => (hown.lt k hk).1)) ?_
  exact ((Lib.OthersKept.refl _ _ _).alloc _).grown hgrow (own_tag (hown.alloc _))
/-- A text behind a row of the call's own. -/
theorem app_str {ops : Array Oper} {rest : List Oper} {o : Oper} {a : Act} {Q : Exit → Act → World → Prop} {w : World} (hgd : o.guard = none) (s x : Operand)
    (ho : o.op = .call { callee := .builtin .append, args := #[s, x], argTypes := #[22, 9] }) (B n : Nat) (v : Value) (xs : List Value) (t : ByteArray)
    (hs : a.eval s = v) (hx : a.eval x = .string t) (hown : w.ownsRow B 5 1 v n xs) (hB : B ≤ w.heap.size) (hlim : n ≤ 1000000) (ht : t.size ≤ 1000000)
    (h : ∀ v' w', w'.ownsRow B 5 1 v' (n + t.size) (xs ++ Lib.byteCells t.data.toList) → Below B w w' → Kept w w' → wpList Tryd.prog ops Q rest (a.put o.dst v') w') :
    wpList Tryd.prog ops Q (o :: rest) a w := by
  obtain ⟨i0, hi, hz0, hz1, hz2⟩ := info_parts infoB
  refine Lib.wpList_append_own_string _ hgd s x 22 9 ho B 5 i0 Tryd.underlying22 Tryd.underlying9 hi hz0 hz1 hz2 _ _ _ hs hown t hx (by unfold maxLen; omega) (by omega) hB ?_
  intro v' w' hown' hgrow _
  refine h v' w' hown' (Below.grown (Below.refl _ _) hgrow hB (fun k hk => (hown.lt k hk).1)) ?_
  exact (Lib.OthersKept.refl _ _ _).grown hgrow (own_tag hown)

/-- A row of the call's own has grown by some bytes; all else lies as it did. -/
def GrewT (B n : Nat) (xs : List Value) (out : List UInt8) (w : World) (e : Ending) (w' : World) : Prop :=
  ∃ v', e = .returned v' ∧ w'.ownsRow B 5 1 v' (n + out.length) (xs ++ Lib.byteCells out) ∧ Below B w w' ∧ Kept w w'
theorem GrewT.mk {B n : Nat} {xs : List Value} {out : List UInt8} {w : World} {e : Ending} {w' : World} (v' : Value) (h : e = .returned v') (ho : w'.ownsRow B 5 1 v' (n + out.length) (xs ++ Lib.byteCells out)) (hb : Below B w w') (hk : Kept w w') : GrewT B n xs out w e w' := ⟨v', h, ho, hb, hk⟩
theorem kept_alloc (w : World) (o : Obj) : Kept w (w.alloc o) := (Lib.OthersKept.refl _ _ _).alloc _
theorem owns_kept {w w' : World} {base n : Nat} {e : TypeId} {size : Nat} {v : Value} {xs : List Value} (h : w.ownsRow base e size v n xs) (hk : Kept w w') (hne : e ≠ 5) : w'.ownsRow base e size v n xs := by
  obtain ⟨h1, h2⟩ := h
  refine ⟨h1, ?_⟩
  rcases h2 with h2 | ⟨g, cap, cur, hv, hg, hh, r⟩
  · exact .inl h2
  · exact .inr ⟨g, cap, cur, hv, hg, hk g _ hh (by simp) (fun c fz e' => by injection e' with _ e2; exact hne e2), r⟩
abbrev Tab (B : Nat) (w : World) : Prop := Lib.TabBelow Tryd.prog B w "internal/strconv.uint64pow10" .u64 Lib.pow10Tab

set_option maxRecDepth 4000 in
set_option maxHeartbeats 1000000 in
theorem appInt_any (B n : Nat) (i : Int) (h0 : -9223372036854775808 ≤ i) (h1 : i ≤ 9223372036854775807) (sv : Value) (xs : List Value) (w : World) (hown : w.ownsRow B 5 1 sv n xs) (hB : B ≤ w.heap.size) (hlim : n ≤ 1000000) (htab : Tab B w) :
    Calls Tryd.prog 74 #[sv, .int .i64 i, .int .i64 10] w fun e w' => GrewT B n xs (Lib.itoa i) w e w' :=
  Any.strconv_AppendInt_10 Tryd.laysAI B n i h0 h1 sv xs w hown hB (by omega) htab

set_option maxRecDepth 4000 in
set_option maxHeartbeats 1000000 in
theorem appBool_any (B n : Nat) (b : Bool) (sv : Value) (xs : List Value) (w : World) (hown : w.ownsRow B 5 1 sv n xs) (hB : B ≤ w.heap.size) (hlim : n ≤ 1000000) :
    Calls Tryd.prog 99 #[sv, .bool b] w fun e w' => GrewT B n xs (boolT b) w e w' := by
  cases b
  · go_enter Tryd.func99, Tryd.ntmps99
    go_wp2_with (at_builtin; refine app_str rfl _ _ rfl B n sv xs ⟨#[102, 97, 108, 115, 101]⟩ rfl rfl hown hB hlim (by decide) ?_; intro v' w' o1 b1 k1)
    go_ret
    exact GrewT.mk v' rfl o1 b1 k1
  · go_enter Tryd.func99, Tryd.ntmps99
    go_wp2_with (at_builtin; refine app_str rfl _ _ rfl B n sv xs ⟨#[116, 114, 117, 101]⟩ rfl rfl hown hB hlim (by decide) ?_; intro v' w' o1 b1 k1)
    go_ret
    exact GrewT.mk v' rfl o1 b1 k1
set_option maxRecDepth 4000 in
set_option maxHeartbeats 1000000 in
theorem appBool2_any (B n : Nat) (b : Bool) (sv : Value) (xs : List Value) (w : World) (hown : w.ownsRow B 5 1 sv n xs) (hB : B ≤ w.heap.size) (hlim : n ≤ 1000000) :
    Calls Tryd.prog 73 #[sv, .bool b] w fun e w' => GrewT B n xs (boolT b) w e w' := by
  have HC : Hid (Calls _ _ _ _ _) := appBool_any B n b sv xs w hown hB hlim
  clear hown
  go_enter Tryd.func73, Tryd.ntmps73
  go_wp2_with fail
  refine HC.out.mono ?_
  rintro e w1 ⟨v', rfl, o1, b1, k1⟩
  have HO : Hid (World.ownsRow _ _ _ _ _ _ _) := o1
  have HK : Hid (Kept _ _) := k1
  clear o1 k1
  go_wp2_with fail
  go_ret
  exact GrewT.mk v' rfl HO.out b1 HK.out

theorem grow_cat {B n : Nat} {xs : List Value} {w : World} {v : Value} {a b : List UInt8} (h : w.ownsRow B 5 1 v (n + a.length + b.length) (xs ++ Lib.byteCells a ++ Lib.byteCells b)) : w.ownsRow B 5 1 v (n + (a ++ b).length) (xs ++ Lib.byteCells (a ++ b)) := by
  have e : Lib.byteCells (a ++ b) = Lib.byteCells a ++ Lib.byteCells b := by simp [Lib.byteCells]
  rw [e, List.length_append, ← Nat.add_assoc, ← List.append_assoc]; exact h
set_option maxRecDepth 4000 in
set_option maxHeartbeats 1000000 in
theorem appQuoted_any (B n : Nat) (t : ByteArray) (sv : Value) (xs : List Value) (w : World) (hown : w.ownsRow B 5 1 sv n xs) (hB : B ≤ w.heap.size) (hlim : n ≤ 500000) (ht : t.size ≤ 300) :
    Calls Tryd.prog 75 #[sv, .string t] w fun e w' => GrewT B n xs (39 :: (t.data.toList ++ [39])) w e w' := by
  go_enter Tryd.func75, Tryd.ntmps75
  go_wp2_with (at_builtin; refine app_byte rfl (.tmp 5) (.tmp 6) rfl B n sv xs 39 _ rfl rfl (by simp) hown hB (by omega) ?_; intro v1 w1 o1 b1 k1; refine Hid.out ?_)
  refine Lib.hid ?_
  have hz1 := b1.size
  go_wp2_with (at_builtin; refine app_str rfl (.tmp 8) (.tmp 9) rfl B (n + 1) v1 _ t rfl rfl o1 (by omega) (by omega) (by omega) ?_; intro v2 w2 o2 b2 k2; refine Hid.out ?_)
  refine Lib.hid ?_
  have hz2 := b2.size
  go_wp2_with (at_builtin; refine app_byte rfl (.tmp 11) (.tmp 12) rfl B (n + 1 + t.size) v2 _ 39 _ rfl rfl (by simp) o2 (by omega) (by omega) ?_; intro v3 w3 o3 b3 k3; refine Hid.out ?_)
  refine Lib.hid ?_
  have hl := toList_length t
  have o4 : w3.ownsRow B 5 1 v3 (n + (39 :: (t.data.toList ++ [39])).length) (xs ++ Lib.byteCells (39 :: (t.data.toList ++ [39]))) := by
    have e1 : n + (39 :: (t.data.toList ++ [39])).length = n + 1 + t.size + 1 := by simp; omega
    have e2 : xs ++ Lib.byteCells (39 :: (t.data.toList ++ [39])) = xs ++ [Value.int .u8 39] ++ Lib.byteCells t.data.toList ++ [Value.int .u8 39] := by simp [Lib.byteCells]
    rw [e1, e2]; exact o3
  have HO : Hid (World.ownsRow _ _ _ _ _ _ _) := o4
  have hb : Below B w w3 := b1.trans (b2.trans b3)
  have hk : Kept w w3 := k1.trans (k2.trans k3)
  have HK : Hid (Kept _ _) := hk
  clear o1 o2 o3 o4 k1 k2 k3 b1 b2 b3 hk
  go_wp2_with fail
  go_ret
  exact GrewT.mk v3 rfl HO.out hb HK.out

end Go.Proofs.YtbeaappnodnmbaaDoor
