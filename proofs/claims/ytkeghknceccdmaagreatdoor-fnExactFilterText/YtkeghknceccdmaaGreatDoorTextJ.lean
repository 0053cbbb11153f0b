/- What the program's writing of values as texts answers, for every right value: the whole of it. -/
import Derived.Test.YtkeghknceccdmaaGreatDoorTextI
import Derived.Deep.DeepCutAuto
namespace Go.Proofs.YtkeghknceccdmaaGreatDoor
open Go.RowKit
set_option linter.unusedVariables false

def AppAt (d : Nat) : Prop := ∀ (v : Val) (B n : Nat) (sv : Value) (xs : List Value) (w : World), fits d v = true → w.ownsRow B 5 1 sv n xs → B ≤ w.heap.size → n + 10000 * d ≤ 500000 → Tab B w →
    Calls Tryz.prog 143 #[sv, .agg #[.int .i64 v.k, .int .i64 v.n, .string v.t]] w fun e w' => GrewT B n xs (textV d v) w e w'

set_option maxRecDepth 4000 in
set_option maxHeartbeats 1000000 in
theorem app_base (v : Val) (hb : base v = true) (B n : Nat) (sv : Value) (xs : List Value) (w : World) (hown : w.ownsRow B 5 1 sv n xs) (hB : B ≤ w.heap.size) (hn : n ≤ 500000) (htab : Tab B w) :
    Calls Tryz.prog 143 #[sv, .agg #[.int .i64 v.k, .int .i64 v.n, .string v.t]] w fun e w' => GrewT B n xs (baseT v) w e w' := by
  obtain ⟨k, m, t⟩ := v
  have hbox : Below B w (w.alloc (.cells #[.int .i64 k, .int .i64 m, .string t] 28)) := (Below.refl _ _).alloc hB _
  have hkx := kept_alloc w (.cells #[.int .i64 k, .int .i64 m, .string t] 28)
  have O1 := hown.alloc (.cells #[.int .i64 k, .int .i64 m, .string t] 28)
  have T1 : Tab B (w.alloc (.cells #[.int .i64 k, .int .i64 m, .string t] 28)) := Lib.TabBelow.on htab hbox
  have HT : Hid (Tab _ _) := T1
  have HO : Hid (World.ownsRow _ _ _ _ _ _ _) := O1
  have HX : Hid (Kept _ _) := hkx
  clear O1 T1 hkx hown htab
  unfold base at hb
  simp only at hb
  split at hb
  · rename_i e; subst e
    show Calls _ _ _ _ fun e w' => GrewT B n xs [110, 117, 108, 108] w e w'
    go_enter Tryz.func143, Tryz.ntmps143
    go_wp2_with (at_builtin; refine app_str rfl (.tmp 9) _ rfl B n sv xs ⟨#[110, 117, 108, 108]⟩ rfl rfl HO.out (by simp; omega) (by omega) (by decide) ?_; intro v1 w1 o1 b1 k1; refine Hid.out ?_)
    refine Lib.hid ?_
    have HO1 : Hid (World.ownsRow _ _ _ _ _ _ _) := o1
    have HK1 : Hid (Kept _ _) := k1
    clear o1 k1
    go_wp2_with fail
    go_ret
    exact GrewT.mk v1 rfl HO1.out (hbox.trans b1) (HX.out.trans HK1.out)
  · split at hb
    · rename_i e; subst e
      show Calls _ _ _ _ fun e w' => GrewT B n xs (boolT (m == 1)) w e w'
      obtain ⟨b, hbq⟩ : ∃ b, b = (m == 1) := ⟨_, rfl⟩
      have HC := appBool2_any B n b sv xs _ HO.out (by simp; omega) (by omega)
      rw [hbq] at HC
      have HCC : Hid (Calls _ _ _ _ _) := HC
      clear HC hbq
      go_enter Tryz.func143, Tryz.ntmps143
      go_wp2_with fail
      refine HCC.out.mono ?_
      rintro e w1 ⟨v1, rfl, o1, b1, k1⟩
      have HO1 : Hid (World.ownsRow _ _ _ _ _ _ _) := o1
      have HK1 : Hid (Kept _ _) := k1
      clear o1 k1
      go_wp2_with fail
      go_ret
      exact GrewT.mk v1 rfl HO1.out (hbox.trans b1) (HX.out.trans HK1.out)
    · split at hb
      · rename_i e; subst e
        rw [decide_eq_true_eq] at hb
        show Calls _ _ _ _ fun e w' => GrewT B n xs (Lib.itoa m) w e w'
        have HC := appInt_any B n m (by omega) (by omega) sv xs _ HO.out (by simp; omega) (by omega) HT.out
        have HCC : Hid (Calls _ _ _ _ _) := HC
        clear HC
        go_enter Tryz.func143, Tryz.ntmps143
        go_wp2_with fail
        refine HCC.out.mono ?_
        rintro e w1 ⟨v1, rfl, o1, b1, k1⟩
        have HO1 : Hid (World.ownsRow _ _ _ _ _ _ _) := o1
        have HK1 : Hid (Kept _ _) := k1
        clear o1 k1
        go_wp2_with fail
        go_ret
        exact GrewT.mk v1 rfl HO1.out (hbox.trans b1) (HX.out.trans HK1.out)
      · split at hb
        · rename_i e; subst e
          rw [decide_eq_true_eq] at hb
          obtain ⟨rfl, hts⟩ := hb
          show Calls _ _ _ _ fun e w' => GrewT B n xs (39 :: (t.data.toList ++ [39])) w e w'
          have HC := appQuoted_any B n t sv xs _ HO.out (by simp; omega) (by omega) hts
          have HCC : Hid (Calls _ _ _ _ _) := HC
          clear HC
          go_enter Tryz.func143, Tryz.ntmps143
          go_wp2_with fail
          refine HCC.out.mono ?_
          rintro e w1 ⟨v1, rfl, o1, b1, k1⟩
          have HO1 : Hid (World.ownsRow _ _ _ _ _ _ _) := o1
          have HK1 : Hid (Kept _ _) := k1
          clear o1 k1
          go_wp2_with fail
          go_ret
          exact GrewT.mk v1 rfl HO1.out (hbox.trans b1) (HX.out.trans HK1.out)
        · cases hb

set_option maxRecDepth 4000 in
set_option maxHeartbeats 1000000 in
theorem appList_any (d : Nat) (ih : AppAt d) (L : List Val) (t : ByteArray) (hi : items t = some L) (hs : t.size ≤ 300) (hl : L.length ≤ 300) (hall : ∀ u ∈ L, fits d u = true) (hj : ∀ k, (joinL ((L.take k).map (textV d))).length ≤ 6600)
    (B n : Nat) (sv : Value) (xs : List Value) (w : World) (hown : w.ownsRow B 5 1 sv n xs) (hB : B ≤ w.heap.size) (hn : n + 10000 * (d + 1) ≤ 500000) (htab : Tab B w) :
    Calls Tryz.prog 217 #[sv, .string t] w fun e w' => GrewT B n xs (91 :: (joinL (L.map (textV d)) ++ [93])) w e w' := by
  have HI : Hid (AppAt d) := ih
  have HF : Hid _ := hi
  have HA : Hid _ := hall
  have HJ : Hid _ := hj
  have HT : Hid (Tab _ _) := htab
  clear ih hi hall hj htab
  go_enter Tryz.func217, Tryz.ntmps217
  go_wp2_with (at_builtin; refine app_byte rfl (.tmp 7) (.tmp 8) rfl B n sv xs 91 _ rfl rfl (by simp) hown hB (by omega) ?_; intro v1 w1 o1 b1 k1; refine Hid.out ?_)
  refine Lib.hid ?_
  have hz1 := b1.size
  have HO1 : Hid (World.ownsRow _ _ _ _ _ _ _) := o1
  have HK1 : Hid (Kept _ _) := k1
  clear o1 k1 hown
  go_wp2_with fail
  refine (itemsIn_own t L _ (by omega) HF.out).mono ?_
  rintro e w2 ⟨⟨p, cap, rfl, r2, hp⟩, b2⟩
  have HO2 : Hid (World.ownsRow _ _ _ _ _ _ _) := owns_below HO1.out b2
  have HK2 : Hid (Kept _ _) := kept_below HK1.out b2
  have HB2 : Hid _ := b1.trans (b2.mono (by omega))
  have HR2 : Hid (World.ownsRow _ _ _ _ _ _ _) := r2
  have HP : Hid _ := hp
  clear r2 hp b2 b1 HO1 HK1
  go_wp2_with fail
  go_loopw [0, 13] (fun u i wr => ∃ q : Nat, q ≤ L.length ∧ i = .int .i64 q ∧ wr.ownsRow B 5 1 u (n + (91 :: joinL ((L.take q).map (textV d))).length) (xs ++ Lib.byteCells (91 :: joinL ((L.take q).map (textV d)))) ∧ wr.ownsRow w1.heap.size 28 3 (.slice p L.length cap) L.length (flat L) ∧ Kept w wr ∧ Below B w wr) (fun _ i _ => L.length - (intOf i).toNat)
  case atStart => exact ⟨0, Nat.zero_le _, rfl, HO2.out, HR2.out, HK2.out, HB2.out⟩
  case round =>
    obtain ⟨q, hq, rfl, o3, r3, k3, b3⟩ := hrel
    have hz3 := b3.size
    have hjq := HJ.out q
    have hlq : (91 :: joinL ((L.take q).map (textV d))).length ≤ 6601 := by rw [List.length_cons]; omega
    have HK3 : Hid (Kept _ _) := k3
    have HR3 : Hid (World.ownsRow _ _ _ _ _ _ _) := r3
    clear k3 HO2 HK2 HR2
    by_cases hlt : q < L.length
    · obtain ⟨g, rfl⟩ := HP.out (fun e => by rw [e] at hlt; simp at hlt)
      have R := ReadV.of_own r3
      obtain ⟨x0, x1, x2⟩ := R.cells q hlt
      have hgl := R.lt
      have hfq := HA.out L[q] (List.getElem_mem _)
      have HFQ : Hid _ := hfq
      clear R r3 hfq
      have hab : Below B wr (wr.alloc (.cells #[.int .i64 L[q].k, .int .i64 L[q].n, .string L[q].t] 28)) := (Below.refl _ _).alloc (by omega) _
      have O4 := o3.alloc (.cells #[.int .i64 L[q].k, .int .i64 L[q].n, .string L[q].t] 28)
      have hkx := kept_alloc wr (.cells #[.int .i64 L[q].k, .int .i64 L[q].n, .string L[q].t] 28)
      have HAB : Hid _ := hab
      have HKX : Hid (Kept _ _) := hkx
      have HO4 : Hid (World.ownsRow _ _ _ _ _ _ _) := O4
      clear hab O4 hkx o3
      by_cases hq0 : q = 0
      · subst hq0
        have hnq : ¬ (0 : Int) < 0 := by omega
        have hcat : 91 :: joinL ((L.take (0 + 1)).map (textV d)) = (91 :: joinL ((L.take 0).map (textV d))) ++ textV d L[0] := by rw [Nat.zero_add, joinL_take0 _ _ hlt]; rfl
        have HCAT : Hid _ := hcat
        clear hcat
        go_wp2_with fail
        refine (HI.out L[0] B _ _ _ _ HFQ.out HO4.out (by simp; omega) (by omega) (Lib.TabBelow.on HT.out (b3.trans HAB.out))).mono ?_
        rintro e w5 ⟨v5, rfl, o5, b5, k5⟩
        have HO5 : Hid (World.ownsRow _ _ _ _ _ _ _) := grow_more HCAT.out o5
        have HR5 : Hid (World.ownsRow _ _ _ _ _ _ _) := owns_kept HR3.out (HKX.out.trans k5) (by decide)
        have HK5 : Hid (Kept _ _) := HK3.out.trans (HKX.out.trans k5)
        have hb5 : Below B w w5 := b3.trans (HAB.out.trans b5)
        clear o5 k5 b5
        go_wp2_with fail
        go_roundw
        case rel => exact ⟨0 + 1, by omega, by go_num, HO5.out, HR5.out, HK5.out, hb5⟩
        case measure => simp [intOf]; omega
      · have hq1 : 0 < q := by omega
        have hcat : 91 :: joinL ((L.take (q + 1)).map (textV d)) = (91 :: joinL ((L.take q).map (textV d)) ++ [44]) ++ textV d L[q] := by rw [joinL_take _ _ _ hlt (by omega)]; simp
        have HCAT : Hid (_ = _) := hcat
        clear hcat hq0
        go_wp2_with (at_builtin; refine app_byte rfl (.tmp 20) (.tmp 21) rfl B _ _ _ 44 _ rfl rfl (by simp) HO4.out (by simp; omega) (by omega) ?_; intro v4 w4 o4 b4 k4; refine Hid.out ?_)
        refine Lib.hid ?_
        have hz4 := b4.size
        have o44 : w4.ownsRow B 5 1 v4 (n + (91 :: joinL ((L.take q).map (textV d)) ++ [44]).length) (xs ++ Lib.byteCells (91 :: joinL ((L.take q).map (textV d)) ++ [44])) := grow_cat (b := [44]) o4
        have HO44 : Hid (World.ownsRow _ _ _ _ _ _ _) := o44
        have HK4 : Hid (Kept _ _) := k4
        have y0 := kept_new k4 (by decide) 0
        have y1 := kept_new k4 (by decide) 1
        have y2 := kept_new k4 (by decide) 2
        simp only [List.getElem?_toArray, List.getElem?_cons_zero, List.getElem?_cons_succ] at y0 y1 y2
        have hn44 : (91 :: joinL ((L.take q).map (textV d)) ++ [44]).length ≤ 6602 := by rw [List.length_append]; simp at hlq ⊢; omega
        have hzz : wr.heap.size < w4.heap.size := by have := hz4; simp at this; omega
        clear o4 k4 o44
        go_wp2_with fail
        refine (HI.out L[q] B _ _ _ _ HFQ.out HO44.out (by omega) (by omega) (Lib.TabBelow.on HT.out (b3.trans (HAB.out.trans b4)))).mono ?_
        rintro e w5 ⟨v5, rfl, o5, b5, k5⟩
        have HO5 : Hid (World.ownsRow _ _ _ _ _ _ _) := grow_more HCAT.out o5
        have HR5 : Hid (World.ownsRow _ _ _ _ _ _ _) := owns_kept HR3.out (HKX.out.trans (HK4.out.trans k5)) (by decide)
        have HK5 : Hid (Kept _ _) := HK3.out.trans (HKX.out.trans (HK4.out.trans k5))
        have hb5 : Below B w w5 := b3.trans (HAB.out.trans (b4.trans b5))
        clear o5 k5 b5
        go_wp2_with fail
        go_roundw
        case rel => exact ⟨q + 1, by omega, by go_num, HO5.out, HR5.out, HK5.out, hb5⟩
        case measure => simp [intOf]; omega
    · have e : L.take q = L := List.take_of_length_le (by omega)
      rw [e] at o3 hlq
      go_wp2_with (at_builtin; refine app_byte rfl (.tmp 27) (.tmp 28) rfl B _ _ _ 93 _ rfl rfl (by simp) o3 (by omega) (by omega) ?_; intro v4 w4 o4 b4 k4; refine Hid.out ?_)
      refine Lib.hid ?_
      have o44 : w4.ownsRow B 5 1 v4 (n + (91 :: (joinL (L.map (textV d)) ++ [93])).length) (xs ++ Lib.byteCells (91 :: (joinL (L.map (textV d)) ++ [93]))) := grow_more (a := 91 :: joinL (L.map (textV d))) (b := [93]) rfl o4
      have HO44 : Hid (World.ownsRow _ _ _ _ _ _ _) := o44
      have HK4 : Hid (Kept _ _) := HK3.out.trans k4
      have hb4 := b3.trans b4
      clear o4 k4 o44 o3 b4
      go_wp2_with fail
      go_ret
      exact GrewT.mk v4 rfl HO44.out hb4 HK4.out

end Go.Proofs.YtkeghknceccdmaaGreatDoor
