/- What the program's laying of keys answers for lists and documents; and for all right values. -/
import Derived.Test.YtdchhjnmhnehiaaGreatDoorKeyI
namespace Go.Proofs.YtdchhjnmhnehiaaGreatDoor
open Go.RowKit
set_option linter.unusedVariables false

set_option maxRecDepth 4000 in
set_option maxHeartbeats 1000000 in
theorem keyItems_any (d : Nat) (ih : KeyAt d) (L : List Val) (t : ByteArray) (hi : items t = some L) (hs : t.size ≤ 300) (hl : L.length ≤ 300) (hall : ∀ u ∈ L, fits d u = true) (hj : ∀ k, ((L.take k).flatMap (keyV d)).length ≤ 6600)
    (B n : Nat) (sv : Value) (xs : List Value) (w : World) (hown : w.ownsRow B 5 1 sv n xs) (hB : B ≤ w.heap.size) (hn : n + 10000 * d ≤ 90001) :
    Calls Tryz.prog 144 #[sv, .string t] w fun e w' => GrewT B n xs (L.flatMap (keyV d) ++ [0]) w e w' := by
  have HI : Hid (KeyAt d) := ih
  have HF : Hid _ := hi
  have HA : Hid _ := hall
  have HJ : Hid _ := hj
  have HO1 : Hid (World.ownsRow _ _ _ _ _ _ _) := hown
  clear ih hi hall hj hown
  go_enter Tryz.func144, Tryz.ntmps144
  go_wp2_with fail
  refine (itemsIn_own t L _ (by omega) HF.out).mono ?_
  rintro e w2 ⟨⟨p, cap, rfl, r2, hp⟩, b2⟩
  have HO2 : Hid (World.ownsRow _ _ _ _ _ _ _) := owns_below HO1.out b2
  have HK2 : Hid (Kept _ _) := kept_below (Lib.OthersKept.refl _ _ _) b2
  have HB2 : Hid (Below B w w2) := b2.mono hB
  have HR2 : Hid (World.ownsRow _ _ _ _ _ _ _) := r2
  have HP : Hid _ := hp
  clear r2 hp b2 HO1
  go_wp2_with fail
  go_loopw [0, 10] (fun u i wr => ∃ q : Nat, q ≤ L.length ∧ i = .int .i64 q ∧ wr.ownsRow B 5 1 u (n + ((L.take q).flatMap (keyV d)).length) (xs ++ Lib.byteCells ((L.take q).flatMap (keyV d))) ∧ wr.ownsRow w.heap.size 38 3 (.slice p L.length cap) L.length (flat L) ∧ Kept w wr ∧ Below B w wr) (fun _ i _ => L.length - (intOf i).toNat)
  case atStart => exact ⟨0, Nat.zero_le _, rfl, by simpa [Lib.byteCells] using HO2.out, HR2.out, HK2.out, HB2.out⟩
  case round =>
    obtain ⟨q, hq, rfl, o3, r3, k3, b3⟩ := hrel
    have hz3 := b3.size
    have hjq := HJ.out q
    have HK3 : Hid (Kept _ _) := k3
    have HR3 : Hid (World.ownsRow _ _ _ _ _ _ _) := r3
    clear k3 HO2 HK2 HR2
    by_cases hlt : q < L.length
    · obtain ⟨g, rfl⟩ := HP.out (fun e => by rw [e] at hlt; simp at hlt)
      have R := ReadV.of_own r3
      obtain ⟨x0, x1, x2⟩ := R.cells q hlt
      have hgl := R.lt
      have HFQ : Hid _ := HA.out L[q] (List.getElem_mem _)
      clear R r3
      have hab : Below B wr (wr.alloc (.cells #[.int .i64 L[q].k, .int .i64 L[q].n, .string L[q].t] 38)) := (Below.refl _ _).alloc (by omega) _
      have HAB : Hid _ := hab
      have HKX : Hid (Kept _ _) := kept_alloc wr (.cells #[.int .i64 L[q].k, .int .i64 L[q].n, .string L[q].t] 38)
      have HO4 : Hid (World.ownsRow _ _ _ _ _ _ _) := o3.alloc (.cells #[.int .i64 L[q].k, .int .i64 L[q].n, .string L[q].t] 38)
      have HCAT : Hid (_ = _) := flat_take (keyV d) L q hlt
      clear hab o3
      go_wp2_with fail
      refine (HI.out L[q] B _ _ _ _ HFQ.out HO4.out (by simp; omega) (by omega)).mono ?_
      rintro e w5 ⟨v5, rfl, o5, b5, k5⟩
      have HO5 : Hid (World.ownsRow _ _ _ _ _ _ _) := grow_more HCAT.out o5
      have HR5 : Hid (World.ownsRow _ _ _ _ _ _ _) := owns_kept HR3.out (HKX.out.trans k5) (by decide)
      have HK5 : Hid (Kept _ _) := HK3.out.trans (HKX.out.trans k5)
      have hb5 : Below B w w5 := b3.trans (HAB.out.trans b5)
      clear o5 k5 b5
      go_wp2_with fail
      go_roundw
      case rel => exact ⟨q + 1, by omega, by go_num, HO5.out, HR5.out, HK5.out, hb5⟩
      case measure => simp [intOf]; omega
    · have e : L.take q = L := List.take_of_length_le (by omega)
      rw [e] at o3 hjq
      go_wp2_with (at_builtin; refine app_byte rfl (.tmp 18) (.tmp 19) rfl B _ _ _ 0 _ rfl rfl (by simp) o3 (by omega) (by omega) ?_; intro v4 w4 o4 b4 k4; refine Hid.out ?_)
      refine Lib.hid ?_
      have HO44 : Hid (World.ownsRow _ _ _ _ _ _ _) := grow_cat (a := L.flatMap (keyV d)) (b := [0]) o4
      have HK4 : Hid (Kept _ _) := HK3.out.trans k4
      have hb4 := b3.trans b4
      clear o4 k4 o3 b4
      go_wp2_with fail
      go_ret
      exact GrewT.mk v4 rfl HO44.out hb4 HK4.out

set_option maxRecDepth 4000 in
set_option maxHeartbeats 2000000 in
theorem keyFields_any (d : Nat) (ih : KeyAt d) (L : List Fld) (t : ByteArray) (hi : fields t = some L) (hs : t.size ≤ 300) (hl : L.length ≤ 300) (hall : ∀ f ∈ L, fits d f.v = true ∧ f.name.size ≤ 300) (hj : ∀ k, ((L.take k).flatMap (fieldK (keyV d))).length ≤ 6600)
    (B n : Nat) (sv : Value) (xs : List Value) (w : World) (hown : w.ownsRow B 5 1 sv n xs) (hB : B ≤ w.heap.size) (hn : n + 10000 * d ≤ 90001) :
    Calls Tryz.prog 145 #[sv, .string t] w fun e w' => GrewT B n xs (L.flatMap (fieldK (keyV d)) ++ [0]) w e w' := by
  have HI : Hid (KeyAt d) := ih
  have HF : Hid _ := hi
  have HA : Hid _ := hall
  have HJ : Hid _ := hj
  have HO1 : Hid (World.ownsRow _ _ _ _ _ _ _) := hown
  clear ih hi hall hj hown
  go_enter Tryz.func145, Tryz.ntmps145
  go_wp2_with fail
  refine (fieldsIn_own t L _ (by omega) HF.out).mono ?_
  rintro e w2 ⟨⟨p, cap, rfl, r2, hp⟩, b2⟩
  have HO2 : Hid (World.ownsRow _ _ _ _ _ _ _) := owns_below HO1.out b2
  have HK2 : Hid (Kept _ _) := kept_below (Lib.OthersKept.refl _ _ _) b2
  have HB2 : Hid (Below B w w2) := b2.mono hB
  have HR2 : Hid (World.ownsRow _ _ _ _ _ _ _) := r2
  have HP : Hid _ := hp
  clear r2 hp b2 HO1
  go_wp2_with fail
  go_loopw [0, 10] (fun u i wr => ∃ q : Nat, q ≤ L.length ∧ i = .int .i64 q ∧ wr.ownsRow B 5 1 u (n + ((L.take q).flatMap (fieldK (keyV d))).length) (xs ++ Lib.byteCells ((L.take q).flatMap (fieldK (keyV d)))) ∧ wr.ownsRow w.heap.size 98 4 (.slice p L.length cap) L.length (flatF L) ∧ Kept w wr ∧ Below B w wr) (fun _ i _ => L.length - (intOf i).toNat)
  case atStart => exact ⟨0, Nat.zero_le _, rfl, by simpa [Lib.byteCells] using HO2.out, HR2.out, HK2.out, HB2.out⟩
  case round =>
    obtain ⟨q, hq, rfl, o3, r3, k3, b3⟩ := hrel
    have hz3 := b3.size
    have hjq := HJ.out q
    have HK3 : Hid (Kept _ _) := k3
    have HR3 : Hid (World.ownsRow _ _ _ _ _ _ _) := r3
    clear k3 HO2 HK2 HR2
    by_cases hlt : q < L.length
    · obtain ⟨g, rfl⟩ := HP.out (fun e => by rw [e] at hlt; simp at hlt)
      have R := ReadF.of_own r3
      obtain ⟨x0, x1, x2, x3⟩ := R.cells q hlt
      have hgl := R.lt
      have hfq := HA.out L[q] (List.getElem_mem _)
      have HFQ : Hid _ := hfq.1
      have hnm := hfq.2
      have hnl := toList_length L[q].name
      have htk := txtK_len L[q].name.data.toList
      clear R r3 hfq
      obtain ⟨A, hA⟩ : ∃ A, A = (L.take q).flatMap (fieldK (keyV d)) := ⟨_, rfl⟩
      have hcat0 := flat_take (fieldK (keyV d)) L q hlt
      rw [← hA] at o3 hjq hcat0
      have hcat : (L.take (q + 1)).flatMap (fieldK (keyV d)) = (A ++ [1] ++ txtK L[q].name.data.toList) ++ keyV d L[q].v := by rw [hcat0]; simp [fieldK]
      have HCAT : Hid (_ = _) := hcat
      have HAA : Hid (_ = _) := hA
      obtain ⟨N, hN⟩ : ∃ N, N = txtK L[q].name.data.toList := ⟨_, rfl⟩
      have hNl : N.length ≤ 602 := by rw [hN]; omega
      have HTX := fun (n' : Nat) (sv' : Value) (xs' : List Value) (W : World) (h1 : W.ownsRow B 5 1 sv' n' xs') (h2 : B ≤ W.heap.size) (h3 : n' ≤ 500000) => appTextKey_any L[q].name B n' sv' xs' W h1 h2 h3 (by omega)
      rw [← hN] at HTX hcat
      have HT : Hid _ := HTX
      have HCAT : Hid (_ = _) := hcat
      clear hcat hcat0 hA HTX hN htk
      have hab : Below B wr (wr.alloc (.cells #[.string L[q].name, .int .i64 L[q].v.k, .int .i64 L[q].v.n, .string L[q].v.t] 98)) := (Below.refl _ _).alloc (by omega) _
      have HAB : Hid _ := hab
      have HKX : Hid (Kept _ _) := kept_alloc wr (.cells #[.string L[q].name, .int .i64 L[q].v.k, .int .i64 L[q].v.n, .string L[q].v.t] 98)
      have HO4 : Hid (World.ownsRow _ _ _ _ _ _ _) := o3.alloc (.cells #[.string L[q].name, .int .i64 L[q].v.k, .int .i64 L[q].v.n, .string L[q].v.t] 98)
      clear hab o3
      go_wp2_with (at_builtin; refine app_byte rfl (.tmp 14) (.tmp 15) rfl B _ _ _ 1 _ rfl rfl (by simp) HO4.out (by simp; omega) (by omega) ?_; intro v4 w4 o4 b4 k4; refine Hid.out ?_)
      refine Lib.hid ?_
      have hz4 := b4.size
      have HO44 : Hid (World.ownsRow _ _ _ _ _ _ _) := grow_cat (a := A) (b := [1]) o4
      have HK4 : Hid (Kept _ _) := k4
      have y0 := kept_new k4 (by decide) 0
      simp only [List.getElem?_toArray, List.getElem?_cons_zero] at y0
      have hzz : wr.heap.size < w4.heap.size := by have := hz4; simp at this; omega
      have hl4 : (A ++ [1]).length ≤ 6601 := by rw [List.length_append]; simp only [List.length_cons, List.length_nil]; omega
      clear o4 k4
      go_wp2_with fail
      refine (HT.out _ _ _ _ HO44.out (by omega) (by omega)).mono ?_
      rintro e w5 ⟨v5, rfl, o5, b5, k5⟩
      have hz5 := b5.size
      have HO55 : Hid (World.ownsRow _ _ _ _ _ _ _) := grow_cat (a := A ++ [1]) (b := N) o5
      have hk5 : Kept _ w5 := HK4.out.trans k5
      have y1 := kept_new hk5 (by decide) 1
      have y2 := kept_new hk5 (by decide) 2
      have y3 := kept_new hk5 (by decide) 3
      simp only [List.getElem?_toArray, List.getElem?_cons_zero, List.getElem?_cons_succ] at y1 y2 y3
      have HK5 : Hid (Kept _ _) := hk5
      have hzc : wr.heap.size < w5.heap.size := by omega
      have hl5 : (A ++ [1] ++ N).length ≤ 7300 := by rw [List.length_append]; omega
      have HB5 : Hid (Below _ _ _) := b3.trans (HAB.out.trans (b4.trans b5))
      clear o5 k5 hk5 y0
      go_wp2_with fail
      refine (HI.out L[q].v B _ _ _ _ HFQ.out HO55.out (by omega) (by omega)).mono ?_
      rintro e w7 ⟨v7, rfl, o7, b7, k7⟩
      have HO7 : Hid (World.ownsRow _ _ _ _ _ _ _) := grow_more HCAT.out o7
      have HR7 : Hid (World.ownsRow _ _ _ _ _ _ _) := owns_kept HR3.out (HKX.out.trans (HK5.out.trans k7)) (by decide)
      have HK7 : Hid (Kept _ _) := HK3.out.trans (HKX.out.trans (HK5.out.trans k7))
      have hb7 : Below B w w7 := HB5.out.trans b7
      clear o7 k7 b7
      go_wp2_with fail
      go_roundw
      case rel => exact ⟨q + 1, by omega, by go_num, HO7.out, HR7.out, HK7.out, hb7⟩
      case measure => simp [intOf]; omega
    · have e : L.take q = L := List.take_of_length_le (by omega)
      rw [e] at o3 hjq
      go_wp2_with (at_builtin; refine app_byte rfl (.tmp 26) (.tmp 27) rfl B _ _ _ 0 _ rfl rfl (by simp) o3 (by omega) (by omega) ?_; intro v4 w4 o4 b4 k4; refine Hid.out ?_)
      refine Lib.hid ?_
      have HO44 : Hid (World.ownsRow _ _ _ _ _ _ _) := grow_cat (a := L.flatMap (fieldK (keyV d))) (b := [0]) o4
      have HK4 : Hid (Kept _ _) := HK3.out.trans k4
      have hb4 := b3.trans b4
      clear o4 k4 o3 b4
      go_wp2_with fail
      go_ret
      exact GrewT.mk v4 rfl HO44.out hb4 HK4.out

set_option maxRecDepth 4000 in
set_option maxHeartbeats 1000000 in
theorem key_list (d : Nat) (ih : KeyAt d) (m : Int) (t : ByteArray) (B n : Nat) (sv : Value) (xs : List Value) (w : World) (hf : fits (d + 1) ⟨4, m, t⟩ = true) (hown : w.ownsRow B 5 1 sv n xs) (hB : B ≤ w.heap.size) (hn : n + 10000 * (d + 1) ≤ 100000) :
    Calls Tryz.prog 124 #[sv, .agg #[.int .i64 4, .int .i64 m, .string t]] w fun e w' => GrewT B n xs (5 :: ((itms ⟨4, m, t⟩).flatMap (keyV d) ++ [0])) w e w' := by
  obtain ⟨hs, hi, hl, d', hd, hall⟩ := list_parts (d + 1) ⟨4, m, t⟩ hf rfl
  obtain rfl : d = d' := by omega
  have hjl := list_key_len d ⟨4, m, t⟩ hf rfl
  obtain ⟨L, hL⟩ : ∃ L, L = itms ⟨4, m, t⟩ := ⟨_, rfl⟩
  rw [← hL] at hi hall hl hjl ⊢
  have HC0 := fun (n' : Nat) (sv' : Value) (xs' : List Value) (W : World) (h1 : W.ownsRow B 5 1 sv' n' xs') (h2 : B ≤ W.heap.size) (h3 : n' + 10000 * d ≤ 90001) => keyItems_any d ih L t hi hs hl (fun u hu => (hall u hu).1) hjl B n' sv' xs' W h1 h2 h3
  have HC : Hid _ := HC0
  clear HC0 hi hall hl hjl hf ih hL
  have hbox : Below B w (w.alloc (.cells #[.int .i64 4, .int .i64 m, .string t] 38)) := (Below.refl _ _).alloc hB _
  have HX : Hid (Kept _ _) := kept_alloc w (.cells #[.int .i64 4, .int .i64 m, .string t] 38)
  have HO : Hid (World.ownsRow _ _ _ _ _ _ _) := hown.alloc (.cells #[.int .i64 4, .int .i64 m, .string t] 38)
  clear hown
  go_enter Tryz.func124, Tryz.ntmps124
  go_wp2_with fail
  refine (firstByte_any 4 _ (by omega) (by omega)).mono ?_
  rintro e wf ⟨rfl, rfl⟩
  go_wp2_with (at_builtin; refine app_byte rfl (.tmp 5) (.tmp 9) rfl B n sv xs 5 _ rfl rfl (by simp) HO.out (by simp; omega) (by omega) ?_; intro v1 w1 o1 b1 k1; refine Hid.out ?_)
  refine Lib.hid ?_
  have y0 := kept_new k1 (by decide) 0
  have y1 := kept_new k1 (by decide) 1
  have y2 := kept_new k1 (by decide) 2
  simp only [List.getElem?_toArray, List.getElem?_cons_zero, List.getElem?_cons_succ] at y0 y1 y2
  have hz1 := b1.size
  have hzz : w.heap.size < w1.heap.size := by have := hz1; simp at this; omega
  have O1 : w1.ownsRow B 5 1 v1 (n + ([5] : List UInt8).length) (xs ++ Lib.byteCells [5]) := o1
  have HO1 : Hid (World.ownsRow _ _ _ _ _ _ _) := O1
  have HK1 : Hid (Kept _ _) := HX.out.trans k1
  have hb1 := hbox.trans b1
  clear o1 O1 k1 b1
  go_wp2_with fail
  refine (HC.out _ _ _ _ HO1.out (by omega) (by simp; omega)).mono ?_
  rintro e w2 ⟨v2, rfl, o2, b2, k2⟩
  have HO2 : Hid (World.ownsRow _ _ _ _ _ _ _) := grow_more (a := [5]) (b := L.flatMap (keyV d) ++ [0]) (c := 5 :: (L.flatMap (keyV d) ++ [0])) rfl o2
  have HK2 : Hid (Kept _ _) := HK1.out.trans k2
  have hb2 := hb1.trans b2
  clear o2 k2 b2
  go_wp2_with fail
  go_ret
  exact GrewT.mk v2 rfl HO2.out hb2 HK2.out
set_option maxRecDepth 4000 in
set_option maxHeartbeats 1000000 in
theorem key_doc (d : Nat) (ih : KeyAt d) (m : Int) (t : ByteArray) (B n : Nat) (sv : Value) (xs : List Value) (w : World) (hf : fits (d + 1) ⟨5, m, t⟩ = true) (hown : w.ownsRow B 5 1 sv n xs) (hB : B ≤ w.heap.size) (hn : n + 10000 * (d + 1) ≤ 100000) :
    Calls Tryz.prog 124 #[sv, .agg #[.int .i64 5, .int .i64 m, .string t]] w fun e w' => GrewT B n xs (6 :: ((flds ⟨5, m, t⟩).flatMap (fieldK (keyV d)) ++ [0])) w e w' := by
  obtain ⟨hs, hi, hl, _, d', hd, hall, _⟩ := doc_parts (d + 1) ⟨5, m, t⟩ hf rfl
  obtain rfl : d = d' := by omega
  have hjl := doc_key_len d ⟨5, m, t⟩ hf rfl
  obtain ⟨L, hL⟩ : ∃ L, L = flds ⟨5, m, t⟩ := ⟨_, rfl⟩
  rw [← hL] at hi hall hl hjl ⊢
  have HC0 := fun (n' : Nat) (sv' : Value) (xs' : List Value) (W : World) (h1 : W.ownsRow B 5 1 sv' n' xs') (h2 : B ≤ W.heap.size) (h3 : n' + 10000 * d ≤ 90001) => keyFields_any d ih L t hi hs hl (fun u hu => ⟨(hall u hu).1, (hall u hu).2.2⟩) hjl B n' sv' xs' W h1 h2 h3
  have HC : Hid _ := HC0
  clear HC0 hi hall hl hjl hf ih hL
  have hbox : Below B w (w.alloc (.cells #[.int .i64 5, .int .i64 m, .string t] 38)) := (Below.refl _ _).alloc hB _
  have HX : Hid (Kept _ _) := kept_alloc w (.cells #[.int .i64 5, .int .i64 m, .string t] 38)
  have HO : Hid (World.ownsRow _ _ _ _ _ _ _) := hown.alloc (.cells #[.int .i64 5, .int .i64 m, .string t] 38)
  clear hown
  go_enter Tryz.func124, Tryz.ntmps124
  go_wp2_with fail
  refine (firstByte_any 5 _ (by omega) (by omega)).mono ?_
  rintro e wf ⟨rfl, rfl⟩
  go_wp2_with (at_builtin; refine app_byte rfl (.tmp 5) (.tmp 9) rfl B n sv xs 6 _ rfl rfl (by simp) HO.out (by simp; omega) (by omega) ?_; intro v1 w1 o1 b1 k1; refine Hid.out ?_)
  refine Lib.hid ?_
  have y0 := kept_new k1 (by decide) 0
  have y1 := kept_new k1 (by decide) 1
  have y2 := kept_new k1 (by decide) 2
  simp only [List.getElem?_toArray, List.getElem?_cons_zero, List.getElem?_cons_succ] at y0 y1 y2
  have hz1 := b1.size
  have hzz : w.heap.size < w1.heap.size := by have := hz1; simp at this; omega
  have O1 : w1.ownsRow B 5 1 v1 (n + ([6] : List UInt8).length) (xs ++ Lib.byteCells [6]) := o1
  have HO1 : Hid (World.ownsRow _ _ _ _ _ _ _) := O1
  have HK1 : Hid (Kept _ _) := HX.out.trans k1
  have hb1 := hbox.trans b1
  clear o1 O1 k1 b1
  go_wp2_with fail
  refine (HC.out _ _ _ _ HO1.out (by omega) (by simp; omega)).mono ?_
  rintro e w2 ⟨v2, rfl, o2, b2, k2⟩
  have HO2 : Hid (World.ownsRow _ _ _ _ _ _ _) := grow_more (a := [6]) (b := L.flatMap (fieldK (keyV d)) ++ [0]) (c := 6 :: (L.flatMap (fieldK (keyV d)) ++ [0])) rfl o2
  have HK2 : Hid (Kept _ _) := HK1.out.trans k2
  have hb2 := hb1.trans b2
  clear o2 k2 b2
  go_wp2_with fail
  go_ret
  exact GrewT.mk v2 rfl HO2.out hb2 HK2.out
theorem key_at : ∀ d : Nat, KeyAt d
  | 0 => fun v B n sv xs w hf hown hB hn => key_base v hf B n sv xs w hown hB (by omega)
  | d + 1 => by
    have ih := key_at d
    intro v B n sv xs w hf hown hB hn
    by_cases h4 : v.k = 4
    · rw [keyV_list d v h4]
      obtain ⟨k, m, t⟩ := v
      have h4' : k = 4 := h4
      subst h4'
      exact key_list d ih m t B n sv xs w hf hown hB hn
    · by_cases h5 : v.k = 5
      · rw [keyV_doc d v h5]
        obtain ⟨k, m, t⟩ := v
        have h5' : k = 5 := h5
        subst h5'
        exact key_doc d ih m t B n sv xs w hf hown hB hn
      · rw [keyV_base (d + 1) v h4 h5]
        rw [fits_base (d + 1) v h4 h5] at hf
        exact key_base v hf B n sv xs w hown hB (by omega)

end Go.Proofs.YtdchhjnmhnehiaaGreatDoor
