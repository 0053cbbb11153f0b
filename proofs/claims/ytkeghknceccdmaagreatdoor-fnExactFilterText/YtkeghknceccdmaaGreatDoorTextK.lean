/- What the program's writing of documents as texts answers; and of all right values. -/
import Derived.Test.YtkeghknceccdmaaGreatDoorTextJ
import Derived.Test.YtkeghknceccdmaaGreatDoorLawVal
namespace Go.Proofs.YtkeghknceccdmaaGreatDoor
open Go.RowKit
set_option linter.unusedVariables false

set_option maxRecDepth 4000 in
set_option maxHeartbeats 2000000 in
theorem appDoc_any (d : Nat) (ih : AppAt d) (L : List Fld) (t : ByteArray) (hi : fields t = some L) (hs : t.size ≤ 300) (hl : L.length ≤ 300) (hall : ∀ f ∈ L, fits d f.v = true ∧ f.name.size ≤ 300) (hj : ∀ k, (joinL ((L.take k).map (fieldT (textV d)))).length ≤ 6600)
    (B n : Nat) (sv : Value) (xs : List Value) (w : World) (hown : w.ownsRow B 5 1 sv n xs) (hB : B ≤ w.heap.size) (hn : n + 10000 * (d + 1) ≤ 500000) (htab : Tab B w) :
    Calls Tryz.prog 218 #[sv, .string t] w fun e w' => GrewT B n xs (123 :: (joinL (L.map (fieldT (textV d))) ++ [125])) w e w' := by
  have HI : Hid (AppAt d) := ih
  have HF : Hid _ := hi
  have HA : Hid _ := hall
  have HJ : Hid _ := hj
  have HT : Hid (Tab _ _) := htab
  clear ih hi hall hj htab
  go_enter Tryz.func218, Tryz.ntmps218
  go_wp2_with (at_builtin; refine app_byte rfl (.tmp 7) (.tmp 8) rfl B n sv xs 123 _ rfl rfl (by simp) hown hB (by omega) ?_; intro v1 w1 o1 b1 k1; refine Hid.out ?_)
  refine Lib.hid ?_
  have hz1 := b1.size
  have HO1 : Hid (World.ownsRow _ _ _ _ _ _ _) := o1
  have HK1 : Hid (Kept _ _) := k1
  clear o1 k1 hown
  go_wp2_with fail
  refine (fieldsIn_own t L _ (by omega) HF.out).mono ?_
  rintro e w2 ⟨⟨p, cap, rfl, r2, hp⟩, b2⟩
  have HO2 : Hid (World.ownsRow _ _ _ _ _ _ _) := owns_below HO1.out b2
  have HK2 : Hid (Kept _ _) := kept_below HK1.out b2
  have HB2 : Hid _ := b1.trans (b2.mono (by omega))
  have HR2 : Hid (World.ownsRow _ _ _ _ _ _ _) := r2
  have HP : Hid _ := hp
  clear r2 hp b2 b1 HO1 HK1
  go_wp2_with fail
  go_loopw [0, 13] (fun u i wr => ∃ q : Nat, q ≤ L.length ∧ i = .int .i64 q ∧ wr.ownsRow B 5 1 u (n + (123 :: joinL ((L.take q).map (fieldT (textV d)))).length) (xs ++ Lib.byteCells (123 :: joinL ((L.take q).map (fieldT (textV d))))) ∧ wr.ownsRow w1.heap.size 39 4 (.slice p L.length cap) L.length (flatF L) ∧ Kept w wr ∧ Below B w wr) (fun _ i _ => L.length - (intOf i).toNat)
  case atStart => exact ⟨0, Nat.zero_le _, rfl, HO2.out, HR2.out, HK2.out, HB2.out⟩
  case round =>
    obtain ⟨q, hq, rfl, o3, r3, k3, b3⟩ := hrel
    have hz3 := b3.size
    have hjq := HJ.out q
    have hlq : (123 :: joinL ((L.take q).map (fieldT (textV d)))).length ≤ 6601 := by rw [List.length_cons]; omega
    have HK3 : Hid (Kept _ _) := k3
    have HR3 : Hid (World.ownsRow _ _ _ _ _ _ _) := r3
    clear k3 HO2 HK2 HR2
    by_cases hlt : q < L.length
    · obtain ⟨g, rfl⟩ := HP.out (fun e => by rw [e] at hlt; simp at hlt)
      have R := ReadF.of_own r3
      obtain ⟨x0, x1, x2, x3⟩ := R.cells q hlt
      have hgl := R.lt
      have hfq := HA.out L[q] (List.getElem_mem _)
      have HFQ : Hid _ := hfq.1
      have hnm := hfq.2
      have hnl := toList_length L[q].name
      clear R r3 hfq
      have hab : Below B wr (wr.alloc (.cells #[.string L[q].name, .int .i64 L[q].v.k, .int .i64 L[q].v.n, .string L[q].v.t] 39)) := (Below.refl _ _).alloc (by omega) _
      have O4 := o3.alloc (.cells #[.string L[q].name, .int .i64 L[q].v.k, .int .i64 L[q].v.n, .string L[q].v.t] 39)
      have hkx := kept_alloc wr (.cells #[.string L[q].name, .int .i64 L[q].v.k, .int .i64 L[q].v.n, .string L[q].v.t] 39)
      have HAB : Hid _ := hab
      have HKX : Hid (Kept _ _) := hkx
      have HO4 : Hid (World.ownsRow _ _ _ _ _ _ _) := O4
      clear hab O4 hkx o3
      by_cases hq0 : q = 0
      · subst hq0
        have hnq : ¬ (0 : Int) < 0 := by omega
        have hcat : 123 :: joinL ((L.take (0 + 1)).map (fieldT (textV d))) = ((123 :: joinL ((L.take 0).map (fieldT (textV d)))) ++ L[0].name.data.toList ++ ([58] : List UInt8)) ++ textV d L[0].v := by rw [Nat.zero_add, joinL_take0 _ _ hlt]; simp [fieldT, joinL]
        have HCAT : Hid (_ = _) := hcat
        clear hcat
        go_wp2_with (at_builtin; refine app_str rfl (.tmp 23) (.tmp 25) rfl B _ _ _ L[0].name rfl rfl HO4.out (by simp; omega) (by omega) (by omega) ?_; intro v5 w5 o5 b5 k5; refine Hid.out ?_)
        refine Lib.hid ?_
        have o55 : w5.ownsRow B 5 1 v5 (n + ((123 :: joinL ((L.take 0).map (fieldT (textV d)))) ++ L[0].name.data.toList).length) (xs ++ Lib.byteCells ((123 :: joinL ((L.take 0).map (fieldT (textV d)))) ++ L[0].name.data.toList)) := grow_cat (by rw [hnl]; exact o5)
        have HO55 : Hid (World.ownsRow _ _ _ _ _ _ _) := o55
        have hz5 := b5.size
        have HK5 : Hid (Kept _ _) := k5
        have hlen5 : ((123 :: joinL ((L.take 0).map (fieldT (textV d)))) ++ L[0].name.data.toList).length ≤ 6902 := by rw [List.length_append]; omega
        clear o5 k5 o55
        have hzb : B ≤ w5.heap.size := by have := hz5; simp at this; omega
        go_wp2_with (at_builtin; refine app_byte rfl (.tmp 27) (.tmp 28) rfl B _ _ _ 58 _ rfl rfl (by simp) HO55.out hzb (by omega) ?_; intro v6 w6 o6 b6 k6; refine Hid.out ?_)
        refine Lib.hid ?_
        have o66 : w6.ownsRow B 5 1 v6 (n + ((123 :: joinL ((L.take 0).map (fieldT (textV d)))) ++ L[0].name.data.toList ++ [58]).length) (xs ++ Lib.byteCells ((123 :: joinL ((L.take 0).map (fieldT (textV d)))) ++ L[0].name.data.toList ++ [58])) := grow_cat (b := [58]) o6
        have HO66 : Hid (World.ownsRow _ _ _ _ _ _ _) := o66
        have hk6 : Kept _ w6 := HK5.out.trans k6
        have y1 := kept_new hk6 (by decide) 1
        have y2 := kept_new hk6 (by decide) 2
        have y3 := kept_new hk6 (by decide) 3
        simp only [List.getElem?_toArray, List.getElem?_cons_zero, List.getElem?_cons_succ] at y1 y2 y3
        have hlen6 : ((123 :: joinL ((L.take 0).map (fieldT (textV d)))) ++ L[0].name.data.toList ++ [58]).length ≤ 6903 := by rw [List.length_append]; simp only [List.length_cons, List.length_nil]; omega
        have HK6 : Hid (Kept _ _) := hk6
        have hz6 := b6.size
        have hzc : wr.heap.size < w6.heap.size := by have := hz5; simp at this; omega
        have HB6 : Hid (Below _ _ _) := b3.trans (HAB.out.trans (b5.trans b6))
        clear o6 k6 o66 hk6
        go_wp2_with fail
        refine (HI.out L[0].v B _ _ _ _ HFQ.out HO66.out (by omega) (by omega) (Lib.TabBelow.on HT.out HB6.out)).mono ?_
        rintro e w7 ⟨v7, rfl, o7, b7, k7⟩
        have HO7 : Hid (World.ownsRow _ _ _ _ _ _ _) := grow_more HCAT.out o7
        have HR7 : Hid (World.ownsRow _ _ _ _ _ _ _) := owns_kept HR3.out (HKX.out.trans (HK6.out.trans k7)) (by decide)
        have HK7 : Hid (Kept _ _) := HK3.out.trans (HKX.out.trans (HK6.out.trans k7))
        have hb7 : Below B w w7 := HB6.out.trans b7
        clear o7 k7 b7
        go_wp2_with fail
        go_roundw
        case rel => exact ⟨0 + 1, by omega, by go_num, HO7.out, HR7.out, HK7.out, hb7⟩
        case measure => simp [intOf]; omega
      · have hq1 : 0 < q := by omega
        have hcat : 123 :: joinL ((L.take (q + 1)).map (fieldT (textV d))) = ((123 :: joinL ((L.take q).map (fieldT (textV d))) ++ [44]) ++ L[q].name.data.toList ++ [58]) ++ textV d L[q].v := by rw [joinL_take _ _ _ hlt (by omega)]; simp [fieldT]
        have HCAT : Hid (_ = _) := hcat
        clear hcat hq0
        go_wp2_with (at_builtin; refine app_byte rfl (.tmp 20) (.tmp 21) rfl B _ _ _ 44 _ rfl rfl (by simp) HO4.out (by simp; omega) (by omega) ?_; intro v4 w4 o4 b4 k4; refine Hid.out ?_)
        refine Lib.hid ?_
        have hz4 := b4.size
        have o44 : w4.ownsRow B 5 1 v4 (n + (123 :: joinL ((L.take q).map (fieldT (textV d))) ++ [44]).length) (xs ++ Lib.byteCells (123 :: joinL ((L.take q).map (fieldT (textV d))) ++ [44])) := grow_cat (b := [44]) o4
        have HO44 : Hid (World.ownsRow _ _ _ _ _ _ _) := o44
        have HK4 : Hid (Kept _ _) := k4
        have z0 := kept_new k4 (by decide) 0
        simp only [List.getElem?_toArray, List.getElem?_cons_zero] at z0
        have hn44 : (123 :: joinL ((L.take q).map (fieldT (textV d))) ++ [44]).length ≤ 6602 := by rw [List.length_append]; simp only [List.length_cons, List.length_nil] at hlq ⊢; omega
        have hzz : wr.heap.size < w4.heap.size := by have := hz4; simp at this; omega
        clear o4 k4 o44
        go_wp2_with (at_builtin; refine app_str rfl (.tmp 23) (.tmp 25) rfl B _ _ _ L[q].name rfl rfl HO44.out (by omega) (by omega) (by omega) ?_; intro v5 w5 o5 b5 k5; refine Hid.out ?_)
        refine Lib.hid ?_
        have o55 : w5.ownsRow B 5 1 v5 (n + ((123 :: joinL ((L.take q).map (fieldT (textV d))) ++ [44]) ++ L[q].name.data.toList).length) (xs ++ Lib.byteCells ((123 :: joinL ((L.take q).map (fieldT (textV d))) ++ [44]) ++ L[q].name.data.toList)) := grow_cat (by rw [hnl]; exact o5)
        have HO55 : Hid (World.ownsRow _ _ _ _ _ _ _) := o55
        have hz5 := b5.size
        have HK5 : Hid (Kept _ _) := HK4.out.trans k5
        have hlen5 : ((123 :: joinL ((L.take q).map (fieldT (textV d))) ++ [44]) ++ L[q].name.data.toList).length ≤ 6902 := by rw [List.length_append]; omega
        clear o5 k5 o55
        have hzb : B ≤ w5.heap.size := by omega
        go_wp2_with (at_builtin; refine app_byte rfl (.tmp 27) (.tmp 28) rfl B _ _ _ 58 _ rfl rfl (by simp) HO55.out hzb (by omega) ?_; intro v6 w6 o6 b6 k6; refine Hid.out ?_)
        refine Lib.hid ?_
        have o66 : w6.ownsRow B 5 1 v6 (n + ((123 :: joinL ((L.take q).map (fieldT (textV d))) ++ [44]) ++ L[q].name.data.toList ++ [58]).length) (xs ++ Lib.byteCells ((123 :: joinL ((L.take q).map (fieldT (textV d))) ++ [44]) ++ L[q].name.data.toList ++ [58])) := grow_cat (b := [58]) o6
        have HO66 : Hid (World.ownsRow _ _ _ _ _ _ _) := o66
        have hk6 : Kept _ w6 := HK5.out.trans k6
        have y1 := kept_new hk6 (by decide) 1
        have y2 := kept_new hk6 (by decide) 2
        have y3 := kept_new hk6 (by decide) 3
        simp only [List.getElem?_toArray, List.getElem?_cons_zero, List.getElem?_cons_succ] at y1 y2 y3
        have hlen6 : ((123 :: joinL ((L.take q).map (fieldT (textV d))) ++ [44]) ++ L[q].name.data.toList ++ [58]).length ≤ 6903 := by rw [List.length_append]; simp only [List.length_cons, List.length_nil]; omega
        have HK6 : Hid (Kept _ _) := hk6
        have hz6 := b6.size
        have hzc : wr.heap.size < w6.heap.size := by omega
        have HB6 : Hid (Below _ _ _) := b3.trans (HAB.out.trans (b4.trans (b5.trans b6)))
        clear o6 k6 o66 hk6
        go_wp2_with fail
        refine (HI.out L[q].v B _ _ _ _ HFQ.out HO66.out (by omega) (by omega) (Lib.TabBelow.on HT.out HB6.out)).mono ?_
        rintro e w7 ⟨v7, rfl, o7, b7, k7⟩
        have HO7 : Hid (World.ownsRow _ _ _ _ _ _ _) := grow_more HCAT.out o7
        have HR7 : Hid (World.ownsRow _ _ _ _ _ _ _) := owns_kept HR3.out (HKX.out.trans (HK6.out.trans k7)) (by decide)
        have HK7 : Hid (Kept _ _) := HK3.out.trans (HKX.out.trans (HK6.out.trans k7))
        have hb7 : Below B w w7 := HB6.out.trans b7
        clear o7 k7 b7
        go_wp2_with fail
        go_roundw
        case rel => exact ⟨q + 1, by omega, by go_num, HO7.out, HR7.out, HK7.out, hb7⟩
        case measure => simp [intOf]; omega
    · have e : L.take q = L := List.take_of_length_le (by omega)
      rw [e] at o3 hlq
      go_wp2_with (at_builtin; refine app_byte rfl (.tmp 35) (.tmp 36) rfl B _ _ _ 125 _ rfl rfl (by simp) o3 (by omega) (by omega) ?_; intro v4 w4 o4 b4 k4; refine Hid.out ?_)
      refine Lib.hid ?_
      have o44 : w4.ownsRow B 5 1 v4 (n + (123 :: (joinL (L.map (fieldT (textV d))) ++ [125])).length) (xs ++ Lib.byteCells (123 :: (joinL (L.map (fieldT (textV d))) ++ [125]))) := grow_more (a := 123 :: joinL (L.map (fieldT (textV d)))) (b := [125]) rfl o4
      have HO44 : Hid (World.ownsRow _ _ _ _ _ _ _) := o44
      have HK4 : Hid (Kept _ _) := HK3.out.trans k4
      have hb4 := b3.trans b4
      clear o4 k4 o44 o3 b4
      go_wp2_with fail
      go_ret
      exact GrewT.mk v4 rfl HO44.out hb4 HK4.out

set_option maxRecDepth 4000 in
set_option maxHeartbeats 1000000 in
theorem app_list (d : Nat) (ih : AppAt d) (m : Int) (t : ByteArray) (B n : Nat) (sv : Value) (xs : List Value) (w : World) (hf : fits (d + 1) ⟨4, m, t⟩ = true) (hown : w.ownsRow B 5 1 sv n xs) (hB : B ≤ w.heap.size) (hn : n + 10000 * (d + 1) ≤ 500000) (htab : Tab B w) :
    Calls Tryz.prog 143 #[sv, .agg #[.int .i64 4, .int .i64 m, .string t]] w fun e w' => GrewT B n xs (91 :: (joinL ((itms ⟨4, m, t⟩).map (textV d)) ++ [93])) w e w' := by
  obtain ⟨hs, hi, hl, d', hd, hall⟩ := list_parts (d + 1) ⟨4, m, t⟩ hf rfl
  obtain rfl : d = d' := by omega
  have hbox : Below B w (w.alloc (.cells #[.int .i64 4, .int .i64 m, .string t] 28)) := (Below.refl _ _).alloc hB _
  have hkx := kept_alloc w (.cells #[.int .i64 4, .int .i64 m, .string t] 28)
  have HC := appList_any d ih (itms ⟨4, m, t⟩) t hi hs hl (fun u hu => (hall u hu).1) (list_join_len d ⟨4, m, t⟩ hf rfl) B n sv xs _ (hown.alloc (.cells #[.int .i64 4, .int .i64 m, .string t] 28)) (by simp; omega) hn (Lib.TabBelow.on htab hbox)
  have HCC : Hid (Calls _ _ _ _ _) := HC
  have HX : Hid (Kept _ _) := hkx
  clear HC hkx hi hall hown htab hf ih
  go_enter Tryz.func143, Tryz.ntmps143
  go_wp2_with fail
  refine HCC.out.mono ?_
  rintro e w1 ⟨v1, rfl, o1, b1, k1⟩
  have HO1 : Hid (World.ownsRow _ _ _ _ _ _ _) := o1
  have HK1 : Hid (Kept _ _) := k1
  clear o1 k1
  go_wp2_with fail
  go_ret
  exact GrewT.mk v1 rfl HO1.out (hbox.trans b1) (HX.out.trans HK1.out)
set_option maxRecDepth 4000 in
set_option maxHeartbeats 1000000 in
theorem app_doc (d : Nat) (ih : AppAt d) (m : Int) (t : ByteArray) (B n : Nat) (sv : Value) (xs : List Value) (w : World) (hf : fits (d + 1) ⟨5, m, t⟩ = true) (hown : w.ownsRow B 5 1 sv n xs) (hB : B ≤ w.heap.size) (hn : n + 10000 * (d + 1) ≤ 500000) (htab : Tab B w) :
    Calls Tryz.prog 143 #[sv, .agg #[.int .i64 5, .int .i64 m, .string t]] w fun e w' => GrewT B n xs (123 :: (joinL ((flds ⟨5, m, t⟩).map (fieldT (textV d))) ++ [125])) w e w' := by
  obtain ⟨hs, hi, hl, _, d', hd, hall, _⟩ := doc_parts (d + 1) ⟨5, m, t⟩ hf rfl
  obtain rfl : d = d' := by omega
  have hbox : Below B w (w.alloc (.cells #[.int .i64 5, .int .i64 m, .string t] 28)) := (Below.refl _ _).alloc hB _
  have hkx := kept_alloc w (.cells #[.int .i64 5, .int .i64 m, .string t] 28)
  have HC := appDoc_any d ih (flds ⟨5, m, t⟩) t hi hs hl (fun u hu => ⟨(hall u hu).1, (hall u hu).2.2⟩) (doc_join_len d ⟨5, m, t⟩ hf rfl) B n sv xs _ (hown.alloc (.cells #[.int .i64 5, .int .i64 m, .string t] 28)) (by simp; omega) hn (Lib.TabBelow.on htab hbox)
  have HCC : Hid (Calls _ _ _ _ _) := HC
  have HX : Hid (Kept _ _) := hkx
  clear HC hkx hi hall hown htab hf ih
  go_enter Tryz.func143, Tryz.ntmps143
  go_wp2_with fail
  refine HCC.out.mono ?_
  rintro e w1 ⟨v1, rfl, o1, b1, k1⟩
  have HO1 : Hid (World.ownsRow _ _ _ _ _ _ _) := o1
  have HK1 : Hid (Kept _ _) := k1
  clear o1 k1
  go_wp2_with fail
  go_ret
  exact GrewT.mk v1 rfl HO1.out (hbox.trans b1) (HX.out.trans HK1.out)
theorem app_at : ∀ d : Nat, AppAt d
  | 0 => fun v B n sv xs w hf hown hB hn htab => app_base v hf B n sv xs w hown hB (by omega) htab
  | d + 1 => by
    have ih := app_at d
    intro v B n sv xs w hf hown hB hn htab
    by_cases h4 : v.k = 4
    · rw [textV_list d v h4]
      obtain ⟨k, m, t⟩ := v
      have h4' : k = 4 := h4
      subst h4'
      exact app_list d ih m t B n sv xs w hf hown hB hn htab
    · by_cases h5 : v.k = 5
      · rw [textV_doc d v h5]
        obtain ⟨k, m, t⟩ := v
        have h5' : k = 5 := h5
        subst h5'
        exact app_doc d ih m t B n sv xs w hf hown hB hn htab
      · rw [textV_base (d + 1) v h4 h5]
        rw [fits_base (d + 1) v h4 h5] at hf
        exact app_base v hf B n sv xs w hown hB (by omega) htab

end Go.Proofs.YtkeghknceccdmaaGreatDoor
