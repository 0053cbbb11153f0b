/- What the specification's key of a value is, for every right value. -/
import Derived.Test.YtdchhjnmhnehiaaGreatDoorKeyM
import Derived.Test.YtdchhjnmhnehiaaGreatDoorUnder
import Derived.Test.YtdchhjnmhnehiaaGreatDoorLawVal
import Derived.Lib.Hide
namespace Go.Proofs.YtdchhjnmhnehiaaGreatDoor
open Go.RowKit
set_option linter.unusedVariables false

theorem own_cat {B : Nat} {w : World} {v : Value} {a b : List UInt8} (h : w.ownsRow B 5 1 v (a.length + b.length) (Lib.byteCells a ++ Lib.byteCells b)) : w.ownsRow B 5 1 v (a ++ b).length (Lib.byteCells (a ++ b)) := by
  have e : Lib.byteCells (a ++ b) = Lib.byteCells a ++ Lib.byteCells b := by simp [Lib.byteCells]
  rw [e, List.length_append]; exact h
theorem cell_two_new (w : World) (x y : Value) (t : TypeId) : ∀ j u, [x, y][j]? = some u → (w.alloc (.cells #[x, y] t)).cell? ((⟨w.heap.size, 0, none⟩ : Addr).add j) = some u := by
  intro j u hj
  match j, hj with
  | 0, hj => simp at hj; subst hj; simp [Addr.add, go_sem]
  | 1, hj => simp at hj; subst hj; simp [Addr.add, go_sem]
  | j + 2, hj => simp at hj
/-- Two bytes behind a row of the call's own. -/
theorem app_two {ops : Array Oper} {rest : List Oper} {o : Oper} {a : Act} {Q : Exit → Act → World → Prop} {w : World} (hgd : o.guard = none) (s x : Operand)
    (ho : o.op = .call { callee := .builtin .append, args := #[s, x], argTypes := #[22, 22] }) (B n : Nat) (v : Value) (xs : List Value) (c c' : Int)
    (ad : Nat) (hs : a.eval s = v) (hx : a.eval x = .slice (some ⟨ad, 0, none⟩) 2 2) (had : ad = w.heap.size) (hown : w.ownsRow B 5 1 v n xs) (hB : B ≤ w.heap.size) (hlim : n ≤ 1000000)
    (h : ∀ v' w', w'.ownsRow B 5 1 v' (n + 2) (xs ++ [.int .u8 c, .int .u8 c']) → Below B w w' → Kept w w' → wpList Tryz.prog ops Q rest (a.put o.dst v') w') :
    wpList Tryz.prog ops Q (o :: rest) a (w.alloc (.cells #[.int .u8 c, .int .u8 c'] 5)) := by
  subst had
  obtain ⟨i0, hi, hz0, hz1, hz2⟩ := info_parts infoB
  refine wpList_append_own _ hgd s x 22 ho B 5 i0 (.int .u8 0) 1 1 Tryz.underlying22 hi hz0 hz1 hz2 rfl (by decide) _ _ _ hs (hown.alloc _) ⟨w.heap.size, 0, none⟩ 2 2 [.int .u8 c, .int .u8 c'] hx rfl (cell_two_new _ _ _ _) (by intro u hu; simp at hu; rcases hu with rfl | rfl <;> rfl) (by unfold maxLen; omega) (by omega) (by simp; omega) ?_
  intro v' w' hown' hgrow _
  have ha : Below B w (w.alloc (.cells #[.int .u8 c, .int .u8 c'] 5)) := (Below.refl _ _).alloc hB _
  refine h v' w' hown' (Below.grown ha hgrow (by simp; omega) (fun k hk => (hown.lt k hk).1)) ?_
  exact ((Lib.OthersKept.refl _ _ _).alloc _).grown hgrow (own_tag (hown.alloc _))

set_option maxRecDepth 4000 in
set_option maxHeartbeats 1000000 in
theorem l04Escape_any (t : ByteArray) (w : World) (ht : t.size ≤ 100000) :
    Calls Tryz.prog 126 #[.string t] w fun e w' => e = .returned (.string (mkB (txtK t.data.toList))) ∧ Below w.heap.size w w' := by
  go_enter Tryz.func126, Tryz.ntmps126
  go_wp2_with fail
  go_loopw [3, 4] (fun u i wr => ∃ q : Nat, q ≤ t.size ∧ i = .int .i64 q ∧ wr.ownsRow w.heap.size 5 1 u (escL (t.data.toList.take q)).length (Lib.byteCells (escL (t.data.toList.take q))) ∧ Below w.heap.size w wr) (fun _ i _ => t.size - (intOf i).toNat)
  case atStart => exact ⟨0, Nat.zero_le _, rfl, World.ownsRow_made w #[] 0 (Nat.le_refl _) (by unfold maxLen; omega) rfl, (Below.refl _ _).alloc (Nat.le_refl _) _⟩
  case round =>
    obtain ⟨q, hq, rfl, hown, hbel⟩ := hrel
    have hz := hbel.size
    have hlen := escL_take_len t q
    by_cases hlt : q < t.size
    · by_cases h0 : t[q] = 0
      · have hst := escL_zero t q hlt h0
        have HST : Hid (_ = _) := hst
        have h0' : (((t[q].toNat : Nat) : Int) == 0) = true := by rw [h0]; rfl
        clear hst h0
        go_wp2_with (at_builtin; refine app_byte rfl (.tmp 12) (.tmp 16) rfl w.heap.size _ _ _ (t[q].toNat) _ rfl rfl (by simp) hown hz (by omega) ?_; intro v1 w1 o1 b1 k1; refine Hid.out ?_)
        refine Lib.hid ?_
        have hz1 := b1.size
        have O1 : w1.ownsRow w.heap.size 5 1 v1 (escL (t.data.toList.take q) ++ [t[q]]).length (Lib.byteCells (escL (t.data.toList.take q) ++ [t[q]])) := own_cat (b := [t[q]]) o1
        have HO1 : Hid (World.ownsRow _ _ _ _ _ _ _) := O1
        have hl1 : (escL (t.data.toList.take q) ++ [t[q]]).length ≤ 200001 := by rw [List.length_append]; simp only [List.length_cons, List.length_nil]; omega
        clear o1 k1 O1 hown
        go_wp2_with (at_builtin; refine app_byte rfl (.tmp 22) (.tmp 23) rfl w.heap.size _ _ _ 255 _ rfl rfl (by simp) HO1.out (by omega) (by omega) ?_; intro v2 w2 o2 b2 k2; refine Hid.out ?_)
        refine Lib.hid ?_
        have O2 : w2.ownsRow w.heap.size 5 1 v2 (escL (t.data.toList.take (q + 1))).length (Lib.byteCells (escL (t.data.toList.take (q + 1)))) := by
          rw [HST.out]; exact own_cat (b := [255]) o2
        have HO2 : Hid (World.ownsRow _ _ _ _ _ _ _) := O2
        have hb2 := hbel.trans (b1.trans b2)
        clear o2 k2 O2 HO1 b1 b2
        go_wp2_with fail
        go_roundw
        case rel => exact ⟨q + 1, by omega, by go_num, HO2.out, hb2⟩
        case measure => simp [intOf]; omega
      · have hst := escL_other t q hlt h0
        have HST : Hid (_ = _) := hst
        have h0' : (((t[q].toNat : Nat) : Int) == 0) = false := by
          rw [beq_eq_false_iff_ne]
          intro e
          apply h0
          apply UInt8.toNat_inj.mp
          show t[q].toNat = 0
          omega
        clear hst h0
        go_wp2_with (at_builtin; refine app_byte rfl (.tmp 12) (.tmp 16) rfl w.heap.size _ _ _ (t[q].toNat) _ rfl rfl (by simp) hown hz (by omega) ?_; intro v1 w1 o1 b1 k1; refine Hid.out ?_)
        refine Lib.hid ?_
        have O2 : w1.ownsRow w.heap.size 5 1 v1 (escL (t.data.toList.take (q + 1))).length (Lib.byteCells (escL (t.data.toList.take (q + 1)))) := by
          rw [HST.out]; exact own_cat (b := [t[q]]) o1
        have HO2 : Hid (World.ownsRow _ _ _ _ _ _ _) := O2
        have hb2 := hbel.trans b1
        clear o1 k1 O2 hown b1
        go_wp2_with fail
        go_roundw
        case rel => exact ⟨q + 1, by omega, by go_num, HO2.out, hb2⟩
        case measure => simp [intOf]; omega
    · have e : t.data.toList.take q = t.data.toList := List.take_of_length_le (by rw [toList_length]; omega)
      rw [e] at hown hlen
      go_wp2_with (at_builtin; refine app_two rfl (.tmp 25) (.tmp 26) rfl w.heap.size _ _ _ 0 0 _ rfl rfl (by simp) hown hz (by omega) ?_; intro v1 w1 o1 b1 k1; refine Hid.out ?_)
      refine Lib.hid ?_
      have O2 : w1.ownsRow w.heap.size 5 1 v1 (txtK t.data.toList).length (Lib.byteCells (txtK t.data.toList)) := own_cat (b := [0, 0]) o1
      have hcv := convT w1 v1 (txtK t.data.toList) _ O2
      have hb2 := hbel.trans b1
      clear o1 k1 O2 hown b1 e
      go_wp2_with fail
      go_ret
      exact ⟨rfl, hb2⟩
theorem turn_step (t : ByteArray) (q : Nat) (h : q < t.size) : turnL (t.data.toList.take (q + 1)) = turnL (t.data.toList.take q) ++ [255 - t[q]] := by
  have h2 : q < t.data.toList.length := by rw [toList_length]; exact h
  unfold turnL
  rw [List.take_succ_eq_append_getElem h2, List.map_append, get_data t q h h2]; rfl
set_option maxRecDepth 4000 in
set_option maxHeartbeats 1000000 in
theorem l04Turn_any (t : ByteArray) (w : World) (ht : t.size ≤ 100000) :
    Calls Tryz.prog 99 #[.string t] w fun e w' => e = .returned (.string (mkB (turnL t.data.toList))) ∧ Below w.heap.size w w' := by
  go_enter Tryz.func99, Tryz.ntmps99
  go_wp2_with fail
  go_loopw [3, 4] (fun u i wr => ∃ q : Nat, q ≤ t.size ∧ i = .int .i64 q ∧ wr.ownsRow w.heap.size 5 1 u (turnL (t.data.toList.take q)).length (Lib.byteCells (turnL (t.data.toList.take q))) ∧ Below w.heap.size w wr) (fun _ i _ => t.size - (intOf i).toNat)
  case atStart => exact ⟨0, Nat.zero_le _, rfl, World.ownsRow_made w #[] 0 (Nat.le_refl _) (by unfold maxLen; omega) rfl, (Below.refl _ _).alloc (Nat.le_refl _) _⟩
  case round =>
    obtain ⟨q, hq, rfl, hown, hbel⟩ := hrel
    have hz := hbel.size
    have hlen : (turnL (t.data.toList.take q)).length ≤ 100000 := by rw [turnL_len, List.length_take, toList_length]; omega
    by_cases hlt : q < t.size
    · have hst := turn_step t q hlt
      have HST : Hid (_ = _) := hst
      have hc := t[q].toNat_lt
      have htn := turn_nat t[q]
      have hw : IntKind.u8.wrap (255 - ((t[q].toNat : Nat) : Int)) = 255 - ((t[q].toNat : Nat) : Int) := by simp only [IntKind.wrap, IntKind.bits, IntKind.signed]; simp; omega
      have HTN : Hid (_ = _) := htn
      clear hst htn
      go_wp2_with (at_builtin; refine app_byte rfl (.tmp 12) (.tmp 17) rfl w.heap.size _ _ _ (255 - ((t[q].toNat : Nat) : Int)) _ rfl rfl (by simp) hown hz (by omega) ?_; intro v1 w1 o1 b1 k1; refine Hid.out ?_)
      refine Lib.hid ?_
      have O2 : w1.ownsRow w.heap.size 5 1 v1 (turnL (t.data.toList.take (q + 1))).length (Lib.byteCells (turnL (t.data.toList.take (q + 1)))) := by
        rw [HST.out]
        rw [← HTN.out] at o1
        exact own_cat (b := [255 - t[q]]) o1
      have HO2 : Hid (World.ownsRow _ _ _ _ _ _ _) := O2
      have hb2 := hbel.trans b1
      clear o1 k1 O2 hown b1
      go_wp2_with fail
      go_roundw
      case rel => exact ⟨q + 1, by omega, by go_num, HO2.out, hb2⟩
      case measure => simp [intOf]; omega
    · have e : t.data.toList.take q = t.data.toList := List.take_of_length_le (by rw [toList_length]; omega)
      rw [e] at hown
      have hcv := convT wr _ (turnL t.data.toList) _ hown
      clear hown
      go_wp2_with fail
      go_ret
      exact ⟨rfl, hbel⟩

def RawAt (d : Nat) : Prop := ∀ (v : Val) (w : World), fits d v = true →
    Calls Tryz.prog 100 #[.agg #[.int .i64 v.k, .int .i64 v.n, .string v.t]] w fun e w' => e = .returned (.string (mkB (keyV d v))) ∧ Below w.heap.size w w'

theorem endK (c : UInt8) (x : List UInt8) : mkB (c :: (x ++ [0])) = mkB (c :: x) ++ (⟨#[0]⟩ : ByteArray) := by
  rw [show (⟨#[0]⟩ : ByteArray) = mkB [0] from rfl, mkB_app]; rfl
theorem num_1 : txt (numB 1 1) = mkB [1] := rfl
theorem num_2 : txt (numB 2 1) = mkB [2] := rfl
theorem num_3 : txt (numB 3 1) = mkB [3] := rfl
theorem num_4 : txt (numB 4 1) = mkB [4] := rfl
theorem num_5 : txt (numB 5 1) = mkB [5] := rfl
theorem num_6 : txt (numB 6 1) = mkB [6] := rfl
theorem l01Num (k : Int) (c : UInt8) (h : txt (numB k 1) = mkB [c]) (w : World) : Calls Tryz.prog 87 #[.int .i64 k, .int .i64 1] w fun e w' => e = .returned (.string (mkB [c])) ∧ Below w.heap.size w w' := by
  have := l01Number_any k 1 w (by omega)
  rw [h] at this
  exact this

set_option maxRecDepth 4000 in
set_option maxHeartbeats 1000000 in
theorem raw_base (v : Val) (hb : base v = true) (w : World) :
    Calls Tryz.prog 100 #[.agg #[.int .i64 v.k, .int .i64 v.n, .string v.t]] w fun e w' => e = .returned (.string (mkB (baseK v))) ∧ Below w.heap.size w w' := by
  obtain ⟨k, m, t⟩ := v
  have X0 := Boxed.start w (.int .i64 k) (.int .i64 m) (.string t) 38
  have s1 : ∀ c : UInt8, (mkB [c]).size = 1 := fun c => rfl
  unfold base at hb
  simp only at hb
  split at hb
  · rename_i e; subst e
    show Calls _ _ _ _ fun e w' => e = .returned (.string (mkB [1])) ∧ Below w.heap.size w w'
    have HN : Hid (∀ W : World, Calls _ _ _ W _) := fun W => l01Num 1 1 num_1 W
    go_enter Tryz.func100, Tryz.ntmps100
    go_wp2_with (go_at_call 87; refine (HN.out _).mono ?_; rintro e w1 ⟨rfl, hb⟩; have X := Boxed.step (by assumption) hb; have g0 := X.c0; have g1 := X.c1; have g2 := X.c2; clear hb)
    go_ret
    exact ⟨rfl, X.bel⟩
  · split at hb
    · rename_i e; subst e
      have e : mkB (baseK ⟨1, m, t⟩) = mkB [2] ++ mkB (u8s (numB m 1)) := by rw [mkB_app]; rfl
      rw [e]
      have hsz : (mkB (u8s (numB m 1))).size = 1 := by rw [mkB_size, u8s_len, numB_len]
      have HN : Hid (∀ W : World, Calls _ _ _ W _) := fun W => l01Num 2 2 num_2 W
      have hm0 := fun W : World => l01Number_any m 1 W (by omega)
      simp only [txt_u8s] at hm0
      have HM : Hid (∀ W : World, Calls _ _ _ W _) := hm0
      clear hm0 e
      go_enter Tryz.func100, Tryz.ntmps100
      go_wp2_with fail
      refine (HN.out _).mono ?_
      rintro e w1 ⟨rfl, hb⟩
      have X := X0.step hb
      have g0 := X.c0
      have g1 := X.c1
      have g2 := X.c2
      clear hb
      go_wp2_with fail
      refine (HM.out _).mono ?_
      rintro e w2 ⟨rfl, hb⟩
      have X2 := X.step hb
      clear hb g0 g1 g2
      go_wp2_with fail
      go_ret
      exact ⟨rfl, X2.bel⟩
    · split at hb
      · rename_i e; subst e
        rw [decide_eq_true_eq] at hb
        have e : mkB (baseK ⟨2, m, t⟩) = mkB [3] ++ mkB (u8s (numB (m + 4611686018427387904) 8)) := by rw [mkB_app]; rfl
        rw [e]
        have hsz : (mkB (u8s (numB (m + 4611686018427387904) 8))).size = 8 := by rw [mkB_size, u8s_len, numB_len]
        have HN : Hid (∀ W : World, Calls _ _ _ W _) := fun W => l01Num 3 3 num_3 W
        have hm0 := fun W : World => l01Number_any (m + 4611686018427387904) 8 W (by omega)
        simp only [txt_u8s] at hm0
        have HM : Hid (∀ W : World, Calls _ _ _ W _) := hm0
        obtain ⟨h1, h2, _⟩ := hb
        clear hm0 e
        go_enter Tryz.func100, Tryz.ntmps100
        go_wp2_with fail
        refine (HN.out _).mono ?_
        rintro e w1 ⟨rfl, hb⟩
        have X := X0.step hb
        have g0 := X.c0
        have g1 := X.c1
        have g2 := X.c2
        clear hb
        go_wp2_with fail
        refine (HM.out _).mono ?_
        rintro e w2 ⟨rfl, hb⟩
        have X2 := X.step hb
        clear hb g0 g1 g2
        go_wp2_with fail
        go_ret
        exact ⟨rfl, X2.bel⟩
      · split at hb
        · rename_i e; subst e
          rw [decide_eq_true_eq] at hb
          obtain ⟨rfl, hts⟩ := hb
          have e : mkB (baseK ⟨3, 0, t⟩) = mkB [4] ++ mkB (txtK t.data.toList) := by rw [mkB_app]; rfl
          rw [e]
          have hsz : (mkB (txtK t.data.toList)).size ≤ 602 := by rw [mkB_size]; have := txtK_len t.data.toList; rw [toList_length] at this; omega
          have HN : Hid (∀ W : World, Calls _ _ _ W _) := fun W => l01Num 4 4 num_4 W
          have HM : Hid (∀ W : World, Calls _ _ _ W _) := fun W => l04Escape_any t W (by omega)
          clear e
          go_enter Tryz.func100, Tryz.ntmps100
          go_wp2_with fail
          refine (HN.out _).mono ?_
          rintro e w1 ⟨rfl, hb⟩
          have X := X0.step hb
          have g0 := X.c0
          have g1 := X.c1
          have g2 := X.c2
          clear hb
          go_wp2_with fail
          refine (HM.out _).mono ?_
          rintro e w2 ⟨rfl, hb⟩
          have X2 := X.step hb
          clear hb g0 g1 g2
          go_wp2_with fail
          go_ret
          exact ⟨rfl, X2.bel⟩
        · cases hb

set_option maxRecDepth 4000 in
set_option maxHeartbeats 2000000 in
theorem raw_list (d : Nat) (ih : RawAt d) (m : Int) (t : ByteArray) (w : World) (hf : fits (d + 1) ⟨4, m, t⟩ = true) :
    Calls Tryz.prog 100 #[.agg #[.int .i64 4, .int .i64 m, .string t]] w fun e w' => e = .returned (.string (mkB (5 :: ((itms ⟨4, m, t⟩).flatMap (keyV d) ++ [0])))) ∧ Below w.heap.size w w' := by
  obtain ⟨hs, hfi, hl, d', hd, hall⟩ := list_parts (d + 1) ⟨4, m, t⟩ hf rfl
  obtain rfl : d = d' := by omega
  have hjl := list_key_len d ⟨4, m, t⟩ hf rfl
  obtain ⟨L, hL⟩ : ∃ L, L = itms ⟨4, m, t⟩ := ⟨_, rfl⟩
  rw [← hL] at hfi hall hl hjl ⊢
  rw [endK]
  have hs' : t.size ≤ 300 := hs
  have hfi' : items t = some L := hfi
  have htl : ∀ u ∈ L, (mkB (keyV d u)).size ≤ 6700 := fun u hu => by rw [mkB_size]; have := keyV_len d u (hall u hu).1; have := (hall u hu).2; omega
  have HA : Hid _ := hall
  have HF : Hid _ := hfi'
  have HI : Hid (RawAt _) := ih
  have HJ : Hid _ := hjl
  have HTL : Hid _ := htl
  have HN : Hid (∀ W : World, Calls _ _ _ W _) := fun W => l01Num 5 5 num_5 W
  have X0 := Boxed.start w (.int .i64 4) (.int .i64 m) (.string t) 38
  clear hall hfi hfi' ih hjl hL hf hs htl
  go_enter Tryz.func100, Tryz.ntmps100
  go_wp2_with fail
  refine (HN.out _).mono ?_
  rintro e w1 ⟨rfl, hb⟩
  have X := X0.step hb
  have g0 := X.c0
  have g1 := X.c1
  have g2 := X.c2
  clear hb X0
  go_wp2_with fail
  refine (l01Items_any t _ (by omega)).mono ?_
  rintro e w2 ⟨⟨gv, m1, cap1, rfl, hown0⟩, hb⟩
  obtain ⟨rfl, hown1⟩ := hown0 L HF.out
  rw [HF.out]
  have X2 := X.step hb
  have HBW : Hid _ := X2.bel
  have HR1 : Hid _ := ReadV.of_own hown1
  clear hown0 hb X X2 hown1 g0 g1 g2
  go_wp2_with fail
  go_loopw [3, 6] (fun u i wr => ∃ q : Nat, q ≤ L.length ∧ i = .int .i64 q ∧ u = .string (mkB (5 :: (L.take q).flatMap (keyV d))) ∧ ReadV wr gv L ∧ Below w.heap.size w wr) (fun _ i _ => L.length - (intOf i).toNat)
  case atStart => exact ⟨0, Nat.zero_le _, rfl, rfl, HR1.out, HBW.out⟩
  case round =>
    obtain ⟨q, hq, rfl, rfl, hR, hbel⟩ := hrel
    have hz := hbel.size
    have hsz : (mkB (5 :: (L.take q).flatMap (keyV d))).size ≤ 6601 := by rw [mkB_size, List.length_cons]; have := HJ.out q; omega
    by_cases hlt : q < L.length
    · obtain ⟨x0, x1, x2⟩ := hR.cells q hlt
      have hgl := hR.lt
      have hfq := (HA.out L[q] (List.getElem_mem _)).1
      have hsq := HTL.out L[q] (List.getElem_mem _)
      have HFQ : Hid _ := hfq
      have HRV : Hid _ := hR
      have hcat : mkB (5 :: (L.take (q + 1)).flatMap (keyV d)) = mkB (5 :: (L.take q).flatMap (keyV d)) ++ mkB (keyV d L[q]) := by rw [flat_take _ _ _ hlt, mkB_app]; rfl
      have HC : Hid (_ = _) := hcat
      clear hR hfq hcat
      obtain ⟨A, hA⟩ : ∃ A, A = mkB (5 :: (L.take q).flatMap (keyV d)) := ⟨_, rfl⟩
      have HC2 : Hid (_ = _) := HC.out
      rw [← hA] at hsz ⊢
      have HC3 : Hid (mkB (5 :: (L.take (q + 1)).flatMap (keyV d)) = A ++ mkB (keyV d L[q])) := by rw [hA]; exact HC.out
      clear hA HC HC2
      go_wp2_with fail
      refine (HI.out L[q] _ HFQ.out).mono ?_
      rintro e w3 ⟨rfl, hb⟩
      have R3 := HRV.out.next hb
      have HR3 : Hid _ := R3
      have hb2 : Below w.heap.size w w3 := hbel.trans (hb.mono hz)
      clear hb R3 x0 x1 x2
      go_wp2_with fail
      go_roundw
      case rel => exact ⟨q + 1, by omega, by go_num, by rw [HC3.out], HR3.out, hb2⟩
      case measure => simp [intOf]; omega
    · have e : L.take q = L := List.take_of_length_le (by omega)
      rw [e] at hsz ⊢
      clear e hR
      go_wp2_with fail
      go_ret
      exact ⟨rfl, hbel⟩

set_option maxRecDepth 4000 in
set_option maxHeartbeats 4000000 in
theorem raw_doc (d : Nat) (ih : RawAt d) (m : Int) (t : ByteArray) (w : World) (hf : fits (d + 1) ⟨5, m, t⟩ = true) :
    Calls Tryz.prog 100 #[.agg #[.int .i64 5, .int .i64 m, .string t]] w fun e w' => e = .returned (.string (mkB (6 :: ((flds ⟨5, m, t⟩).flatMap (fieldK (keyV d)) ++ [0])))) ∧ Below w.heap.size w w' := by
  obtain ⟨hs, hfi, hl, _, d', hd, hall, _⟩ := doc_parts (d + 1) ⟨5, m, t⟩ hf rfl
  obtain rfl : d = d' := by omega
  have hjl := doc_key_len d ⟨5, m, t⟩ hf rfl
  obtain ⟨L, hL⟩ : ∃ L, L = flds ⟨5, m, t⟩ := ⟨_, rfl⟩
  rw [← hL] at hfi hall hl hjl ⊢
  rw [endK]
  have hs' : t.size ≤ 300 := hs
  have hfi' : fields t = some L := hfi
  have htl : ∀ u ∈ L, (mkB (keyV d u.v)).size ≤ 6700 := fun u hu => by rw [mkB_size]; have := keyV_len d u.v (hall u hu).1; have := (hall u hu).2.1; omega
  have hnl : ∀ u ∈ L, (mkB (txtK u.name.data.toList)).size ≤ 602 := fun u hu => by rw [mkB_size]; have := txtK_len u.name.data.toList; rw [toList_length] at this; have := (hall u hu).2.2; omega
  have HA : Hid _ := hall
  have HF : Hid _ := hfi'
  have HI : Hid (RawAt _) := ih
  have HJ : Hid _ := hjl
  have HTL : Hid _ := htl
  have HNL : Hid _ := hnl
  have HN : Hid (∀ W : World, Calls _ _ _ W _) := fun W => l01Num 6 6 num_6 W
  have X0 := Boxed.start w (.int .i64 5) (.int .i64 m) (.string t) 38
  clear hall hfi hfi' ih hjl hL hf hs htl hnl
  go_enter Tryz.func100, Tryz.ntmps100
  go_wp2_with fail
  refine (HN.out _).mono ?_
  rintro e w1 ⟨rfl, hb⟩
  have X := X0.step hb
  have g0 := X.c0
  have g1 := X.c1
  have g2 := X.c2
  clear hb X0
  go_wp2_with fail
  refine (l01Fields_any t _ (by omega)).mono ?_
  rintro e w2 ⟨⟨gv, m1, cap1, rfl, hown0⟩, hb⟩
  obtain ⟨rfl, hown1⟩ := hown0 L HF.out
  rw [HF.out]
  have X2 := X.step hb
  have HBW : Hid _ := X2.bel
  have HR1 : Hid _ := ReadF.of_own hown1
  clear hown0 hb X X2 hown1 g0 g1 g2
  go_wp2_with fail
  go_loopw [3, 9] (fun u i wr => ∃ q : Nat, q ≤ L.length ∧ i = .int .i64 q ∧ u = .string (mkB (6 :: (L.take q).flatMap (fieldK (keyV d)))) ∧ ReadF wr gv L ∧ Below w.heap.size w wr) (fun _ i _ => L.length - (intOf i).toNat)
  case atStart => exact ⟨0, Nat.zero_le _, rfl, rfl, HR1.out, HBW.out⟩
  case round =>
    obtain ⟨q, hq, rfl, rfl, hR, hbel⟩ := hrel
    have hz := hbel.size
    have hsz : (mkB (6 :: (L.take q).flatMap (fieldK (keyV d)))).size ≤ 6601 := by rw [mkB_size, List.length_cons]; have := HJ.out q; omega
    by_cases hlt : q < L.length
    · have hgl := hR.lt
      have hfq := (HA.out L[q] (List.getElem_mem _)).1
      have hnm := (HA.out L[q] (List.getElem_mem _)).2.2
      have hsq := HTL.out L[q] (List.getElem_mem _)
      have hsn := HNL.out L[q] (List.getElem_mem _)
      have HFQ : Hid _ := hfq
      have HRV : Hid _ := hR
      have q0 : ∀ u : Under wr, u.x.cell? ⟨gv, q * 4, none⟩ = some (.string L[q].name) := fun u => ((hR.next u.h).cells q hlt).1
      have q1 : ∀ u : Under wr, u.x.cell? ⟨gv, q * 4 + 1, none⟩ = some (.int .i64 L[q].v.k) := fun u => ((hR.next u.h).cells q hlt).2.1
      have q2 : ∀ u : Under wr, u.x.cell? ⟨gv, q * 4 + 2, none⟩ = some (.int .i64 L[q].v.n) := fun u => ((hR.next u.h).cells q hlt).2.2.1
      have q3 : ∀ u : Under wr, u.x.cell? ⟨gv, q * 4 + 3, none⟩ = some (.string L[q].v.t) := fun u => ((hR.next u.h).cells q hlt).2.2.2
      have hcat : mkB (6 :: (L.take (q + 1)).flatMap (fieldK (keyV d))) = mkB (6 :: (L.take q).flatMap (fieldK (keyV d))) ++ ((⟨#[1]⟩ : ByteArray) ++ mkB (txtK L[q].name.data.toList) ++ mkB (keyV d L[q].v)) := by
        rw [flat_take _ _ _ hlt, show (⟨#[1]⟩ : ByteArray) = mkB [1] from rfl, mkB_app, mkB_app, mkB_app]; rfl
      obtain ⟨A, hA⟩ : ∃ A, A = mkB (6 :: (L.take q).flatMap (fieldK (keyV d))) := ⟨_, rfl⟩
      obtain ⟨N, hN⟩ : ∃ N, N = mkB (txtK L[q].name.data.toList) := ⟨_, rfl⟩
      obtain ⟨K, hK⟩ : ∃ K, K = mkB (keyV d L[q].v) := ⟨_, rfl⟩
      have HE0 := fun W : World => l04Escape_any L[q].name W (by omega)
      have HK0 := fun W : World => HI.out L[q].v W HFQ.out
      rw [← hA] at hsz ⊢
      rw [← hA, ← hN, ← hK] at hcat
      rw [← hN] at hsn HE0
      rw [← hK] at hsq HK0
      have HEE : Hid (∀ W : World, Calls _ _ _ W _) := HE0
      have HKK : Hid (∀ W : World, Calls _ _ _ W _) := HK0
      have HC3 : Hid (_ = _) := hcat
      have hk1 : (q : Int) < (L.length : Int) := by omega
      have z1 : ((⟨#[1]⟩ : ByteArray) ++ N).size = 1 + N.size := by rw [ByteArray.size_append]; rfl
      have z2 : ((⟨#[1]⟩ : ByteArray) ++ N ++ K).size = 1 + N.size + K.size := by rw [ByteArray.size_append, z1]
      have y1 : ¬ 9223372036854775807 < 1 + N.size := by omega
      have y2 : ¬ 9223372036854775807 < 1 + N.size + K.size := by omega
      have y3 : ¬ 9223372036854775807 < A.size + (1 + N.size + K.size) := by omega
      have hnu : Nonempty (Under wr) := ⟨⟨wr, Below.refl _ _⟩⟩
      clear hR hfq hcat hA hN hK HE0 HK0
      go_wp2_with fail
      refine wp_region_under (by kernel_rfl) (by kernel_rfl) ?_
      repeat (go_big_quiet_step ((first | (go_at_call 126; exact calls_under _ (HEE.out _)) | (go_at_call 100; exact calls_under _ (HKK.out _)))))
      refine wpQuiet_nil ?_
      rintro _ ⟨u, rfl⟩
      have R3 := HRV.out.next u.h
      have HR3 : Hid _ := R3
      have hb2 : Below w.heap.size w u.x := hbel.trans (u.h.mono hz)
      clear R3 q0 q1 q2 q3
      go_wp2_with fail
      go_roundw
      case rel => exact ⟨q + 1, by omega, by go_num, by rw [HC3.out], HR3.out, hb2⟩
      case measure => simp [intOf]; omega
    · have e : L.take q = L := List.take_of_length_le (by omega)
      rw [e] at hsz ⊢
      clear e hR
      go_wp2_with fail
      go_ret
      exact ⟨rfl, hbel⟩
theorem raw_at : ∀ d : Nat, RawAt d
  | 0 => fun v w hf => raw_base v hf w
  | d + 1 => by
    have ih := raw_at d
    intro v w hf
    by_cases h4 : v.k = 4
    · rw [keyV_list d v h4]
      obtain ⟨k, m, t⟩ := v
      have h4' : k = 4 := h4
      subst h4'
      exact raw_list d ih m t w hf
    · by_cases h5 : v.k = 5
      · rw [keyV_doc d v h5]
        obtain ⟨k, m, t⟩ := v
        have h5' : k = 5 := h5
        subst h5'
        exact raw_doc d ih m t w hf
      · rw [keyV_base (d + 1) v h4 h5]
        rw [fits_base (d + 1) v h4 h5] at hf
        exact raw_base v hf w

end Go.Proofs.YtdchhjnmhnehiaaGreatDoor
