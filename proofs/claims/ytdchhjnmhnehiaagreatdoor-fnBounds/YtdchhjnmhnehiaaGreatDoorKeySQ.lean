/- What the specification's key of a value is, for every right value. -/
import Derived.Test.YtdchhjnmhnehiaaGreatDoorKeyMQ
import Derived.Test.YtdchhjnmhnehiaaGreatDoorUnder
import Derived.Test.YtdchhjnmhnehiaaGreatDoorLawVal
import Derived.Lib.Hide
namespace Go.Proofs.YtdchhjnmhnehiaaGreatDoor
open Go.RowKit
set_option linter.unusedVariables false

theorem own_cat {B : Nat} {w : World} {v : Value} {a b : List UInt8} (h : w.ownsRow B 5 1 v (a.length + b.length) (Lib.byteCells a ++ Lib.byteCells b)) : w.ownsRow B 5 1 v (a ++ b).length (Lib.byteCells (a ++ b)) := by
  have e : Lib.byteCells (a ++ b) = Lib.byteCells a ++ Lib.byteCells b := by simp [Lib.byteCells]
  rw [e, List.length_append]; exact h
theorem cell_two_new (w : World) (x y : Value) (t : TypeId) : ∀ j u, [x, y][j]? = some u → (w.alloc (.cells #[x, y] t)).cell? ((⟨w.heap.size, 0, none⟩ : Addr).add j) = some u := by
  intro j u hj
  match j, hj with
  | 0, hj => simp at hj; subst hj; simp [Addr.add, go_sem]
  | 1, hj => simp at hj; subst hj; simp [Addr.add, go_sem]
  | j + 2, hj => simp at hj
/-- Two bytes behind a row of the call's own. -/
theorem app_two {ops : Array Oper} {rest : List Oper} {o : Oper} {a : Act} {Q : Exit → Act → World → Prop} {w : World} (hgd : o.guard = none) (s x : Operand)
    (ho : o.op = .call { callee := .builtin .append, args := #[s, x], argTypes := #[22, 22] }) (B n : Nat) (v : Value) (xs : List Value) (c c' : Int)
    (ad : Nat) (hs : a.eval s = v) (hx : a.eval x = .slice (some ⟨ad, 0, none⟩) 2 2) (had : ad = w.heap.size) (hown : w.ownsRow B 5 1 v n xs) (hB : B ≤ w.heap.size) (hlim : n ≤ 1000000)
    (h : ∀ v' w', w'.ownsRow B 5 1 v' (n + 2) (xs ++ [.int .u8 c, .int .u8 c']) → Below B w w' → Kept w w' → wpList Tryz.prog ops Q rest (a.put o.dst v') w') :
    wpList Tryz.prog ops Q (o :: rest) a (w.alloc (.cells #[.int .u8 c, .int .u8 c'] 5)) := by
  subst had
  obtain ⟨i0, hi, hz0, hz1, hz2⟩ := info_parts infoB
  refine wpList_append_own _ hgd s x 22 ho B 5 i0 (.int .u8 0) 1 1 Tryz.underlying22 hi hz0 hz1 hz2 rfl (by decide) _ _ _ hs (hown.alloc _) ⟨w.heap.size, 0, none⟩ 2 2 [.int .u8 c, .int .u8 c'] hx rfl (cell_two_new _ _ _ _) (by intro u hu; simp at hu; rcases hu with rfl | rfl <;> rfl) (by unfold maxLen; omega) (by omega) (by simp; omega) ?_
  intro v' w' hown' hgrow _
  have ha : Below B w (w.alloc (.cells #[.int .u8 c, .int .u8 c'] 5)) := (Below.refl _ _).alloc hB _
  refine h v' w' hown' (Below.grown ha hgrow (by simp; omega) (fun k hk => (hown.lt k hk).1)) ?_
  exact ((Lib.OthersKept.refl _ _ _).alloc _).grown hgrow (own_tag (hown.alloc _))

set_option maxRecDepth 4000 in
set_option maxHeartbeats 1000000 in
theorem l04Escape_any (t : ByteArray) (w : World) (ht : t.size ≤ 100000) :
    Calls Tryz.prog 126 #[.string t] w fun e w' => e = .returned (.string (mkB (txtK t.data.toList))) ∧ Below w.heap.size w w' := by
  go_enter Tryz.func126, Tryz.ntmps126
  go_wp2_with fail
  go_loopw [3, 4] (fun u i wr => ∃ q : Nat, q ≤ t.size ∧ i = .int .i64 q ∧ wr.ownsRow w.heap.size 5 1 u (escL (t.data.toList.take q)).length (Lib.byteCells (escL (t.data.toList.take q))) ∧ Below w.heap.size w wr) (fun _ i _ => t.size - (intOf i).toNat)
  case atStart => exact ⟨0, Nat.zero_le _, rfl, World.ownsRow_made w #[] 0 (Nat.le_refl _) (by unfold maxLen; omega) rfl, (Below.refl _ _).alloc (Nat.le_refl _) _⟩
  case round =>
    obtain ⟨q, hq, rfl, hown, hbel⟩ := hrel
    have hz := hbel.size
    have hlen := escL_take_len t q
    by_cases hlt : q < t.size
    · by_cases h0 : t[q] = 0
      · have hst := escL_zero t q hlt h0
        have HST : Hid (_ = _) := hst
        have h0' : (((t[q].toNat : Nat) : Int) == 0) = true := by rw [h0]; rfl
        clear hst h0
        go_wp2_with (at_builtin; refine app_byte rfl (.tmp 12) (.tmp 16) rfl w.heap.size _ _ _ (t[q].toNat) _ rfl rfl (by simp) hown hz (by omega) ?_; intro v1 w1 o1 b1 k1; refine Hid.out ?_)
        refine Lib.hid ?_
        have hz1 := b1.size
        have O1 : w1.ownsRow w.heap.size 5 1 v1 (escL (t.data.toList.take q) ++ [t[q]]).length (Lib.byteCells (escL (t.data.toList.take q) ++ [t[q]])) := own_cat (b := [t[q]]) o1
        have HO1 : Hid (World.ownsRow _ _ _ _ _ _ _) := O1
        have hl1 : (escL (t.data.toList.take q) ++ [t[q]]).length ≤ 200001 := by rw [List.length_append]; simp only [List.length_cons, List.length_nil]; omega
        clear o1 k1 O1 hown
        go_wp2_with (at_builtin; refine app_byte rfl (.tmp 22) (.tmp 23) rfl w.heap.size _ _ _ 255 _ rfl rfl (by simp) HO1.out (by omega) (by omega) ?_; intro v2 w2 o2 b2 k2; refine Hid.out ?_)
        refine Lib.hid ?_
        have O2 : w2.ownsRow w.heap.size 5 1 v2 (escL (t.data.toList.take (q + 1))).length (Lib.byteCells (escL (t.data.toList.take (q + 1)))) := by
          rw [HST.out]; exact own_cat (b := [255]) o2
        have HO2 : Hid (World.ownsRow _ _ _ _ _ _ _) := O2
        have hb2 := hbel.trans (b1.trans b2)
        clear o2 k2 O2 HO1 b1 b2
        go_wp2_with fail
        go_roundw
        case rel => exact ⟨q + 1, by omega, by go_num, HO2.out, hb2⟩
        case measure => simp [intOf]; omega
      · have hst := escL_other t q hlt h0
        have HST : Hid (_ = _) := hst
        have h0' : (((t[q].toNat : Nat) : Int) == 0) = false := by
          rw [beq_eq_false_iff_ne]
          intro e
          apply h0
          apply UInt8.toNat_inj.mp
          show t[q].toNat = 0
          omega
        clear hst h0
        go_wp2_with (at_builtin; refine app_byte rfl (.tmp 12) (.tmp 16) rfl w.heap.size _ _ _ (t[q].toNat) _ rfl rfl (by simp) hown hz (by omega) ?_; intro v1 w1 o1 b1 k1; refine Hid.out ?_)
        refine Lib.hid ?_
        have O2 : w1.ownsRow w.heap.size 5 1 v1 (escL (t.data.toList.take (q + 1))).length (Lib.byteCells (escL (t.data.toList.take (q + 1)))) := by
          rw [HST.out]; exact own_cat (b := [t[q]]) o1
        have HO2 : Hid (World.ownsRow _ _ _ _ _ _ _) := O2
        have hb2 := hbel.trans b1
        clear o1 k1 O2 hown b1
        go_wp2_with fail
        go_roundw
        case rel => exact ⟨q + 1, by omega, by go_num, HO2.out, hb2⟩
        case measure => simp [intOf]; omega
    · have e : t.data.toList.take q = t.data.toList := List.take_of_length_le (by rw [toList_length]; omega)
      rw [e] at hown hlen
      go_wp2_with (at_builtin; refine app_two rfl (.tmp 25) (.tmp 26) rfl w.heap.size _ _ _ 0 0 _ rfl rfl (by simp) hown hz (by omega) ?_; intro v1 w1 o1 b1 k1; refine Hid.out ?_)
      refine Lib.hid ?_
      have O2 : w1.ownsRow w.heap.size 5 1 v1 (txtK t.data.toList).length (Lib.byteCells (txtK t.data.toList)) := own_cat (b := [0, 0]) o1
      have hcv := convT w1 v1 (txtK t.data.toList) _ O2
      have hb2 := hbel.trans b1
      clear o1 k1 O2 hown b1 e
      go_wp2_with fail
      go_ret
      exact ⟨rfl, hb2⟩
theorem turn_step (t : ByteArray) (q : Nat) (h : q < t.size) : turnL (t.data.toList.take (q + 1)) = turnL (t.data.toList.take q) ++ [255 - t[q]] := by
  have h2 : q < t.data.toList.length := by rw [toList_length]; exact h
  unfold turnL
  rw [List.take_succ_eq_append_getElem h2, List.map_append, get_data t q h h2]; rfl
set_option maxRecDepth 4000 in
set_option maxHeartbeats 1000000 in
theorem l04Turn_any (t : ByteArray) (w : World) (ht : t.size ≤ 100000) :
    Calls Tryz.prog 99 #[.string t] w fun e w' => e = .returned (.string (mkB (turnL t.data.toList))) ∧ Below w.heap.size w w' := by
  go_enter Tryz.func99, Tryz.ntmps99
  go_wp2_with fail
  go_loopw [3, 4] (fun u i wr => ∃ q : Nat, q ≤ t.size ∧ i = .int .i64 q ∧ wr.ownsRow w.heap.size 5 1 u (turnL (t.data.toList.take q)).length (Lib.byteCells (turnL (t.data.toList.take q))) ∧ Below w.heap.size w wr) (fun _ i _ => t.size - (intOf i).toNat)
  case atStart => exact ⟨0, Nat.zero_le _, rfl, World.ownsRow_made w #[] 0 (Nat.le_refl _) (by unfold maxLen; omega) rfl, (Below.refl _ _).alloc (Nat.le_refl _) _⟩
  case round =>
    obtain ⟨q, hq, rfl, hown, hbel⟩ := hrel
    have hz := hbel.size
    have hlen : (turnL (t.data.toList.take q)).length ≤ 100000 := by rw [turnL_len, List.length_take, toList_length]; omega
    by_cases hlt : q < t.size
    · have hst := turn_step t q hlt
      have HST : Hid (_ = _) := hst
      have hc := t[q].toNat_lt
      have htn := turn_nat t[q]
      have hw : IntKind.u8.wrap (255 - ((t[q].toNat : Nat) : Int)) = 255 - ((t[q].toNat : Nat) : Int) := by simp only [IntKind.wrap, IntKind.bits, IntKind.signed]; simp; omega
      have HTN : Hid (_ = _) := htn
      clear hst htn
      go_wp2_with (at_builtin; refine app_byte rfl (.tmp 12) (.tmp 17) rfl w.heap.size _ _ _ (255 - ((t[q].toNat : Nat) : Int)) _ rfl rfl (by simp) hown hz (by omega) ?_; intro v1 w1 o1 b1 k1; refine Hid.out ?_)
      refine Lib.hid ?_
      have O2 : w1.ownsRow w.heap.size 5 1 v1 (turnL (t.data.toList.take (q + 1))).length (Lib.byteCells (turnL (t.data.toList.take (q + 1)))) := by
        rw [HST.out]
        rw [← HTN.out] at o1
        exact own_cat (b := [255 - t[q]]) o1
      have HO2 : Hid (World.ownsRow _ _ _ _ _ _ _) := O2
      have hb2 := hbel.trans b1
      clear o1 k1 O2 hown b1
      go_wp2_with fail
      go_roundw
      case rel => exact ⟨q + 1, by omega, by go_num, HO2.out, hb2⟩
      case measure => simp [intOf]; omega
    · have e : t.data.toList.take q = t.data.toList := List.take_of_length_le (by rw [toList_length]; omega)
      rw [e] at hown
      have hcv := convT wr _ (turnL t.data.toList) _ hown
      clear hown
      go_wp2_with fail
      go_ret
      exact ⟨rfl, hbel⟩

def RawAt (d : Nat) : Prop := ∀ (v : Val) (w : World), fits d v = true →
    Calls Tryz.prog 100 #[.agg #[.int .i64 v.k, .int .i64 v.n, .string v.t]] w fun e w' => e = .returned (.string (mkB (keyV d v))) ∧ Below w.heap.size w w'

theorem endK (c : UInt8) (x : List UInt8) : mkB (c :: (x ++ [0])) = mkB (c :: x) ++ (⟨#[0]⟩ : ByteArray) := by
  rw [show (⟨#[0]⟩ : ByteArray) = mkB [0] from rfl, mkB_app]; rfl
theorem num_1 : txt (numB 1 1) = mkB [1] := rfl
theorem num_2 : txt (numB 2 1) = mkB [2] := rfl
theorem num_3 : txt (numB 3 1) = mkB [3] := rfl
theorem num_4 : txt (numB 4 1) = mkB [4] := rfl
theorem num_5 : txt (numB 5 1) = mkB [5] := rfl
theorem num_6 : txt (numB 6 1) = mkB [6] := rfl
theorem l01Num (k : Int) (c : UInt8) (h : txt (numB k 1) = mkB [c]) (w : World) : Calls Tryz.prog 87 #[.int .i64 k, .int .i64 1] w fun e w' => e = .returned (.string (mkB [c])) ∧ Below w.heap.size w w' := by
  have := l01Number_any k 1 w (by omega)
  rw [h] at this
  exact this

set_option maxRecDepth 4000 in
set_option maxHeartbeats 1000000 in
theorem raw_base (v : Val) (hb : base v = true) (w : World) :
    Calls Tryz.prog 100 #[.agg #[.int .i64 v.k, .int .i64 v.n, .string v.t]] w fun e w' => e = .returned (.string (mkB (baseK v))) ∧ Below w.heap.size w w' := by
  obtain ⟨k, m, t⟩ := v
  have X0 := Boxed.start w (.int .i64 k) (.int .i64 m) (.string t) 38
  have s1 : ∀ c : UInt8, (mkB [c]).size = 1 := fun c => rfl
  unfold base at hb
  simp only at hb
  split at hb
  · rename_i e; subst e
    show Calls _ _ _ _ fun e w' => e = .returned (.string (mkB [1])) ∧ Below w.heap.size w w'
    have HN : Hid (∀ W : World, Calls _ _ _ W _) := fun W => l01Num 1 1 num_1 W
    go_enter Tryz.func100, Tryz.ntmps100
    go_wp2_with (go_at_call 87; refine (HN.out _).mono ?_; rintro e w1 ⟨rfl, hb⟩; have X := Boxed.step (by assumption) hb; have g0 := X.c0; have g1 := X.c1; have g2 := X.c2; clear hb)
    go_ret
    exact ⟨rfl, X.bel⟩
  · split at hb
    · rename_i e; subst e
      have e : mkB (baseK ⟨1, m, t⟩) = mkB [2] ++ mkB (u8s (numB m 1)) := by rw [mkB_app]; rfl
      rw [e]
      have hsz : (mkB (u8s (numB m 1))).size = 1 := by rw [mkB_size, u8s_len, numB_len]
      have HN : Hid (∀ W : World, Calls _ _ _ W _) := fun W => l01Num 2 2 num_2 W
      have hm0 := fun W : World => l01Number_any m 1 W (by omega)
      simp only [txt_u8s] at hm0
      have HM : Hid (∀ W : World, Calls _ _ _ W _) := hm0
      clear hm0 e
      go_enter Tryz.func100, Tryz.ntmps100
      go_wp2_with fail
      refine (HN.out _).mono ?_
      rintro e w1 ⟨rfl, hb⟩
      have X := X0.step hb
      have g0 := X.c0
      have g1 := X.c1
      have g2 := X.c2
      clear hb
      go_wp2_with fail
      refine (HM.out _).mono ?_
      rintro e w2 ⟨rfl, hb⟩
      have X2 := X.step hb
      clear hb g0 g1 g2
      go_wp2_with fail
      go_ret
      exact ⟨rfl, X2.bel⟩
    · split at hb
      · rename_i e; subst e
        rw [decide_eq_true_eq] at hb
        have e : mkB (baseK ⟨2, m, t⟩) = mkB [3] ++ mkB (u8s (numB (m + 4611686018427387904) 8)) := by rw [mkB_app]; rfl
        rw [e]
        have hsz : (mkB (u8s (numB (m + 4611686018427387904) 8))).size = 8 := by rw [mkB_size, u8s_len, numB_len]
        have HN : Hid (∀ W : World, Calls _ _ _ W _) := fun W => l01Num 3 3 num_3 W
        have hm0 := fun W : World => l01Number_any (m + 4611686018427387904) 8 W (by omega)
        simp only [txt_u8s] at hm0
        have HM : Hid (∀ W : World, Calls _ _ _ W _) := hm0
        obtain ⟨h1, h2, _⟩ := hb
        clear hm0 e
        go_enter Tryz.func100, Tryz.ntmps100
        go_wp2_with fail
        refine (HN.out _).mono ?_
        rintro e w1 ⟨rfl, hb⟩
        have X := X0.step hb
        have g0 := X.c0
        have g1 := X.c1
        have g2 := X.c2
        clear hb
        go_wp2_with fail
        refine (HM.out _).mono ?_
        rintro e w2 ⟨rfl, hb⟩
        have X2 := X.step hb
        clear hb g0 g1 g2
        go_wp2_with fail
        go_ret
        exact ⟨rfl, X2.bel⟩
      · split at hb
        · rename_i e; subst e
          rw [decide_eq_true_eq] at hb
          obtain ⟨rfl, hts⟩ := hb
          have e : mkB (baseK ⟨3, 0, t⟩) = mkB [4] ++ mkB (txtK t.data.toList) := by rw [mkB_app]; rfl
          rw [e]
          have hsz : (mkB (txtK t.data.toList)).size ≤ 602 := by rw [mkB_size]; have := txtK_len t.data.toList; rw [toList_length] at this; omega
          have HN : Hid (∀ W : World, Calls _ _ _ W _) := fun W => l01Num 4 4 num_4 W
          have HM : Hid (∀ W : World, Calls _ _ _ W _) := fun W => l04Escape_any t W (by omega)
          clear e
          go_enter Tryz.func100, Tryz.ntmps100
          go_wp2_with fail
          refine (HN.out _).mono ?_
          rintro e w1 ⟨rfl, hb⟩
          have X := X0.step hb
          have g0 := X.c0
          have g1 := X.c1
          have g2 := X.c2
          clear hb
          go_wp2_with fail
          refine (HM.out _).mono ?_
          rintro e w2 ⟨rfl, hb⟩
          have X2 := X.step hb
          clear hb g0 g1 g2
          go_wp2_with fail
          go_ret
          exact ⟨rfl, X2.bel⟩
        · cases hb

set_option maxRecDepth 4000 in
set_option maxHeartbeats 2000000 in
theorem raw_list (d : Nat) (ih : RawAt d) (m : Int) (t : ByteArray) (w : World) (hf : fits (d + 1) ⟨4, m, t⟩ = true) :
    Calls Tryz.prog 100 #[.agg #[.int .i64 4, .int .i64 m, .string t]] w fun e w' => e = .returned (.string (mkB (5 :: ((itms ⟨4, m, t⟩).flatMap (keyV d) ++ [0])))) ∧ Below w.heap.size w w' := by
  obtain ⟨hs, hfi, hl, d', hd, hall⟩ := list_parts (d + 1) ⟨4, m, t⟩ hf rfl
  obtain rfl : d = d' := by omega
  have hjl := list_key_len d ⟨4, m, t⟩ hf rfl
  obtain ⟨L, hL⟩ : ∃ L, L = itms ⟨4, m, t⟩ := ⟨_, rfl⟩
  rw [← hL] at hfi hall hl hjl ⊢
  rw [endK]
  have hs' : t.size ≤ 300 := hs
  have hfi' : items t = some L := hfi
  have htl : ∀ u ∈ L, (mkB (keyV d u)).size ≤ 6700 := fun u hu => by rw [mkB_size]; have := keyV_len d u (hall u hu).1; have := (hall u hu).2; omega
  have HA : Hid _ := hall
  have HF : Hid _ := hfi'
  have HI : Hid (RawAt _) := ih
  have HJ : Hid _ := hjl
  have HTL : Hid _ := htl
  have HN : Hid (∀ W : World, Calls _ _ _ W _) := fun W => l01Num 5 5 num_5 W
  have X0 := Boxed.start w (.int .i64 4) (.int .i64 m) (.string t) 38
  clear hall hfi hfi' ih hjl hL hf hs htl
  go_enter Tryz.func100, Tryz.ntmps100
  go_wp2_with fail
  refine (HN.out _).mono ?_
  rintro e w1 ⟨rfl, hb⟩
  have X := X0.step hb
  have g0 := X.c0
  have g1 := X.c1
  have g2 := X.c2
  clear hb X0
  go_wp2_with fail
  refine (l01Items_any t _ (by omega)).mono ?_
  rintro e w2 ⟨⟨gv, m1, cap1, rfl, hown0⟩, hb⟩
  obtain ⟨rfl, hown1⟩ := hown0 L HF.out
  rw [HF.out]
  have X2 := X.step hb
  have HBW : Hid _ := X2.bel
  have HR1 : Hid _ := ReadV.of_own hown1
  clear hown0 hb X X2 hown1 g0 g1 g2
  go_wp2_with fail
  go_loopw [3, 6] (fun u i wr => ∃ q : Nat, q ≤ L.length ∧ i = .int .i64 q ∧ u = .string (mkB (5 :: (L.take q).flatMap (keyV d))) ∧ ReadV wr gv L ∧ Below w.heap.size w wr) (fun _ i _ => L.length - (intOf i).toNat)
  case atStart => exact ⟨0, Nat.zero_le _, rfl, rfl, HR1.out, HBW.out⟩
  case round =>
    obtain ⟨q, hq, rfl, rfl, hR, hbel⟩ := hrel
    have hz := hbel.size
    have hsz : (mkB (5 :: (L.take q).flatMap (keyV d))).size ≤ 6601 := by rw [mkB_size, List.length_cons]; have := HJ.out q; omega
    by_cases hlt : q < L.length
    · obtain ⟨x0, x1, x2⟩ := hR.cells q hlt
      have hgl := hR.lt
      have hfq := (HA.out L[q] (List.getElem_mem _)).1
      have hsq := HTL.out L[q] (List.getElem_mem _)
      have HFQ : Hid _ := hfq
      have HRV : Hid _ := hR
      have hcat : mkB (5 :: (L.take (q + 1)).flatMap (keyV d)) = mkB (5 :: (L.take q).flatMap (keyV d)) ++ mkB (keyV d L[q]) := by rw [flat_take _ _ _ hlt, mkB_app]; rfl
      have HC : Hid (_ = _) := hcat
      clear hR hfq hcat
      obtain ⟨A, hA⟩ : ∃ A, A = mkB (5 :: (L.take q).flatMap (keyV d)) := ⟨_, rfl⟩
      have HC2 : Hid (_ = _) := HC.out
      rw [← hA] at hsz ⊢
      have HC3 : Hid (mkB (5 :: (L.take (q + 1)).flatMap (keyV d)) = A ++ mkB (keyV d L[q])) := by rw [hA]; exact HC.out
      clear hA HC HC2
      go_wp2_with fail
      refine (HI.out L[q] _ HFQ.out).mono ?_
      rintro e w3 ⟨rfl, hb⟩
      have R3 := HRV.out.next hb
      have HR3 : Hid _ := R3
      have hb2 : Below w.heap.size w w3 := hbel.trans (hb.mono hz)
      clear hb R3 x0 x1 x2
      go_wp2_with fail
      go_roundw
      case rel => exact ⟨q + 1, by omega, by go_num, by rw [HC3.out], HR3.out, hb2⟩
      case measure => simp [intOf]; omega
    · have e : L.take q = L := List.take_of_length_le (by omega)
      rw [e] at hsz ⊢
      clear e hR
      go_wp2_with fail
      go_ret
      exact ⟨rfl, hbel⟩

set_option maxRecDepth 4000 in
set_option maxHeartbeats 4000000 in
theorem raw_doc (d : Nat) (ih : RawAt d) (m : Int) (t : ByteArray) (w : World) (hf : fits (d + 1) ⟨5, m, t⟩ = true) :
    Calls Tryz.prog 100 #[.agg #[.int .i64 5, .int .i64 m, .string t]] w fun e w' => e = .returned (.string (mkB (6 :: ((flds ⟨5, m, t⟩).flatMap (fieldK (keyV d)) ++ [0])))) ∧ Below w.heap.size w w' := by
  obtain ⟨hs, hfi, hl, _, d', hd, hall, _⟩ := doc_parts (d + 1) ⟨5, m, t⟩ hf rfl
  obtain rfl : d = d' := by omega
  have hjl := doc_key_len d ⟨5, m, t⟩ hf rfl
  obtain ⟨L, hL⟩ : ∃ L, L = flds ⟨5, m, t⟩ := ⟨_, rfl⟩
  rw [← hL] at hfi hall hl hjl ⊢
  rw [endK]
  have hs' : t.size ≤ 300 := hs
  have hfi' : fields t = some L := hfi
  have htl : ∀ u ∈ L, (mkB (keyV d u.v)).size ≤ 6700 := fun u hu => by rw [mkB_size]; have := keyV_len d u.v (hall u hu).1; have := (hall u hu).2.1; omega
  have hnl : ∀ u ∈ L, (mkB (txtK u.name.data.toList)).size ≤ 602 := fun u hu => by rw [mkB_size]; have := txtK_len u.name.data.toList; rw [toList_length] at this; have := (hall u hu).2.2; omega
  have HA : Hid _ := hall
  have HF : Hid _ := hfi'
  have HI : Hid (RawAt _) := ih
  have HJ : Hid _ := hjl
  have HTL : Hid _ := htl
  have HNL : Hid _ := hnl
  have HN : Hid (∀ W : World, Calls _ _ _ W _) := fun W => l01Num 6 6 num_6 W
  have X0 := Boxed.start w (.int .i64 5) (.int .i64 m) (.string t) 38
  clear hall hfi hfi' ih hjl hL hf hs htl hnl
  go_enter Tryz.func100, Tryz.ntmps100
  go_wp2_with fail
  refine (HN.out _).mono ?_
  rintro e w1 ⟨rfl, hb⟩
  have X := X0.step hb
  have g0 := X.c0
  have g1 := X.c1
  have g2 := X.c2
  clear hb X0
  go_wp2_with fail
  refine (l01Fields_any t _ (by omega)).mono ?_
  rintro e w2 ⟨⟨gv, m1, cap1, rfl, hown0⟩, hb⟩
  obtain ⟨rfl, hown1⟩ := hown0 L HF.out
  rw [HF.out]
  have X2 := X.step hb
  have HBW : Hid _ := X2.bel
  have HR1 : Hid _ := ReadF.of_own hown1
  clear hown0 hb X X2 hown1 g0 g1 g2
  go_wp2_with fail
  go_loopw [3, 9] (fun u i wr => ∃ q : Nat, q ≤ L.length ∧ i = .int .i64 q ∧ u = .string (mkB (6 :: (L.take q).flatMap (fieldK (keyV d)))) ∧ ReadF wr gv L ∧ Below w.heap.size w wr) (fun _ i _ => L.length - (intOf i).toNat)
  case atStart => exact ⟨0, Nat.zero_le _, rfl, rfl, HR1.out, HBW.out⟩
  case round =>
    obtain ⟨q, hq, rfl, rfl, hR, hbel⟩ := hrel
    have hz := hbel.size
    have hsz : (mkB (6 :: (L.take q).flatMap (fieldK (keyV d)))).size ≤ 6601 := by rw [mkB_size, List.length_cons]; have := HJ.out q; omega
    by_cases hlt : q < L.length
    · have hgl := hR.lt
      have hfq := (HA.out L[q] (List.getElem_mem _)).1
      have hnm := (HA.out L[q] (List.getElem_mem _)).2.2
      have hsq := HTL.out L[q] (List.getElem_mem _)
      have hsn := HNL.out L[q] (List.getElem_mem _)
      have HFQ : Hid _ := hfq
      have HRV : Hid _ := hR
      have q0 : ∀ u : Under wr, u.x.cell? ⟨gv, q * 4, none⟩ = some (.string L[q].name) := fun u => ((hR.next u.h).cells q hlt).1
      have q1 : ∀ u : Under wr, u.x.cell? ⟨gv, q * 4 + 1, none⟩ = some (.int .i64 L[q].v.k) := fun u => ((hR.next u.h).cells q hlt).2.1
      have q2 : ∀ u : Under wr, u.x.cell? ⟨gv, q * 4 + 2, none⟩ = some (.int .i64 L[q].v.n) := fun u => ((hR.next u.h).cells q hlt).2.2.1
      have q3 : ∀ u : Under wr, u.x.cell? ⟨gv, q * 4 + 3, none⟩ = some (.string L[q].v.t) := fun u => ((hR.next u.h).cells q hlt).2.2.2
      have hcat : mkB (6 :: (L.take (q + 1)).flatMap (fieldK (keyV d))) = mkB (6 :: (L.take q).flatMap (fieldK (keyV d))) ++ ((⟨#[1]⟩ : ByteArray) ++ mkB (txtK L[q].name.data.toList) ++ mkB (keyV d L[q].v)) := by
        rw [flat_take _ _ _ hlt, show (⟨#[1]⟩ : ByteArray) = mkB [1] from rfl, mkB_app, mkB_app, mkB_app]; rfl
      obtain ⟨A, hA⟩ : ∃ A, A = mkB (6 :: (L.take q).flatMap (fieldK (keyV d))) := ⟨_, rfl⟩
      obtain ⟨N, hN⟩ : ∃ N, N = mkB (txtK L[q].name.data.toList) := ⟨_, rfl⟩
      obtain ⟨K, hK⟩ : ∃ K, K = mkB (keyV d L[q].v) := ⟨_, rfl⟩
      have HE0 := fun W : World => l04Escape_any L[q].name W (by omega)
      have HK0 := fun W : World => HI.out L[q].v W HFQ.out
      rw [← hA] at hsz ⊢
      rw [← hA, ← hN, ← hK] at hcat
      rw [← hN] at hsn HE0
      rw [← hK] at hsq HK0
      have HEE : Hid (∀ W : World, Calls _ _ _ W _) := HE0
      have HKK : Hid (∀ W : World, Calls _ _ _ W _) := HK0
      have HC3 : Hid (_ = _) := hcat
      have hk1 : (q : Int) < (L.length : Int) := by omega
      have z1 : ((⟨#[1]⟩ : ByteArray) ++ N).size = 1 + N.size := by rw [ByteArray.size_append]; rfl
      have z2 : ((⟨#[1]⟩ : ByteArray) ++ N ++ K).size = 1 + N.size + K.size := by rw [ByteArray.size_append, z1]
      have y1 : ¬ 9223372036854775807 < 1 + N.size := by omega
      have y2 : ¬ 9223372036854775807 < 1 + N.size + K.size := by omega
      have y3 : ¬ 9223372036854775807 < A.size + (1 + N.size + K.size) := by omega
      have hnu : Nonempty (Under wr) := ⟨⟨wr, Below.refl _ _⟩⟩
      clear hR hfq hcat hA hN hK HE0 HK0
      go_wp2_with fail
      refine wp_region_under (by kernel_rfl) (by kernel_rfl) ?_
      repeat (go_big_quiet_step ((first | (go_at_call 126; exact calls_under _ (HEE.out _)) | (go_at_call 100; exact calls_under _ (HKK.out _)))))
      refine wpQuiet_nil ?_
      rintro _ ⟨u, rfl⟩
      have R3 := HRV.out.next u.h
      have HR3 : Hid _ := R3
      have hb2 : Below w.heap.size w u.x := hbel.trans (u.h.mono hz)
      clear R3 q0 q1 q2 q3
      go_wp2_with fail
      go_roundw
      case rel => exact ⟨q + 1, by omega, by go_num, by rw [HC3.out], HR3.out, hb2⟩
      case measure => simp [intOf]; omega
    · have e : L.take q = L := List.take_of_length_le (by omega)
      rw [e] at hsz ⊢
      clear e hR
      go_wp2_with fail
      go_ret
      exact ⟨rfl, hbel⟩
theorem raw_at : ∀ d : Nat, RawAt d
  | 0 => fun v w hf => raw_base v hf w
  | d + 1 => by
    have ih := raw_at d
    intro v w hf
    by_cases h4 : v.k = 4
    · rw [keyV_list d v h4]
      obtain ⟨k, m, t⟩ := v
      have h4' : k = 4 := h4
      subst h4'
      exact raw_list d ih m t w hf
    · by_cases h5 : v.k = 5
      · rw [keyV_doc d v h5]
        obtain ⟨k, m, t⟩ := v
        have h5' : k = 5 := h5
        subst h5'
        exact raw_doc d ih m t w hf
      · rw [keyV_base (d + 1) v h4 h5]
        rw [fits_base (d + 1) v h4 h5] at hf
        exact raw_base v hf w

end Go.Proofs.YtdchhjnmhnehiaaGreatDoor

/- What the program's laying of keys answers, for every right value. -/
namespace Go.Proofs.YtdchhjnmhnehiaaGreatDoor
open Go.RowKit
set_option linter.unusedVariables false

set_option maxHeartbeats 400000 in
theorem firstByte_any (k : Int) (w : World) (h0 : 0 ≤ k) (h5 : k ≤ 5) : Calls Tryz.prog 129 #[.int .i64 k] w fun e w' => e = .returned (.int .u8 (k + 1)) ∧ w' = w := by
  have hw1 : IntKind.i64.wrap (k + 1) = k + 1 := by rw [IntKind.wrap_i64]; omega
  have hw3 : IntKind.u8.wrap (k + 1) = k + 1 := by simp only [IntKind.wrap, IntKind.bits, IntKind.signed]; simp; omega
  go_enter Tryz.func129, Tryz.ntmps129
  go_wp2_with fail
  go_ret
  exact ⟨rfl, rfl⟩

set_option maxRecDepth 4000 in
set_option maxHeartbeats 1000000 in
theorem appNumber_any (z : Int) (wd : Nat) (B n : Nat) (sv : Value) (xs : List Value) (w : World) (hown : w.ownsRow B 5 1 sv n xs) (hB : B ≤ w.heap.size) (hlim : n ≤ 500000) (hw : wd ≤ 8) :
    Calls Tryz.prog 142 #[sv, .int .i64 z, .int .i64 wd] w fun e w' => GrewT B n xs (u8s (numB z wd)) w e w' := by
  have HO : Hid (World.ownsRow _ _ _ _ _ _ _) := hown
  clear hown
  go_enter Tryz.func142, Tryz.ntmps142
  go_wp2_with fail
  go_loopw [0, 7] (fun v i wr => ∃ k : Nat, k ≤ wd ∧ i = .int .i64 ((wd : Int) - 1 - k) ∧ wr.ownsRow B 5 1 v (n + k) (xs ++ rowE (numK z wd k)) ∧ Kept w wr ∧ Below B w wr) (fun _ i _ => (intOf i + 1).toNat)
  case atStart => exact ⟨0, Nat.zero_le _, by go_num, by rw [numK_zero]; simpa [rowE] using HO.out, Lib.OthersKept.refl _ _ _, Below.refl _ _⟩
  case round =>
    obtain ⟨k, hk, rfl, o1, k1, b1⟩ := hrel
    have hz1 := b1.size
    have HK1 : Hid (Kept _ _) := k1
    clear k1
    by_cases hlt : k < wd
    · have h0 : (0 : Int) ≤ (wd : Int) - 1 - k := by omega
      have h8 : 0 ≤ 8 * ((wd : Int) - 1 - k) := by omega
      go_wp2_with (at_builtin; refine app_byte rfl (.tmp 14) (.tmp 20) rfl B _ _ _ (nb z (wd - 1 - k)) _ rfl rfl (by simp) o1 (by omega) (by omega) ?_; intro v2 w2 o2 b2 k2; refine Hid.out ?_)
      refine Lib.hid ?_
      have o3 : w2.ownsRow B 5 1 v2 (n + (k + 1)) (xs ++ rowE (numK z wd (k + 1))) := by
        rw [numK_succ, rowE_append, ← List.append_assoc, ← Nat.add_assoc]; exact o2
      have HO3 : Hid (World.ownsRow _ _ _ _ _ _ _) := o3
      have HK3 : Hid (Kept _ _) := HK1.out.trans k2
      have hb3 := b1.trans b2
      clear o2 o3 k2 o1 b2
      go_wp2_with fail
      go_roundw
      case rel => exact ⟨k + 1, by omega, by go_num, HO3.out, HK3.out, hb3⟩
      case measure => simp [intOf]; omega
    · obtain rfl : k = wd := by omega
      have h0 : ¬ (0 : Int) ≤ (k : Int) - 1 - k := by omega
      have O1 : Hid (World.ownsRow _ _ _ _ _ _ _) := o1
      clear o1
      go_wp2_with fail
      go_ret
      refine GrewT.mk _ rfl ?_ b1 HK1.out
      rw [u8s_len, numB_len, cells_num]
      exact O1.out

set_option maxRecDepth 4000 in
set_option maxHeartbeats 1000000 in
theorem appTextKey_any (t : ByteArray) (B n : Nat) (sv : Value) (xs : List Value) (w : World) (hown : w.ownsRow B 5 1 sv n xs) (hB : B ≤ w.heap.size) (hlim : n ≤ 500000) (ht : t.size ≤ 100000) :
    Calls Tryz.prog 143 #[sv, .string t] w fun e w' => GrewT B n xs (txtK t.data.toList) w e w' := by
  have HO : Hid (World.ownsRow _ _ _ _ _ _ _) := hown
  clear hown
  go_enter Tryz.func143, Tryz.ntmps143
  go_wp2_with fail
  go_loopw [0, 8] (fun u i wr => ∃ q : Nat, q ≤ t.size ∧ i = .int .i64 q ∧ wr.ownsRow B 5 1 u (n + (escL (t.data.toList.take q)).length) (xs ++ Lib.byteCells (escL (t.data.toList.take q))) ∧ Kept w wr ∧ Below B w wr) (fun _ i _ => t.size - (intOf i).toNat)
  case atStart => exact ⟨0, Nat.zero_le _, rfl, by simpa [escL, Lib.byteCells] using HO.out, Lib.OthersKept.refl _ _ _, Below.refl _ _⟩
  case round =>
    obtain ⟨q, hq, rfl, hown, hk0, hbel⟩ := hrel
    have hz := hbel.size
    have hlen := escL_take_len t q
    have HK0 : Hid (Kept _ _) := hk0
    clear hk0
    by_cases hlt : q < t.size
    · by_cases h0 : t[q] = 0
      · have hst := escL_zero t q hlt h0
        have HST : Hid (_ = _) := hst
        have h0' : (((t[q].toNat : Nat) : Int) == 0) = true := by rw [h0]; rfl
        clear hst h0
        go_wp2_with (at_builtin; refine app_byte rfl (.tmp 11) (.tmp 15) rfl B _ _ _ (t[q].toNat) _ rfl rfl (by simp) hown (by omega) (by omega) ?_; intro v1 w1 o1 b1 k1; refine Hid.out ?_)
        refine Lib.hid ?_
        have hz1 := b1.size
        have HO1 : Hid (World.ownsRow _ _ _ _ _ _ _) := grow_cat (b := [t[q]]) o1
        have hl1 : (escL (t.data.toList.take q) ++ [t[q]]).length ≤ 200001 := by rw [List.length_append]; simp only [List.length_cons, List.length_nil]; omega
        have HK1 : Hid (Kept _ _) := HK0.out.trans k1
        clear o1 k1 hown
        go_wp2_with (at_builtin; refine app_byte rfl (.tmp 21) (.tmp 22) rfl B _ _ _ 255 _ rfl rfl (by simp) HO1.out (by omega) (by omega) ?_; intro v2 w2 o2 b2 k2; refine Hid.out ?_)
        refine Lib.hid ?_
        have O2 : w2.ownsRow B 5 1 v2 (n + (escL (t.data.toList.take (q + 1))).length) (xs ++ Lib.byteCells (escL (t.data.toList.take (q + 1)))) := by
          rw [HST.out]; exact grow_cat (b := [255]) o2
        have HO2 : Hid (World.ownsRow _ _ _ _ _ _ _) := O2
        have HK2 : Hid (Kept _ _) := HK1.out.trans k2
        have hb2 := hbel.trans (b1.trans b2)
        clear o2 k2 O2 HO1 b1 b2
        go_wp2_with fail
        go_roundw
        case rel => exact ⟨q + 1, by omega, by go_num, HO2.out, HK2.out, hb2⟩
        case measure => simp [intOf]; omega
      · have hst := escL_other t q hlt h0
        have HST : Hid (_ = _) := hst
        have h0' : (((t[q].toNat : Nat) : Int) == 0) = false := by
          rw [beq_eq_false_iff_ne]
          intro e
          apply h0
          apply UInt8.toNat_inj.mp
          show t[q].toNat = 0
          omega
        clear hst h0
        go_wp2_with (at_builtin; refine app_byte rfl (.tmp 11) (.tmp 15) rfl B _ _ _ (t[q].toNat) _ rfl rfl (by simp) hown (by omega) (by omega) ?_; intro v1 w1 o1 b1 k1; refine Hid.out ?_)
        refine Lib.hid ?_
        have O2 : w1.ownsRow B 5 1 v1 (n + (escL (t.data.toList.take (q + 1))).length) (xs ++ Lib.byteCells (escL (t.data.toList.take (q + 1)))) := by
          rw [HST.out]; exact grow_cat (b := [t[q]]) o1
        have HO2 : Hid (World.ownsRow _ _ _ _ _ _ _) := O2
        have HK2 : Hid (Kept _ _) := HK0.out.trans k1
        have hb2 := hbel.trans b1
        clear o1 k1 O2 hown b1
        go_wp2_with fail
        go_roundw
        case rel => exact ⟨q + 1, by omega, by go_num, HO2.out, HK2.out, hb2⟩
        case measure => simp [intOf]; omega
    · have e : t.data.toList.take q = t.data.toList := List.take_of_length_le (by rw [toList_length]; omega)
      rw [e] at hown hlen
      go_wp2_with (at_builtin; refine app_str rfl (.tmp 25) _ rfl B _ _ _ ⟨#[0, 0]⟩ rfl rfl hown (by omega) (by omega) (by decide) ?_; intro v1 w1 o1 b1 k1; refine Hid.out ?_)
      refine Lib.hid ?_
      have HO2 : Hid (World.ownsRow _ _ _ _ _ _ _) := grow_cat (a := escL t.data.toList) (b := [0, 0]) o1
      have HK2 : Hid (Kept _ _) := HK0.out.trans k1
      have hb2 := hbel.trans b1
      clear o1 k1 hown b1 e
      go_wp2_with fail
      go_ret
      exact GrewT.mk v1 rfl HO2.out hb2 HK2.out

def KeyAt (d : Nat) : Prop := ∀ (v : Val) (B n : Nat) (sv : Value) (xs : List Value) (w : World), fits d v = true → w.ownsRow B 5 1 sv n xs → B ≤ w.heap.size → n + 10000 * d ≤ 100000 →
    Calls Tryz.prog 124 #[sv, .agg #[.int .i64 v.k, .int .i64 v.n, .string v.t]] w fun e w' => GrewT B n xs (keyV d v) w e w'
set_option maxRecDepth 4000 in
set_option maxHeartbeats 1000000 in
theorem key_null (m : Int) (t : ByteArray) (B n : Nat) (sv : Value) (xs : List Value) (w : World) (hown : w.ownsRow B 5 1 sv n xs) (hB : B ≤ w.heap.size) (hn : n ≤ 100000) :
    Calls Tryz.prog 124 #[sv, .agg #[.int .i64 0, .int .i64 m, .string t]] w fun e w' => GrewT B n xs ([1]) w e w' := by
  have hbox : Below B w (w.alloc (.cells #[.int .i64 0, .int .i64 m, .string t] 38)) := (Below.refl _ _).alloc hB _
  have HX : Hid (Kept _ _) := kept_alloc w (.cells #[.int .i64 0, .int .i64 m, .string t] 38)
  have HO : Hid (World.ownsRow _ _ _ _ _ _ _) := hown.alloc (.cells #[.int .i64 0, .int .i64 m, .string t] 38)
  clear hown
  go_enter Tryz.func124, Tryz.ntmps124
  go_wp2_with fail
  refine (firstByte_any 0 _ (by omega) (by omega)).mono ?_
  rintro e wf ⟨rfl, rfl⟩
  go_wp2_with (at_builtin; refine app_byte rfl (.tmp 5) (.tmp 9) rfl B n sv xs 1 _ rfl rfl (by simp) HO.out (by simp; omega) (by omega) ?_; intro v1 w1 o1 b1 k1; refine Hid.out ?_)
  refine Lib.hid ?_
  have y0 := kept_new k1 (by decide) 0
  have y1 := kept_new k1 (by decide) 1
  have y2 := kept_new k1 (by decide) 2
  simp only [List.getElem?_toArray, List.getElem?_cons_zero, List.getElem?_cons_succ] at y0 y1 y2
  have hz1 := b1.size
  have hzz : w.heap.size < w1.heap.size := by have := hz1; simp at this; omega
  have O1 : w1.ownsRow B 5 1 v1 (n + ([1] : List UInt8).length) (xs ++ Lib.byteCells [1]) := o1
  have HO1 : Hid (World.ownsRow _ _ _ _ _ _ _) := O1
  have HK1 : Hid (Kept _ _) := HX.out.trans k1
  have hb1 := hbox.trans b1
  clear o1 O1 k1 b1
  go_wp2_with fail
  go_ret
  exact GrewT.mk v1 rfl HO1.out hb1 HK1.out
set_option maxRecDepth 4000 in
set_option maxHeartbeats 1000000 in
theorem key_bool (m : Int) (t : ByteArray) (hm : m = 0 ∨ m = 1) (B n : Nat) (sv : Value) (xs : List Value) (w : World) (hown : w.ownsRow B 5 1 sv n xs) (hB : B ≤ w.heap.size) (hn : n ≤ 100000) :
    Calls Tryz.prog 124 #[sv, .agg #[.int .i64 1, .int .i64 m, .string t]] w fun e w' => GrewT B n xs (2 :: u8s (numB m 1)) w e w' := by
  have hbox : Below B w (w.alloc (.cells #[.int .i64 1, .int .i64 m, .string t] 38)) := (Below.refl _ _).alloc hB _
  have HX : Hid (Kept _ _) := kept_alloc w (.cells #[.int .i64 1, .int .i64 m, .string t] 38)
  have HO : Hid (World.ownsRow _ _ _ _ _ _ _) := hown.alloc (.cells #[.int .i64 1, .int .i64 m, .string t] 38)
  clear hown
  have hw3 : IntKind.u8.wrap m = m := by simp only [IntKind.wrap, IntKind.bits, IntKind.signed]; simp; omega
  have hu : u8s (numB m 1) = [UInt8.ofNat m.toNat] := by rcases hm with rfl | rfl <;> rfl
  have hc : (((UInt8.ofNat m.toNat).toNat : Nat) : Int) = m := by rcases hm with rfl | rfl <;> rfl
  rw [hu]
  have HC : Hid (_ = _) := hc
  clear hu hc
  go_enter Tryz.func124, Tryz.ntmps124
  go_wp2_with fail
  refine (firstByte_any 1 _ (by omega) (by omega)).mono ?_
  rintro e wf ⟨rfl, rfl⟩
  go_wp2_with (at_builtin; refine app_byte rfl (.tmp 5) (.tmp 9) rfl B n sv xs 2 _ rfl rfl (by simp) HO.out (by simp; omega) (by omega) ?_; intro v1 w1 o1 b1 k1; refine Hid.out ?_)
  refine Lib.hid ?_
  have y0 := kept_new k1 (by decide) 0
  have y1 := kept_new k1 (by decide) 1
  have y2 := kept_new k1 (by decide) 2
  simp only [List.getElem?_toArray, List.getElem?_cons_zero, List.getElem?_cons_succ] at y0 y1 y2
  have hz1 := b1.size
  have hzz : w.heap.size < w1.heap.size := by have := hz1; simp at this; omega
  have O1 : w1.ownsRow B 5 1 v1 (n + ([2] : List UInt8).length) (xs ++ Lib.byteCells [2]) := o1
  have HO1 : Hid (World.ownsRow _ _ _ _ _ _ _) := O1
  have HK1 : Hid (Kept _ _) := HX.out.trans k1
  have hb1 := hbox.trans b1
  clear o1 O1 k1 b1
  go_wp2_with (at_builtin; refine app_byte rfl (.tmp 15) (.tmp 19) rfl B _ _ _ m _ rfl rfl (by simp) HO1.out (by omega) (by simp; omega) ?_; intro v2 w2 o2 b2 k2; refine Hid.out ?_)
  refine Lib.hid ?_
  have O2 : w2.ownsRow B 5 1 v2 (n + (2 :: [UInt8.ofNat m.toNat]).length) (xs ++ Lib.byteCells (2 :: [UInt8.ofNat m.toNat])) := by
    rw [← HC.out] at o2
    exact grow_cat (a := [2]) (b := [UInt8.ofNat m.toNat]) o2
  have HO2 : Hid (World.ownsRow _ _ _ _ _ _ _) := O2
  have HK2 : Hid (Kept _ _) := HK1.out.trans k2
  have hb2 := hb1.trans b2
  clear o2 O2 k2 b2
  go_wp2_with fail
  go_ret
  exact GrewT.mk v2 rfl HO2.out hb2 HK2.out
set_option maxRecDepth 4000 in
set_option maxHeartbeats 1000000 in
theorem key_int (m : Int) (t : ByteArray) (hm : -1000000000000 ≤ m) (hm2 : m ≤ 1000000000000) (B n : Nat) (sv : Value) (xs : List Value) (w : World) (hown : w.ownsRow B 5 1 sv n xs) (hB : B ≤ w.heap.size) (hn : n ≤ 100000) :
    Calls Tryz.prog 124 #[sv, .agg #[.int .i64 2, .int .i64 m, .string t]] w fun e w' => GrewT B n xs (3 :: u8s (numB (m + 4611686018427387904) 8)) w e w' := by
  have hbox : Below B w (w.alloc (.cells #[.int .i64 2, .int .i64 m, .string t] 38)) := (Below.refl _ _).alloc hB _
  have HX : Hid (Kept _ _) := kept_alloc w (.cells #[.int .i64 2, .int .i64 m, .string t] 38)
  have HO : Hid (World.ownsRow _ _ _ _ _ _ _) := hown.alloc (.cells #[.int .i64 2, .int .i64 m, .string t] 38)
  clear hown
  go_enter Tryz.func124, Tryz.ntmps124
  go_wp2_with fail
  refine (firstByte_any 2 _ (by omega) (by omega)).mono ?_
  rintro e wf ⟨rfl, rfl⟩
  go_wp2_with (at_builtin; refine app_byte rfl (.tmp 5) (.tmp 9) rfl B n sv xs 3 _ rfl rfl (by simp) HO.out (by simp; omega) (by omega) ?_; intro v1 w1 o1 b1 k1; refine Hid.out ?_)
  refine Lib.hid ?_
  have y0 := kept_new k1 (by decide) 0
  have y1 := kept_new k1 (by decide) 1
  have y2 := kept_new k1 (by decide) 2
  simp only [List.getElem?_toArray, List.getElem?_cons_zero, List.getElem?_cons_succ] at y0 y1 y2
  have hz1 := b1.size
  have hzz : w.heap.size < w1.heap.size := by have := hz1; simp at this; omega
  have O1 : w1.ownsRow B 5 1 v1 (n + ([3] : List UInt8).length) (xs ++ Lib.byteCells [3]) := o1
  have HO1 : Hid (World.ownsRow _ _ _ _ _ _ _) := O1
  have HK1 : Hid (Kept _ _) := HX.out.trans k1
  have hb1 := hbox.trans b1
  clear o1 O1 k1 b1
  go_wp2_with fail
  refine (appNumber_any (m + 4611686018427387904) 8 B _ _ _ _ HO1.out (by omega) (by simp; omega) (by omega)).mono ?_
  rintro e w2 ⟨v2, rfl, o2, b2, k2⟩
  have HO2 : Hid (World.ownsRow _ _ _ _ _ _ _) := grow_more (a := [3]) (b := u8s (numB (m + 4611686018427387904) 8)) (c := 3 :: u8s (numB (m + 4611686018427387904) 8)) rfl o2
  have HK2 : Hid (Kept _ _) := HK1.out.trans k2
  have hb2 := hb1.trans b2
  clear o2 k2 b2
  go_wp2_with fail
  go_ret
  exact GrewT.mk v2 rfl HO2.out hb2 HK2.out
set_option maxRecDepth 4000 in
set_option maxHeartbeats 1000000 in
theorem key_text (m : Int) (t : ByteArray) (ht : t.size ≤ 300) (B n : Nat) (sv : Value) (xs : List Value) (w : World) (hown : w.ownsRow B 5 1 sv n xs) (hB : B ≤ w.heap.size) (hn : n ≤ 100000) :
    Calls Tryz.prog 124 #[sv, .agg #[.int .i64 3, .int .i64 m, .string t]] w fun e w' => GrewT B n xs (4 :: txtK t.data.toList) w e w' := by
  have hbox : Below B w (w.alloc (.cells #[.int .i64 3, .int .i64 m, .string t] 38)) := (Below.refl _ _).alloc hB _
  have HX : Hid (Kept _ _) := kept_alloc w (.cells #[.int .i64 3, .int .i64 m, .string t] 38)
  have HO : Hid (World.ownsRow _ _ _ _ _ _ _) := hown.alloc (.cells #[.int .i64 3, .int .i64 m, .string t] 38)
  clear hown
  go_enter Tryz.func124, Tryz.ntmps124
  go_wp2_with fail
  refine (firstByte_any 3 _ (by omega) (by omega)).mono ?_
  rintro e wf ⟨rfl, rfl⟩
  go_wp2_with (at_builtin; refine app_byte rfl (.tmp 5) (.tmp 9) rfl B n sv xs 4 _ rfl rfl (by simp) HO.out (by simp; omega) (by omega) ?_; intro v1 w1 o1 b1 k1; refine Hid.out ?_)
  refine Lib.hid ?_
  have y0 := kept_new k1 (by decide) 0
  have y1 := kept_new k1 (by decide) 1
  have y2 := kept_new k1 (by decide) 2
  simp only [List.getElem?_toArray, List.getElem?_cons_zero, List.getElem?_cons_succ] at y0 y1 y2
  have hz1 := b1.size
  have hzz : w.heap.size < w1.heap.size := by have := hz1; simp at this; omega
  have O1 : w1.ownsRow B 5 1 v1 (n + ([4] : List UInt8).length) (xs ++ Lib.byteCells [4]) := o1
  have HO1 : Hid (World.ownsRow _ _ _ _ _ _ _) := O1
  have HK1 : Hid (Kept _ _) := HX.out.trans k1
  have hb1 := hbox.trans b1
  clear o1 O1 k1 b1
  go_wp2_with fail
  refine (appTextKey_any t B _ _ _ _ HO1.out (by omega) (by simp; omega) (by omega)).mono ?_
  rintro e w2 ⟨v2, rfl, o2, b2, k2⟩
  have HO2 : Hid (World.ownsRow _ _ _ _ _ _ _) := grow_more (a := [4]) (b := txtK t.data.toList) (c := 4 :: txtK t.data.toList) rfl o2
  have HK2 : Hid (Kept _ _) := HK1.out.trans k2
  have hb2 := hb1.trans b2
  clear o2 k2 b2
  go_wp2_with fail
  go_ret
  exact GrewT.mk v2 rfl HO2.out hb2 HK2.out
theorem key_base (v : Val) (hb : base v = true) (B n : Nat) (sv : Value) (xs : List Value) (w : World) (hown : w.ownsRow B 5 1 sv n xs) (hB : B ≤ w.heap.size) (hn : n ≤ 100000) :
    Calls Tryz.prog 124 #[sv, .agg #[.int .i64 v.k, .int .i64 v.n, .string v.t]] w fun e w' => GrewT B n xs (baseK v) w e w' := by
  obtain ⟨k, m, t⟩ := v
  unfold base at hb
  simp only at hb
  split at hb
  · rename_i e; subst e
    exact key_null m t B n sv xs w hown hB hn
  · split at hb
    · rename_i e; subst e
      rw [decide_eq_true_eq] at hb
      exact key_bool m t (by omega) B n sv xs w hown hB hn
    · split at hb
      · rename_i e; subst e
        rw [decide_eq_true_eq] at hb
        exact key_int m t hb.1 hb.2.1 B n sv xs w hown hB hn
      · split at hb
        · rename_i e; subst e
          rw [decide_eq_true_eq] at hb
          exact key_text m t hb.2 B n sv xs w hown hB hn
        · cases hb

end Go.Proofs.YtdchhjnmhnehiaaGreatDoor

/- What the program's laying of keys answers for lists and documents; and for all right values. -/
namespace Go.Proofs.YtdchhjnmhnehiaaGreatDoor
open Go.RowKit
set_option linter.unusedVariables false

set_option maxRecDepth 4000 in
set_option maxHeartbeats 1000000 in
theorem keyItems_any (d : Nat) (ih : KeyAt d) (L : List Val) (t : ByteArray) (hi : items t = some L) (hs : t.size ≤ 300) (hl : L.length ≤ 300) (hall : ∀ u ∈ L, fits d u = true) (hj : ∀ k, ((L.take k).flatMap (keyV d)).length ≤ 6600)
    (B n : Nat) (sv : Value) (xs : List Value) (w : World) (hown : w.ownsRow B 5 1 sv n xs) (hB : B ≤ w.heap.size) (hn : n + 10000 * d ≤ 90001) :
    Calls Tryz.prog 144 #[sv, .string t] w fun e w' => GrewT B n xs (L.flatMap (keyV d) ++ [0]) w e w' := by
  have HI : Hid (KeyAt d) := ih
  have HF : Hid _ := hi
  have HA : Hid _ := hall
  have HJ : Hid _ := hj
  have HO1 : Hid (World.ownsRow _ _ _ _ _ _ _) := hown
  clear ih hi hall hj hown
  go_enter Tryz.func144, Tryz.ntmps144
  go_wp2_with fail
  refine (itemsIn_own t L _ (by omega) HF.out).mono ?_
  rintro e w2 ⟨⟨p, cap, rfl, r2, hp⟩, b2⟩
  have HO2 : Hid (World.ownsRow _ _ _ _ _ _ _) := owns_below HO1.out b2
  have HK2 : Hid (Kept _ _) := kept_below (Lib.OthersKept.refl _ _ _) b2
  have HB2 : Hid (Below B w w2) := b2.mono hB
  have HR2 : Hid (World.ownsRow _ _ _ _ _ _ _) := r2
  have HP : Hid _ := hp
  clear r2 hp b2 HO1
  go_wp2_with fail
  go_loopw [0, 10] (fun u i wr => ∃ q : Nat, q ≤ L.length ∧ i = .int .i64 q ∧ wr.ownsRow B 5 1 u (n + ((L.take q).flatMap (keyV d)).length) (xs ++ Lib.byteCells ((L.take q).flatMap (keyV d))) ∧ wr.ownsRow w.heap.size 38 3 (.slice p L.length cap) L.length (flat L) ∧ Kept w wr ∧ Below B w wr) (fun _ i _ => L.length - (intOf i).toNat)
  case atStart => exact ⟨0, Nat.zero_le _, rfl, by simpa [Lib.byteCells] using HO2.out, HR2.out, HK2.out, HB2.out⟩
  case round =>
    obtain ⟨q, hq, rfl, o3, r3, k3, b3⟩ := hrel
    have hz3 := b3.size
    have hjq := HJ.out q
    have HK3 : Hid (Kept _ _) := k3
    have HR3 : Hid (World.ownsRow _ _ _ _ _ _ _) := r3
    clear k3 HO2 HK2 HR2
    by_cases hlt : q < L.length
    · obtain ⟨g, rfl⟩ := HP.out (fun e => by rw [e] at hlt; simp at hlt)
      have R := ReadV.of_own r3
      obtain ⟨x0, x1, x2⟩ := R.cells q hlt
      have hgl := R.lt
      have HFQ : Hid _ := HA.out L[q] (List.getElem_mem _)
      clear R r3
      have hab : Below B wr (wr.alloc (.cells #[.int .i64 L[q].k, .int .i64 L[q].n, .string L[q].t] 38)) := (Below.refl _ _).alloc (by omega) _
      have HAB : Hid _ := hab
      have HKX : Hid (Kept _ _) := kept_alloc wr (.cells #[.int .i64 L[q].k, .int .i64 L[q].n, .string L[q].t] 38)
      have HO4 : Hid (World.ownsRow _ _ _ _ _ _ _) := o3.alloc (.cells #[.int .i64 L[q].k, .int .i64 L[q].n, .string L[q].t] 38)
      have HCAT : Hid (_ = _) := flat_take (keyV d) L q hlt
      clear hab o3
      go_wp2_with fail
      refine (HI.out L[q] B _ _ _ _ HFQ.out HO4.out (by simp; omega) (by omega)).mono ?_
      rintro e w5 ⟨v5, rfl, o5, b5, k5⟩
      have HO5 : Hid (World.ownsRow _ _ _ _ _ _ _) := grow_more HCAT.out o5
      have HR5 : Hid (World.ownsRow _ _ _ _ _ _ _) := owns_kept HR3.out (HKX.out.trans k5) (by decide)
      have HK5 : Hid (Kept _ _) := HK3.out.trans (HKX.out.trans k5)
      have hb5 : Below B w w5 := b3.trans (HAB.out.trans b5)
      clear o5 k5 b5
      go_wp2_with fail
      go_roundw
      case rel => exact ⟨q + 1, by omega, by go_num, HO5.out, HR5.out, HK5.out, hb5⟩
      case measure => simp [intOf]; omega
    · have e : L.take q = L := List.take_of_length_le (by omega)
      rw [e] at o3 hjq
      go_wp2_with (at_builtin; refine app_byte rfl (.tmp 18) (.tmp 19) rfl B _ _ _ 0 _ rfl rfl (by simp) o3 (by omega) (by omega) ?_; intro v4 w4 o4 b4 k4; refine Hid.out ?_)
      refine Lib.hid ?_
      have HO44 : Hid (World.ownsRow _ _ _ _ _ _ _) := grow_cat (a := L.flatMap (keyV d)) (b := [0]) o4
      have HK4 : Hid (Kept _ _) := HK3.out.trans k4
      have hb4 := b3.trans b4
      clear o4 k4 o3 b4
      go_wp2_with fail
      go_ret
      exact GrewT.mk v4 rfl HO44.out hb4 HK4.out

set_option maxRecDepth 4000 in
set_option maxHeartbeats 2000000 in
theorem keyFields_any (d : Nat) (ih : KeyAt d) (L : List Fld) (t : ByteArray) (hi : fields t = some L) (hs : t.size ≤ 300) (hl : L.length ≤ 300) (hall : ∀ f ∈ L, fits d f.v = true ∧ f.name.size ≤ 300) (hj : ∀ k, ((L.take k).flatMap (fieldK (keyV d))).length ≤ 6600)
    (B n : Nat) (sv : Value) (xs : List Value) (w : World) (hown : w.ownsRow B 5 1 sv n xs) (hB : B ≤ w.heap.size) (hn : n + 10000 * d ≤ 90001) :
    Calls Tryz.prog 145 #[sv, .string t] w fun e w' => GrewT B n xs (L.flatMap (fieldK (keyV d)) ++ [0]) w e w' := by
  have HI : Hid (KeyAt d) := ih
  have HF : Hid _ := hi
  have HA : Hid _ := hall
  have HJ : Hid _ := hj
  have HO1 : Hid (World.ownsRow _ _ _ _ _ _ _) := hown
  clear ih hi hall hj hown
  go_enter Tryz.func145, Tryz.ntmps145
  go_wp2_with fail
  refine (fieldsIn_own t L _ (by omega) HF.out).mono ?_
  rintro e w2 ⟨⟨p, cap, rfl, r2, hp⟩, b2⟩
  have HO2 : Hid (World.ownsRow _ _ _ _ _ _ _) := owns_below HO1.out b2
  have HK2 : Hid (Kept _ _) := kept_below (Lib.OthersKept.refl _ _ _) b2
  have HB2 : Hid (Below B w w2) := b2.mono hB
  have HR2 : Hid (World.ownsRow _ _ _ _ _ _ _) := r2
  have HP : Hid _ := hp
  clear r2 hp b2 HO1
  go_wp2_with fail
  go_loopw [0, 10] (fun u i wr => ∃ q : Nat, q ≤ L.length ∧ i = .int .i64 q ∧ wr.ownsRow B 5 1 u (n + ((L.take q).flatMap (fieldK (keyV d))).length) (xs ++ Lib.byteCells ((L.take q).flatMap (fieldK (keyV d)))) ∧ wr.ownsRow w.heap.size 98 4 (.slice p L.length cap) L.length (flatF L) ∧ Kept w wr ∧ Below B w wr) (fun _ i _ => L.length - (intOf i).toNat)
  case atStart => exact ⟨0, Nat.zero_le _, rfl, by simpa [Lib.byteCells] using HO2.out, HR2.out, HK2.out, HB2.out⟩
  case round =>
    obtain ⟨q, hq, rfl, o3, r3, k3, b3⟩ := hrel
    have hz3 := b3.size
    have hjq := HJ.out q
    have HK3 : Hid (Kept _ _) := k3
    have HR3 : Hid (World.ownsRow _ _ _ _ _ _ _) := r3
    clear k3 HO2 HK2 HR2
    by_cases hlt : q < L.length
    · obtain ⟨g, rfl⟩ := HP.out (fun e => by rw [e] at hlt; simp at hlt)
      have R := ReadF.of_own r3
      obtain ⟨x0, x1, x2, x3⟩ := R.cells q hlt
      have hgl := R.lt
      have hfq := HA.out L[q] (List.getElem_mem _)
      have HFQ : Hid _ := hfq.1
      have hnm := hfq.2
      have hnl := toList_length L[q].name
      have htk := txtK_len L[q].name.data.toList
      clear R r3 hfq
      obtain ⟨A, hA⟩ : ∃ A, A = (L.take q).flatMap (fieldK (keyV d)) := ⟨_, rfl⟩
      have hcat0 := flat_take (fieldK (keyV d)) L q hlt
      rw [← hA] at o3 hjq hcat0
      have hcat : (L.take (q + 1)).flatMap (fieldK (keyV d)) = (A ++ [1] ++ txtK L[q].name.data.toList) ++ keyV d L[q].v := by rw [hcat0]; simp [fieldK]
      have HCAT : Hid (_ = _) := hcat
      have HAA : Hid (_ = _) := hA
      obtain ⟨N, hN⟩ : ∃ N, N = txtK L[q].name.data.toList := ⟨_, rfl⟩
      have hNl : N.length ≤ 602 := by rw [hN]; omega
      have HTX := fun (n' : Nat) (sv' : Value) (xs' : List Value) (W : World) (h1 : W.ownsRow B 5 1 sv' n' xs') (h2 : B ≤ W.heap.size) (h3 : n' ≤ 500000) => appTextKey_any L[q].name B n' sv' xs' W h1 h2 h3 (by omega)
      rw [← hN] at HTX hcat
      have HT : Hid _ := HTX
      have HCAT : Hid (_ = _) := hcat
      clear hcat hcat0 hA HTX hN htk
      have hab : Below B wr (wr.alloc (.cells #[.string L[q].name, .int .i64 L[q].v.k, .int .i64 L[q].v.n, .string L[q].v.t] 98)) := (Below.refl _ _).alloc (by omega) _
      have HAB : Hid _ := hab
      have HKX : Hid (Kept _ _) := kept_alloc wr (.cells #[.string L[q].name, .int .i64 L[q].v.k, .int .i64 L[q].v.n, .string L[q].v.t] 98)
      have HO4 : Hid (World.ownsRow _ _ _ _ _ _ _) := o3.alloc (.cells #[.string L[q].name, .int .i64 L[q].v.k, .int .i64 L[q].v.n, .string L[q].v.t] 98)
      clear hab o3
      go_wp2_with (at_builtin; refine app_byte rfl (.tmp 14) (.tmp 15) rfl B _ _ _ 1 _ rfl rfl (by simp) HO4.out (by simp; omega) (by omega) ?_; intro v4 w4 o4 b4 k4; refine Hid.out ?_)
      refine Lib.hid ?_
      have hz4 := b4.size
      have HO44 : Hid (World.ownsRow _ _ _ _ _ _ _) := grow_cat (a := A) (b := [1]) o4
      have HK4 : Hid (Kept _ _) := k4
      have y0 := kept_new k4 (by decide) 0
      simp only [List.getElem?_toArray, List.getElem?_cons_zero] at y0
      have hzz : wr.heap.size < w4.heap.size := by have := hz4; simp at this; omega
      have hl4 : (A ++ [1]).length ≤ 6601 := by rw [List.length_append]; simp only [List.length_cons, List.length_nil]; omega
      clear o4 k4
      go_wp2_with fail
      refine (HT.out _ _ _ _ HO44.out (by omega) (by omega)).mono ?_
      rintro e w5 ⟨v5, rfl, o5, b5, k5⟩
      have hz5 := b5.size
      have HO55 : Hid (World.ownsRow _ _ _ _ _ _ _) := grow_cat (a := A ++ [1]) (b := N) o5
      have hk5 : Kept _ w5 := HK4.out.trans k5
      have y1 := kept_new hk5 (by decide) 1
      have y2 := kept_new hk5 (by decide) 2
      have y3 := kept_new hk5 (by decide) 3
      simp only [List.getElem?_toArray, List.getElem?_cons_zero, List.getElem?_cons_succ] at y1 y2 y3
      have HK5 : Hid (Kept _ _) := hk5
      have hzc : wr.heap.size < w5.heap.size := by omega
      have hl5 : (A ++ [1] ++ N).length ≤ 7300 := by rw [List.length_append]; omega
      have HB5 : Hid (Below _ _ _) := b3.trans (HAB.out.trans (b4.trans b5))
      clear o5 k5 hk5 y0
      go_wp2_with fail
      refine (HI.out L[q].v B _ _ _ _ HFQ.out HO55.out (by omega) (by omega)).mono ?_
      rintro e w7 ⟨v7, rfl, o7, b7, k7⟩
      have HO7 : Hid (World.ownsRow _ _ _ _ _ _ _) := grow_more HCAT.out o7
      have HR7 : Hid (World.ownsRow _ _ _ _ _ _ _) := owns_kept HR3.out (HKX.out.trans (HK5.out.trans k7)) (by decide)
      have HK7 : Hid (Kept _ _) := HK3.out.trans (HKX.out.trans (HK5.out.trans k7))
      have hb7 : Below B w w7 := HB5.out.trans b7
      clear o7 k7 b7
      go_wp2_with fail
      go_roundw
      case rel => exact ⟨q + 1, by omega, by go_num, HO7.out, HR7.out, HK7.out, hb7⟩
      case measure => simp [intOf]; omega
    · have e : L.take q = L := List.take_of_length_le (by omega)
      rw [e] at o3 hjq
      go_wp2_with (at_builtin; refine app_byte rfl (.tmp 26) (.tmp 27) rfl B _ _ _ 0 _ rfl rfl (by simp) o3 (by omega) (by omega) ?_; intro v4 w4 o4 b4 k4; refine Hid.out ?_)
      refine Lib.hid ?_
      have HO44 : Hid (World.ownsRow _ _ _ _ _ _ _) := grow_cat (a := L.flatMap (fieldK (keyV d))) (b := [0]) o4
      have HK4 : Hid (Kept _ _) := HK3.out.trans k4
      have hb4 := b3.trans b4
      clear o4 k4 o3 b4
      go_wp2_with fail
      go_ret
      exact GrewT.mk v4 rfl HO44.out hb4 HK4.out

set_option maxRecDepth 4000 in
set_option maxHeartbeats 1000000 in
theorem key_list (d : Nat) (ih : KeyAt d) (m : Int) (t : ByteArray) (B n : Nat) (sv : Value) (xs : List Value) (w : World) (hf : fits (d + 1) ⟨4, m, t⟩ = true) (hown : w.ownsRow B 5 1 sv n xs) (hB : B ≤ w.heap.size) (hn : n + 10000 * (d + 1) ≤ 100000) :
    Calls Tryz.prog 124 #[sv, .agg #[.int .i64 4, .int .i64 m, .string t]] w fun e w' => GrewT B n xs (5 :: ((itms ⟨4, m, t⟩).flatMap (keyV d) ++ [0])) w e w' := by
  obtain ⟨hs, hi, hl, d', hd, hall⟩ := list_parts (d + 1) ⟨4, m, t⟩ hf rfl
  obtain rfl : d = d' := by omega
  have hjl := list_key_len d ⟨4, m, t⟩ hf rfl
  obtain ⟨L, hL⟩ : ∃ L, L = itms ⟨4, m, t⟩ := ⟨_, rfl⟩
  rw [← hL] at hi hall hl hjl ⊢
  have HC0 := fun (n' : Nat) (sv' : Value) (xs' : List Value) (W : World) (h1 : W.ownsRow B 5 1 sv' n' xs') (h2 : B ≤ W.heap.size) (h3 : n' + 10000 * d ≤ 90001) => keyItems_any d ih L t hi hs hl (fun u hu => (hall u hu).1) hjl B n' sv' xs' W h1 h2 h3
  have HC : Hid _ := HC0
  clear HC0 hi hall hl hjl hf ih hL
  have hbox : Below B w (w.alloc (.cells #[.int .i64 4, .int .i64 m, .string t] 38)) := (Below.refl _ _).alloc hB _
  have HX : Hid (Kept _ _) := kept_alloc w (.cells #[.int .i64 4, .int .i64 m, .string t] 38)
  have HO : Hid (World.ownsRow _ _ _ _ _ _ _) := hown.alloc (.cells #[.int .i64 4, .int .i64 m, .string t] 38)
  clear hown
  go_enter Tryz.func124, Tryz.ntmps124
  go_wp2_with fail
  refine (firstByte_any 4 _ (by omega) (by omega)).mono ?_
  rintro e wf ⟨rfl, rfl⟩
  go_wp2_with (at_builtin; refine app_byte rfl (.tmp 5) (.tmp 9) rfl B n sv xs 5 _ rfl rfl (by simp) HO.out (by simp; omega) (by omega) ?_; intro v1 w1 o1 b1 k1; refine Hid.out ?_)
  refine Lib.hid ?_
  have y0 := kept_new k1 (by decide) 0
  have y1 := kept_new k1 (by decide) 1
  have y2 := kept_new k1 (by decide) 2
  simp only [List.getElem?_toArray, List.getElem?_cons_zero, List.getElem?_cons_succ] at y0 y1 y2
  have hz1 := b1.size
  have hzz : w.heap.size < w1.heap.size := by have := hz1; simp at this; omega
  have O1 : w1.ownsRow B 5 1 v1 (n + ([5] : List UInt8).length) (xs ++ Lib.byteCells [5]) := o1
  have HO1 : Hid (World.ownsRow _ _ _ _ _ _ _) := O1
  have HK1 : Hid (Kept _ _) := HX.out.trans k1
  have hb1 := hbox.trans b1
  clear o1 O1 k1 b1
  go_wp2_with fail
  refine (HC.out _ _ _ _ HO1.out (by omega) (by simp; omega)).mono ?_
  rintro e w2 ⟨v2, rfl, o2, b2, k2⟩
  have HO2 : Hid (World.ownsRow _ _ _ _ _ _ _) := grow_more (a := [5]) (b := L.flatMap (keyV d) ++ [0]) (c := 5 :: (L.flatMap (keyV d) ++ [0])) rfl o2
  have HK2 : Hid (Kept _ _) := HK1.out.trans k2
  have hb2 := hb1.trans b2
  clear o2 k2 b2
  go_wp2_with fail
  go_ret
  exact GrewT.mk v2 rfl HO2.out hb2 HK2.out
set_option maxRecDepth 4000 in
set_option maxHeartbeats 1000000 in
theorem key_doc (d : Nat) (ih : KeyAt d) (m : Int) (t : ByteArray) (B n : Nat) (sv : Value) (xs : List Value) (w : World) (hf : fits (d + 1) ⟨5, m, t⟩ = true) (hown : w.ownsRow B 5 1 sv n xs) (hB : B ≤ w.heap.size) (hn : n + 10000 * (d + 1) ≤ 100000) :
    Calls Tryz.prog 124 #[sv, .agg #[.int .i64 5, .int .i64 m, .string t]] w fun e w' => GrewT B n xs (6 :: ((flds ⟨5, m, t⟩).flatMap (fieldK (keyV d)) ++ [0])) w e w' := by
  obtain ⟨hs, hi, hl, _, d', hd, hall, _⟩ := doc_parts (d + 1) ⟨5, m, t⟩ hf rfl
  obtain rfl : d = d' := by omega
  have hjl := doc_key_len d ⟨5, m, t⟩ hf rfl
  obtain ⟨L, hL⟩ : ∃ L, L = flds ⟨5, m, t⟩ := ⟨_, rfl⟩
  rw [← hL] at hi hall hl hjl ⊢
  have HC0 := fun (n' : Nat) (sv' : Value) (xs' : List Value) (W : World) (h1 : W.ownsRow B 5 1 sv' n' xs') (h2 : B ≤ W.heap.size) (h3 : n' + 10000 * d ≤ 90001) => keyFields_any d ih L t hi hs hl (fun u hu => ⟨(hall u hu).1, (hall u hu).2.2⟩) hjl B n' sv' xs' W h1 h2 h3
  have HC : Hid _ := HC0
  clear HC0 hi hall hl hjl hf ih hL
  have hbox : Below B w (w.alloc (.cells #[.int .i64 5, .int .i64 m, .string t] 38)) := (Below.refl _ _).alloc hB _
  have HX : Hid (Kept _ _) := kept_alloc w (.cells #[.int .i64 5, .int .i64 m, .string t] 38)
  have HO : Hid (World.ownsRow _ _ _ _ _ _ _) := hown.alloc (.cells #[.int .i64 5, .int .i64 m, .string t] 38)
  clear hown
  go_enter Tryz.func124, Tryz.ntmps124
  go_wp2_with fail
  refine (firstByte_any 5 _ (by omega) (by omega)).mono ?_
  rintro e wf ⟨rfl, rfl⟩
  go_wp2_with (at_builtin; refine app_byte rfl (.tmp 5) (.tmp 9) rfl B n sv xs 6 _ rfl rfl (by simp) HO.out (by simp; omega) (by omega) ?_; intro v1 w1 o1 b1 k1; refine Hid.out ?_)
  refine Lib.hid ?_
  have y0 := kept_new k1 (by decide) 0
  have y1 := kept_new k1 (by decide) 1
  have y2 := kept_new k1 (by decide) 2
  simp only [List.getElem?_toArray, List.getElem?_cons_zero, List.getElem?_cons_succ] at y0 y1 y2
  have hz1 := b1.size
  have hzz : w.heap.size < w1.heap.size := by have := hz1; simp at this; omega
  have O1 : w1.ownsRow B 5 1 v1 (n + ([6] : List UInt8).length) (xs ++ Lib.byteCells [6]) := o1
  have HO1 : Hid (World.ownsRow _ _ _ _ _ _ _) := O1
  have HK1 : Hid (Kept _ _) := HX.out.trans k1
  have hb1 := hbox.trans b1
  clear o1 O1 k1 b1
  go_wp2_with fail
  refine (HC.out _ _ _ _ HO1.out (by omega) (by simp; omega)).mono ?_
  rintro e w2 ⟨v2, rfl, o2, b2, k2⟩
  have HO2 : Hid (World.ownsRow _ _ _ _ _ _ _) := grow_more (a := [6]) (b := L.flatMap (fieldK (keyV d)) ++ [0]) (c := 6 :: (L.flatMap (fieldK (keyV d)) ++ [0])) rfl o2
  have HK2 : Hid (Kept _ _) := HK1.out.trans k2
  have hb2 := hb1.trans b2
  clear o2 k2 b2
  go_wp2_with fail
  go_ret
  exact GrewT.mk v2 rfl HO2.out hb2 HK2.out
theorem key_at : ∀ d : Nat, KeyAt d
  | 0 => fun v B n sv xs w hf hown hB hn => key_base v hf B n sv xs w hown hB (by omega)
  | d + 1 => by
    have ih := key_at d
    intro v B n sv xs w hf hown hB hn
    by_cases h4 : v.k = 4
    · rw [keyV_list d v h4]
      obtain ⟨k, m, t⟩ := v
      have h4' : k = 4 := h4
      subst h4'
      exact key_list d ih m t B n sv xs w hf hown hB hn
    · by_cases h5 : v.k = 5
      · rw [keyV_doc d v h5]
        obtain ⟨k, m, t⟩ := v
        have h5' : k = 5 := h5
        subst h5'
        exact key_doc d ih m t B n sv xs w hf hown hB hn
      · rw [keyV_base (d + 1) v h4 h5]
        rw [fits_base (d + 1) v h4 h5] at hf
        exact key_base v hf B n sv xs w hown hB (by omega)

end Go.Proofs.YtdchhjnmhnehiaaGreatDoor

/- What the two functions that tell a value's key answer, for every value. -/
namespace Go.Proofs.YtdchhjnmhnehiaaGreatDoor
open Go.RowKit
set_option linter.unusedVariables false

theorem key_size (v : Val) (h : fits 5 v = true) : (mkB (keyV 5 v)).size ≤ 6622 := by
  rw [mkB_size]
  have h1 := keyV_len 5 v h
  have h2 : v.t.size ≤ 300 := by
    have h3 : okB v = true := h
    rcases Nat.lt_or_ge 300 v.t.size with h' | h'
    · rw [ok_big v h'] at h3; cases h3
    · exact h'
  omega
set_option maxRecDepth 4000 in
set_option maxHeartbeats 1000000 in
theorem l04Key_any (v : Val) (desc : Bool) (w : World) (h : fits 5 v = true) :
    Calls Tryz.prog 71 #[.agg #[.int .i64 v.k, .int .i64 v.n, .string v.t], .bool desc] w fun e w' => e = .returned (.string (mkB (dirK desc (keyV 5 v)))) ∧ Below w.heap.size w w' := by
  have X0 := Boxed.start w (.int .i64 v.k) (.int .i64 v.n) (.string v.t) 38
  have HR : Hid (∀ W : World, Calls _ _ _ W _) := fun W => raw_at 5 v W h
  have hT := fun W : World => l04Turn_any (mkB (keyV 5 v)) W (by have := key_size v h; omega)
  rw [mkB_data] at hT
  have HT : Hid (∀ W : World, Calls _ _ _ W _) := hT
  clear hT
  cases desc
  · show Calls _ _ _ _ fun e w' => e = .returned (.string (mkB (keyV 5 v))) ∧ Below w.heap.size w w'
    go_enter Tryz.func71, Tryz.ntmps71
    go_wp2_with (go_at_call 100; refine (HR.out _).mono ?_; rintro e w1 ⟨rfl, hb⟩; have X := Boxed.step (by assumption) hb; have g0 := X.c0; have g1 := X.c1; have g2 := X.c2; clear hb)
    go_ret
    exact ⟨rfl, X.bel⟩
  · show Calls _ _ _ _ fun e w' => e = .returned (.string (mkB (turnL (keyV 5 v)))) ∧ Below w.heap.size w w'
    go_enter Tryz.func71, Tryz.ntmps71
    go_wp2_with (first | (go_at_call 100; refine (HR.out _).mono ?_; rintro e w1 ⟨rfl, hb⟩; have X := Boxed.step (by assumption) hb; have g0 := X.c0; have g1 := X.c1; have g2 := X.c2; clear hb) | (go_at_call 99; refine (HT.out _).mono ?_; rintro e w2 ⟨rfl, hb⟩; have X := Boxed.step (by assumption) hb; have g0 := X.c0; have g1 := X.c1; have g2 := X.c2; clear hb))
    go_ret
    exact ⟨rfl, X.bel⟩
/-- The first q bytes the other way round, the others as they were. -/
def turnQ (l : List UInt8) (q : Nat) : List UInt8 := turnL (l.take q) ++ l.drop q
theorem turnQ_zero (l : List UInt8) : turnQ l 0 = l := by simp [turnQ, turnL]
theorem turnQ_all (l : List UInt8) : turnQ l l.length = turnL l := by simp [turnQ]
theorem turnQ_len (l : List UInt8) (q : Nat) (h : q ≤ l.length) : (turnQ l q).length = l.length := by
  unfold turnQ; rw [List.length_append, turnL_len, List.length_take, List.length_drop]; omega
theorem turnQ_get (l : List UInt8) (q : Nat) (h : q < l.length) : (Lib.byteCells (turnQ l q))[q]? = some (.int .u8 (l[q].toNat : Nat)) := by
  unfold turnQ Lib.byteCells
  have hl : (turnL (l.take q)).length = q := by rw [turnL_len, List.length_take]; omega
  rw [List.map_append, List.getElem?_append_right (by simp [hl]), List.length_map, hl, Nat.sub_self, List.drop_eq_getElem_cons h]
  rfl
theorem turnQ_set (l : List UInt8) (q : Nat) (h : q < l.length) : (Lib.byteCells (turnQ l q)).set q (.int .u8 (255 - ((l[q].toNat : Nat) : Int))) = Lib.byteCells (turnQ l (q + 1)) := by
  have hl : (turnL (l.take q)).length = q := by rw [turnL_len, List.length_take]; omega
  unfold turnQ Lib.byteCells
  rw [List.map_append, List.set_append_right _ _ (by simp [hl]), List.length_map, hl, Nat.sub_self, List.drop_eq_getElem_cons h]
  have e : turnL (l.take (q + 1)) = turnL (l.take q) ++ [255 - l[q]] := by unfold turnL; rw [List.take_succ_eq_append_getElem h, List.map_append]; rfl
  rw [e, List.map_append, List.map_append, List.append_assoc]
  congr 1
  rw [List.map_cons, List.set_cons_zero, ← turn_nat]
  rfl
set_option maxRecDepth 4000 in
set_option maxHeartbeats 1000000 in
theorem directed_any (g cap B : Nat) (l : List UInt8) (desc : Bool) (w : World) (hown : w.ownsRow B 5 1 (.slice (some ⟨g, 0, none⟩) l.length cap) l.length (Lib.byteCells l)) (hB : B ≤ w.heap.size) (hlen : l.length ≤ 100000) :
    Calls Tryz.prog 123 #[.slice (some ⟨g, 0, none⟩) l.length cap, .bool desc] w fun e w' => e = .returned (.string (mkB (dirK desc l))) ∧ Below B w w' := by
  cases desc
  · show Calls _ _ _ _ fun e w' => e = .returned (.string (mkB l)) ∧ Below B w w'
    have hcv := convT w _ l _ hown
    clear hown
    go_enter Tryz.func123, Tryz.ntmps123
    go_wp2_with fail
    go_ret
    exact ⟨rfl, Below.refl _ _⟩
  · show Calls _ _ _ _ fun e w' => e = .returned (.string (mkB (turnL l))) ∧ Below B w w'
    have HO : Hid (World.ownsRow _ _ _ _ _ _ _) := hown
    have hBg := (hown.lt g rfl).1
    clear hown
    go_enter Tryz.func123, Tryz.ntmps123
    go_wp2_with fail
    go_loopw [9] (fun i wr => ∃ q : Nat, q ≤ l.length ∧ i = .int .i64 q ∧ wr.ownsRow B 5 1 (.slice (some ⟨g, 0, none⟩) l.length cap) l.length (Lib.byteCells (turnQ l q)) ∧ w.grownBy wr (some g)) (fun i _ => l.length - (intOf i).toNat)
    case atStart => exact ⟨0, Nat.zero_le _, rfl, by rw [turnQ_zero]; exact HO.out, World.grownBy.refl _ _⟩
    case round =>
      obtain ⟨q, hq, rfl, hown, hgr⟩ := hrel
      by_cases hlt : q < l.length
      · have c2 : wr.cell? ⟨g, q, none⟩ = some (.int .u8 (l[q].toNat : Nat)) := by
          rw [World.ownsRow.cellAt hown q (by omega)]; exact turnQ_get l q hlt
        have f2 := World.ownsRow.frozenAt hown q
        have hst := World.ownsRow.stored hown q (.int .u8 (255 - ((l[q].toNat : Nat) : Int)))
        rw [turnQ_set l q hlt] at hst
        have hc := l[q].toNat_lt
        have hw : IntKind.u8.wrap (255 - ((l[q].toNat : Nat) : Int)) = 255 - ((l[q].toNat : Nat) : Int) := by simp only [IntKind.wrap, IntKind.bits, IntKind.signed]; simp; omega
        have HS : Hid _ := hst.1
        have HG : Hid _ := hgr.trans hst.2
        clear hst hown hgr
        go_wp2_with fail
        go_roundw
        case rel => exact ⟨q + 1, by omega, by go_num, HS.out, HG.out⟩
        case measure => simp [intOf]; omega
      · obtain rfl : q = l.length := by omega
        rw [turnQ_all] at hown
        have hown' : wr.ownsRow B 5 1 (.slice (some ⟨g, 0, none⟩) l.length cap) (turnL l).length (Lib.byteCells (turnL l)) := by rw [turnL_len]; exact hown
        have hcv := convT wr _ (turnL l) _ hown'
        clear hown hown'
        go_wp2_with fail
        go_ret
        exact ⟨rfl, Below.grown (Below.refl _ _) hgr hB (fun j hj => by injection hj with hj; omega)⟩

theorem keyV_ne (d : Nat) (v : Val) : keyV d v ≠ [] := by
  cases d with
  | zero => simp [keyV, baseK]
  | succ d => rw [keyV]; split; simp; split; simp; simp [baseK]
set_option maxRecDepth 4000 in
set_option maxHeartbeats 1000000 in
theorem keyOf_any (v : Val) (desc : Bool) (w : World) (h : fits 5 v = true) :
    Calls Tryz.prog 97 #[.agg #[.int .i64 v.k, .int .i64 v.n, .string v.t], .bool desc] w fun e w' => e = .returned (.string (mkB (dirK desc (keyV 5 v)))) ∧ Below w.heap.size w w' := by
  have X0 := Boxed.start w (.int .i64 v.k) (.int .i64 v.n) (.string v.t) 38
  have hz := key_size v h
  rw [mkB_size] at hz
  have HF : Hid _ := h
  clear h
  go_enter Tryz.func97, Tryz.ntmps97
  go_wp2_with fail
  refine (key_at 5 v w.heap.size 0 _ [] _ HF.out (World.ownsRow_nil _ _ _ _) (by simp) (by omega)).mono ?_
  rintro e w2 ⟨v2, rfl, o2, b2, k2⟩
  rw [Nat.zero_add, List.nil_append] at o2
  have hbw := ((Below.refl w.heap.size w).alloc (Nat.le_refl _) (.cells #[.int .i64 v.k, .int .i64 v.n, .string v.t] 38)).trans b2
  have hz2 := hbw.size
  obtain ⟨g, cap, rfl⟩ : ∃ g cap, v2 = .slice (some ⟨g, 0, none⟩) (keyV 5 v).length cap := by
    rcases o2.2 with ⟨_, h0⟩ | ⟨g, cap, cur, h1, _⟩
    · exact absurd (List.eq_nil_of_length_eq_zero h0) (keyV_ne 5 v)
    · exact ⟨g, cap, h1⟩
  have HO : Hid (World.ownsRow _ _ _ _ _ _ _) := o2
  clear o2 k2 b2 X0
  go_wp2_with fail
  refine (directed_any g cap w.heap.size (keyV 5 v) desc _ HO.out hz2 (by omega)).mono ?_
  rintro e w3 ⟨rfl, hb⟩
  go_wp2_with fail
  go_ret
  exact ⟨rfl, hbw.trans hb⟩
end Go.Proofs.YtdchhjnmhnehiaaGreatDoor
