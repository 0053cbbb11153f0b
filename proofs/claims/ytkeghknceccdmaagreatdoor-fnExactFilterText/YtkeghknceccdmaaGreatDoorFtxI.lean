/- What the program's writing of a clause as a text answers (whole). -/
import Derived.Test.YtkeghknceccdmaaGreatDoorTextK
import Derived.Test.YtkeghknceccdmaaGreatDoorFtxM
import Derived.Test.YtkeghknceccdmaaGreatDoorRowC
namespace Go.Proofs.YtkeghknceccdmaaGreatDoor
open Go.RowKit
set_option linter.unusedVariables false

theorem tmB_parts (op : Int) (p : ByteArray) (c : Val) (h : termB op p c = true) : p.size ≤ 50 ∧ okB c = true ∧ (1 ≤ op ∧ op ≤ 10) ∧ (op = 7 → c.k = 4) := by
  unfold termB at h
  rw [Bool.and_eq_true, Bool.and_eq_true] at h
  obtain ⟨hp, hc, ht⟩ := h
  refine ⟨?_, hc, ?_, ?_⟩
  · rcases Nat.lt_or_ge 50 p.size with h' | h'
    · rw [pathB_long p h'] at hp; cases hp
    · exact h'
  · unfold takesT at ht
    by_cases h1 : 1 ≤ op ∧ op ≤ 10
    · exact h1
    · rw [if_neg (by omega), if_neg (by omega), if_neg (by omega), if_neg (by omega), if_neg (by omega)] at ht; cases ht
  · intro h7
    subst h7
    unfold takesT at ht
    simpa using ht
/-- The words of a term's operators, laid where the program keeps them. -/
structure Wds (B : Nat) (w : World) : Prop where
  lt : 0 < B
  cell : ∀ k, k < 11 → w.cell? ⟨0, k, none⟩ = some (.string (words.getD k em))
theorem Wds.on {B : Nat} {w w' : World} (h : Wds B w) (hb : Below B w w') : Wds B w' := ⟨h.lt, fun k hk => (hb.cell h.lt).trans (h.cell k hk)⟩
/-- The text of a clause's first terms, as bytes. -/
def clT (l : List Trm) (q : Nat) : List UInt8 := (joinB ⟨#[32, 97, 110, 100, 32]⟩ ((l.map textTm).take q)).data.toList
theorem app_data (a b : ByteArray) : (a ++ b).data.toList = a.data.toList ++ b.data.toList := by simp
theorem tm_data (t : Trm) (k : Nat) (hk : t.op = (k : Int)) : (textTm t).data.toList = t.p.data.toList ++ [32] ++ (words.getD k em).data.toList ++ [32] ++ textV 5 t.c := by
  unfold textTm
  rw [app_data, app_data, app_data, app_data, mkB_data, hk]
  rfl
theorem clT_zero (l : List Trm) : clT l 0 = [] := by unfold clT; rw [List.take_zero]; rfl
theorem clT_all (l : List Trm) : clT l l.length = (textCl l).data.toList := by unfold clT textCl; rw [List.take_of_length_le (by simp)]
theorem clT_first (l : List Trm) (hlt : 0 < l.length) (t : Trm) (ht : t = l[0]) (k : Nat) (hk : t.op = (k : Int)) :
    clT l (0 + 1) = ((((clT l 0 ++ t.p.data.toList) ++ ([32] : List UInt8)) ++ (words.getD k em).data.toList) ++ ([32] : List UInt8)) ++ textV 5 t.c := by
  rw [clT_zero]
  unfold clT
  rw [joinB_take0 _ _ (by simpa using hlt), app_data]
  simp only [List.getElem_map]
  rw [← ht, tm_data t k hk]
  simp [em]
theorem clT_next (l : List Trm) (q : Nat) (hlt : q < l.length) (hq : 0 < q) (t : Trm) (ht : t = l[q]) (k : Nat) (hk : t.op = (k : Int)) :
    clT l (q + 1) = (((((clT l q ++ ([32, 97, 110, 100, 32] : List UInt8)) ++ t.p.data.toList) ++ ([32] : List UInt8)) ++ (words.getD k em).data.toList) ++ ([32] : List UInt8)) ++ textV 5 t.c := by
  unfold clT
  rw [joinB_take _ _ q (by simpa using hlt) hq, app_data, app_data]
  simp only [List.getElem_map]
  rw [← ht, tm_data t k hk]
  simp
theorem clT_len (l : List Trm) (h : clauseB l = true) (q : Nat) : (clT l q).length ≤ 26840 := by
  unfold clT; rw [toList_length]; exact textCl_len l h q

set_option maxRecDepth 8000 in
set_option maxHeartbeats 8000000 in
theorem appClause_any (l : List Trm) (hl : clauseB l = true) (p : Option Addr) (cap : Nat) (B n : Nat) (sv : Value) (xs : List Value) (w : World) (hown : w.ownsRow B 5 1 sv n xs) (hB : B ≤ w.heap.size) (hn : n ≤ 100000)
    (hr : RowT w p l) (htab : Tab B w) (hwd : Wds B w) (hp : ∀ g, p = some ⟨g, 0, none⟩ → l ≠ [] → g < B) :
    Calls Tryz.prog 71 #[sv, .agg #[.slice p l.length cap]] w fun e w' => GrewT B n xs (textCl l).data.toList w e w' := by
  have HT : Hid (Tab _ _) := htab
  have HL : Hid (clauseB l = true) := hl
  have HP : Hid _ := hp
  have HR : Hid (RowT _ _ _) := hr
  have hll : l.length ≤ 4 := by unfold clauseB at hl; simp at hl; exact hl.1
  have hab0 : Below B w (w.alloc (.cells #[.slice p l.length cap] 109)) := (Below.refl _ _).alloc hB _
  have HO1 : Hid (World.ownsRow _ _ _ _ _ _ _) := hown.alloc (.cells #[.slice p l.length cap] 109)
  have HK1 : Hid (Kept _ _) := kept_alloc w (.cells #[.slice p l.length cap] 109)
  have HB1 : Hid (Below _ _ _) := hab0
  clear htab hl hp hr hown hab0
  go_enter Tryz.func71, Tryz.ntmps71
  go_wp2_with fail
  generalize w.alloc (.cells #[.slice p l.length cap] 109) = W1 at HO1 HK1 HB1 ⊢
  go_loopw [0, 10] (fun u i wr => ∃ q : Nat, q ≤ l.length ∧ i = .int .i64 q ∧ wr.ownsRow B 5 1 u (n + (clT l q).length) (xs ++ Lib.byteCells (clT l q)) ∧ Kept w wr ∧ Below B w wr) (fun _ i _ => l.length - (intOf i).toNat)
  case atStart => exact ⟨0, Nat.zero_le _, rfl, by rw [clT_zero]; simpa [Lib.byteCells] using HO1.out, HK1.out, HB1.out⟩
  case round =>
    obtain ⟨q, hq, rfl, o3, k3, b3⟩ := hrel
    have hz3 := b3.size
    have hlq := clT_len l HL.out q
    have HK3 : Hid (Kept _ _) := k3
    clear k3 HO1 HK1 HB1
    by_cases hlt : q < l.length
    · obtain ⟨g, hg, R0⟩ : ∃ g, p = some ⟨g, 0, none⟩ ∧ ReadT w g l := by
        rcases HR.out with h | h
        · rw [h] at hlt; simp at hlt
        · exact h
      have R := R0.step b3 (HP.out g hg (fun e => by rw [e] at hlt; simp at hlt))
      subst hg
      obtain ⟨x0, x1, x2, x3, x4⟩ := R.cells q hlt
      have hgl := R.lt
      obtain ⟨t, ht⟩ : ∃ t, t = l[q] := ⟨_, rfl⟩
      have hok : okT t = true := by
        have h := HL.out
        unfold clauseB at h; simp at h
        rw [ht]; exact h.2 _ (List.getElem_mem _)
      rw [← ht] at x0 x1 x2 x3 x4
      obtain ⟨hps, htc, hop, _⟩ := tmB_parts t.op t.p t.c hok
      obtain ⟨k, hk⟩ : ∃ k : Nat, t.op = (k : Int) := ⟨t.op.toNat, by omega⟩
      rw [hk] at x0 hop
      have hk11 : k < 11 := by omega
      have hi1 : decide ((k : Int) < 0) = false := decide_eq_false (by omega)
      have hi2 : decide ((11 : Int) ≤ (k : Int)) = false := decide_eq_false (by omega)
      have hwl := word_len k
      have HTC : Hid (okB t.c = true) := htc
      clear R R0 hok htc
      have hab : Below B wr (wr.alloc (.cells #[.int .i64 (k : Int), .string t.p, .int .i64 t.c.k, .int .i64 t.c.n, .string t.c.t] 34)) := (Below.refl _ _).alloc (by omega) _
      have HO4 : Hid (World.ownsRow _ _ _ _ _ _ _) := o3.alloc (.cells #[.int .i64 (k : Int), .string t.p, .int .i64 t.c.k, .int .i64 t.c.n, .string t.c.t] 34)
      have HKX : Hid (Kept _ _) := kept_alloc wr (.cells #[.int .i64 (k : Int), .string t.p, .int .i64 t.c.k, .int .i64 t.c.n, .string t.c.t] 34)
      have HAB : Hid (Below _ _ _) := hab
      clear hab o3
      by_cases hq0 : q = 0
      · subst hq0
        have hnq : ¬ (0 : Int) < 0 := by omega
        have HCAT : Hid (_ = _) := clT_first l hlt t ht k hk
        clear ht hk
        go_wp2_with (at_builtin; refine app_str rfl (.tmp 19) (.tmp 21) rfl B _ _ _ t.p rfl rfl HO4.out (by simp; omega) (by omega) (by omega) ?_; intro v1 w1 o1 b1 k1; refine Hid.out ?_)
        refine Lib.hid ?_
        have p1 : w1.ownsRow B 5 1 v1 (n + (clT l 0 ++ t.p.data.toList).length) (xs ++ Lib.byteCells (clT l 0 ++ t.p.data.toList)) := grow_cat (by rw [show (t.p.data.toList : List UInt8).length = (t.p : ByteArray).size from (by first | exact toList_length _ | rfl)]; exact o1)
        have OW1 : Hid (World.ownsRow _ _ _ _ _ _ _) := p1
        have le1 : (clT l 0 ++ t.p.data.toList).length ≤ 30100 := by rw [List.length_append]; have hl : (t.p.data.toList : List UInt8).length ≤ 60 := (by rw [toList_length]; omega); omega
        have z1 := b1.size
        have zz1 : wr.heap.size < w1.heap.size := by have := z1; simp at this; omega
        have KK1 : Hid (Kept (wr.alloc (.cells #[.int .i64 (k : Int), .string t.p, .int .i64 t.c.k, .int .i64 t.c.n, .string t.c.t] 34)) w1) := k1
        have BB1 : Hid (Below B w w1) := (b3.trans HAB.out).trans b1
        have WD1 := (hwd.on BB1.out).cell k hk11
        have y1_0 := kept_new KK1.out (by decide) 0
        have y1_1 := kept_new KK1.out (by decide) 1
        have y1_2 := kept_new KK1.out (by decide) 2
        have y1_3 := kept_new KK1.out (by decide) 3
        have y1_4 := kept_new KK1.out (by decide) 4
        simp only [List.getElem?_toArray, List.getElem?_cons_zero, List.getElem?_cons_succ] at y1_0 y1_1 y1_2 y1_3 y1_4
        clear o1 p1 k1 b1
        go_wp2_with (at_builtin; refine app_byte rfl (.tmp 23) (.tmp 24) rfl B _ _ _ 32 _ rfl rfl (by simp) OW1.out (by omega) (by omega) ?_; intro v2 w2 o2 b2 k2; refine Hid.out ?_)
        refine Lib.hid ?_
        have p2 : w2.ownsRow B 5 1 v2 (n + ((clT l 0 ++ t.p.data.toList) ++ ([32] : List UInt8)).length) (xs ++ Lib.byteCells ((clT l 0 ++ t.p.data.toList) ++ ([32] : List UInt8))) := grow_cat (b := ([32] : List UInt8)) o2
        have OW2 : Hid (World.ownsRow _ _ _ _ _ _ _) := p2
        have le2 : ((clT l 0 ++ t.p.data.toList) ++ ([32] : List UInt8)).length ≤ 30200 := by rw [List.length_append]; have hl : (([32] : List UInt8) : List UInt8).length ≤ 60 := (by decide); omega
        have z2 := b2.size
        have zz2 : wr.heap.size < w2.heap.size := by omega
        have KK2 : Hid (Kept (wr.alloc (.cells #[.int .i64 (k : Int), .string t.p, .int .i64 t.c.k, .int .i64 t.c.n, .string t.c.t] 34)) w2) := KK1.out.trans k2
        have BB2 : Hid (Below B w w2) := BB1.out.trans b2
        have WD2 := (hwd.on BB2.out).cell k hk11
        have y2_0 := kept_new KK2.out (by decide) 0
        have y2_1 := kept_new KK2.out (by decide) 1
        have y2_2 := kept_new KK2.out (by decide) 2
        have y2_3 := kept_new KK2.out (by decide) 3
        have y2_4 := kept_new KK2.out (by decide) 4
        simp only [List.getElem?_toArray, List.getElem?_cons_zero, List.getElem?_cons_succ] at y2_0 y2_1 y2_2 y2_3 y2_4
        clear o2 p2 k2 b2 WD1 y1_0 y1_1 y1_2 y1_3 y1_4
        go_wp2_with (at_builtin; refine app_str rfl (.tmp 26) (.tmp 30) rfl B _ _ _ (words.getD k em) rfl rfl OW2.out (by omega) (by omega) (by omega) ?_; intro v3 w3 o3 b3 k3; refine Hid.out ?_)
        refine Lib.hid ?_
        have p3 : w3.ownsRow B 5 1 v3 (n + (((clT l 0 ++ t.p.data.toList) ++ ([32] : List UInt8)) ++ (words.getD k em).data.toList).length) (xs ++ Lib.byteCells (((clT l 0 ++ t.p.data.toList) ++ ([32] : List UInt8)) ++ (words.getD k em).data.toList)) := grow_cat (by rw [show ((words.getD k em).data.toList : List UInt8).length = ((words.getD k em) : ByteArray).size from (by first | exact toList_length _ | rfl)]; exact o3)
        have OW3 : Hid (World.ownsRow _ _ _ _ _ _ _) := p3
        have le3 : (((clT l 0 ++ t.p.data.toList) ++ ([32] : List UInt8)) ++ (words.getD k em).data.toList).length ≤ 30300 := by rw [List.length_append]; have hl : ((words.getD k em).data.toList : List UInt8).length ≤ 60 := (by rw [toList_length]; omega); omega
        have z3 := b3.size
        have zz3 : wr.heap.size < w3.heap.size := by omega
        have KK3 : Hid (Kept (wr.alloc (.cells #[.int .i64 (k : Int), .string t.p, .int .i64 t.c.k, .int .i64 t.c.n, .string t.c.t] 34)) w3) := KK2.out.trans k3
        have BB3 : Hid (Below B w w3) := BB2.out.trans b3
        have WD3 := (hwd.on BB3.out).cell k hk11
        have y3_0 := kept_new KK3.out (by decide) 0
        have y3_1 := kept_new KK3.out (by decide) 1
        have y3_2 := kept_new KK3.out (by decide) 2
        have y3_3 := kept_new KK3.out (by decide) 3
        have y3_4 := kept_new KK3.out (by decide) 4
        simp only [List.getElem?_toArray, List.getElem?_cons_zero, List.getElem?_cons_succ] at y3_0 y3_1 y3_2 y3_3 y3_4
        clear o3 p3 k3 b3 WD2 y2_0 y2_1 y2_2 y2_3 y2_4
        go_wp2_with (at_builtin; refine app_byte rfl (.tmp 32) (.tmp 33) rfl B _ _ _ 32 _ rfl rfl (by simp) OW3.out (by omega) (by omega) ?_; intro v4 w4 o4 b4 k4; refine Hid.out ?_)
        refine Lib.hid ?_
        have p4 : w4.ownsRow B 5 1 v4 (n + ((((clT l 0 ++ t.p.data.toList) ++ ([32] : List UInt8)) ++ (words.getD k em).data.toList) ++ ([32] : List UInt8)).length) (xs ++ Lib.byteCells ((((clT l 0 ++ t.p.data.toList) ++ ([32] : List UInt8)) ++ (words.getD k em).data.toList) ++ ([32] : List UInt8))) := grow_cat (b := ([32] : List UInt8)) o4
        have OW4 : Hid (World.ownsRow _ _ _ _ _ _ _) := p4
        have le4 : ((((clT l 0 ++ t.p.data.toList) ++ ([32] : List UInt8)) ++ (words.getD k em).data.toList) ++ ([32] : List UInt8)).length ≤ 30400 := by rw [List.length_append]; have hl : (([32] : List UInt8) : List UInt8).length ≤ 60 := (by decide); omega
        have z4 := b4.size
        have zz4 : wr.heap.size < w4.heap.size := by omega
        have KK4 : Hid (Kept (wr.alloc (.cells #[.int .i64 (k : Int), .string t.p, .int .i64 t.c.k, .int .i64 t.c.n, .string t.c.t] 34)) w4) := KK3.out.trans k4
        have BB4 : Hid (Below B w w4) := BB3.out.trans b4
        have WD4 := (hwd.on BB4.out).cell k hk11
        have y4_0 := kept_new KK4.out (by decide) 0
        have y4_1 := kept_new KK4.out (by decide) 1
        have y4_2 := kept_new KK4.out (by decide) 2
        have y4_3 := kept_new KK4.out (by decide) 3
        have y4_4 := kept_new KK4.out (by decide) 4
        simp only [List.getElem?_toArray, List.getElem?_cons_zero, List.getElem?_cons_succ] at y4_0 y4_1 y4_2 y4_3 y4_4
        clear o4 p4 k4 b4 WD3 y3_0 y3_1 y3_2 y3_3 y3_4
        go_wp2_with fail
        refine (app_at 5 t.c B _ _ _ _ HTC.out OW4.out (by omega) (by omega) (Lib.TabBelow.on HT.out BB4.out)).mono ?_
        rintro e w7 ⟨v7, rfl, o7, b7, k7⟩
        have HO7 : Hid (World.ownsRow _ _ _ _ _ _ _) := grow_more HCAT.out o7
        have HK7 : Hid (Kept _ _) := HK3.out.trans (HKX.out.trans (KK4.out.trans k7))
        have hb7 : Below B w w7 := BB4.out.trans b7
        clear o7 k7 b7 WD4 y4_0 y4_1 y4_2 y4_3 y4_4
        go_wp2_with fail
        go_roundw
        case rel => exact ⟨0 + 1, by omega, by go_num, HO7.out, HK7.out, hb7⟩
        case measure => simp [intOf]; omega
      · have hq1 : 0 < q := by omega
        have hqi : (0 : Int) < (q : Int) := by omega
        have HCAT : Hid (_ = _) := clT_next l q hlt hq1 t ht k hk
        clear ht hk
        go_wp2_with (at_builtin; refine app_str rfl (.tmp 17) (.const (.string ⟨#[32, 97, 110, 100, 32]⟩)) rfl B _ _ _ ⟨#[32, 97, 110, 100, 32]⟩ rfl rfl HO4.out (by simp; omega) (by omega) (by decide) ?_; intro v1 w1 o1 b1 k1; refine Hid.out ?_)
        refine Lib.hid ?_
        have p1 : w1.ownsRow B 5 1 v1 (n + (clT l q ++ ([32, 97, 110, 100, 32] : List UInt8)).length) (xs ++ Lib.byteCells (clT l q ++ ([32, 97, 110, 100, 32] : List UInt8))) := grow_cat (by rw [show (([32, 97, 110, 100, 32] : List UInt8) : List UInt8).length = (⟨#[32, 97, 110, 100, 32]⟩ : ByteArray).size from (by first | exact toList_length _ | rfl)]; exact o1)
        have OW1 : Hid (World.ownsRow _ _ _ _ _ _ _) := p1
        have le1 : (clT l q ++ ([32, 97, 110, 100, 32] : List UInt8)).length ≤ 30100 := by rw [List.length_append]; have hl : (([32, 97, 110, 100, 32] : List UInt8) : List UInt8).length ≤ 60 := (by decide); omega
        have z1 := b1.size
        have zz1 : wr.heap.size < w1.heap.size := by have := z1; simp at this; omega
        have KK1 : Hid (Kept (wr.alloc (.cells #[.int .i64 (k : Int), .string t.p, .int .i64 t.c.k, .int .i64 t.c.n, .string t.c.t] 34)) w1) := k1
        have BB1 : Hid (Below B w w1) := (b3.trans HAB.out).trans b1
        have WD1 := (hwd.on BB1.out).cell k hk11
        have y1_0 := kept_new KK1.out (by decide) 0
        have y1_1 := kept_new KK1.out (by decide) 1
        have y1_2 := kept_new KK1.out (by decide) 2
        have y1_3 := kept_new KK1.out (by decide) 3
        have y1_4 := kept_new KK1.out (by decide) 4
        simp only [List.getElem?_toArray, List.getElem?_cons_zero, List.getElem?_cons_succ] at y1_0 y1_1 y1_2 y1_3 y1_4
        clear o1 p1 k1 b1
        go_wp2_with (at_builtin; refine app_str rfl (.tmp 19) (.tmp 21) rfl B _ _ _ t.p rfl rfl OW1.out (by omega) (by omega) (by omega) ?_; intro v2 w2 o2 b2 k2; refine Hid.out ?_)
        refine Lib.hid ?_
        have p2 : w2.ownsRow B 5 1 v2 (n + ((clT l q ++ ([32, 97, 110, 100, 32] : List UInt8)) ++ t.p.data.toList).length) (xs ++ Lib.byteCells ((clT l q ++ ([32, 97, 110, 100, 32] : List UInt8)) ++ t.p.data.toList)) := grow_cat (by rw [show (t.p.data.toList : List UInt8).length = (t.p : ByteArray).size from (by first | exact toList_length _ | rfl)]; exact o2)
        have OW2 : Hid (World.ownsRow _ _ _ _ _ _ _) := p2
        have le2 : ((clT l q ++ ([32, 97, 110, 100, 32] : List UInt8)) ++ t.p.data.toList).length ≤ 30200 := by rw [List.length_append]; have hl : (t.p.data.toList : List UInt8).length ≤ 60 := (by rw [toList_length]; omega); omega
        have z2 := b2.size
        have zz2 : wr.heap.size < w2.heap.size := by omega
        have KK2 : Hid (Kept (wr.alloc (.cells #[.int .i64 (k : Int), .string t.p, .int .i64 t.c.k, .int .i64 t.c.n, .string t.c.t] 34)) w2) := KK1.out.trans k2
        have BB2 : Hid (Below B w w2) := BB1.out.trans b2
        have WD2 := (hwd.on BB2.out).cell k hk11
        have y2_0 := kept_new KK2.out (by decide) 0
        have y2_1 := kept_new KK2.out (by decide) 1
        have y2_2 := kept_new KK2.out (by decide) 2
        have y2_3 := kept_new KK2.out (by decide) 3
        have y2_4 := kept_new KK2.out (by decide) 4
        simp only [List.getElem?_toArray, List.getElem?_cons_zero, List.getElem?_cons_succ] at y2_0 y2_1 y2_2 y2_3 y2_4
        clear o2 p2 k2 b2 WD1 y1_0 y1_1 y1_2 y1_3 y1_4
        go_wp2_with (at_builtin; refine app_byte rfl (.tmp 23) (.tmp 24) rfl B _ _ _ 32 _ rfl rfl (by simp) OW2.out (by omega) (by omega) ?_; intro v3 w3 o3 b3 k3; refine Hid.out ?_)
        refine Lib.hid ?_
        have p3 : w3.ownsRow B 5 1 v3 (n + (((clT l q ++ ([32, 97, 110, 100, 32] : List UInt8)) ++ t.p.data.toList) ++ ([32] : List UInt8)).length) (xs ++ Lib.byteCells (((clT l q ++ ([32, 97, 110, 100, 32] : List UInt8)) ++ t.p.data.toList) ++ ([32] : List UInt8))) := grow_cat (b := ([32] : List UInt8)) o3
        have OW3 : Hid (World.ownsRow _ _ _ _ _ _ _) := p3
        have le3 : (((clT l q ++ ([32, 97, 110, 100, 32] : List UInt8)) ++ t.p.data.toList) ++ ([32] : List UInt8)).length ≤ 30300 := by rw [List.length_append]; have hl : (([32] : List UInt8) : List UInt8).length ≤ 60 := (by decide); omega
        have z3 := b3.size
        have zz3 : wr.heap.size < w3.heap.size := by omega
        have KK3 : Hid (Kept (wr.alloc (.cells #[.int .i64 (k : Int), .string t.p, .int .i64 t.c.k, .int .i64 t.c.n, .string t.c.t] 34)) w3) := KK2.out.trans k3
        have BB3 : Hid (Below B w w3) := BB2.out.trans b3
        have WD3 := (hwd.on BB3.out).cell k hk11
        have y3_0 := kept_new KK3.out (by decide) 0
        have y3_1 := kept_new KK3.out (by decide) 1
        have y3_2 := kept_new KK3.out (by decide) 2
        have y3_3 := kept_new KK3.out (by decide) 3
        have y3_4 := kept_new KK3.out (by decide) 4
        simp only [List.getElem?_toArray, List.getElem?_cons_zero, List.getElem?_cons_succ] at y3_0 y3_1 y3_2 y3_3 y3_4
        clear o3 p3 k3 b3 WD2 y2_0 y2_1 y2_2 y2_3 y2_4
        go_wp2_with (at_builtin; refine app_str rfl (.tmp 26) (.tmp 30) rfl B _ _ _ (words.getD k em) rfl rfl OW3.out (by omega) (by omega) (by omega) ?_; intro v4 w4 o4 b4 k4; refine Hid.out ?_)
        refine Lib.hid ?_
        have p4 : w4.ownsRow B 5 1 v4 (n + ((((clT l q ++ ([32, 97, 110, 100, 32] : List UInt8)) ++ t.p.data.toList) ++ ([32] : List UInt8)) ++ (words.getD k em).data.toList).length) (xs ++ Lib.byteCells ((((clT l q ++ ([32, 97, 110, 100, 32] : List UInt8)) ++ t.p.data.toList) ++ ([32] : List UInt8)) ++ (words.getD k em).data.toList)) := grow_cat (by rw [show ((words.getD k em).data.toList : List UInt8).length = ((words.getD k em) : ByteArray).size from (by first | exact toList_length _ | rfl)]; exact o4)
        have OW4 : Hid (World.ownsRow _ _ _ _ _ _ _) := p4
        have le4 : ((((clT l q ++ ([32, 97, 110, 100, 32] : List UInt8)) ++ t.p.data.toList) ++ ([32] : List UInt8)) ++ (words.getD k em).data.toList).length ≤ 30400 := by rw [List.length_append]; have hl : ((words.getD k em).data.toList : List UInt8).length ≤ 60 := (by rw [toList_length]; omega); omega
        have z4 := b4.size
        have zz4 : wr.heap.size < w4.heap.size := by omega
        have KK4 : Hid (Kept (wr.alloc (.cells #[.int .i64 (k : Int), .string t.p, .int .i64 t.c.k, .int .i64 t.c.n, .string t.c.t] 34)) w4) := KK3.out.trans k4
        have BB4 : Hid (Below B w w4) := BB3.out.trans b4
        have WD4 := (hwd.on BB4.out).cell k hk11
        have y4_0 := kept_new KK4.out (by decide) 0
        have y4_1 := kept_new KK4.out (by decide) 1
        have y4_2 := kept_new KK4.out (by decide) 2
        have y4_3 := kept_new KK4.out (by decide) 3
        have y4_4 := kept_new KK4.out (by decide) 4
        simp only [List.getElem?_toArray, List.getElem?_cons_zero, List.getElem?_cons_succ] at y4_0 y4_1 y4_2 y4_3 y4_4
        clear o4 p4 k4 b4 WD3 y3_0 y3_1 y3_2 y3_3 y3_4
        go_wp2_with (at_builtin; refine app_byte rfl (.tmp 32) (.tmp 33) rfl B _ _ _ 32 _ rfl rfl (by simp) OW4.out (by omega) (by omega) ?_; intro v5 w5 o5 b5 k5; refine Hid.out ?_)
        refine Lib.hid ?_
        have p5 : w5.ownsRow B 5 1 v5 (n + (((((clT l q ++ ([32, 97, 110, 100, 32] : List UInt8)) ++ t.p.data.toList) ++ ([32] : List UInt8)) ++ (words.getD k em).data.toList) ++ ([32] : List UInt8)).length) (xs ++ Lib.byteCells (((((clT l q ++ ([32, 97, 110, 100, 32] : List UInt8)) ++ t.p.data.toList) ++ ([32] : List UInt8)) ++ (words.getD k em).data.toList) ++ ([32] : List UInt8))) := grow_cat (b := ([32] : List UInt8)) o5
        have OW5 : Hid (World.ownsRow _ _ _ _ _ _ _) := p5
        have le5 : (((((clT l q ++ ([32, 97, 110, 100, 32] : List UInt8)) ++ t.p.data.toList) ++ ([32] : List UInt8)) ++ (words.getD k em).data.toList) ++ ([32] : List UInt8)).length ≤ 30500 := by rw [List.length_append]; have hl : (([32] : List UInt8) : List UInt8).length ≤ 60 := (by decide); omega
        have z5 := b5.size
        have zz5 : wr.heap.size < w5.heap.size := by omega
        have KK5 : Hid (Kept (wr.alloc (.cells #[.int .i64 (k : Int), .string t.p, .int .i64 t.c.k, .int .i64 t.c.n, .string t.c.t] 34)) w5) := KK4.out.trans k5
        have BB5 : Hid (Below B w w5) := BB4.out.trans b5
        have WD5 := (hwd.on BB5.out).cell k hk11
        have y5_0 := kept_new KK5.out (by decide) 0
        have y5_1 := kept_new KK5.out (by decide) 1
        have y5_2 := kept_new KK5.out (by decide) 2
        have y5_3 := kept_new KK5.out (by decide) 3
        have y5_4 := kept_new KK5.out (by decide) 4
        simp only [List.getElem?_toArray, List.getElem?_cons_zero, List.getElem?_cons_succ] at y5_0 y5_1 y5_2 y5_3 y5_4
        clear o5 p5 k5 b5 WD4 y4_0 y4_1 y4_2 y4_3 y4_4
        go_wp2_with fail
        refine (app_at 5 t.c B _ _ _ _ HTC.out OW5.out (by omega) (by omega) (Lib.TabBelow.on HT.out BB5.out)).mono ?_
        rintro e w7 ⟨v7, rfl, o7, b7, k7⟩
        have HO7 : Hid (World.ownsRow _ _ _ _ _ _ _) := grow_more HCAT.out o7
        have HK7 : Hid (Kept _ _) := HK3.out.trans (HKX.out.trans (KK5.out.trans k7))
        have hb7 : Below B w w7 := BB5.out.trans b7
        clear o7 k7 b7 WD5 y5_0 y5_1 y5_2 y5_3 y5_4
        go_wp2_with fail
        go_roundw
        case rel => exact ⟨q + 1, by omega, by go_num, HO7.out, HK7.out, hb7⟩
        case measure => simp [intOf]; omega
    · obtain rfl : q = l.length := by omega
      have HO9 : Hid (World.ownsRow _ _ _ _ _ _ _) := o3
      rw [clT_all] at HO9
      clear o3
      go_wp2_with fail
      go_ret
      exact GrewT.mk _ rfl HO9.out b3 HK3.out

end Go.Proofs.YtkeghknceccdmaaGreatDoor
