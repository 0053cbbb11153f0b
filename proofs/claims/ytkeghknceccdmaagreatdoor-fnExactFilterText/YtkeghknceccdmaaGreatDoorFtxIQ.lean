/- What the program's writing of a clause as a text answers (whole). -/
import Derived.Test.YtkeghknceccdmaaGreatDoorTextMQ
import Derived.Test.YtkeghknceccdmaaGreatDoorFtxJQ
import Derived.Test.YtkeghknceccdmaaGreatDoorRowTQ
import Derived.Test.YtkeghknceccdmaaGreatDoorTextSQ
import Derived.Test.YtkeghknceccdmaaGreatDoorFiltIQ
import Derived.Test.YtkeghknceccdmaaGreatDoorLasF
import Derived.Deep.Cut
import Derived.Test.YtkeghknceccdmaaGreatDoorRows
import Derived.ProofKit
import Derived.LaidMore
import Derived.OpenShut
import Derived.ShutString
import Derived.Stop.Joined
import Derived.ChangeVars
import Derived.WalkSmall
import Derived.Lib.LaidTab
import Derived.Stop.LaidErr
import Derived.Test.YtkeghknceccdmaaGreatDoorOpenTQ
import Derived.Test.YtkeghknceccdmaaGreatDoorTie
import Derived.Test.YtkeghknceccdmaaGreatDoorCards
import Derived.Lay
import Derived.SevenTiedAt
import Derived.ChangeOld
import Derived.Below
import Derived.Lib.SmallJoins
namespace Go.Proofs.YtkeghknceccdmaaGreatDoor
open Go.RowKit
set_option linter.unusedVariables false

theorem tmB_parts (op : Int) (p : ByteArray) (c : Val) (h : termB op p c = true) : p.size ≤ 50 ∧ okB c = true ∧ (1 ≤ op ∧ op ≤ 10) ∧ (op = 7 → c.k = 4) := by
  unfold termB at h
  rw [Bool.and_eq_true, Bool.and_eq_true] at h
  obtain ⟨hp, hc, ht⟩ := h
  refine ⟨?_, hc, ?_, ?_⟩
  · rcases Nat.lt_or_ge 50 p.size with h' | h'
    · rw [pathB_long p h'] at hp; cases hp
    · exact h'
  · unfold takesT at ht
    by_cases h1 : 1 ≤ op ∧ op ≤ 10
    · exact h1
    · rw [if_neg (by omega), if_neg (by omega), if_neg (by omega), if_neg (by omega), if_neg (by omega)] at ht; cases ht
  · intro h7
    subst h7
    unfold takesT at ht
    simpa using ht
/-- The words of a term's operators, laid where the program keeps them. -/
structure Wds (B : Nat) (w : World) : Prop where
  lt : 0 < B
  cell : ∀ k, k < 11 → w.cell? ⟨0, k, none⟩ = some (.string (words.getD k em))
theorem Wds.on {B : Nat} {w w' : World} (h : Wds B w) (hb : Below B w w') : Wds B w' := ⟨h.lt, fun k hk => (hb.cell h.lt).trans (h.cell k hk)⟩
/-- The text of a clause's first terms, as bytes. -/
def clT (l : List Trm) (q : Nat) : List UInt8 := (joinB ⟨#[32, 97, 110, 100, 32]⟩ ((l.map textTm).take q)).data.toList
theorem app_data (a b : ByteArray) : (a ++ b).data.toList = a.data.toList ++ b.data.toList := by simp
theorem tm_data (t : Trm) (k : Nat) (hk : t.op = (k : Int)) : (textTm t).data.toList = t.p.data.toList ++ [32] ++ (words.getD k em).data.toList ++ [32] ++ textV 5 t.c := by
  unfold textTm
  rw [app_data, app_data, app_data, app_data, mkB_data, hk]
  rfl
theorem clT_zero (l : List Trm) : clT l 0 = [] := by unfold clT; rw [List.take_zero]; rfl
theorem clT_all (l : List Trm) : clT l l.length = (textCl l).data.toList := by unfold clT textCl; rw [List.take_of_length_le (by simp)]
theorem clT_first (l : List Trm) (hlt : 0 < l.length) (t : Trm) (ht : t = l[0]) (k : Nat) (hk : t.op = (k : Int)) :
    clT l (0 + 1) = ((((clT l 0 ++ t.p.data.toList) ++ ([32] : List UInt8)) ++ (words.getD k em).data.toList) ++ ([32] : List UInt8)) ++ textV 5 t.c := by
  rw [clT_zero]
  unfold clT
  rw [joinB_take0 _ _ (by simpa using hlt), app_data]
  simp only [List.getElem_map]
  rw [← ht, tm_data t k hk]
  simp [em]
theorem clT_next (l : List Trm) (q : Nat) (hlt : q < l.length) (hq : 0 < q) (t : Trm) (ht : t = l[q]) (k : Nat) (hk : t.op = (k : Int)) :
    clT l (q + 1) = (((((clT l q ++ ([32, 97, 110, 100, 32] : List UInt8)) ++ t.p.data.toList) ++ ([32] : List UInt8)) ++ (words.getD k em).data.toList) ++ ([32] : List UInt8)) ++ textV 5 t.c := by
  unfold clT
  rw [joinB_take _ _ q (by simpa using hlt) hq, app_data, app_data]
  simp only [List.getElem_map]
  rw [← ht, tm_data t k hk]
  simp
theorem clT_len (l : List Trm) (h : clauseB l = true) (q : Nat) : (clT l q).length ≤ 26840 := by
  unfold clT; rw [toList_length]; exact textCl_len l h q

set_option maxRecDepth 8000 in
set_option maxHeartbeats 8000000 in
theorem appClause_any (l : List Trm) (hl : clauseB l = true) (p : Option Addr) (cap : Nat) (B n : Nat) (sv : Value) (xs : List Value) (w : World) (hown : w.ownsRow B 5 1 sv n xs) (hB : B ≤ w.heap.size) (hn : n ≤ 100000)
    (hr : RowT w p l) (htab : Tab B w) (hwd : Wds B w) (hp : ∀ g, p = some ⟨g, 0, none⟩ → l ≠ [] → g < B) :
    Calls Tryz.prog 71 #[sv, .agg #[.slice p l.length cap]] w fun e w' => GrewT B n xs (textCl l).data.toList w e w' := by
  have HT : Hid (Tab _ _) := htab
  have HL : Hid (clauseB l = true) := hl
  have HP : Hid _ := hp
  have HR : Hid (RowT _ _ _) := hr
  have hll : l.length ≤ 4 := by unfold clauseB at hl; simp at hl; exact hl.1
  have hab0 : Below B w (w.alloc (.cells #[.slice p l.length cap] 109)) := (Below.refl _ _).alloc hB _
  have HO1 : Hid (World.ownsRow _ _ _ _ _ _ _) := hown.alloc (.cells #[.slice p l.length cap] 109)
  have HK1 : Hid (Kept _ _) := kept_alloc w (.cells #[.slice p l.length cap] 109)
  have HB1 : Hid (Below _ _ _) := hab0
  clear htab hl hp hr hown hab0
  go_enter Tryz.func71, Tryz.ntmps71
  go_wp2_with fail
  generalize w.alloc (.cells #[.slice p l.length cap] 109) = W1 at HO1 HK1 HB1 ⊢
  go_loopw [0, 10] (fun u i wr => ∃ q : Nat, q ≤ l.length ∧ i = .int .i64 q ∧ wr.ownsRow B 5 1 u (n + (clT l q).length) (xs ++ Lib.byteCells (clT l q)) ∧ Kept w wr ∧ Below B w wr) (fun _ i _ => l.length - (intOf i).toNat)
  case atStart => exact ⟨0, Nat.zero_le _, rfl, by rw [clT_zero]; simpa [Lib.byteCells] using HO1.out, HK1.out, HB1.out⟩
  case round =>
    obtain ⟨q, hq, rfl, o3, k3, b3⟩ := hrel
    have hz3 := b3.size
    have hlq := clT_len l HL.out q
    have HK3 : Hid (Kept _ _) := k3
    clear k3 HO1 HK1 HB1
    by_cases hlt : q < l.length
    · obtain ⟨g, hg, R0⟩ : ∃ g, p = some ⟨g, 0, none⟩ ∧ ReadT w g l := by
        rcases HR.out with h | h
        · rw [h] at hlt; simp at hlt
        · exact h
      have R := R0.step b3 (HP.out g hg (fun e => by rw [e] at hlt; simp at hlt))
      subst hg
      obtain ⟨x0, x1, x2, x3, x4⟩ := R.cells q hlt
      have hgl := R.lt
      obtain ⟨t, ht⟩ : ∃ t, t = l[q] := ⟨_, rfl⟩
      have hok : okT t = true := by
        have h := HL.out
        unfold clauseB at h; simp at h
        rw [ht]; exact h.2 _ (List.getElem_mem _)
      rw [← ht] at x0 x1 x2 x3 x4
      obtain ⟨hps, htc, hop, _⟩ := tmB_parts t.op t.p t.c hok
      obtain ⟨k, hk⟩ : ∃ k : Nat, t.op = (k : Int) := ⟨t.op.toNat, by omega⟩
      rw [hk] at x0 hop
      have hk11 : k < 11 := by omega
      have hi1 : decide ((k : Int) < 0) = false := decide_eq_false (by omega)
      have hi2 : decide ((11 : Int) ≤ (k : Int)) = false := decide_eq_false (by omega)
      have hwl := word_len k
      have HTC : Hid (okB t.c = true) := htc
      clear R R0 hok htc
      have hab : Below B wr (wr.alloc (.cells #[.int .i64 (k : Int), .string t.p, .int .i64 t.c.k, .int .i64 t.c.n, .string t.c.t] 34)) := (Below.refl _ _).alloc (by omega) _
      have HO4 : Hid (World.ownsRow _ _ _ _ _ _ _) := o3.alloc (.cells #[.int .i64 (k : Int), .string t.p, .int .i64 t.c.k, .int .i64 t.c.n, .string t.c.t] 34)
      have HKX : Hid (Kept _ _) := kept_alloc wr (.cells #[.int .i64 (k : Int), .string t.p, .int .i64 t.c.k, .int .i64 t.c.n, .string t.c.t] 34)
      have HAB : Hid (Below _ _ _) := hab
      clear hab o3
      by_cases hq0 : q = 0
      · subst hq0
        have hnq : ¬ (0 : Int) < 0 := by omega
        have HCAT : Hid (_ = _) := clT_first l hlt t ht k hk
        clear ht hk
        go_wp2_with (at_builtin; refine app_str rfl (.tmp 19) (.tmp 21) rfl B _ _ _ t.p rfl rfl HO4.out (by simp; omega) (by omega) (by omega) ?_; intro v1 w1 o1 b1 k1; refine Hid.out ?_)
        refine Lib.hid ?_
        have p1 : w1.ownsRow B 5 1 v1 (n + (clT l 0 ++ t.p.data.toList).length) (xs ++ Lib.byteCells (clT l 0 ++ t.p.data.toList)) := grow_cat (by rw [show (t.p.data.toList : List UInt8).length = (t.p : ByteArray).size from (by first | exact toList_length _ | rfl)]; exact o1)
        have OW1 : Hid (World.ownsRow _ _ _ _ _ _ _) := p1
        have le1 : (clT l 0 ++ t.p.data.toList).length ≤ 30100 := by rw [List.length_append]; have hl : (t.p.data.toList : List UInt8).length ≤ 60 := (by rw [toList_length]; omega); omega
        have z1 := b1.size
        have zz1 : wr.heap.size < w1.heap.size := by have := z1; simp at this; omega
        have KK1 : Hid (Kept (wr.alloc (.cells #[.int .i64 (k : Int), .string t.p, .int .i64 t.c.k, .int .i64 t.c.n, .string t.c.t] 34)) w1) := k1
        have BB1 : Hid (Below B w w1) := (b3.trans HAB.out).trans b1
        have WD1 := (hwd.on BB1.out).cell k hk11
        have y1_0 := kept_new KK1.out (by decide) 0
        have y1_1 := kept_new KK1.out (by decide) 1
        have y1_2 := kept_new KK1.out (by decide) 2
        have y1_3 := kept_new KK1.out (by decide) 3
        have y1_4 := kept_new KK1.out (by decide) 4
        simp only [List.getElem?_toArray, List.getElem?_cons_zero, List.getElem?_cons_succ] at y1_0 y1_1 y1_2 y1_3 y1_4
        clear o1 p1 k1 b1
        go_wp2_with (at_builtin; refine app_byte rfl (.tmp 23) (.tmp 24) rfl B _ _ _ 32 _ rfl rfl (by simp) OW1.out (by omega) (by omega) ?_; intro v2 w2 o2 b2 k2; refine Hid.out ?_)
        refine Lib.hid ?_
        have p2 : w2.ownsRow B 5 1 v2 (n + ((clT l 0 ++ t.p.data.toList) ++ ([32] : List UInt8)).length) (xs ++ Lib.byteCells ((clT l 0 ++ t.p.data.toList) ++ ([32] : List UInt8))) := grow_cat (b := ([32] : List UInt8)) o2
        have OW2 : Hid (World.ownsRow _ _ _ _ _ _ _) := p2
        have le2 : ((clT l 0 ++ t.p.data.toList) ++ ([32] : List UInt8)).length ≤ 30200 := by rw [List.length_append]; have hl : (([32] : List UInt8) : List UInt8).length ≤ 60 := (by decide); omega
        have z2 := b2.size
        have zz2 : wr.heap.size < w2.heap.size := by omega
        have KK2 : Hid (Kept (wr.alloc (.cells #[.int .i64 (k : Int), .string t.p, .int .i64 t.c.k, .int .i64 t.c.n, .string t.c.t] 34)) w2) := KK1.out.trans k2
        have BB2 : Hid (Below B w w2) := BB1.out.trans b2
        have WD2 := (hwd.on BB2.out).cell k hk11
        have y2_0 := kept_new KK2.out (by decide) 0
        have y2_1 := kept_new KK2.out (by decide) 1
        have y2_2 := kept_new KK2.out (by decide) 2
        have y2_3 := kept_new KK2.out (by decide) 3
        have y2_4 := kept_new KK2.out (by decide) 4
        simp only [List.getElem?_toArray, List.getElem?_cons_zero, List.getElem?_cons_succ] at y2_0 y2_1 y2_2 y2_3 y2_4
        clear o2 p2 k2 b2 WD1 y1_0 y1_1 y1_2 y1_3 y1_4
        go_wp2_with (at_builtin; refine app_str rfl (.tmp 26) (.tmp 30) rfl B _ _ _ (words.getD k em) rfl rfl OW2.out (by omega) (by omega) (by omega) ?_; intro v3 w3 o3 b3 k3; refine Hid.out ?_)
        refine Lib.hid ?_
        have p3 : w3.ownsRow B 5 1 v3 (n + (((clT l 0 ++ t.p.data.toList) ++ ([32] : List UInt8)) ++ (words.getD k em).data.toList).length) (xs ++ Lib.byteCells (((clT l 0 ++ t.p.data.toList) ++ ([32] : List UInt8)) ++ (words.getD k em).data.toList)) := grow_cat (by rw [show ((words.getD k em).data.toList : List UInt8).length = ((words.getD k em) : ByteArray).size from (by first | exact toList_length _ | rfl)]; exact o3)
        have OW3 : Hid (World.ownsRow _ _ _ _ _ _ _) := p3
        have le3 : (((clT l 0 ++ t.p.data.toList) ++ ([32] : List UInt8)) ++ (words.getD k em).data.toList).length ≤ 30300 := by rw [List.length_append]; have hl : ((words.getD k em).data.toList : List UInt8).length ≤ 60 := (by rw [toList_length]; omega); omega
        have z3 := b3.size
        have zz3 : wr.heap.size < w3.heap.size := by omega
        have KK3 : Hid (Kept (wr.alloc (.cells #[.int .i64 (k : Int), .string t.p, .int .i64 t.c.k, .int .i64 t.c.n, .string t.c.t] 34)) w3) := KK2.out.trans k3
        have BB3 : Hid (Below B w w3) := BB2.out.trans b3
        have WD3 := (hwd.on BB3.out).cell k hk11
        have y3_0 := kept_new KK3.out (by decide) 0
        have y3_1 := kept_new KK3.out (by decide) 1
        have y3_2 := kept_new KK3.out (by decide) 2
        have y3_3 := kept_new KK3.out (by decide) 3
        have y3_4 := kept_new KK3.out (by decide) 4
        simp only [List.getElem?_toArray, List.getElem?_cons_zero, List.getElem?_cons_succ] at y3_0 y3_1 y3_2 y3_3 y3_4
        clear o3 p3 k3 b3 WD2 y2_0 y2_1 y2_2 y2_3 y2_4
        go_wp2_with (at_builtin; refine app_byte rfl (.tmp 32) (.tmp 33) rfl B _ _ _ 32 _ rfl rfl (by simp) OW3.out (by omega) (by omega) ?_; intro v4 w4 o4 b4 k4; refine Hid.out ?_)
        refine Lib.hid ?_
        have p4 : w4.ownsRow B 5 1 v4 (n + ((((clT l 0 ++ t.p.data.toList) ++ ([32] : List UInt8)) ++ (words.getD k em).data.toList) ++ ([32] : List UInt8)).length) (xs ++ Lib.byteCells ((((clT l 0 ++ t.p.data.toList) ++ ([32] : List UInt8)) ++ (words.getD k em).data.toList) ++ ([32] : List UInt8))) := grow_cat (b := ([32] : List UInt8)) o4
        have OW4 : Hid (World.ownsRow _ _ _ _ _ _ _) := p4
        have le4 : ((((clT l 0 ++ t.p.data.toList) ++ ([32] : List UInt8)) ++ (words.getD k em).data.toList) ++ ([32] : List UInt8)).length ≤ 30400 := by rw [List.length_append]; have hl : (([32] : List UInt8) : List UInt8).length ≤ 60 := (by decide); omega
        have z4 := b4.size
        have zz4 : wr.heap.size < w4.heap.size := by omega
        have KK4 : Hid (Kept (wr.alloc (.cells #[.int .i64 (k : Int), .string t.p, .int .i64 t.c.k, .int .i64 t.c.n, .string t.c.t] 34)) w4) := KK3.out.trans k4
        have BB4 : Hid (Below B w w4) := BB3.out.trans b4
        have WD4 := (hwd.on BB4.out).cell k hk11
        have y4_0 := kept_new KK4.out (by decide) 0
        have y4_1 := kept_new KK4.out (by decide) 1
        have y4_2 := kept_new KK4.out (by decide) 2
        have y4_3 := kept_new KK4.out (by decide) 3
        have y4_4 := kept_new KK4.out (by decide) 4
        simp only [List.getElem?_toArray, List.getElem?_cons_zero, List.getElem?_cons_succ] at y4_0 y4_1 y4_2 y4_3 y4_4
        clear o4 p4 k4 b4 WD3 y3_0 y3_1 y3_2 y3_3 y3_4
        go_wp2_with fail
        refine (app_at 5 t.c B _ _ _ _ HTC.out OW4.out (by omega) (by omega) (Lib.TabBelow.on HT.out BB4.out)).mono ?_
        rintro e w7 ⟨v7, rfl, o7, b7, k7⟩
        have HO7 : Hid (World.ownsRow _ _ _ _ _ _ _) := grow_more HCAT.out o7
        have HK7 : Hid (Kept _ _) := HK3.out.trans (HKX.out.trans (KK4.out.trans k7))
        have hb7 : Below B w w7 := BB4.out.trans b7
        clear o7 k7 b7 WD4 y4_0 y4_1 y4_2 y4_3 y4_4
        go_wp2_with fail
        go_roundw
        case rel => exact ⟨0 + 1, by omega, by go_num, HO7.out, HK7.out, hb7⟩
        case measure => simp [intOf]; omega
      · have hq1 : 0 < q := by omega
        have hqi : (0 : Int) < (q : Int) := by omega
        have HCAT : Hid (_ = _) := clT_next l q hlt hq1 t ht k hk
        clear ht hk
        go_wp2_with (at_builtin; refine app_str rfl (.tmp 17) (.const (.string ⟨#[32, 97, 110, 100, 32]⟩)) rfl B _ _ _ ⟨#[32, 97, 110, 100, 32]⟩ rfl rfl HO4.out (by simp; omega) (by omega) (by decide) ?_; intro v1 w1 o1 b1 k1; refine Hid.out ?_)
        refine Lib.hid ?_
        have p1 : w1.ownsRow B 5 1 v1 (n + (clT l q ++ ([32, 97, 110, 100, 32] : List UInt8)).length) (xs ++ Lib.byteCells (clT l q ++ ([32, 97, 110, 100, 32] : List UInt8))) := grow_cat (by rw [show (([32, 97, 110, 100, 32] : List UInt8) : List UInt8).length = (⟨#[32, 97, 110, 100, 32]⟩ : ByteArray).size from (by first | exact toList_length _ | rfl)]; exact o1)
        have OW1 : Hid (World.ownsRow _ _ _ _ _ _ _) := p1
        have le1 : (clT l q ++ ([32, 97, 110, 100, 32] : List UInt8)).length ≤ 30100 := by rw [List.length_append]; have hl : (([32, 97, 110, 100, 32] : List UInt8) : List UInt8).length ≤ 60 := (by decide); omega
        have z1 := b1.size
        have zz1 : wr.heap.size < w1.heap.size := by have := z1; simp at this; omega
        have KK1 : Hid (Kept (wr.alloc (.cells #[.int .i64 (k : Int), .string t.p, .int .i64 t.c.k, .int .i64 t.c.n, .string t.c.t] 34)) w1) := k1
        have BB1 : Hid (Below B w w1) := (b3.trans HAB.out).trans b1
        have WD1 := (hwd.on BB1.out).cell k hk11
        have y1_0 := kept_new KK1.out (by decide) 0
        have y1_1 := kept_new KK1.out (by decide) 1
        have y1_2 := kept_new KK1.out (by decide) 2
        have y1_3 := kept_new KK1.out (by decide) 3
        have y1_4 := kept_new KK1.out (by decide) 4
        simp only [List.getElem?_toArray, List.getElem?_cons_zero, List.getElem?_cons_succ] at y1_0 y1_1 y1_2 y1_3 y1_4
        clear o1 p1 k1 b1
        go_wp2_with (at_builtin; refine app_str rfl (.tmp 19) (.tmp 21) rfl B _ _ _ t.p rfl rfl OW1.out (by omega) (by omega) (by omega) ?_; intro v2 w2 o2 b2 k2; refine Hid.out ?_)
        refine Lib.hid ?_
        have p2 : w2.ownsRow B 5 1 v2 (n + ((clT l q ++ ([32, 97, 110, 100, 32] : List UInt8)) ++ t.p.data.toList).length) (xs ++ Lib.byteCells ((clT l q ++ ([32, 97, 110, 100, 32] : List UInt8)) ++ t.p.data.toList)) := grow_cat (by rw [show (t.p.data.toList : List UInt8).length = (t.p : ByteArray).size from (by first | exact toList_length _ | rfl)]; exact o2)
        have OW2 : Hid (World.ownsRow _ _ _ _ _ _ _) := p2
        have le2 : ((clT l q ++ ([32, 97, 110, 100, 32] : List UInt8)) ++ t.p.data.toList).length ≤ 30200 := by rw [List.length_append]; have hl : (t.p.data.toList : List UInt8).length ≤ 60 := (by rw [toList_length]; omega); omega
        have z2 := b2.size
        have zz2 : wr.heap.size < w2.heap.size := by omega
        have KK2 : Hid (Kept (wr.alloc (.cells #[.int .i64 (k : Int), .string t.p, .int .i64 t.c.k, .int .i64 t.c.n, .string t.c.t] 34)) w2) := KK1.out.trans k2
        have BB2 : Hid (Below B w w2) := BB1.out.trans b2
        have WD2 := (hwd.on BB2.out).cell k hk11
        have y2_0 := kept_new KK2.out (by decide) 0
        have y2_1 := kept_new KK2.out (by decide) 1
        have y2_2 := kept_new KK2.out (by decide) 2
        have y2_3 := kept_new KK2.out (by decide) 3
        have y2_4 := kept_new KK2.out (by decide) 4
        simp only [List.getElem?_toArray, List.getElem?_cons_zero, List.getElem?_cons_succ] at y2_0 y2_1 y2_2 y2_3 y2_4
        clear o2 p2 k2 b2 WD1 y1_0 y1_1 y1_2 y1_3 y1_4
        go_wp2_with (at_builtin; refine app_byte rfl (.tmp 23) (.tmp 24) rfl B _ _ _ 32 _ rfl rfl (by simp) OW2.out (by omega) (by omega) ?_; intro v3 w3 o3 b3 k3; refine Hid.out ?_)
        refine Lib.hid ?_
        have p3 : w3.ownsRow B 5 1 v3 (n + (((clT l q ++ ([32, 97, 110, 100, 32] : List UInt8)) ++ t.p.data.toList) ++ ([32] : List UInt8)).length) (xs ++ Lib.byteCells (((clT l q ++ ([32, 97, 110, 100, 32] : List UInt8)) ++ t.p.data.toList) ++ ([32] : List UInt8))) := grow_cat (b := ([32] : List UInt8)) o3
        have OW3 : Hid (World.ownsRow _ _ _ _ _ _ _) := p3
        have le3 : (((clT l q ++ ([32, 97, 110, 100, 32] : List UInt8)) ++ t.p.data.toList) ++ ([32] : List UInt8)).length ≤ 30300 := by rw [List.length_append]; have hl : (([32] : List UInt8) : List UInt8).length ≤ 60 := (by decide); omega
        have z3 := b3.size
        have zz3 : wr.heap.size < w3.heap.size := by omega
        have KK3 : Hid (Kept (wr.alloc (.cells #[.int .i64 (k : Int), .string t.p, .int .i64 t.c.k, .int .i64 t.c.n, .string t.c.t] 34)) w3) := KK2.out.trans k3
        have BB3 : Hid (Below B w w3) := BB2.out.trans b3
        have WD3 := (hwd.on BB3.out).cell k hk11
        have y3_0 := kept_new KK3.out (by decide) 0
        have y3_1 := kept_new KK3.out (by decide) 1
        have y3_2 := kept_new KK3.out (by decide) 2
        have y3_3 := kept_new KK3.out (by decide) 3
        have y3_4 := kept_new KK3.out (by decide) 4
        simp only [List.getElem?_toArray, List.getElem?_cons_zero, List.getElem?_cons_succ] at y3_0 y3_1 y3_2 y3_3 y3_4
        clear o3 p3 k3 b3 WD2 y2_0 y2_1 y2_2 y2_3 y2_4
        go_wp2_with (at_builtin; refine app_str rfl (.tmp 26) (.tmp 30) rfl B _ _ _ (words.getD k em) rfl rfl OW3.out (by omega) (by omega) (by omega) ?_; intro v4 w4 o4 b4 k4; refine Hid.out ?_)
        refine Lib.hid ?_
        have p4 : w4.ownsRow B 5 1 v4 (n + ((((clT l q ++ ([32, 97, 110, 100, 32] : List UInt8)) ++ t.p.data.toList) ++ ([32] : List UInt8)) ++ (words.getD k em).data.toList).length) (xs ++ Lib.byteCells ((((clT l q ++ ([32, 97, 110, 100, 32] : List UInt8)) ++ t.p.data.toList) ++ ([32] : List UInt8)) ++ (words.getD k em).data.toList)) := grow_cat (by rw [show ((words.getD k em).data.toList : List UInt8).length = ((words.getD k em) : ByteArray).size from (by first | exact toList_length _ | rfl)]; exact o4)
        have OW4 : Hid (World.ownsRow _ _ _ _ _ _ _) := p4
        have le4 : ((((clT l q ++ ([32, 97, 110, 100, 32] : List UInt8)) ++ t.p.data.toList) ++ ([32] : List UInt8)) ++ (words.getD k em).data.toList).length ≤ 30400 := by rw [List.length_append]; have hl : ((words.getD k em).data.toList : List UInt8).length ≤ 60 := (by rw [toList_length]; omega); omega
        have z4 := b4.size
        have zz4 : wr.heap.size < w4.heap.size := by omega
        have KK4 : Hid (Kept (wr.alloc (.cells #[.int .i64 (k : Int), .string t.p, .int .i64 t.c.k, .int .i64 t.c.n, .string t.c.t] 34)) w4) := KK3.out.trans k4
        have BB4 : Hid (Below B w w4) := BB3.out.trans b4
        have WD4 := (hwd.on BB4.out).cell k hk11
        have y4_0 := kept_new KK4.out (by decide) 0
        have y4_1 := kept_new KK4.out (by decide) 1
        have y4_2 := kept_new KK4.out (by decide) 2
        have y4_3 := kept_new KK4.out (by decide) 3
        have y4_4 := kept_new KK4.out (by decide) 4
        simp only [List.getElem?_toArray, List.getElem?_cons_zero, List.getElem?_cons_succ] at y4_0 y4_1 y4_2 y4_3 y4_4
        clear o4 p4 k4 b4 WD3 y3_0 y3_1 y3_2 y3_3 y3_4
        go_wp2_with (at_builtin; refine app_byte rfl (.tmp 32) (.tmp 33) rfl B _ _ _ 32 _ rfl rfl (by simp) OW4.out (by omega) (by omega) ?_; intro v5 w5 o5 b5 k5; refine Hid.out ?_)
        refine Lib.hid ?_
        have p5 : w5.ownsRow B 5 1 v5 (n + (((((clT l q ++ ([32, 97, 110, 100, 32] : List UInt8)) ++ t.p.data.toList) ++ ([32] : List UInt8)) ++ (words.getD k em).data.toList) ++ ([32] : List UInt8)).length) (xs ++ Lib.byteCells (((((clT l q ++ ([32, 97, 110, 100, 32] : List UInt8)) ++ t.p.data.toList) ++ ([32] : List UInt8)) ++ (words.getD k em).data.toList) ++ ([32] : List UInt8))) := grow_cat (b := ([32] : List UInt8)) o5
        have OW5 : Hid (World.ownsRow _ _ _ _ _ _ _) := p5
        have le5 : (((((clT l q ++ ([32, 97, 110, 100, 32] : List UInt8)) ++ t.p.data.toList) ++ ([32] : List UInt8)) ++ (words.getD k em).data.toList) ++ ([32] : List UInt8)).length ≤ 30500 := by rw [List.length_append]; have hl : (([32] : List UInt8) : List UInt8).length ≤ 60 := (by decide); omega
        have z5 := b5.size
        have zz5 : wr.heap.size < w5.heap.size := by omega
        have KK5 : Hid (Kept (wr.alloc (.cells #[.int .i64 (k : Int), .string t.p, .int .i64 t.c.k, .int .i64 t.c.n, .string t.c.t] 34)) w5) := KK4.out.trans k5
        have BB5 : Hid (Below B w w5) := BB4.out.trans b5
        have WD5 := (hwd.on BB5.out).cell k hk11
        have y5_0 := kept_new KK5.out (by decide) 0
        have y5_1 := kept_new KK5.out (by decide) 1
        have y5_2 := kept_new KK5.out (by decide) 2
        have y5_3 := kept_new KK5.out (by decide) 3
        have y5_4 := kept_new KK5.out (by decide) 4
        simp only [List.getElem?_toArray, List.getElem?_cons_zero, List.getElem?_cons_succ] at y5_0 y5_1 y5_2 y5_3 y5_4
        clear o5 p5 k5 b5 WD4 y4_0 y4_1 y4_2 y4_3 y4_4
        go_wp2_with fail
        refine (app_at 5 t.c B _ _ _ _ HTC.out OW5.out (by omega) (by omega) (Lib.TabBelow.on HT.out BB5.out)).mono ?_
        rintro e w7 ⟨v7, rfl, o7, b7, k7⟩
        have HO7 : Hid (World.ownsRow _ _ _ _ _ _ _) := grow_more HCAT.out o7
        have HK7 : Hid (Kept _ _) := HK3.out.trans (HKX.out.trans (KK5.out.trans k7))
        have hb7 : Below B w w7 := BB5.out.trans b7
        clear o7 k7 b7 WD5 y5_0 y5_1 y5_2 y5_3 y5_4
        go_wp2_with fail
        go_roundw
        case rel => exact ⟨q + 1, by omega, by go_num, HO7.out, HK7.out, hb7⟩
        case measure => simp [intOf]; omega
    · obtain rfl : q = l.length := by omega
      have HO9 : Hid (World.ownsRow _ _ _ _ _ _ _) := o3
      rw [clT_all] at HO9
      clear o3
      go_wp2_with fail
      go_ret
      exact GrewT.mk _ rfl HO9.out b3 HK3.out

end Go.Proofs.YtkeghknceccdmaaGreatDoor

/- What the specification's text of a filter is (whole). -/
namespace Go.Proofs.YtkeghknceccdmaaGreatDoor
open Go.RowKit
set_option linter.unusedVariables false

theorem l03Words_at (w : World) : Calls Tryz.prog 137 #[] w fun e w' => (∃ gw, e = .returned (.slice (some ⟨gw, 0, none⟩) 11 11) ∧ gw < w'.heap.size ∧ ∀ k, k < 11 → w'.cell? ⟨gw, k, none⟩ = some (.string (words.getD k em))) ∧ Below w.heap.size w w' := by
  refine (l03Words_any w).mono ?_
  rintro e w' ⟨rfl, R, hb⟩
  refine ⟨⟨_, rfl, R.lt, fun k hk => ?_⟩, hb⟩
  have h := R.cells k hk
  rw [Nat.zero_add] at h
  rw [h, List.getD_eq_getElem?_getD, List.getElem?_eq_getElem hk]
  rfl
theorem keepX {W w0 : World} {b : Nat} {a0 a1 a2 a3 a4 : Value} (m : b < W.heap.size) (x0 : W.cell? ⟨b, 0, none⟩ = some a0) (x1 : W.cell? ⟨b, 1, none⟩ = some a1) (x2 : W.cell? ⟨b, 2, none⟩ = some a2) (x3 : W.cell? ⟨b, 3, none⟩ = some a3) (x4 : W.cell? ⟨b, 4, none⟩ = some a4) (hb : Below W.heap.size W w0) :
    w0.cell? ⟨b, 0, none⟩ = some a0 ∧ w0.cell? ⟨b, 1, none⟩ = some a1 ∧ w0.cell? ⟨b, 2, none⟩ = some a2 ∧ w0.cell? ⟨b, 3, none⟩ = some a3 ∧ w0.cell? ⟨b, 4, none⟩ = some a4 :=
  ⟨(hb.cell m).trans x0, (hb.cell m).trans x1, (hb.cell m).trans x2, (hb.cell m).trans x3, (hb.cell m).trans x4⟩

theorem keepG {W w0 : World} {b : Nat} {row : Option Nat} {a0 a1 a2 a3 a4 : Value} (hr : ∀ g, row = some g → g < b) (m : b < W.heap.size) (x0 : W.cell? ⟨b, 0, none⟩ = some a0) (x1 : W.cell? ⟨b, 1, none⟩ = some a1) (x2 : W.cell? ⟨b, 2, none⟩ = some a2) (x3 : W.cell? ⟨b, 3, none⟩ = some a3) (x4 : W.cell? ⟨b, 4, none⟩ = some a4) (hg : W.grownBy w0 row) :
    w0.cell? ⟨b, 0, none⟩ = some a0 ∧ w0.cell? ⟨b, 1, none⟩ = some a1 ∧ w0.cell? ⟨b, 2, none⟩ = some a2 ∧ w0.cell? ⟨b, 3, none⟩ = some a3 ∧ w0.cell? ⟨b, 4, none⟩ = some a4 := by
  have hb : w0.heap[b]? = W.heap[b]? := hg.block b m (fun e => by have := hr b e.symm; omega)
  exact ⟨(World.cell?_of_block (a := ⟨b, 0, none⟩) hb).trans x0, (World.cell?_of_block (a := ⟨b, 1, none⟩) hb).trans x1, (World.cell?_of_block (a := ⟨b, 2, none⟩) hb).trans x2, (World.cell?_of_block (a := ⟨b, 3, none⟩) hb).trans x3, (World.cell?_of_block (a := ⟨b, 4, none⟩) hb).trans x4⟩

set_option maxRecDepth 8000 in
set_option maxHeartbeats 8000000 in
theorem l03Text_any (g cap : Nat) (f : List (List Trm)) (w : World) (hr : ReadC w g f) (hf : filtB f = true) :
    Calls Tryz.prog 68 #[.agg #[.slice (some ⟨g, 0, none⟩) f.length cap]] w fun e w' => e = .returned (.string (textFi f)) ∧ Below w.heap.size w w' := by
  obtain ⟨i0, hi0, hz0, hz1, hz2⟩ := info_parts infoS
  have hf' := hf
  unfold filtB at hf'; simp at hf'
  have hfl : f.length ≤ 3 := hf'.1.2
  have HF : Hid (∀ l ∈ f, clauseB l = true) := hf'.2
  have HJ : Hid (∀ k, (joinB (⟨#[32, 111, 114, 32]⟩ : ByteArray) ((f.map textCl).take k)).size ≤ 80550) := textFi_len f hf
  have hb0 : Below w.heap.size w (w.alloc (.cells #[.slice (some ⟨g, 0, none⟩) f.length cap] 53)) := (Below.refl _ _).alloc (Nat.le_refl _) _
  have c0 : (w.alloc (.cells #[.slice (some ⟨g, 0, none⟩) f.length cap] 53)).cell? ⟨w.heap.size, 0, none⟩ = some (.slice (some ⟨g, 0, none⟩) f.length cap) := by simp [go_sem]
  have hs0 : (w.alloc (.cells #[.slice (some ⟨g, 0, none⟩) f.length cap] 53)).heap.size = w.heap.size + 1 := by simp
  have HR : Hid (ReadC _ _ _) := hr.next hb0
  have O1 := World.ownsRow_made (base := w.heap.size + 1) (size := 1) (e := 9) (w.alloc (.cells #[.slice (some ⟨g, 0, none⟩) f.length cap] 53)) #[] 0 (by simp) (by unfold maxLen; omega) rfl
  have hb1 : Below (w.heap.size + 1) (w.alloc (.cells #[.slice (some ⟨g, 0, none⟩) f.length cap] 53)) ((w.alloc (.cells #[.slice (some ⟨g, 0, none⟩) f.length cap] 53)).alloc (.cells #[] 9)) := (Below.refl _ _).alloc (by simp) _
  simp only [heap_size_alloc] at O1
  have HO1 : Hid (World.ownsRow _ _ _ _ _ _ _) := O1
  have HB1 : Hid (Below _ _ _) := hb1
  clear hr hf hf' O1 hb1
  go_enter Tryz.func68, Tryz.ntmps68
  go_wp2_with fail
  generalize w.alloc (.cells #[.slice (some ⟨g, 0, none⟩) f.length cap] 53) = W0 at hb0 c0 hs0 HR HO1 HB1 ⊢
  have HS0 : Hid (_ = _) := hs0
  clear hs0
  go_loopw [3, 4] (fun u i wr => ∃ q : Nat, q ≤ f.length ∧ i = .int .i64 q ∧ wr.ownsRow (w.heap.size + 1) 9 1 u q (strs ((f.map textCl).take q)) ∧ (¬ u = .slice none 0 0) ∧ Below (w.heap.size + 1) W0 wr) (fun _ i _ => f.length - (intOf i).toNat)
  case atStart => exact ⟨0, Nat.zero_le _, rfl, HO1.out, by simp, HB1.out⟩
  case round =>
    obtain ⟨q, hq, rfl, hown, hnn, hbel⟩ := hrel
    have hzs : w.heap.size + 1 ≤ wr.heap.size := by have := hbel.size; have := HS0.out; omega
    have hlw : w.heap.size < wr.heap.size := by omega
    have c1 := (hbel.cell (p := ⟨w.heap.size, 0, none⟩) (Nat.lt_succ_self _)).trans c0
    have HOW : Hid (World.ownsRow _ _ _ _ _ _ _) := hown
    have HN : Hid (¬ _) := hnn
    have HBL : Hid (Below _ _ _) := hbel
    clear hown hnn HO1 HB1
    by_cases hlt : q < f.length
    · have R := HR.out.next (show Below W0.heap.size W0 wr by rw [HS0.out]; exact hbel)
      obtain ⟨p, cl, x0, hT⟩ := R.cells q hlt
      have hgl := R.lt
      obtain ⟨l, hl⟩ : ∃ l, l = f[q] := ⟨_, rfl⟩
      have hcl : clauseB l = true := by rw [hl]; exact HF.out _ (List.getElem_mem _)
      rw [← hl] at x0 hT
      have hcl' := hcl
      unfold clauseB at hcl'; simp at hcl'
      have hll : l.length ≤ 4 := hcl'.1
      have HTK : Hid ((f.map textCl).take (q + 1) = (f.map textCl).take q ++ [textCl l]) := by
        show (f.map textCl).take (q + 1) = (f.map textCl).take q ++ [textCl l]
        rw [List.take_succ_eq_append_getElem (by simpa using hlt)]
        simp only [List.getElem_map, hl]
      have HOK : Hid (∀ t ∈ l, okT t = true) := hcl'.2
      have HTR : Hid (RowT _ _ _) := hT
      have HCL : Hid (clauseB l = true) := hcl
      have hqi : (q : Int) < (f.length : Int) := by omega
      clear R hT hcl hcl' hl
      obtain ⟨Wq, rfl⟩ : ∃ W, W = wr := ⟨_, rfl⟩
      have O2 := World.ownsRow_made (base := Wq.heap.size) (size := 1) (e := 9) Wq #[] 0 (Nat.le_refl _) (by unfold maxLen; omega) rfl
      have HO2 : Hid (World.ownsRow _ _ _ _ _ _ _) := O2
      have HB2 : Hid (Below Wq.heap.size Wq (Wq.alloc (.cells #[] 9))) := (Below.refl _ _).alloc (Nat.le_refl _) _
      clear O2 hbel
      go_wp2_with fail
      go_loopw [5, 6] (fun u j wr => ∃ m : Nat, m ≤ l.length ∧ j = .int .i64 m ∧ wr.ownsRow Wq.heap.size 9 1 u m (strs ((l.map textTm).take m)) ∧ (¬ u = .slice none 0 0) ∧ Below Wq.heap.size Wq wr) (fun _ j _ => l.length - (intOf j).toNat)
      case atStart => exact ⟨0, Nat.zero_le _, rfl, HO2.out, by simp, HB2.out⟩
      case round =>
        obtain ⟨m, hm, rfl, hown, hnn, hbel⟩ := hrel
        have hzr := hbel.size
        have d0 := (hbel.cell (p := ⟨w.heap.size, 0, none⟩) hlw).trans c1
        have d1 := (hbel.cell (p := ⟨g, q, none⟩) hgl).trans x0
        have hlw2 : w.heap.size < wr.heap.size := by omega
        have hgl2 : g < wr.heap.size := by omega
        have HOI : Hid (World.ownsRow _ _ _ _ _ _ _) := hown
        have HNI : Hid (¬ _) := hnn
        have HBI : Hid (Below _ _ _) := hbel
        clear hown hnn HO2 HB2
        by_cases hlm : m < l.length
        · obtain ⟨gt, rfl, RT0⟩ : ∃ gt, p = some ⟨gt, 0, none⟩ ∧ ReadT Wq gt l := by
            rcases HTR.out with h | h
            · rw [h] at hlm; simp at hlm
            · exact h
          have RT := RT0.next hbel
          obtain ⟨y0, y1, y2, y3, y4⟩ := RT.cells m hlm
          have hgt := RT.lt
          obtain ⟨t, ht⟩ : ∃ t, t = l[m] := ⟨_, rfl⟩
          have hok : okT t = true := by rw [ht]; exact HOK.out _ (List.getElem_mem _)
          rw [← ht] at y0 y1 y2 y3 y4
          obtain ⟨hps, htc, hop, _⟩ := tmB_parts t.op t.p t.c hok
          obtain ⟨k, hk⟩ : ∃ k : Nat, t.op = (k : Int) := ⟨t.op.toNat, by omega⟩
          rw [hk] at y0 hop
          have hk11 : k < 11 := by omega
          have hi1 : decide ((k : Int) < 0) = false := decide_eq_false (by omega)
          have hi2 : decide ((11 : Int) ≤ (k : Int)) = false := decide_eq_false (by omega)
          have hk11i : (k : Int) < 11 := by omega
          have hwl := word_len k
          obtain ⟨wd, hwd⟩ : ∃ wd, wd = words.getD k em := ⟨_, rfl⟩
          obtain ⟨tx, htx⟩ : ∃ tx, tx = mkB (textV 5 t.c) := ⟨_, rfl⟩
          have hxl : tx.size ≤ 6700 := by rw [htx, mkB_size]; have h1 := textV_len 5 t.c htc; have h2 := ok_size t.c htc; omega
          have HTK2 : Hid ((l.map textTm).take (m + 1) = (l.map textTm).take m ++ [(t.p ++ (⟨#[32]⟩ : ByteArray) ++ wd ++ (⟨#[32]⟩ : ByteArray) ++ tx)]) := by
            show (l.map textTm).take (m + 1) = (l.map textTm).take m ++ [(t.p ++ (⟨#[32]⟩ : ByteArray) ++ wd ++ (⟨#[32]⟩ : ByteArray) ++ tx)]
            rw [List.take_succ_eq_append_getElem (by simpa using hlm)]
            simp only [List.getElem_map]
            rw [← ht]
            unfold textTm
            rw [hk, Int.toNat_natCast, ← hwd, ← htx]
          have HWD : Hid (_ = _) := hwd
          have HTX : Hid (_ = _) := htx
          rw [← hwd] at hwl
          have HTC : Hid (fits 5 t.c = true) := htc
          have z1 : ¬ 9223372036854775807 < t.p.size + 1 := by omega
          have z2 : ¬ 9223372036854775807 < t.p.size + 1 + wd.size := by omega
          have z3 : ¬ 9223372036854775807 < t.p.size + 1 + wd.size + 1 := by omega
          have z4 : ¬ 9223372036854775807 < t.p.size + 1 + wd.size + 1 + tx.size := by omega
          have hmi : (m : Int) < (l.length : Int) := by omega
          clear RT RT0 hok htc ht hwd htx hk HTR
          have hal : Below wr.heap.size wr (wr.alloc (.cells #[.int .i64 (k : Int), .string t.p, .int .i64 t.c.k, .int .i64 t.c.n, .string t.c.t] 34)) := (Below.refl _ _).alloc (Nat.le_refl _) _
          have e0 : (wr.alloc (.cells #[.int .i64 (k : Int), .string t.p, .int .i64 t.c.k, .int .i64 t.c.n, .string t.c.t] 34)).cell? ⟨wr.heap.size, 0, none⟩ = some (.int .i64 (k : Int)) := by simp [go_sem]
          have e1 : (wr.alloc (.cells #[.int .i64 (k : Int), .string t.p, .int .i64 t.c.k, .int .i64 t.c.n, .string t.c.t] 34)).cell? ⟨wr.heap.size, 1, none⟩ = some (.string t.p) := by simp [go_sem]
          have e2 : (wr.alloc (.cells #[.int .i64 (k : Int), .string t.p, .int .i64 t.c.k, .int .i64 t.c.n, .string t.c.t] 34)).cell? ⟨wr.heap.size, 2, none⟩ = some (.int .i64 t.c.k) := by simp [go_sem]
          have e3 : (wr.alloc (.cells #[.int .i64 (k : Int), .string t.p, .int .i64 t.c.k, .int .i64 t.c.n, .string t.c.t] 34)).cell? ⟨wr.heap.size, 3, none⟩ = some (.int .i64 t.c.n) := by simp [go_sem]
          have e4 : (wr.alloc (.cells #[.int .i64 (k : Int), .string t.p, .int .i64 t.c.k, .int .i64 t.c.n, .string t.c.t] 34)).cell? ⟨wr.heap.size, 4, none⟩ = some (.string t.c.t) := by simp [go_sem]
          have m7 : wr.heap.size < (wr.alloc (.cells #[.int .i64 (k : Int), .string t.p, .int .i64 t.c.k, .int .i64 t.c.n, .string t.c.t] 34)).heap.size := by simp
          have HA7 : Hid (Below Wq.heap.size Wq _) := HBI.out.trans (hal.mono hzr)
          have HO7 : Hid (World.ownsRow _ _ _ _ _ _ _) := owns_below HOI.out hal
          clear hal
          go_wp2_with fail
          generalize wr.alloc (.cells #[.int .i64 (k : Int), .string t.p, .int .i64 t.c.k, .int .i64 t.c.n, .string t.c.t] 34) = W7 at e0 e1 e2 e3 e4 m7 HA7 HO7 ⊢
          clear y0 y1 y2 y3 y4 d0 d1
          have hub : ∀ gg, u5.ownBlock = some gg → gg < wr.heap.size := fun gg hg => (HOI.out.lt gg hg).2
          generalize wr.heap.size = b7 at e0 e1 e2 e3 e4 m7 hub ⊢
          have HUB : Hid (∀ gg, u5.ownBlock = some gg → gg < b7) := hub
          clear hub
          have kp : ∀ w0, Below W7.heap.size W7 w0 → (w0.cell? ⟨b7, 0, none⟩ = some (.int .i64 (k : Int)) ∧ w0.cell? ⟨b7, 1, none⟩ = some (.string t.p) ∧ w0.cell? ⟨b7, 2, none⟩ = some (.int .i64 t.c.k) ∧ w0.cell? ⟨b7, 3, none⟩ = some (.int .i64 t.c.n) ∧ w0.cell? ⟨b7, 4, none⟩ = some (.string t.c.t)) := fun w0 h => keepX m7 e0 e1 e2 e3 e4 h
          clear e0 e1 e2 e3 e4
          refine wp_region_held_drew (S := fun w0 => w0.cell? ⟨b7, 0, none⟩ = some (.int .i64 (k : Int)) ∧ w0.cell? ⟨b7, 1, none⟩ = some (.string t.p) ∧ w0.cell? ⟨b7, 2, none⟩ = some (.int .i64 t.c.k) ∧ w0.cell? ⟨b7, 3, none⟩ = some (.int .i64 t.c.n) ∧ w0.cell? ⟨b7, 4, none⟩ = some (.string t.c.t)) (by kernel_rfl) (kp _ (Below.refl _ _).drew) (fun hHeld => ?_)
          refine take_at (i := 0) (v := ?_) .zero (by kernel_rfl) (by kernel_rfl) (by kernel_rfl) (fun _ _ _ h => h) (Or.inl ⟨by rfl, ?_⟩) (by assumption) ?_
          rotate_left
          focus (intro w' hSw; (try dsimp only at hSw); go_simp; try (with_reducible rfl))
          try simp only [Act.put, List.setIfInBounds_toArray, List.set_cons_zero, List.set_cons_succ]
          refine take_at (i := 1) (v := ?_) (.succ .zero) (by kernel_rfl) (by kernel_rfl) (by kernel_rfl) (fun _ _ _ h => h) (Or.inl ⟨by rfl, ?_⟩) (by assumption) ?_
          rotate_left
          focus (intro w' hSw; (try dsimp only at hSw); go_simp; try (with_reducible rfl))
          try simp only [Act.put, List.setIfInBounds_toArray, List.set_cons_zero, List.set_cons_succ]
          refine take_at (i := 2) (v := ?_) (.succ (.succ .zero)) (by kernel_rfl) (by kernel_rfl) (by kernel_rfl) (fun _ _ _ h => h) (Or.inl ⟨by rfl, ?_⟩) (by assumption) ?_
          rotate_left
          focus (intro w' hSw; (try dsimp only at hSw); go_simp; try (with_reducible rfl))
          try simp only [Act.put, List.setIfInBounds_toArray, List.set_cons_zero, List.set_cons_succ]
          refine take_at (i := 3) (v := ?_) (.succ (.succ (.succ .zero))) (by kernel_rfl) (by kernel_rfl) (by kernel_rfl) (fun _ _ _ h => h) (Or.inl ⟨by rfl, ?_⟩) (by assumption) ?_
          rotate_left
          focus (intro w' hSw; (try dsimp only at hSw); go_simp; try (with_reducible rfl))
          try simp only [Act.put, List.setIfInBounds_toArray, List.set_cons_zero, List.set_cons_succ]
          refine take_at (i := 5) (v := ?_) (.succ (.succ (.succ (.succ (.succ .zero))))) (by kernel_rfl) (by kernel_rfl) (by kernel_rfl) (fun _ _ _ h => h) (Or.inl ⟨by rfl, ?_⟩) (by assumption) ?_
          rotate_left
          focus (intro w' hSw; (try dsimp only at hSw); go_simp; try (with_reducible rfl))
          try simp only [Act.put, List.setIfInBounds_toArray, List.set_cons_zero, List.set_cons_succ]
          refine take_at (i := 6) (v := ?_) (.succ (.succ (.succ (.succ (.succ (.succ .zero)))))) (by kernel_rfl) (by kernel_rfl) (by kernel_rfl) (fun _ _ _ h => h) (Or.inl ⟨by rfl, ?_⟩) (by assumption) ?_
          rotate_left
          focus (intro w' hSw; (try dsimp only at hSw); go_simp; try (with_reducible rfl))
          try simp only [Act.put, List.setIfInBounds_toArray, List.set_cons_zero, List.set_cons_succ]
          refine take_at (i := 11) (v := ?_) (.succ (.succ (.succ (.succ (.succ (.succ (.succ (.succ (.succ (.succ (.succ .zero))))))))))) (by kernel_rfl) (by kernel_rfl) (by kernel_rfl) (fun _ _ _ h => h) (Or.inl ⟨by rfl, ?_⟩) (by assumption) ?_
          rotate_left
          focus (intro w' hSw; (try dsimp only at hSw); go_simp; try (with_reducible rfl))
          try simp only [Act.put, List.setIfInBounds_toArray, List.set_cons_zero, List.set_cons_succ]
          refine take_at (i := 12) (v := ?_) (.succ (.succ (.succ (.succ (.succ (.succ (.succ (.succ (.succ (.succ (.succ (.succ .zero)))))))))))) (by kernel_rfl) (by kernel_rfl) (by kernel_rfl) (fun _ _ _ h => h) (Or.inl ⟨by rfl, ?_⟩) (by assumption) ?_
          rotate_left
          focus (intro w' hSw; (try dsimp only at hSw); go_simp; try (with_reducible rfl))
          try simp only [Act.put, List.setIfInBounds_toArray, List.set_cons_zero, List.set_cons_succ]
          refine wpAnyH_ready (rs := [4]) (by kernel_rfl) (by simp) ?_
          refine (cons_at (i := 4) (.succ (.succ (.succ (.succ .zero)))) (fun K hK => ?_) AllReadyH.nil)
          go_simp
          refine (l03Words_at _).mono ?_
          rintro e w1 ⟨⟨gw, rfl, hgw, hcw⟩, hb⟩
          have hB1 : Below W7.heap.size W7 w1 := (show Below W7.heap.size W7 _ by (repeat (first | (with_reducible exact Below.refl _ _) | (with_reducible assumption) | (with_reducible apply below_drewN) | (with_reducible apply Below.drew) | ((with_reducible refine Below.setCell ?_ ?_ _); rotate_left; focus (first | (simp; done) | (simp; omega) | omega)) | ((with_reducible refine Below.alloc ?_ ?_ _); rotate_left; focus (first | (simp; done) | (simp; omega) | omega))))).trans (hb.mono (by first | (simp; done) | (simp; omega) | omega))
          have hs1 := hB1.size
          have f1 := hcw k hk11
          rw [← HWD.out] at f1
          clear hb hcw
          try go_wp2_with fail
          refine hK.out _ _ ?_ ?_
          focus exact kp _ (by (repeat (first | (with_reducible exact Below.refl _ _) | (with_reducible assumption) | (with_reducible apply below_drewN) | (with_reducible apply Below.drew) | ((with_reducible refine Below.setCell ?_ ?_ _); rotate_left; focus (first | (simp; done) | (simp; omega) | omega)) | ((with_reducible refine Below.alloc ?_ ?_ _); rotate_left; focus (first | (simp; done) | (simp; omega) | omega)))))
          clear hK K hHeld
          intro hHeld
          try simp only [Act.put, List.setIfInBounds_toArray, List.set_cons_zero, List.set_cons_succ]
          refine take_at (i := 7) (v := ?_) (.succ (.succ (.succ (.succ (.succ (.succ (.succ .zero))))))) (by kernel_rfl) (by kernel_rfl) (by kernel_rfl) (fun _ _ _ h => h) (Or.inl ⟨by rfl, ?_⟩) (by assumption) ?_
          rotate_left
          focus (intro w' hSw; (try dsimp only at hSw); go_simp; try (with_reducible rfl))
          try simp only [Act.put, List.setIfInBounds_toArray, List.set_cons_zero, List.set_cons_succ]
          refine wpAnyH_ready (rs := [8, 13]) (by kernel_rfl) (by simp) ?_
          refine (cons_at (i := 8) (.succ (.succ (.succ (.succ (.succ (.succ (.succ (.succ .zero)))))))) (fun K hK => ?_) (cons_at (i := 13) (.succ (.succ (.succ (.succ (.succ (.succ (.succ (.succ (.succ (.succ (.succ (.succ (.succ .zero))))))))))))) (fun K hK => ?_) AllReadyH.nil))
          · go_simp
            refine hK.out _ _ ?_ ?_
            focus exact kp _ (by (repeat (first | (with_reducible exact Below.refl _ _) | (with_reducible assumption) | (with_reducible apply below_drewN) | (with_reducible apply Below.drew) | ((with_reducible refine Below.setCell ?_ ?_ _); rotate_left; focus (first | (simp; done) | (simp; omega) | omega)) | ((with_reducible refine Below.alloc ?_ ?_ _); rotate_left; focus (first | (simp; done) | (simp; omega) | omega)))))
            clear hK K hHeld
            intro hHeld
            try simp only [Act.put, List.setIfInBounds_toArray, List.set_cons_zero, List.set_cons_succ]
            refine take_at (i := 9) (v := ?_) (.succ (.succ (.succ (.succ (.succ (.succ (.succ (.succ (.succ .zero))))))))) (by kernel_rfl) (by kernel_rfl) (by kernel_rfl) (fun _ _ _ h => h) (Or.inl ⟨by rfl, ?_⟩) (by assumption) ?_
            rotate_left
            focus (intro w' hSw; (try dsimp only at hSw); go_simp; try (with_reducible rfl))
            try simp only [Act.put, List.setIfInBounds_toArray, List.set_cons_zero, List.set_cons_succ]
            refine take_at (i := 10) (v := ?_) (.succ (.succ (.succ (.succ (.succ (.succ (.succ (.succ (.succ (.succ .zero)))))))))) (by kernel_rfl) (by kernel_rfl) (by kernel_rfl) (fun _ _ _ h => h) (Or.inl ⟨by rfl, ?_⟩) (by assumption) ?_
            rotate_left
            focus (intro w' hSw; (try dsimp only at hSw); go_simp; try (with_reducible rfl))
            try simp only [Act.put, List.setIfInBounds_toArray, List.set_cons_zero, List.set_cons_succ]
            refine wpAnyH_ready (rs := [13]) (by kernel_rfl) (by simp) ?_
            refine (cons_at (i := 13) (.succ (.succ (.succ (.succ (.succ (.succ (.succ (.succ (.succ (.succ (.succ (.succ (.succ .zero))))))))))))) (fun K hK => ?_) AllReadyH.nil)
            go_simp
            refine (txt_at 5 t.c _ HTC.out).mono ?_
            rintro e w2 ⟨rfl, hb⟩
            rw [← HTX.out]
            have hB2 : Below W7.heap.size W7 w2 := (show Below W7.heap.size W7 _ by (repeat (first | (with_reducible exact Below.refl _ _) | (with_reducible assumption) | (with_reducible apply below_drewN) | (with_reducible apply Below.drew) | ((with_reducible refine Below.setCell ?_ ?_ _); rotate_left; focus (first | (simp; done) | (simp; omega) | omega)) | ((with_reducible refine Below.alloc ?_ ?_ _); rotate_left; focus (first | (simp; done) | (simp; omega) | omega))))).trans (hb.mono (by first | (simp; done) | (simp; omega) | omega))
            have hs2 := hB2.size
            clear hb
            try go_wp2_with fail
            refine hK.out _ _ ?_ ?_
            focus exact kp _ (by (repeat (first | (with_reducible exact Below.refl _ _) | (with_reducible assumption) | (with_reducible apply below_drewN) | (with_reducible apply Below.drew) | ((with_reducible refine Below.setCell ?_ ?_ _); rotate_left; focus (first | (simp; done) | (simp; omega) | omega)) | ((with_reducible refine Below.alloc ?_ ?_ _); rotate_left; focus (first | (simp; done) | (simp; omega) | omega)))))
            clear hK K hHeld
            intro hHeld
            try simp only [Act.put, List.setIfInBounds_toArray, List.set_cons_zero, List.set_cons_succ]
            refine take_at (i := 14) (v := ?_) (.succ (.succ (.succ (.succ (.succ (.succ (.succ (.succ (.succ (.succ (.succ (.succ (.succ (.succ .zero)))))))))))))) (by kernel_rfl) (by kernel_rfl) (by kernel_rfl) (fun _ _ _ h => h) (Or.inl ⟨by rfl, ?_⟩) (by assumption) ?_
            rotate_left
            focus (intro w' hSw; (try dsimp only at hSw); go_simp; try (with_reducible rfl))
            try simp only [Act.put, List.setIfInBounds_toArray, List.set_cons_zero, List.set_cons_succ]
            refine wpAnyH_ready (rs := [15]) (by kernel_rfl) (by simp) ?_
            refine (cons_at (i := 15) (.succ (.succ (.succ (.succ (.succ (.succ (.succ (.succ (.succ (.succ (.succ (.succ (.succ (.succ (.succ .zero))))))))))))))) (fun K hK => ?_) AllReadyH.nil)
            go_simp
            refine hK.out _ _ ?_ ?_
            focus exact kp _ (by (repeat (first | (with_reducible exact Below.refl _ _) | (with_reducible assumption) | (with_reducible apply below_drewN) | (with_reducible apply Below.drew) | ((with_reducible refine Below.setCell ?_ ?_ _); rotate_left; focus (first | (simp; done) | (simp; omega) | omega)) | ((with_reducible refine Below.alloc ?_ ?_ _); rotate_left; focus (first | (simp; done) | (simp; omega) | omega)))))
            clear hK K hHeld
            intro hHeld
            try simp only [Act.put, List.setIfInBounds_toArray, List.set_cons_zero, List.set_cons_succ]
            refine wpAnyH_ready (rs := [16]) (by kernel_rfl) (by simp) ?_
            refine (cons_at (i := 16) (.succ (.succ (.succ (.succ (.succ (.succ (.succ (.succ (.succ (.succ (.succ (.succ (.succ (.succ (.succ (.succ .zero)))))))))))))))) (fun K hK => ?_) AllReadyH.nil)
            refine step_text rfl (.tmp 37) (.tmp 52) rfl Wq.heap.size m u5 (strs ((l.map textTm).take m)) (t.p ++ (⟨#[32]⟩ : ByteArray) ++ wd ++ (⟨#[32]⟩ : ByteArray) ++ tx) w2.heap.size (by simp [Act.eval]) (by simp [Act.eval]) (by simp [go_sem]) ((owns_below HO7.out hB2).alloc _) (by omega) (by have h1 := HA7.out.size; have h2 := hB2.size; simp; omega) ?_
            intro v' w3 hown4 hgrow hnv hat
            have hB3 : Below Wq.heap.size Wq w3 := Below.grown ((HA7.out.trans (hB2.mono HA7.out.size)).alloc (by have h1 := HA7.out.size; have h2 := hB2.size; omega) _) hgrow (by have h1 := HA7.out.size; have h2 := hB2.size; simp; omega) (owns_block HOI.out)
            have hkg := keepG HUB.out (show b7 < (w2.alloc _).heap.size by have h2 := hB2.size; simp; omega) hHeld.1 hHeld.2.1 hHeld.2.2.1 hHeld.2.2.2.1 hHeld.2.2.2.2 hgrow
            have hown5 : w3.ownsRow Wq.heap.size 9 1 v' (m + 1) (strs ((l.map textTm).take (m + 1))) := by rw [HTK2.out, strs_snoc]; exact hown4
            have HO9 : Hid (World.ownsRow _ _ _ _ _ _ _) := hown5
            have HN9 : Hid (¬ _) := hnv
            clear hgrow hat hown4 hown5 hnv
            refine hK.out _ _ ?_ ?_
            focus exact hkg
            clear hK K hHeld
            intro hHeld
            try simp only [Act.put, List.setIfInBounds_toArray, List.set_cons_zero, List.set_cons_succ]
            refine take_at (i := 17) (v := ?_) (.succ (.succ (.succ (.succ (.succ (.succ (.succ (.succ (.succ (.succ (.succ (.succ (.succ (.succ (.succ (.succ (.succ .zero))))))))))))))))) (by kernel_rfl) (by kernel_rfl) (by kernel_rfl) (fun _ _ _ h => h) (Or.inl ⟨by rfl, ?_⟩) (by assumption) ?_
            rotate_left
            focus (intro w' hSw; (try dsimp only at hSw); go_simp; try (with_reducible rfl))
            try simp only [Act.put, List.setIfInBounds_toArray, List.set_cons_zero, List.set_cons_succ]
            refine wpAnyH_done (by kernel_rfl) ?_ _
            go_wp2_with fail
            go_roundw
            case rel => exact ⟨m + 1, by omega, by go_num, HO9.out, HN9.out, hB3⟩
            case measure => simp [intOf]; omega
          · go_simp
            refine (txt_at 5 t.c _ HTC.out).mono ?_
            rintro e w2 ⟨rfl, hb⟩
            rw [← HTX.out]
            have hB2 : Below W7.heap.size W7 w2 := (show Below W7.heap.size W7 _ by (repeat (first | (with_reducible exact Below.refl _ _) | (with_reducible assumption) | (with_reducible apply below_drewN) | (with_reducible apply Below.drew) | ((with_reducible refine Below.setCell ?_ ?_ _); rotate_left; focus (first | (simp; done) | (simp; omega) | omega)) | ((with_reducible refine Below.alloc ?_ ?_ _); rotate_left; focus (first | (simp; done) | (simp; omega) | omega))))).trans (hb.mono (by first | (simp; done) | (simp; omega) | omega))
            have hs2 := hB2.size
            have f2 := (hb.cell (p := ⟨gw, k, none⟩) hgw).trans f1
            have hgw2 := Nat.lt_of_lt_of_le hgw hb.size
            clear hb
            try go_wp2_with fail
            refine hK.out _ _ ?_ ?_
            focus exact kp _ (by (repeat (first | (with_reducible exact Below.refl _ _) | (with_reducible assumption) | (with_reducible apply below_drewN) | (with_reducible apply Below.drew) | ((with_reducible refine Below.setCell ?_ ?_ _); rotate_left; focus (first | (simp; done) | (simp; omega) | omega)) | ((with_reducible refine Below.alloc ?_ ?_ _); rotate_left; focus (first | (simp; done) | (simp; omega) | omega)))))
            clear hK K hHeld
            intro hHeld
            try simp only [Act.put, List.setIfInBounds_toArray, List.set_cons_zero, List.set_cons_succ]
            refine wpAnyH_ready (rs := [8]) (by kernel_rfl) (by simp) ?_
            refine (cons_at (i := 8) (.succ (.succ (.succ (.succ (.succ (.succ (.succ (.succ .zero)))))))) (fun K hK => ?_) AllReadyH.nil)
            go_simp
            refine hK.out _ _ ?_ ?_
            focus exact kp _ (by (repeat (first | (with_reducible exact Below.refl _ _) | (with_reducible assumption) | (with_reducible apply below_drewN) | (with_reducible apply Below.drew) | ((with_reducible refine Below.setCell ?_ ?_ _); rotate_left; focus (first | (simp; done) | (simp; omega) | omega)) | ((with_reducible refine Below.alloc ?_ ?_ _); rotate_left; focus (first | (simp; done) | (simp; omega) | omega)))))
            clear hK K hHeld
            intro hHeld
            try simp only [Act.put, List.setIfInBounds_toArray, List.set_cons_zero, List.set_cons_succ]
            refine take_at (i := 9) (v := ?_) (.succ (.succ (.succ (.succ (.succ (.succ (.succ (.succ (.succ .zero))))))))) (by kernel_rfl) (by kernel_rfl) (by kernel_rfl) (fun _ _ _ h => h) (Or.inl ⟨by rfl, ?_⟩) (by assumption) ?_
            rotate_left
            focus (intro w' hSw; (try dsimp only at hSw); go_simp; try (with_reducible rfl))
            try simp only [Act.put, List.setIfInBounds_toArray, List.set_cons_zero, List.set_cons_succ]
            refine take_at (i := 10) (v := ?_) (.succ (.succ (.succ (.succ (.succ (.succ (.succ (.succ (.succ (.succ .zero)))))))))) (by kernel_rfl) (by kernel_rfl) (by kernel_rfl) (fun _ _ _ h => h) (Or.inl ⟨by rfl, ?_⟩) (by assumption) ?_
            rotate_left
            focus (intro w' hSw; (try dsimp only at hSw); go_simp; try (with_reducible rfl))
            try simp only [Act.put, List.setIfInBounds_toArray, List.set_cons_zero, List.set_cons_succ]
            refine take_at (i := 14) (v := ?_) (.succ (.succ (.succ (.succ (.succ (.succ (.succ (.succ (.succ (.succ (.succ (.succ (.succ (.succ .zero)))))))))))))) (by kernel_rfl) (by kernel_rfl) (by kernel_rfl) (fun _ _ _ h => h) (Or.inl ⟨by rfl, ?_⟩) (by assumption) ?_
            rotate_left
            focus (intro w' hSw; (try dsimp only at hSw); go_simp; try (with_reducible rfl))
            try simp only [Act.put, List.setIfInBounds_toArray, List.set_cons_zero, List.set_cons_succ]
            refine wpAnyH_ready (rs := [15]) (by kernel_rfl) (by simp) ?_
            refine (cons_at (i := 15) (.succ (.succ (.succ (.succ (.succ (.succ (.succ (.succ (.succ (.succ (.succ (.succ (.succ (.succ (.succ .zero))))))))))))))) (fun K hK => ?_) AllReadyH.nil)
            go_simp
            refine hK.out _ _ ?_ ?_
            focus exact kp _ (by (repeat (first | (with_reducible exact Below.refl _ _) | (with_reducible assumption) | (with_reducible apply below_drewN) | (with_reducible apply Below.drew) | ((with_reducible refine Below.setCell ?_ ?_ _); rotate_left; focus (first | (simp; done) | (simp; omega) | omega)) | ((with_reducible refine Below.alloc ?_ ?_ _); rotate_left; focus (first | (simp; done) | (simp; omega) | omega)))))
            clear hK K hHeld
            intro hHeld
            try simp only [Act.put, List.setIfInBounds_toArray, List.set_cons_zero, List.set_cons_succ]
            refine wpAnyH_ready (rs := [16]) (by kernel_rfl) (by simp) ?_
            refine (cons_at (i := 16) (.succ (.succ (.succ (.succ (.succ (.succ (.succ (.succ (.succ (.succ (.succ (.succ (.succ (.succ (.succ (.succ .zero)))))))))))))))) (fun K hK => ?_) AllReadyH.nil)
            refine step_text rfl (.tmp 37) (.tmp 52) rfl Wq.heap.size m u5 (strs ((l.map textTm).take m)) (t.p ++ (⟨#[32]⟩ : ByteArray) ++ wd ++ (⟨#[32]⟩ : ByteArray) ++ tx) w2.heap.size (by simp [Act.eval]) (by simp [Act.eval]) (by simp [go_sem]) ((owns_below HO7.out hB2).alloc _) (by omega) (by have h1 := HA7.out.size; have h2 := hB2.size; simp; omega) ?_
            intro v' w3 hown4 hgrow hnv hat
            have hB3 : Below Wq.heap.size Wq w3 := Below.grown ((HA7.out.trans (hB2.mono HA7.out.size)).alloc (by have h1 := HA7.out.size; have h2 := hB2.size; omega) _) hgrow (by have h1 := HA7.out.size; have h2 := hB2.size; simp; omega) (owns_block HOI.out)
            have hkg := keepG HUB.out (show b7 < (w2.alloc _).heap.size by have h2 := hB2.size; simp; omega) hHeld.1 hHeld.2.1 hHeld.2.2.1 hHeld.2.2.2.1 hHeld.2.2.2.2 hgrow
            have hown5 : w3.ownsRow Wq.heap.size 9 1 v' (m + 1) (strs ((l.map textTm).take (m + 1))) := by rw [HTK2.out, strs_snoc]; exact hown4
            have HO9 : Hid (World.ownsRow _ _ _ _ _ _ _) := hown5
            have HN9 : Hid (¬ _) := hnv
            clear hgrow hat hown4 hown5 hnv
            refine hK.out _ _ ?_ ?_
            focus exact hkg
            clear hK K hHeld
            intro hHeld
            try simp only [Act.put, List.setIfInBounds_toArray, List.set_cons_zero, List.set_cons_succ]
            refine take_at (i := 17) (v := ?_) (.succ (.succ (.succ (.succ (.succ (.succ (.succ (.succ (.succ (.succ (.succ (.succ (.succ (.succ (.succ (.succ (.succ .zero))))))))))))))))) (by kernel_rfl) (by kernel_rfl) (by kernel_rfl) (fun _ _ _ h => h) (Or.inl ⟨by rfl, ?_⟩) (by assumption) ?_
            rotate_left
            focus (intro w' hSw; (try dsimp only at hSw); go_simp; try (with_reducible rfl))
            try simp only [Act.put, List.setIfInBounds_toArray, List.set_cons_zero, List.set_cons_succ]
            refine wpAnyH_done (by kernel_rfl) ?_ _
            go_wp2_with fail
            go_roundw
            case rel => exact ⟨m + 1, by omega, by go_num, HO9.out, HN9.out, hB3⟩
            case measure => simp [intOf]; omega
        · obtain rfl : m = (l.map textTm).length := by rw [List.length_map]; omega
          have HOI2 := HOI.out
          rw [List.take_length] at HOI2
          obtain ⟨g3, cap3, hv⟩ := owns_shape HOI2 HNI.out
          subst hv
          have HRS : Hid (ReadS _ _ _ _) := readS_own HOI2
          have hml : (l.map textTm).length = l.length := List.length_map _
          have hmn : ¬ (((l.map textTm).length : Nat) : Int) < (l.length : Int) := by omega
          have HJM : Hid (∀ k, (joinB (⟨#[32, 97, 110, 100, 32]⟩ : ByteArray) ((l.map textTm).take k)).size ≤ 1000000000) := fun k => Nat.le_trans (textCl_len l HCL.out k) (by omega)
          have HSM : Hid (∀ s ∈ l.map textTm, s.size ≤ 1000000000) := fun s hs => by
            obtain ⟨t, ht, rfl⟩ := List.mem_map.mp hs
            exact Nat.le_trans (textTm_len t (HOK.out t ht)) (by omega)
          have hM4 : (l.map textTm).length ≤ 1000 := by omega
          have HEQ : Hid (joinB (⟨#[32, 97, 110, 100, 32]⟩ : ByteArray) (l.map textTm) = textCl l) := rfl
          obtain ⟨M, hM⟩ : ∃ M, M = l.map textTm := ⟨_, rfl⟩
          rw [← hM] at hmn hM4 HRS HJM HSM HEQ ⊢
          clear hM hml HOI HNI HOI2
          go_wp2_with fail
          refine (joinB_any g3 cap3 _ M _ HRS.out (by decide) hM4 HJM.out HSM.out).mono ?_
          rintro e w2 ⟨rfl, hb⟩
          rw [HEQ.out]
          have hB2 : Below Wq.heap.size Wq w2 := HBI.out.trans (hb.mono hzr)
          have O3 := owns_below HOW.out hB2
          have hz3 := hB2.size
          have hBW : Below (w.heap.size + 1) W0 w2 := HBL.out.trans (hB2.mono hzs)
          clear hb
          go_wp2_with (at_builtin; refine wpList_append_own_at _ rfl (.tmp 54) (.tmp 57) 152 rfl (w.heap.size + 1) 9 i0 (.string ByteArray.empty) 1 16 Tryz.underlying152 hi0 hz0 hz1 hz2 rfl (by decide) _ _ _ rfl (O3.alloc _) ⟨w2.heap.size, 0, none⟩ 1 1 [.string (textCl l)] rfl rfl (cell_one_new _ _ _) (by intro u hu; simp at hu; subst hu; rfl) (by unfold maxLen; omega) (by omega) (by simp; omega) ?_)
          intro v' w3 hown4 hgrow hnv hat
          have hb4 : Below (w.heap.size + 1) W0 w3 := Below.grown (hBW.alloc (by omega) _) hgrow (by simp; omega) (owns_block O3)
          have hown5 : w3.ownsRow (w.heap.size + 1) 9 1 v' (q + 1) (strs ((f.map textCl).take (q + 1))) := by rw [HTK.out, strs_snoc]; exact hown4
          have HO4 : Hid (World.ownsRow _ _ _ _ _ _ _) := hown5
          have HNV : Hid (¬ v' = .slice none 0 0) := fun e => hnv e
          clear hgrow hat hown4 hown5 O3 hnv
          go_wp2_with fail
          go_roundw
          case rel => exact ⟨q + 1, by omega, by go_num, HO4.out, HNV.out, hb4⟩
          case measure => simp [intOf]; omega
    · obtain rfl : q = (f.map textCl).length := by rw [List.length_map]; omega
      have HOI2 := HOW.out
      rw [List.take_length] at HOI2
      obtain ⟨g3, cap3, hv⟩ := owns_shape HOI2 HN.out
      subst hv
      have HRS : Hid (ReadS _ _ _ _) := readS_own HOI2
      have hml : (f.map textCl).length = f.length := List.length_map _
      have hmn : ¬ (((f.map textCl).length : Nat) : Int) < (f.length : Int) := by omega
      have HJM : Hid (∀ k, (joinB (⟨#[32, 111, 114, 32]⟩ : ByteArray) ((f.map textCl).take k)).size ≤ 1000000000) := fun k => Nat.le_trans (HJ.out k) (by omega)
      have HSM : Hid (∀ s ∈ f.map textCl, s.size ≤ 1000000000) := fun s hs => by
        obtain ⟨l, hl, rfl⟩ := List.mem_map.mp hs
        exact Nat.le_trans (textCl_size l (HF.out l hl)) (by omega)
      have hM4 : (f.map textCl).length ≤ 1000 := by omega
      have HEQ : Hid (joinB (⟨#[32, 111, 114, 32]⟩ : ByteArray) (f.map textCl) = textFi f) := rfl
      obtain ⟨M, hM⟩ : ∃ M, M = f.map textCl := ⟨_, rfl⟩
      rw [← hM] at hmn hM4 HRS HJM HSM HEQ ⊢
      clear hM hml HOW HN HOI2
      have hBw : Below w.heap.size w wr := hb0.trans (hbel.mono (by omega))
      go_wp2_with fail
      refine (joinB_any g3 cap3 _ M _ HRS.out (by decide) hM4 HJM.out HSM.out).mono ?_
      rintro e w2 ⟨rfl, hb⟩
      rw [HEQ.out]
      have hb2 := hBw.trans (hb.mono hBw.size)
      clear hb
      go_wp2_with fail
      go_ret
      exact ⟨rfl, hb2⟩

/-- What the text of a filter is, with its code. -/
def ftP (f : List (List Trm)) : ByteArray × Int := if filtB f = true then (textFi f, 0) else (em, 1)
set_option maxRecDepth 4000 in
set_option maxHeartbeats 1000000 in
theorem specFT_any (g cap : Nat) (f : List (List Trm)) (w : World) (hr : ReadC w g f) (hl : f.length ≤ 1048576) (hs : ∀ l ∈ f, szC l) :
    Calls Tryz.prog 22 #[.agg #[.slice (some ⟨g, 0, none⟩) f.length cap]] w fun e w' => e = .returned (.tuple #[.string (ftP f).1, .int .i64 (ftP f).2]) ∧ Below w.heap.size w w' := by
  have hb0 : Below w.heap.size w (w.alloc (.cells #[.slice (some ⟨g, 0, none⟩) f.length cap] 53)) := (Below.refl _ _).alloc (Nat.le_refl _) _
  have c0 : (w.alloc (.cells #[.slice (some ⟨g, 0, none⟩) f.length cap] 53)).cell? ⟨w.heap.size, 0, none⟩ = some (.slice (some ⟨g, 0, none⟩) f.length cap) := by simp [go_sem]
  have hl0 : w.heap.size < (w.alloc (.cells #[.slice (some ⟨g, 0, none⟩) f.length cap] 53)).heap.size := by simp
  have HR : Hid (ReadC _ _ _) := hr.next hb0
  have HC : Hid (Calls _ _ _ _ _) := specFilt_any (some ⟨g, 0, none⟩) cap f (w.alloc (.cells #[.slice (some ⟨g, 0, none⟩) f.length cap] 53)) (.inr ⟨g, rfl, hr.next hb0⟩) hl hs
  have HT : Hid (filtB f = true → ∀ W : World, ReadC W g f → Calls Tryz.prog 68 #[.agg #[.slice (some ⟨g, 0, none⟩) f.length cap]] W fun e w' => e = .returned (.string (textFi f)) ∧ Below W.heap.size W w') := fun h W hW => l03Text_any g cap f W hW h
  obtain ⟨P, hP⟩ : ∃ P, P = filtB f := ⟨_, rfl⟩
  unfold ftP
  rw [← hP] at HC HT ⊢
  clear hr hs hP
  go_enter Tryz.func22, Tryz.ntmps22
  go_wp2_with fail
  generalize w.alloc (.cells #[.slice (some ⟨g, 0, none⟩) f.length cap] 53) = W0 at hb0 c0 hl0 HR HC ⊢
  refine HC.out.mono ?_
  rintro e w1 ⟨rfl, hb⟩
  have c1 := (hb.cell (p := ⟨w.heap.size, 0, none⟩) hl0).trans c0
  have hb1 := hb0.trans (hb.mono hb0.size)
  have HR1 : Hid (ReadC _ _ _) := HR.out.next hb
  have hl1 : w.heap.size < w1.heap.size := Nat.lt_of_lt_of_le hl0 hb.size
  clear hb HC HR
  cases P
  · go_wp2_with fail
    go_ret2
    exact ⟨rfl, hb1⟩
  · go_wp2_with fail
    refine (HT.out (by first | trivial | rfl) _ HR1.out).mono ?_
    rintro e w2 ⟨rfl, hb⟩
    have hb2 := hb1.trans (hb.mono hb1.size)
    clear hb
    go_wp2_with fail
    go_ret2
    exact ⟨rfl, hb2⟩

end Go.Proofs.YtkeghknceccdmaaGreatDoor

/- What the program's text of a filter is (whole). -/
namespace Go.Proofs.YtkeghknceccdmaaGreatDoor
open Go.RowKit
set_option linter.unusedVariables false

/-- The text of a filter's first clauses, as bytes. -/
def fiT (f : List (List Trm)) (q : Nat) : List UInt8 := (joinB (⟨#[32, 111, 114, 32]⟩ : ByteArray) ((f.map textCl).take q)).data.toList
theorem fiT_zero (f : List (List Trm)) : fiT f 0 = [] := by unfold fiT; rw [List.take_zero]; rfl
theorem fiT_all (f : List (List Trm)) : fiT f f.length = (textFi f).data.toList := by unfold fiT textFi; rw [List.take_of_length_le (by simp)]
theorem fiT_first (f : List (List Trm)) (hlt : 0 < f.length) (l : List Trm) (hl : l = f[0]) : fiT f (0 + 1) = fiT f 0 ++ (textCl l).data.toList := by
  rw [fiT_zero]
  unfold fiT
  rw [joinB_take0 _ _ (by simpa using hlt), app_data]
  simp only [List.getElem_map]
  rw [← hl]
  try simp [em]
theorem fiT_next (f : List (List Trm)) (q : Nat) (hlt : q < f.length) (hq : 0 < q) (l : List Trm) (hl : l = f[q]) : fiT f (q + 1) = (fiT f q ++ ([32, 111, 114, 32] : List UInt8)) ++ (textCl l).data.toList := by
  unfold fiT
  rw [joinB_take _ _ q (by simpa using hlt) hq, app_data, app_data]
  simp only [List.getElem_map]
  rw [← hl]
theorem fiT_len (f : List (List Trm)) (h : filtB f = true) (q : Nat) : (fiT f q).length ≤ 80550 := by
  unfold fiT; rw [toList_length]; exact textFi_len f h q
theorem grow_more0 {B : Nat} {w : World} {v : Value} {a b c : List UInt8} (hc : c = a ++ b) (h : w.ownsRow B 5 1 v (a.length + b.length) (Lib.byteCells a ++ Lib.byteCells b)) : w.ownsRow B 5 1 v c.length (Lib.byteCells c) := by
  subst hc
  rw [List.length_append, show Lib.byteCells (a ++ b) = Lib.byteCells a ++ Lib.byteCells b by simp [Lib.byteCells]]; exact h
theorem mkB_fi (f : List (List Trm)) : mkB (textFi f).data.toList = textFi f := mkB_of _

set_option maxRecDepth 8000 in
set_option maxHeartbeats 8000000 in
theorem implFT_any (g cap : Nat) (f : List (List Trm)) (w : World) (hr : ReadC w g f) (hl : f.length ≤ 1048576) (hs : ∀ l ∈ f, szC l) (B0 : Nat) (hB0 : B0 ≤ w.heap.size) (htab : Tab B0 w) (hwd : Wds B0 w) :
    Calls Tryz.prog 24 #[.agg #[.slice (some ⟨g, 0, none⟩) f.length cap]] w fun e w' => e = .returned (.tuple #[.string (ftP f).1, .int .i64 (ftP f).2]) ∧ Below w.heap.size w w' := by
  have hb0 : Below w.heap.size w (w.alloc (.cells #[.slice (some ⟨g, 0, none⟩) f.length cap] 53)) := (Below.refl _ _).alloc (Nat.le_refl _) _
  have c0 : (w.alloc (.cells #[.slice (some ⟨g, 0, none⟩) f.length cap] 53)).cell? ⟨w.heap.size, 0, none⟩ = some (.slice (some ⟨g, 0, none⟩) f.length cap) := by simp [go_sem]
  have hl0 : w.heap.size < (w.alloc (.cells #[.slice (some ⟨g, 0, none⟩) f.length cap] 53)).heap.size := by simp
  have HR : Hid (ReadC _ _ _) := hr.next hb0
  have HC : Hid (Calls _ _ _ _ _) := filterOK_any (some ⟨g, 0, none⟩) cap f (w.alloc (.cells #[.slice (some ⟨g, 0, none⟩) f.length cap] 53)) (.inr ⟨g, rfl, hr.next hb0⟩) hl hs
  have HT0 : Hid (Tab _ _) := htab
  have HW0 : Hid (Wds _ _) := hwd
  obtain ⟨P, hP⟩ : ∃ P, P = filtB f := ⟨_, rfl⟩
  unfold ftP
  rw [← hP] at HC ⊢
  have HP : Hid (_ = _) := hP
  clear hr hs htab hwd hP
  go_enter Tryz.func24, Tryz.ntmps24
  go_wp2_with fail
  generalize w.alloc (.cells #[.slice (some ⟨g, 0, none⟩) f.length cap] 53) = W0 at hb0 c0 hl0 HR HC ⊢
  refine HC.out.mono ?_
  rintro e w1 ⟨rfl, hb⟩
  have c1 := (hb.cell (p := ⟨w.heap.size, 0, none⟩) hl0).trans c0
  have hb1 := hb0.trans (hb.mono hb0.size)
  have HR1 : Hid (ReadC _ _ _) := HR.out.next hb
  have hl1 : w.heap.size < w1.heap.size := Nat.lt_of_lt_of_le hl0 hb.size
  clear hb HC HR c0 hl0
  cases P
  · go_wp2_with fail
    go_ret2
    exact ⟨rfl, hb1⟩
  have hfb := HP.out.symm
  have hf' := hfb
  unfold filtB at hf'; simp at hf'
  have hfl : f.length ≤ 3 := hf'.1.2
  have HF : Hid (∀ l ∈ f, clauseB l = true) := hf'.2
  have HFB : Hid (filtB f = true) := hfb
  obtain ⟨B, hBe⟩ : ∃ B, B = w1.heap.size := ⟨_, rfl⟩
  have hBw : B ≤ w1.heap.size := by omega
  have hBl : w.heap.size < B := by omega
  have HT : Hid (Tab B w1) := by
    show Tab B w1
    rw [hBe]
    exact fun w' hb' => HT0.out w' ((hb1.mono hB0).trans (hb'.mono (by omega)))
  have HW : Hid (Wds B w1) := by
    have h := HW0.out.on (hb1.mono hB0)
    exact ⟨by have := h.lt; omega, h.cell⟩
  have HGB : Hid (∀ q (h : q < f.length), ∃ p cl, w1.cell? ⟨g, q, none⟩ = some (.slice p f[q].length cl) ∧ RowT w1 p f[q] ∧ ∀ b, p = some ⟨b, 0, none⟩ → f[q] ≠ [] → b < B) := fun q h => by
    obtain ⟨p, cl, h1, h2⟩ := HR1.out.cells q h
    refine ⟨p, cl, h1, h2, fun b e hne => ?_⟩
    rcases h2 with h2 | ⟨b', e', R⟩
    · exact absurd h2 hne
    · rw [e] at e'; injection e' with e'; injection e' with e'; have := R.lt; omega
  have hgB : g < B := by have := HR1.out.lt; omega
  clear hf' hfb HR1 HT0 HW0 HP hBe
  go_wp2_with fail
  go_loopw [4, 13] (fun u i wr => ∃ q : Nat, q ≤ f.length ∧ i = .int .i64 q ∧ wr.ownsRow B 5 1 u (fiT f q).length (Lib.byteCells (fiT f q)) ∧ Below B w1 wr) (fun _ i _ => f.length - (intOf i).toNat)
  case atStart => exact ⟨0, Nat.zero_le _, rfl, by rw [fiT_zero]; exact World.ownsRow_nil _ _ _ _, Below.refl _ _⟩
  case round =>
    obtain ⟨q, hq, rfl, o3, b3⟩ := hrel
    have hz3 := b3.size
    have hlq := fiT_len f HFB.out q
    by_cases hlt : q < f.length
    · obtain ⟨p, cl, x0', hT, hpb⟩ := HGB.out q hlt
      have x0 := (b3.cell (p := ⟨g, q, none⟩) hgB).trans x0'
      have hgl : g < wr.heap.size := by omega
      obtain ⟨l, hl⟩ : ∃ l, l = f[q] := ⟨_, rfl⟩
      have hcl : clauseB l = true := by rw [hl]; exact HF.out _ (List.getElem_mem _)
      have hcl' := hcl
      unfold clauseB at hcl'; simp at hcl'
      have hll : l.length ≤ 4 := hcl'.1
      have hcz := textCl_size l hcl
      rw [← hl] at x0 hT hpb
      have HCL : Hid (clauseB l = true) := hcl
      have HTR : Hid (∀ W : World, Below B w1 W → l ≠ [] → RowT W p l) := fun W hW hne => by
        rcases hT with h | ⟨b', e', R⟩
        · exact .inl h
        · exact .inr ⟨b', e', R.step hW (hpb b' e' hne)⟩
      have HPB : Hid (∀ b, p = some ⟨b, 0, none⟩ → l ≠ [] → b < B) := hpb
      have HAL : Hid (Below B w1 (wr.alloc (.cells #[.slice p l.length cl] 109))) := b3.alloc (by omega) _
      have HO4 : Hid (World.ownsRow _ _ _ _ _ _ _) := o3.alloc (.cells #[.slice p l.length cl] 109)
      have hqi : (q : Int) < (f.length : Int) := by omega
      have HAC : Hid (∀ (W : World) (sv : Value) (n : Nat) (xs : List Value), W.ownsRow B 5 1 sv n xs → B ≤ W.heap.size → n ≤ 100000 → Below B w1 W → Calls Tryz.prog 71 #[sv, .agg #[.slice p l.length cl]] W fun e w' => GrewT B n xs (textCl l).data.toList W e w') := fun W sv n xs ho hB hn hW => by
        by_cases hne : l = []
        · exact appClause_any l HCL.out p cl B n sv xs W ho hB hn (.inl hne) (Lib.TabBelow.on HT.out hW) (HW.out.on hW) (fun b e h => absurd hne h)
        · exact appClause_any l HCL.out p cl B n sv xs W ho hB hn (HTR.out W hW hne) (Lib.TabBelow.on HT.out hW) (HW.out.on hW) HPB.out
      clear hT hpb hcl hcl' x0' HTR HPB
      by_cases hq0 : q = 0
      · subst hq0
        have hnq : ¬ (0 : Int) < 0 := by omega
        have HCAT : Hid (fiT f (0 + 1) = fiT f 0 ++ (textCl l).data.toList) := fiT_first f hlt l hl
        clear hl o3 b3
        go_wp2_with fail
        refine (HAC.out _ _ _ _ HO4.out (by simp; omega) (by omega) HAL.out).mono ?_
        rintro e w7 ⟨v7, rfl, o7, b7, k7⟩
        have HO7 : Hid (World.ownsRow _ _ _ _ _ _ _) := grow_more0 HCAT.out o7
        have hb7 : Below B w1 w7 := HAL.out.trans b7
        clear o7 k7 b7
        go_wp2_with fail
        go_roundw
        case rel => exact ⟨0 + 1, by omega, by go_num, HO7.out, hb7⟩
        case measure => simp [intOf]; omega
      · have hq1 : 0 < q := by omega
        have hqj : (0 : Int) < (q : Int) := by omega
        have HCAT : Hid (fiT f (q + 1) = (fiT f q ++ ([32, 111, 114, 32] : List UInt8)) ++ (textCl l).data.toList) := fiT_next f q hlt hq1 l hl
        clear hl o3 b3
        go_wp2_with (at_builtin; refine app_str rfl (.tmp 20) (.const (.string ⟨#[32, 111, 114, 32]⟩)) rfl B _ _ _ ⟨#[32, 111, 114, 32]⟩ rfl rfl HO4.out (by simp; omega) (by omega) (by decide) ?_; intro v1 w5 o5 b5 k5; refine Hid.out ?_)
        refine Lib.hid ?_
        have p5 : w5.ownsRow B 5 1 v1 (fiT f q ++ ([32, 111, 114, 32] : List UInt8)).length (Lib.byteCells (fiT f q ++ ([32, 111, 114, 32] : List UInt8))) := grow_more0 rfl o5
        have HO5 : Hid (World.ownsRow _ _ _ _ _ _ _) := p5
        have HB5 : Hid (Below B w1 w5) := HAL.out.trans b5
        have y0 := kept_new k5 (by decide) 0
        simp only [List.getElem?_toArray, List.getElem?_cons_zero] at y0
        have z5 := b5.size
        simp at z5
        have hl5 : (fiT f q ++ ([32, 111, 114, 32] : List UInt8)).length ≤ 90000 := by rw [List.length_append]; simp only [List.length_cons, List.length_nil]; omega
        clear o5 p5 k5 b5
        go_wp2_with fail
        refine (HAC.out _ _ _ _ HO5.out (by omega) (by omega) HB5.out).mono ?_
        rintro e w7 ⟨v7, rfl, o7, b7, k7⟩
        have HO7 : Hid (World.ownsRow _ _ _ _ _ _ _) := grow_more0 HCAT.out o7
        have hb7 : Below B w1 w7 := HB5.out.trans b7
        clear o7 k7 b7
        go_wp2_with fail
        go_roundw
        case rel => exact ⟨q + 1, by omega, by go_num, HO7.out, hb7⟩
        case measure => simp [intOf]; omega
    · obtain rfl : q = f.length := by omega
      have hni : ¬ ((f.length : Int) < (f.length : Int)) := by omega
      rw [fiT_all] at o3
      have hcv := convT wr u4 (textFi f).data.toList _ o3
      rw [mkB_fi] at hcv
      have hbw : Below w.heap.size w wr := hb1.trans (b3.mono (by omega))
      clear o3
      go_wp2_with fail
      go_ret2
      exact ⟨rfl, hbw⟩

end Go.Proofs.YtkeghknceccdmaaGreatDoor

/- The law on the text of a filter, walked (whole). -/
namespace Go.Proofs.YtkeghknceccdmaaGreatDoor
open Go.RowKit
set_option linter.unusedVariables false

set_option maxRecDepth 8000 in
set_option maxHeartbeats 4000000 in
theorem lawFT (a : Option Addr) (cap : Nat) (f : List (List Trm)) (hl : f.length ≤ maxLen) (hs : ∀ l ∈ f, maxC l) (w : World) (htab : Tab w.heap.size w) (hwd : Wds w.heap.size w) (hin : InCl w a f) :
    Calls Tryz.prog 4 #[.agg #[.slice a f.length cap]] w fun e w' => e = .returned (.bool true) ∧ Below w.heap.size w w' := by
  have hb0 : Below w.heap.size w (w.alloc (.cells #[.slice a f.length cap] 48)) := (Below.refl _ _).alloc (Nat.le_refl _) _
  have c0 : (w.alloc (.cells #[.slice a f.length cap] 48)).cell? ⟨w.heap.size, 0, none⟩ = some (.slice a f.length cap) := by simp [go_sem]
  have hl0 : w.heap.size < (w.alloc (.cells #[.slice a f.length cap] 48)).heap.size := by simp
  have HZ : Hid (Calls _ _ _ _ _) := szFilter_any a cap f 1048576 (w.alloc (.cells #[.slice a f.length cap] 48)) (hin.step hb0) hl hs (by omega) (by omega)
  have HIN : Hid (InCl _ _ _) := hin.step hb0
  have HT : Hid (Tab _ _) := htab
  have HW : Hid (Wds _ _) := hwd
  clear hin hs htab hwd
  go_enter Tryz.func4, Tryz.ntmps4
  go_wp2_with fail
  generalize w.alloc (.cells #[.slice a f.length cap] 48) = W0 at hb0 c0 hl0 HZ HIN ⊢
  refine HZ.out.mono ?_
  rintro e w1 ⟨⟨r, rfl, hr⟩, hb⟩
  have B1 := hb0.trans (hb.mono hb0.size)
  have k1 := (hb.cell hl0).trans c0
  have l1 : w.heap.size < w1.heap.size := Nat.lt_of_lt_of_le hl0 hb.size
  have HIN1 : Hid (InCl _ _ _) := HIN.out.step hb
  clear hb HIN HZ c0 hl0 hb0
  rcases hr with hneg | ⟨hr0, hr1, hr2, hr3⟩
  · go_wp2_with fail
    go_ret
    exact ⟨rfl, B1⟩
  have hnn : ¬ r < 0 := by omega
  have HSZ : Hid (∀ l ∈ f, szC l) := hr3
  have HSL : Hid (∀ l ∈ f, l.length ≤ 1048576) := fun l hl => (hr3 l hl).1
  clear hr3
  obtain ⟨P, hP⟩ : ∃ P, P = ftP f := ⟨_, rfl⟩
  have HS0 := fun (g c : Nat) (W : World) (hW : ReadC W g f) => specFT_any g c f W hW hr2 HSZ.out
  have HI0 := fun (g c : Nat) (W : World) (hW : ReadC W g f) (hB : Below w.heap.size w W) => implFT_any g c f W hW hr2 HSZ.out w.heap.size hB.size (Lib.TabBelow.on HT.out hB) (HW.out.on hB)
  rw [← hP] at HS0 HI0
  obtain ⟨p1, p2⟩ := P
  have HSS : Hid (∀ (g c : Nat) (W : World), ReadC W g f → Calls Tryz.prog 22 #[.agg #[.slice (some ⟨g, 0, none⟩) f.length c]] W fun e w' => e = .returned (.tuple #[.string p1, .int .i64 p2]) ∧ Below W.heap.size W w') := HS0
  have HII : Hid (∀ (g c : Nat) (W : World), ReadC W g f → Below w.heap.size w W → Calls Tryz.prog 24 #[.agg #[.slice (some ⟨g, 0, none⟩) f.length c]] W fun e w' => e = .returned (.tuple #[.string p1, .int .i64 p2]) ∧ Below W.heap.size W w') := HI0
  clear HS0 HI0 hP
  go_wp2_with fail
  refine (toFilter_any a cap f _ HIN1.out hr2 HSL.out).mono ?_
  rintro e w2 ⟨⟨g2, rfl, R2⟩, hb⟩
  have B2 := B1.trans (hb.mono B1.size)
  have k2 := (hb.cell l1).trans k1
  have l2 : w.heap.size < w2.heap.size := Nat.lt_of_lt_of_le l1 hb.size
  have HIN2 : Hid (InCl _ _ _) := HIN1.out.step hb
  have HR2 : Hid (ReadC _ _ _) := R2
  clear hb HIN1 k1 l1 B1 R2
  go_wp2_with fail
  refine (HSS.out g2 _ _ HR2.out).mono ?_
  rintro e w3 ⟨rfl, hb⟩
  have B3 := B2.trans (hb.mono B2.size)
  have k3 := (hb.cell l2).trans k2
  have l3 : w.heap.size < w3.heap.size := Nat.lt_of_lt_of_le l2 hb.size
  have HIN3 : Hid (InCl _ _ _) := HIN2.out.step hb
  clear hb HIN2 k2 l2 B2 HR2
  go_wp2_with fail
  refine (toFilter_any a cap f _ HIN3.out hr2 HSL.out).mono ?_
  rintro e w4 ⟨⟨g4, rfl, R4⟩, hb⟩
  have hbA : Below w3.heap.size w3 (w4.alloc (.cells #[.slice (some ⟨g4, 0, none⟩) f.length f.length] 53)) := hb.alloc hb.size _
  have B5 := B3.trans (hbA.mono B3.size)
  have k5 := (hbA.cell l3).trans k3
  have l5 : w.heap.size < (w4.alloc (.cells #[.slice (some ⟨g4, 0, none⟩) f.length f.length] 53)).heap.size := Nat.lt_of_lt_of_le l3 hbA.size
  have HIN5 : Hid (InCl _ _ _) := HIN3.out.step hbA
  have HR5 : Hid (ReadC _ _ _) := R4.next ((Below.refl _ _).alloc (Nat.le_refl _) (.cells #[.slice (some ⟨g4, 0, none⟩) f.length f.length] 53))
  have x5 : (w4.alloc (.cells #[.slice (some ⟨g4, 0, none⟩) f.length f.length] 53)).cell? ⟨w4.heap.size, 0, none⟩ = some (.slice (some ⟨g4, 0, none⟩) f.length f.length) := by simp [go_sem]
  have m5 : w4.heap.size < (w4.alloc (.cells #[.slice (some ⟨g4, 0, none⟩) f.length f.length] 53)).heap.size := by simp
  clear hb hbA HIN3 k3 l3 B3 R4
  go_wp2_with fail
  generalize w4.alloc (.cells #[.slice (some ⟨g4, 0, none⟩) f.length f.length] 53) = W5 at B5 k5 l5 HIN5 HR5 x5 m5 ⊢
  obtain ⟨bx, hbx⟩ : ∃ bx, bx = w4.heap.size := ⟨_, rfl⟩
  rw [← hbx] at x5 m5 ⊢
  clear hbx
  refine (HII.out g4 _ _ HR5.out B5).mono ?_
  rintro e w6 ⟨rfl, hb⟩
  have B6 := B5.trans (hb.mono B5.size)
  have k6 := (hb.cell l5).trans k5
  have l6 : w.heap.size < w6.heap.size := Nat.lt_of_lt_of_le l5 hb.size
  have x6 := (hb.cell m5).trans x5
  have m6 : bx < w6.heap.size := Nat.lt_of_lt_of_le m5 hb.size
  have HIN6 : Hid (InCl _ _ _) := HIN5.out.step hb
  have HR6 : Hid (ReadC _ _ _) := HR5.out.next hb
  clear hb HIN5 k5 l5 B5 HR5 x5 m5
  go_wp2_with fail
  go_region_with (first | (go_at_call 23; refine (toFilter_any a cap f _ (HIN6.out.step (by (repeat (first | (with_reducible exact Below.refl _ _) | (with_reducible assumption) | (with_reducible apply below_drewN) | (with_reducible apply Below.drew) | ((with_reducible refine Below.setCell ?_ ?_ _); rotate_left; focus (first | (simp; done) | (simp; omega) | omega)) | ((with_reducible refine Below.alloc ?_ ?_ _); rotate_left; focus (first | (simp; done) | (simp; omega) | omega)))))) hr2 HSL.out).mono ?_; rintro e w7 ⟨⟨g7, rfl, R7⟩, hb⟩; have hB7 : Below w6.heap.size w6 w7 := (show Below w6.heap.size w6 _ by (repeat (first | (with_reducible exact Below.refl _ _) | (with_reducible assumption) | (with_reducible apply below_drewN) | (with_reducible apply Below.drew) | ((with_reducible refine Below.setCell ?_ ?_ _); rotate_left; focus (first | (simp; done) | (simp; omega) | omega)) | ((with_reducible refine Below.alloc ?_ ?_ _); rotate_left; focus (first | (simp; done) | (simp; omega) | omega))))).trans (hb.mono (by simp)); have x7 := (hB7.cell m6).trans x6; have k7 := (hB7.cell l6).trans k6; have HR7 : Hid (ReadC _ _ _) := R7; clear R7 hb) | (go_at_call 25; refine (eqFilter_same _ _ _ _ f _ (.inr ⟨g4, rfl, HR6.out.next hB7⟩) (.inr ⟨g7, rfl, HR7.out⟩) hr2 HSL.out).mono ?_; rintro e w8 ⟨rfl, hb⟩; have hB8 := hB7.trans (hb.mono hB7.size); clear hb))
  all_goals
    have hbz := B6.trans (hB8.mono B6.size)
    go_wp2_with fail
    go_ret
    exact ⟨rfl, hbz⟩

end Go.Proofs.YtkeghknceccdmaaGreatDoor

/- The program's table of a term's words as it is laid: from the condition to the cells. -/
namespace Go.Proofs.YtkeghknceccdmaaGreatDoor
open Go.ChangeShapes Go.WideShapes Go.ChangeAt Go.RowKit
open Go.ChangeMaps (open_string shut_string)
set_option linter.unusedVariables false

theorem gWordsT : Tryz.prog.globalNamed "loop.example/g00380/impl.termWords" = some 0 := by kernel_rfl
theorem tWordsT : (Tryz.prog.globals[(0 : Nat)]?).map (·.type) = some 187 := by kernel_rfl
theorem cellsArrT : Tryz.prog.cellsOf 187 = 11 := by kernel_rfl
theorem cellsStrT : Tryz.prog.cellsOf 9 = 1 := by kernel_rfl
def wordListsT : List (List UInt8) := [[], [101, 113], [110, 101], [108, 116], [108, 116, 101], [103, 116], [103, 116, 101], [105, 110], [101, 120, 105, 115, 116, 115], [116, 121, 112, 101], [115, 105, 122, 101]]
def cells11 : Array Value := (wordListsT.map fun l => Value.string ⟨l.toArray⟩).toArray
theorem strs_ofT {H : Type} {enc : TypeId × Value → H} {W : World} {sp : Nat → Bool} {held : Bool} {fuel : Nat} {cs : List Value} {x : DataW H × List MemPlace} (L : List (List UInt8))
    (hx : x.1 = .agg (L.map fun l => .lit (.string l))) (h : DataW.trod enc Tryz.prog W 0 sp held fuel 187 cs = some x) : cs = L.map (fun l => Value.string ⟨l.toArray⟩) := by
  obtain ⟨xs, m, _, hxe, hlen, hn, hel⟩ := DataW.trod_array Tryz.underlying187 h
  rw [hxe] at hx
  have hxs : xs.map (fun x => x.fst) = L.map fun l => .lit (.string l) := by simpa using hx
  have hL : L.length = 11 := by have := congrArg List.length hxs; simpa [hn] using this.symm
  rw [cellsArrT] at hlen
  apply List.ext_getElem
  · simp [hlen, hL]
  · intro i h1 h2
    have hi : i < 11 := by omega
    have e := hel i hi
    rw [cellsStrT, Nat.mul_one] at e
    have e2 : List.take 1 (List.drop i cs) = [cs[i]] := by rw [List.drop_eq_getElem_cons h1]; rfl
    rw [e2, List.getElem?_eq_getElem (by omega)] at e
    obtain ⟨s, es, ex, _⟩ := DataW.trod_string Tryz.underlying9 e
    have e3 : (xs.map (fun x => x.fst))[i]'(by simp; omega) = (L.map fun l => (DataW.lit (.string l) : DataW H))[i]'(by simp; omega) := by simp only [hxs]
    simp only [List.getElem_map] at e3
    rw [ex] at e3
    simp at e3 es
    simp only [List.getElem_map]
    rw [es, ← e3]
theorem cells_of_laidT {W : World} (h : laidMetH Tryz.prog Rows.fnExactFilterTextRow.laid W) : W.var? Tryz.prog "loop.example/g00380/impl.termWords" = some cells11 := by
  rw [MakeChecks.laidMetH_plain _ _ _ (by kernel_rfl)] at h
  obtain ⟨ps, ⟨g, t, cs, fuel, p, q, hg, ht, hvar, hd, _, _⟩, _⟩ := laidMet.tail (laidMet.tail (laidMet.tail (laidMet.tail h)))
  obtain rfl := Option.some.inj (gWordsT.symm.trans hg)
  obtain rfl := Option.some.inj (tWordsT.symm.trans ht)
  rw [hvar]
  congr 1
  have := strs_ofT wordListsT rfl hd
  obtain ⟨l⟩ := cs
  simp at this
  rw [this]; rfl
abbrev tableT {H : Type} : DataW H := .agg (wordListsT.map fun l => .lit (.string l))
theorem reads_tableT {H : Type} (enc : TypeId × Value → H) (W : World) (sp : Nat → Bool) : DataW.trod enc Tryz.prog W 0 sp true 3 187 cells11.toList = some (tableT, []) := by kernel_rfl
theorem word_atT (k : Nat) (hk : k < 11) : cells11[k]? = some (.string (words.getD k em)) := by
  rcases (show k = 0 ∨ k = 1 ∨ k = 2 ∨ k = 3 ∨ k = 4 ∨ k = 5 ∨ k = 6 ∨ k = 7 ∨ k = 8 ∨ k = 9 ∨ k = 10 by omega) with rfl | rfl | rfl | rfl | rfl | rfl | rfl | rfl | rfl | rfl | rfl <;> rfl
theorem wds_of {W : World} (h : laidMetH Tryz.prog Rows.fnExactFilterTextRow.laid W) : Wds W.heap.size W := by
  have hv := cells_of_laidT h
  have hc : ∀ k, k < 11 → W.cell? ⟨0, k, none⟩ = some (.string (words.getD k em)) := fun k hk => (World.var?_cell gWordsT hv k).trans (word_atT k hk)
  refine ⟨?_, hc⟩
  rcases Nat.lt_or_ge 0 W.heap.size with h' | h'
  · exact h'
  · have := hc 0 (by omega)
    simp [World.cell?, Array.getElem?_eq_none h'] at this
theorem tabT_of_laid {W : World} (h : laidMetH Tryz.prog Rows.fnExactFilterTextRow.laid W) : Lib.TabIs Tryz.prog W "internal/strconv.uint64pow10" .u64 Lib.pow10Tab := by
  rw [MakeChecks.laidMetH_plain _ _ _ (by kernel_rfl)] at h
  exact Lib.tabIs_of_head (g := 2) (t := 316) (e := 301) (n := 20) (by kernel_rfl) (by kernel_rfl) Tryz.underlying316 Tryz.underlying301 (by kernel_rfl) (by kernel_rfl) (laidMet.tail (laidMet.tail h))

end Go.Proofs.YtkeghknceccdmaaGreatDoor

/- The law's own walk. -/
namespace Go.Proofs.YtkeghknceccdmaaGreatDoor
open Go.ChangeShapes Go.WideShapes Go.ChangeAt Go.RowKit Go.Joins
open Go.ChangeMaps (open_string shut_string)
set_option linter.unusedVariables false
namespace FtxLaw


theorem tab_of_laid {W : World} (h : laidMetH Tryz.prog Rows.fnExactFilterTextRow.laid W) : Lib.TabIs Tryz.prog W "internal/strconv.uint64pow10" .u64 Lib.pow10Tab ∧ Wds W.heap.size W := ⟨tabT_of_laid h, wds_of h⟩
theorem walk (a : Option Addr) (cap : Nat) (f : List (List Trm)) (hl : f.length ≤ maxLen) (hs : ∀ l ∈ f, maxC l) (w : World) (htab : Lib.TabIs Tryz.prog w "internal/strconv.uint64pow10" .u64 Lib.pow10Tab ∧ Wds w.heap.size w) (hin : InCl w a f) :
    Calls Tryz.prog 4 #[.agg #[.slice a f.length cap]] w fun e w' => e = .returned (.bool true) ∧ Below w.heap.size w w' :=
  lawFT a cap f hl hs w (Lib.tabBelow_of_tabIs htab.1) htab.2 hin

end FtxLaw
end Go.Proofs.YtkeghknceccdmaaGreatDoor

/- The law's walk, lifted to the row. -/
namespace Go.Proofs.YtkeghknceccdmaaGreatDoor
open Go.ChangeShapes Go.WideShapes Go.ChangeAt Go.RowKit Go.Joins
open Go.ChangeMaps (open_string shut_string)
set_option linter.unusedVariables false
namespace FtxLaw
theorem own : ownKnob Tryz.prog.godebug = none := by kernel_rfl
theorem laidOut : laidOutB Tryz.prog = true := by kernel_rfl

set_option maxRecDepth 100000 in
theorem lifted (os : Os) (started : os.Started) (H : Type) (enc : TypeId × Value → H) :
    ReturnsInHanded {} Tryz.checked os 4 .any (fun w args => (Rows.fnExactFilterTextSpec.pre enc Tryz.prog Tryz.f4 Rows.fnExactFilterTextRow.domain false w args ∧ laidMetH Tryz.prog Rows.fnExactFilterTextRow.laid w) ∧ sizedMet enc Tryz.prog Tryz.f4 (OpenSpec.ofChange Rows.fnExactFilterTextSpec) false w args)
      (Rows.fnExactFilterTextSpec.post enc Tryz.prog Tryz.f4 false true false false) := by
  refine returnsInHanded_of_change_and (C := Tryz.checked) (X := fun w _ => laidMetH Tryz.prog Rows.fnExactFilterTextRow.laid w) (fun _ _ _ hh h => h.of_heap hh) own started (by kernel_rfl) Tryz.func4
    (ChangeSpec.witness_shaped (enc := enc) (C := Tryz.checked) (os := os) (X := fun w _ => laidMetH Tryz.prog Rows.fnExactFilterTextRow.laid w) false (World.laidAll Tryz.prog os Rows.fnExactFilterTextRow.laid) #[.agg #[.slice none 0 0]] 8 (World.laidAll_os _ _ _)
      (World.shaped_of_ZipB (by kernel_rfl) (by kernel_rfl)) (by kernel_rfl) (by kernel_rfl) (by kernel_rfl)
      (by rw [MakeChecks.laidMetH_plain _ _ _ (by kernel_rfl)]; exact laidMet_laidAll _ (by kernel_rfl) (by kernel_rfl))) ?_
  intro W base args ds gs before hval0 hW hcnd _ hL _
  have hTab := tab_of_laid hL
  have hval : ∀ (j : Nat) t v, Tryz.f4.params[j]? = some t → args[j]? = some v → Value.okWide Tryz.prog W .any base t v := hval0
  have hW' := hW
  obtain ⟨p, q, hA0, hV, rfl, hfz, hnd⟩ := hW
  have hA : DataW.TrodAll enc Tryz.prog W 0 (fun _ => true) true Tryz.f4.params.toList args.toList ds p := hA0
  rw [Tryz.params4] at hA hval
  obtain ⟨v0, vs0, d0, ds0, p0, q0, hargs, rfl, rfl, h0, r0⟩ := trodAll_cons hA
  obtain ⟨rfl, rfl, rfl⟩ := trodAll_nil r0
  obtain rfl : args = #[v0] := by cases args; simp_all
  have hV1 : DataW.TrodVars enc Tryz.prog W (fun _ => true) ["loop.example/g00380/impl.termWords"] gs q := hV
  obtain ⟨gg, tt, cs, fuelv, dv, pv, rfl, hg, ht, hvar, hdv, rfl⟩ := trodVars_one hV1
  obtain rfl := Option.some.inj (gWordsT.symm.trans hg)
  obtain rfl := Option.some.inj (tWordsT.symm.trans ht)
  obtain rfl : cs = cells11 := Option.some.inj (hvar.symm.trans (cells_of_laidT hL))
  obtain ⟨rfl, rfl⟩ := DataW.Trod.unique (v := .agg cells11) ⟨fuelv, hdv⟩ ⟨3, reads_tableT enc W _⟩
  have k0 := h0
  have lt0 : ∀ x ∈ p0, x.block < W.heap.size := by obtain ⟨m, hm⟩ := k0; exact DataW.trod_lt m _ _ _ hm
  obtain ⟨x0, cap0, f0, rfl, hl0, hs0, i0⟩ := open_filter (hval 0 48 v0 rfl rfl) h0
  clear hA0 hval0
  refine (walk x0 cap0 f0 hl0 hs0 W hTab i0).mono fun e W' ⟨he, bel⟩ => ?_
  subst he
  have hvars : ∀ sp : Nat → Bool, DataW.TrodVars enc Tryz.prog W' sp ["loop.example/g00380/impl.termWords"] [tableT] (MemPlace.row ⟨0, 0, none⟩ cells11.size ++ [] ++ []) := fun sp =>
    ⟨0, 187, cells11, 3, [], [], hg, ht, var?_below bel gWordsT hTab.2.lt hvar, reads_tableT enc W' sp, rfl, rfl⟩
  exact ⟨_, rfl, _, _, _, [], _, _, hW', trodAll_mk1 (shut_bool Tryz.underlying4 _), (trodAll_cons_mk (Below.trod laidOut (by kernel_rfl) (of_decide_eq_true (by kernel_rfl)) k0 bel lt0) trodAll_mk0), hvars _, bel.frame _, fun h => by cases h⟩
end FtxLaw
end Go.Proofs.YtkeghknceccdmaaGreatDoor
