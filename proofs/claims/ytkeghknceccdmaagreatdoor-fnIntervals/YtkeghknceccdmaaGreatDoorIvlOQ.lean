/- What two intervals have in common is what both have; each value that a term lets in has a key in the term's interval, rising or falling. Nothing of the program is used here. -/
import Derived.Test.YtkeghknceccdmaaGreatDoorKeyOQ
import Derived.Test.YtkeghknceccdmaaGreatDoorSplitWQ
import Derived.Test.YtkeghknceccdmaaGreatDoorEncUQ
import Derived.Test.YtkeghknceccdmaaGreatDoorDocMQ
import Derived.Sort.Walk0
import Derived.Test.YtkeghknceccdmaaGreatDoorDrawBQ
import Derived.Test.YtkeghknceccdmaaGreatDoorTermUQ
import Derived.BigQuiet
import Derived.Test.YtkeghknceccdmaaGreatDoorKeySQ
import Derived.Test.YtkeghknceccdmaaGreatDoorIvlHQ
import Derived.Deep.AppendSrc
import Derived.Test.YtkeghknceccdmaaGreatDoorUnder
import Derived.StillTail
import Derived.Test.YtkeghknceccdmaaGreatDoorTintIQ
import Derived.Deep.Cut
import Derived.Test.YtkeghknceccdmaaGreatDoorLawB
import Derived.ProofKit
import Derived.Test.YtkeghknceccdmaaGreatDoorRows
import Derived.Test.YtkeghknceccdmaaGreatDoorTie
import Derived.Test.YtkeghknceccdmaaGreatDoorCards
import Derived.LaidMore
import Derived.Lay
import Derived.Stop.Joined
import Derived.SevenTiedAt
import Derived.OpenShut
import Derived.ShutString
import Derived.ChangeOld
import Derived.Below
import Derived.Lib.SmallJoins
namespace Go.Proofs.YtkeghknceccdmaaGreatDoor
open Go.RowKit
set_option linter.unusedVariables false

theorem lt_or (x y : List UInt8) : Op.bytesLess x y = true ∨ x = y ∨ Op.bytesLess y x = true := by
  have h := less_total y x
  by_cases h1 : Op.bytesLess x y = true
  · exact .inl h1
  · by_cases e : x = y
    · exact .inr (.inl e)
    · refine .inr (.inr ?_)
      have e' : (x == y) = false := beq_eq_false_iff_ne.mpr e
      rw [Bool.not_eq_true] at h1
      rw [h1, e'] at h
      by_cases h2 : Op.bytesLess y x = true
      · exact h2
      · rw [Bool.not_eq_true] at h2; rw [h2] at h; cases h
theorem lt_not {x y : List UInt8} (h : Op.bytesLess x y = true) : Op.bytesLess y x = false := by
  cases h2 : Op.bytesLess y x with
  | false => rfl
  | true => have := less_trans _ _ _ h h2; rw [less_irrefl] at this; cases this
theorem hasI_eq (i : Ivl) (key : ByteArray) : hasI i key = (!(Op.bytesLess key.data.toList i.lo.data.toList) && (i.op || Op.bytesLess key.data.toList i.hi.data.toList)) := by
  unfold hasI
  rw [leB_not]
  unfold ltB
  rw [ByteArray.toList_eq, ByteArray.toList_eq, ByteArray.toList_eq]
theorem max_lt (k a b : ByteArray) : Op.bytesLess k.data.toList (Lib.maxS a b).data.toList = (Op.bytesLess k.data.toList a.data.toList || Op.bytesLess k.data.toList b.data.toList) := by
  unfold Lib.maxS
  by_cases h : a.data.toList < b.data.toList
  · rw [if_pos h]
    have hl : Op.bytesLess a.data.toList b.data.toList = true := by show Op.bytesLess _ _ = true; rw [bytesLess_eq]; exact decide_eq_true h
    cases h1 : Op.bytesLess k.data.toList a.data.toList
    · rfl
    · rw [less_trans _ _ _ h1 hl]; rfl
  · rw [if_neg h]
    have hl : Op.bytesLess a.data.toList b.data.toList = false := by show Op.bytesLess _ _ = false; rw [bytesLess_eq]; exact decide_eq_false h
    cases h1 : Op.bytesLess k.data.toList b.data.toList
    · simp
    · rcases lt_or a.data.toList b.data.toList with h2 | h2 | h2
      · rw [h2] at hl; cases hl
      · rw [h2, h1]; rfl
      · rw [less_trans _ _ _ h1 h2]; rfl
theorem min_lt (k a b : ByteArray) : Op.bytesLess k.data.toList (Lib.minS a b).data.toList = (Op.bytesLess k.data.toList a.data.toList && Op.bytesLess k.data.toList b.data.toList) := by
  unfold Lib.minS
  by_cases h : a.data.toList < b.data.toList ∨ a.data.toList = b.data.toList
  · rw [if_pos h]
    cases h1 : Op.bytesLess k.data.toList a.data.toList
    · rfl
    · rcases h with h | h
      · have hl : Op.bytesLess a.data.toList b.data.toList = true := by show Op.bytesLess _ _ = true; rw [bytesLess_eq]; exact decide_eq_true h
        rw [less_trans _ _ _ h1 hl]; rfl
      · rw [← h, h1]; rfl
  · rw [if_neg h]
    cases h1 : Op.bytesLess k.data.toList b.data.toList
    · simp
    · rcases lt_or a.data.toList b.data.toList with h2 | h2 | h2
      · exact absurd (.inl (by have h2' : Op.bytesLess a.data.toList b.data.toList = true := h2; rw [bytesLess_eq] at h2'; exact of_decide_eq_true h2')) h
      · exact absurd (.inr h2) h
      · rw [less_trans _ _ _ h1 h2]; rfl
/-- **What two intervals have in common is what both have.** -/
theorem has_meet (a b : Ivl) (k : ByteArray) : hasI (meetI a b) k = (hasI a k && hasI b k) := by
  rw [hasI_eq, hasI_eq, hasI_eq]
  unfold meetI hiM
  simp only [max_lt]
  cases ha : a.op <;> cases hb : b.op <;> simp [min_lt] <;>
    cases Op.bytesLess k.data.toList a.lo.data.toList <;> cases Op.bytesLess k.data.toList b.lo.data.toList <;> cases Op.bytesLess k.data.toList a.hi.data.toList <;> cases Op.bytesLess k.data.toList b.hi.data.toList <;> rfl

theorem Dv.part {s : Int} : ∀ {p y : List UInt8} {c : UInt8}, Dv s (p ++ [c]) y → Dv s p y ∨ ∃ b r, y = p ++ b :: r ∧ ((c < b ∧ s = -1) ∨ (b < c ∧ s = 1))
  | [], [], c, h => by cases h
  | [], b :: r, c, h => by
    rcases h with h | h | h
    · exact .inr ⟨b, r, rfl, .inl h⟩
    · exact .inr ⟨b, r, rfl, .inr h⟩
    · exact absurd h.2 (by intro h'; cases r <;> cases h')
  | a :: p, [], c, h => by cases h
  | a :: p, b :: y, c, h => by
    rcases h with h | h | h
    · exact .inl (.inl h)
    · exact .inl (.inr (.inl h))
    · rcases Dv.part h.2 with h2 | ⟨b', r, e, h2⟩
      · exact .inl (.inr (.inr ⟨h.1, h2⟩))
      · exact .inr ⟨b', r, by rw [e, h.1]; rfl, h2⟩
theorem take_next (x : List UInt8) (n : Nat) (h : n < x.length) : x.take (n + 1) = x.take n ++ [x.getD n 0] := by
  rw [List.take_add_one, List.getElem?_eq_getElem h]
  simp [List.getD, List.getElem?_eq_getElem h]
theorem lt_one (c : UInt8) (h : c < 255) : c < c + 1 := by
  rw [UInt8.lt_iff_toNat_lt] at h ⊢
  rw [UInt8.toNat_add]
  have : (255 : UInt8).toNat = 255 := rfl
  have : (1 : UInt8).toNat = 1 := rfl
  omega
/-- All that begins with the first bytes of a text stands ahead of what is behind them. -/
theorem beh_up (x : List UInt8) : ∀ (n : Nat), n ≤ x.length → ∀ r, (behN x n).2 = true → Op.bytesLess (x.take n ++ r) (behN x n).1 = true
  | 0, _, r, h => by cases h
  | n + 1, hn, r, h => by
    rw [behN] at h ⊢
    rw [take_next x n (by omega)]
    by_cases hc : x.getD n 0 < 255
    · rw [if_pos hc]
      have : Dv (-1) (x.take n ++ [x.getD n 0] ++ r) (x.take n ++ [x.getD n 0 + 1]) := by
        rw [List.append_assoc]
        exact (Dv.lt _ _ (lt_one _ hc)).pre _
      exact this.less
    · rw [if_neg hc] at h ⊢
      rw [List.append_assoc]
      exact beh_up x n (by omega) _ h
/-- What parts from a text and stands behind it stands behind all that begins with it. -/
theorem beh_low (x : List UInt8) : ∀ (n : Nat), n ≤ x.length → ∀ y, Dv (-1) (x.take n) y → (behN x n).2 = true → Op.bytesLess y (behN x n).1 = false
  | 0, _, y, hd, h => by cases h
  | n + 1, hn, y, hd, h => by
    rw [behN] at h ⊢
    rw [take_next x n (by omega)] at hd
    by_cases hc : x.getD n 0 < 255
    · rw [if_pos hc]
      rcases hd.part with h1 | ⟨b, r, e, h1⟩
      · have h2 := (h1.more [x.getD n 0 + 1] []).less
        rw [List.append_nil] at h2
        exact lt_not h2
      · rcases h1 with ⟨h1, _⟩ | ⟨_, h1⟩
        · have hb : x.getD n 0 + 1 = b ∨ x.getD n 0 + 1 < b := by
            rw [UInt8.lt_iff_toNat_lt] at hc h1 ⊢
            have e1 : (255 : UInt8).toNat = 255 := rfl
            have e2 : (x.getD n 0 + 1).toNat = (x.getD n 0).toNat + 1 := by
              rw [UInt8.toNat_add]
              have : (1 : UInt8).toNat = 1 := rfl
              omega
            by_cases h3 : (x.getD n 0).toNat + 1 = b.toNat
            · exact .inl (UInt8.toNat_inj.mp (by rw [e2]; exact h3))
            · exact .inr (by rw [e2]; omega)
          rw [e]
          rcases hb with hb | hb
          · rw [← hb]
            show Op.bytesLess _ _ = false
            have : ∀ (p : List UInt8) (c : UInt8) (r : List UInt8), Op.bytesLess (p ++ c :: r) (p ++ [c]) = false := by
              intro p c r
              induction p with
              | nil => cases r <;> simp [Op.bytesLess]
              | cons a p ih => simpa [Op.bytesLess] using ih
            exact this _ _ _
          · exact lt_not ((Dv.lt [] r hb).pre _).less
        · cases h1
    · rw [if_neg hc] at h ⊢
      rcases hd.part with h1 | ⟨b, r, e, h1⟩
      · exact beh_low x n (by omega) y h1 h
      · rcases h1 with ⟨h1, _⟩ | ⟨_, h1⟩
        · exfalso
          rw [UInt8.lt_iff_toNat_lt] at hc h1
          have e1 : (255 : UInt8).toNat = 255 := rfl
          have := b.toNat_lt
          omega
        · cases h1
theorem le_app (x r : List UInt8) : Op.bytesLess (x ++ r) x = false := by
  induction x with
  | nil => cases r <;> rfl
  | cons a p ih => show Op.bytesLess _ _ = false; simpa [Op.bytesLess] using ih
/-- A text that begins with another one is in its interval. -/
theorem begin_has (x r : List UInt8) : hasI (beginI x) (mkB (x ++ r)) = true := by
  rw [hasI_eq]
  unfold beginI
  simp only [mkB_data]
  rw [le_app]
  cases h : (behN x x.length).2
  · rfl
  · have := beh_up x x.length (Nat.le_refl _) r h
    rw [List.take_length] at this
    rw [this]; rfl
theorem kind_has (v : Val) (desc : Bool) (k : Int) (h0 : 0 ≤ k) (h5 : k ≤ 5) (hk : v.k = k) : hasI (kindI k desc) (mkB (dirK desc (keyV 5 v))) = true := by
  obtain ⟨r, hr⟩ := key_head v
  rw [hr, hk]
  obtain ⟨c, r', _, e1, e2⟩ := dir_head desc k h0 h5 r
  unfold kindI
  rw [e1, e2]
  exact begin_has [c] r'
theorem dv_dir {s : Int} {x y : List UInt8} (desc : Bool) (h : Dv s x y) : Dv (if desc then -s else s) (dirK desc x) (dirK desc y) := by
  cases desc
  · exact h
  · exact h.turn
theorem one_true (c : Val) (desc : Bool) (h : okB c = true) : (behN (dirK desc (keyV 5 c)) (dirK desc (keyV 5 c)).length).2 = true := by
  obtain ⟨b, r, s, _, _, e, _⟩ := one_begin c desc h
  unfold oneI beginI at e
  have := congrArg Ivl.op e
  simpa using this
/-- The key of a value that stands ahead of, at, or behind another one's, against all that begins with that one's key. -/
theorem one_side (v c : Val) (desc : Bool) (hv : okB v = true) (hc : okB c = true) :
    (ordV 5 v c = 0 → v = c) ∧
    ((if desc then -(ordV 5 v c) else ordV 5 v c) < 0 → Op.bytesLess (dirK desc (keyV 5 v)) (oneI c desc).lo.data.toList = true) ∧
    (0 < (if desc then -(ordV 5 v c) else ordV 5 v c) → Op.bytesLess (dirK desc (keyV 5 v)) (oneI c desc).hi.data.toList = false ∧ Op.bytesLess (dirK desc (keyV 5 v)) (oneI c desc).lo.data.toList = false) ∧
    Op.bytesLess (oneI c desc).lo.data.toList (oneI c desc).hi.data.toList = true := by
  have lo : (oneI c desc).lo.data.toList = dirK desc (keyV 5 c) := by unfold oneI beginI; rw [mkB_data]
  have hi : (oneI c desc).hi.data.toList = (behN (dirK desc (keyV 5 c)) (dirK desc (keyV 5 c)).length).1 := by unfold oneI beginI; rw [mkB_data]
  have ht := one_true c desc hc
  refine ⟨ordV_zero 5 v c hv hc, fun h => ?_, fun h => ?_, ?_⟩
  · have hne : ordV 5 v c ≠ 0 := by intro e; rw [e] at h; cases desc <;> simp at h
    rw [lo, (dv_dir desc (keyV_order 5 v c hv hc hne)).less]
    exact decide_eq_true h
  · have hne : ordV 5 v c ≠ 0 := by intro e; rw [e] at h; cases desc <;> simp at h
    have D := dv_dir desc (keyV_order 5 v c hv hc hne)
    have D2 := D.swap
    have hs : -(if desc then -(ordV 5 v c) else ordV 5 v c) = -1 := by rcases D.one with e | e <;> omega
    rw [hs] at D2
    constructor
    · rw [hi]
      exact beh_low _ _ (Nat.le_refl _) _ (by rw [List.take_length]; exact D2) ht
    · rw [lo]; exact lt_not D2.less
  · rw [lo, hi]
    have := beh_up (dirK desc (keyV 5 c)) _ (Nat.le_refl _) [] ht
    rw [List.take_length, List.append_nil] at this
    exact this
theorem ord_has (op : Int) (v c : Val) (desc : Bool) (hv : okB v = true) (hc : okB c = true) (hop : op = 3 ∨ op = 4 ∨ op = 5 ∨ op = 6) (hl : oneT op c v = true) : hasI (ordT op c desc) (mkB (dirK desc (keyV 5 v))) = true := by
  rw [oneT_ord op c v hop, Bool.and_eq_true] at hl
  obtain ⟨hk, hf⟩ := hl
  have hk := of_decide_eq_true hk
  obtain ⟨k0, k5⟩ := fits_kind v hv
  have K := kind_has v desc c.k (by omega) (by omega) hk
  rw [hasI_eq, Bool.and_eq_true] at K
  obtain ⟨Klo, Khi⟩ := K
  have Kop : (kindI c.k desc).op = false := by obtain ⟨b, _, e⟩ := kind_begin c.k desc (by omega) (by omega); rw [e]
  rw [Kop, Bool.false_or, mkB_data] at Khi
  rw [mkB_data] at Klo
  obtain ⟨S0, S1, S2, S3⟩ := one_side v c desc hv hc
  have E0 : ordV 5 v c = 0 → dirK desc (keyV 5 v) = (oneI c desc).lo.data.toList := fun e => by rw [S0 e]; unfold oneI beginI; rw [mkB_data]
  have lo_self : Op.bytesLess (oneI c desc).lo.data.toList (oneI c desc).lo.data.toList = false := less_irrefl _
  have one : ∀ lo hi : ByteArray, Op.bytesLess (dirK desc (keyV 5 v)) lo.data.toList = false → Op.bytesLess (dirK desc (keyV 5 v)) hi.data.toList = true → hasI ⟨lo, hi, false⟩ (mkB (dirK desc (keyV 5 v))) = true := by
    intro lo hi h1 h2
    rw [hasI_eq]
    simp only [mkB_data]
    rw [h1, h2]; rfl
  have Klo' : Op.bytesLess (dirK desc (keyV 5 v)) (kindI c.k desc).lo.data.toList = false := by simpa using Klo
  clear Klo
  have up4 : 0 ≤ (if desc then -(ordV 5 v c) else ordV 5 v c) → Op.bytesLess (dirK desc (keyV 5 v)) (oneI c desc).lo.data.toList = false := fun h => by
    by_cases e : ordV 5 v c = 0
    · rw [E0 e]; exact lo_self
    · exact (S2 (by cases desc <;> simp at h ⊢ <;> omega)).2
  have dn4 : (if desc then -(ordV 5 v c) else ordV 5 v c) ≤ 0 → Op.bytesLess (dirK desc (keyV 5 v)) (oneI c desc).hi.data.toList = true := fun h => by
    by_cases e : ordV 5 v c = 0
    · rw [E0 e]; exact S3
    · exact less_trans _ _ _ (S1 (by cases desc <;> simp at h ⊢ <;> omega)) S3
  unfold ordT
  cases desc <;> rcases hop with rfl | rfl | rfl | rfl <;> simp only [fitsO] at hf <;> simp at hf ⊢
  · exact one _ _ Klo' (S1 (by simpa using hf))
  · exact one _ _ Klo' (dn4 (by simpa using hf))
  · exact one _ _ (S2 (by simpa using hf)).1 Khi
  · exact one _ _ (up4 (by simpa using hf)) Khi
  · exact one _ _ (S2 (by simp; omega)).1 Khi
  · exact one _ _ (up4 (by simp; omega)) Khi
  · exact one _ _ Klo' (S1 (by simp; omega))
  · exact one _ _ Klo' (dn4 (by simp; omega))
theorem all_has (k : ByteArray) : hasI ⟨em, em, true⟩ k = true := by
  rw [hasI_eq]
  have : Op.bytesLess k.data.toList (em : ByteArray).data.toList = false := by
    show Op.bytesLess _ [] = false
    cases k.data.toList <;> rfl
  simp [this]
/-- **A value that a term lets in has its key in the term's interval.** -/
theorem term_has (op : Int) (v c : Val) (desc : Bool) (hv : okB v = true) (hc : okB c = true) (h9 : op = 9 → 0 ≤ c.n ∧ c.n ≤ 5) (hl : letsT op c [v] = true) : hasI (tintI op c desc) (mkB (dirK desc (keyV 5 v))) = true := by
  unfold tintI
  by_cases h1 : op = 1
  · rw [if_pos h1]
    subst h1
    have : v = c := by simpa [letsT, heldT, oneT] using hl
    rw [this]
    have := begin_has (dirK desc (keyV 5 c)) []
    rw [List.append_nil] at this
    exact this
  · rw [if_neg h1]
    by_cases h2 : op = 9
    · rw [if_pos h2]
      subst h2
      have : v.k = c.n := by simpa [letsT, heldT, oneT] using hl
      exact kind_has v desc c.n (h9 rfl).1 (h9 rfl).2 this
    · rw [if_neg h2]
      by_cases h3 : 3 ≤ op ∧ op ≤ 6
      · rw [if_pos h3]
        have hop : op = 3 ∨ op = 4 ∨ op = 5 ∨ op = 6 := by omega
        have : oneT op c v = true := by
          unfold letsT heldT at hl
          rw [if_neg (by omega)] at hl
          have e2 : decide (op = 2) = false := decide_eq_false (by omega)
          rw [e2] at hl
          simpa using hl
        exact ord_has op v c desc hv hc hop this
      · rw [if_neg h3]; exact all_has _

/-- What a document of one field comes to. -/
theorem one_made (v : Val) (hv : okB v = true) : ((madeP [⟨⟨#[97]⟩, v⟩]).2 = 10 ∨ (madeP [⟨⟨#[97]⟩, v⟩]).2 = 9) ∨
    ((madeP [⟨⟨#[97]⟩, v⟩]).2 = 0 ∧ docB (madeP [⟨⟨#[97]⟩, v⟩]).1 = true ∧ (v.k ≠ 4 → getP (pieces ⟨#[97]⟩) (madeP [⟨⟨#[97]⟩, v⟩]).1 = [v])) := by
  have hf : foldD [] [⟨⟨#[97]⟩, v⟩] = .ok [⟨⟨#[97]⟩, v⟩] := by
    rw [foldD, if_neg (show ¬ shortB ⟨#[97]⟩ = false by decide), if_neg (by rw [hv]; decide), if_neg (show ¬ hasN ⟨#[97]⟩ [] = true by decide)]
    rfl
  rw [madeP_few _ (by simp), hf]
  show ((fitD [⟨⟨#[97]⟩, v⟩]).2 = 10 ∨ (fitD [⟨⟨#[97]⟩, v⟩]).2 = 9) ∨ ((fitD [⟨⟨#[97]⟩, v⟩]).2 = 0 ∧ docB (fitD [⟨⟨#[97]⟩, v⟩]).1 = true ∧ (v.k ≠ 4 → getP (pieces ⟨#[97]⟩) (fitD [⟨⟨#[97]⟩, v⟩]).1 = [v]))
  by_cases h1 : 300 < (encFL [⟨⟨#[97]⟩, v⟩]).length
  · rw [fitD_size _ h1]; exact .inl (.inl rfl)
  · by_cases h2 : 4 < dF (depthV 5) [⟨⟨#[97]⟩, v⟩]
    · rw [fitD_deep _ h1 h2]; exact .inl (.inr rfl)
    · rw [fitD_ok _ h1 h2]
      have hg : GoodF [⟨⟨#[97]⟩, v⟩] := by
        refine ⟨?_, ?_⟩
        · intro i j hi hj hij; simp at hi hj; omega
        · intro f hf; simp at hf; subst hf; exact ⟨show shortB ⟨#[97]⟩ = true by decide, hv⟩
      refine .inr ⟨rfl, ?_, fun hk => ?_⟩
      · unfold docB
        show (decide ((5 : Int) = 5) && okB ⟨5, 0, txt (encFL [⟨⟨#[97]⟩, v⟩])⟩) = true
        rw [madeD_ok _ hg h1, decide_eq_true (show dF (depthV 5) [⟨⟨#[97]⟩, v⟩] ≤ 4 by omega)]; rfl
      · have hp : pieces ⟨#[97]⟩ = [⟨#[97]⟩] := by decide
        have hi : fields (txt (encFL [⟨⟨#[97]⟩, v⟩])) = some [⟨⟨#[97]⟩, v⟩] := fields_enc _ hg.names
        have hfl : flds ⟨5, 0, txt (encFL [⟨⟨#[97]⟩, v⟩])⟩ = [⟨⟨#[97]⟩, v⟩] := by unfold flds; show (fields (txt (encFL [⟨⟨#[97]⟩, v⟩]))).getD [] = _; rw [hi]; rfl
        rw [hp, getP_doc _ _ _ rfl, docP_some _ _ _ v (by rw [hfl, fieldV, if_pos ((cB_zero _ _).mpr rfl)])]
        rw [getP_end, if_neg hk]

end Go.Proofs.YtkeghknceccdmaaGreatDoor

/- What the terms of one value say of each other, said plainly. Nothing of the program is used here. -/
namespace Go.Proofs.YtkeghknceccdmaaGreatDoor
open Go.RowKit
set_option linter.unusedVariables false

theorem any_split (l : List Val) (p q r : Val → Bool) (h : ∀ v ∈ l, p v = (q v || r v)) : l.any p = (l.any q || l.any r) := by
  induction l with
  | nil => rfl
  | cons v l ih =>
    rw [List.any_cons, List.any_cons, List.any_cons, h v (by simp), ih (fun u hu => h u (by simp [hu]))]
    cases q v <;> cases r v <;> cases l.any q <;> cases l.any r <;> rfl
theorem oneT_lte (c v : Val) (hc : okB c = true) (hv : okB v = true) : oneT 4 c v = (oneT 1 c v || oneT 3 c v) := by
  have e1 : oneT 1 c v = decide (v = c) := by simp [oneT]
  rw [oneT_ord 4 c v (by decide), oneT_ord 3 c v (by decide), e1]
  by_cases h : v = c
  · subst h
    rw [decide_eq_true rfl, decide_eq_true rfl, ordV_refl]; rfl
  · rw [decide_eq_false h, Bool.false_or]
    have hne : ordV 5 v c ≠ 0 := fun e => h (ordV_zero 5 v c hv hc e)
    congr 1
    show decide (ordV 5 v c ≤ 0) = decide (ordV 5 v c < 0)
    rw [Bool.eq_iff_iff]; simp; omega
theorem oneT_gte (c v : Val) (hc : okB c = true) (hv : okB v = true) : oneT 6 c v = (oneT 1 c v || oneT 5 c v) := by
  have e1 : oneT 1 c v = decide (v = c) := by simp [oneT]
  rw [oneT_ord 6 c v (by decide), oneT_ord 5 c v (by decide), e1]
  by_cases h : v = c
  · subst h
    rw [decide_eq_true rfl, decide_eq_true rfl, ordV_refl]; rfl
  · rw [decide_eq_false h, Bool.false_or]
    have hne : ordV 5 v c ≠ 0 := fun e => h (ordV_zero 5 v c hv hc e)
    congr 1
    show decide (0 ≤ ordV 5 v c) = decide (0 < ordV 5 v c)
    rw [Bool.eq_iff_iff]; simp; omega
theorem heldT_any (op : Int) (l : List Val) (h : op ≠ 9) : heldT op l = heldT 1 l := by unfold heldT; by_cases hl : l = [] <;> simp [hl, h]
theorem letsT_plain (op : Int) (c : Val) (l : List Val) (h8 : op ≠ 8) (h9 : op ≠ 9) (h2 : op ≠ 2) : letsT op c l = (heldT 1 l).any (oneT op c) := by
  unfold letsT; rw [if_neg h8, heldT_any op l h9, decide_eq_false h2]; simp
theorem lets_ne (c : Val) (l : List Val) : letsT 2 c l = !(letsT 1 c l) := by
  rw [letsT_plain 1 c l (by decide) (by decide) (by decide)]
  unfold letsT
  rw [if_neg (by decide), heldT_any 2 l (by decide), decide_eq_true rfl]
  have e : oneT 2 c = oneT 1 c := by funext v; simp [oneT]
  rw [e]; cases (heldT 1 l).any (oneT 1 c) <;> rfl
theorem lets_lte (c : Val) (l : List Val) (hc : okB c = true) (hl : ∀ v ∈ l, okB v = true) : letsT 4 c l = (letsT 1 c l || letsT 3 c l) := by
  rw [letsT_plain 4 c l (by decide) (by decide) (by decide), letsT_plain 1 c l (by decide) (by decide) (by decide), letsT_plain 3 c l (by decide) (by decide) (by decide)]
  exact any_split _ _ _ _ (fun v hv => oneT_lte c v hc (heldT_ok 1 l hl v hv))
theorem lets_gte (c : Val) (l : List Val) (hc : okB c = true) (hl : ∀ v ∈ l, okB v = true) : letsT 6 c l = (letsT 1 c l || letsT 5 c l) := by
  rw [letsT_plain 6 c l (by decide) (by decide) (by decide), letsT_plain 1 c l (by decide) (by decide) (by decide), letsT_plain 5 c l (by decide) (by decide) (by decide)]
  exact any_split _ _ _ _ (fun v hv => oneT_gte c v hc (heldT_ok 1 l hl v hv))
theorem lets_is (l : List Val) : letsT 8 ⟨1, 0, em⟩ l = !(letsT 8 ⟨1, 1, em⟩ l) := by
  unfold letsT
  rw [if_pos rfl, if_pos rfl]
  cases decide (0 < (l.length : Int)) <;> rfl

end Go.Proofs.YtkeghknceccdmaaGreatDoor

/- What the specification draws out of a code: a value, a document, a term. -/
namespace Go.Proofs.YtkeghknceccdmaaGreatDoor
open Go.RowKit
set_option linter.unusedVariables false

theorem Res3.grown {w W W' : World} {a b c : Value} (h : Res3 w W a b c) (hg : W.grownBy W' (some (w.heap.size + 1))) : Res3 w W' a b c :=
  have e := hg.block w.heap.size h.lt (fun e => by injection e; omega)
  ⟨Below.grown h.bel hg h.bel.size (fun j hj => by injection hj with hj; omega), Nat.lt_of_lt_of_le h.lt hg.size, (World.cell?_of_block e).trans h.c0, (World.cell?_of_block e).trans h.c1, (World.cell?_of_block e).trans h.c2, (World.frozen?_of_block e).trans h.z0, (World.frozen?_of_block e).trans h.z1, (World.frozen?_of_block e).trans h.z2⟩
set_option maxRecDepth 4000 in
set_option maxHeartbeats 1000000 in
theorem valueT_any (x : Option Addr) (cap : Nat) (zs : List Int) (w : World) (h : InC w x zs) :
    Calls Tryz.prog 11 #[.slice x zs.length cap] w fun e w' => (∃ v : Val, e = .returned (.agg #[.int .i64 v.k, .int .i64 v.n, .string v.t]) ∧ okB v = true) ∧ Below w.heap.size w w' := by
  have K0 := Res3.start w (.int .i64 0) (.int .i64 0) (.string em) 28
  have HS : Hid (Calls _ _ _ _ _) := l00Source_any x cap zs (w.alloc (.cells #[.int .i64 0, .int .i64 0, .string em] 28)) (h.step K0.bel)
  clear h
  go_enter Tryz.func11, Tryz.ntmps11
  go_wp2_with fail
  refine HS.out.mono ?_
  rintro e w1 ⟨rfl, s1, b1⟩
  have K1 := K0.step b1
  simp only [heap_size_alloc] at s1
  have HSR : Hid (SrcAt _ _ _ _ _ _) := s1
  clear s1 b1 K0 HS
  go_wp2_with fail
  refine (val_at 3 (w.heap.size + 1) x cap zs 0 _ HSR.out (by decide)).mono ?_
  rintro e w2 ⟨⟨v, rfl, hv⟩, d2⟩
  have K2 := K1.grown d2.1
  have HV : Hid (okB v = true) := hv
  have a0 := K2.c0
  have a1 := K2.c1
  have a2 := K2.c2
  have z0 := K2.z0
  have z1 := K2.z1
  have z2 := K2.z2
  have hlt := K2.lt
  have B2 := K2.bel
  clear d2 K1 HSR
  go_wp2_with fail
  refine bodyPost_ret (v := .agg #[.int .i64 v.k, .int .i64 v.n, .string v.t]) (by simp [results, Tryz.results11, go_sem, *]) rfl ⟨⟨v, rfl, HV.out⟩, ?_⟩
  (repeat (first | (with_reducible exact Below.refl _ _) | (with_reducible assumption) | (with_reducible apply below_drewN) | (with_reducible apply Below.drew) | ((with_reducible refine Below.setCell ?_ ?_ _); rotate_left; focus (first | (simp; done) | (simp; omega) | omega)) | ((with_reducible refine Below.alloc ?_ ?_ _); rotate_left; focus (first | (simp; done) | (simp; omega) | omega))))

/-- Five cells of the answer. -/
structure Res5 (w W : World) : Prop where
  bel : Below w.heap.size w W
  blk : W.heap[w.heap.size]? = some (.cells #[.int .i64 0, .string em, .int .i64 0, .int .i64 0, .string em] 34)
theorem Res5.lt {w W : World} (X : Res5 w W) : w.heap.size < W.heap.size := (Array.getElem?_eq_some_iff.1 X.blk).1
theorem Res5.start (w : World) : Res5 w (w.alloc (.cells #[.int .i64 0, .string em, .int .i64 0, .int .i64 0, .string em] 34)) := ⟨(Below.refl _ _).alloc (Nat.le_refl _) _, heap_alloc_new w _⟩
theorem Res5.step {w W W' : World} (X : Res5 w W) (hb : Below W.heap.size W W') : Res5 w W' := ⟨X.bel.trans (hb.mono X.bel.size), (hb.block _ X.lt).trans X.blk⟩
theorem Res5.grown {w W W' : World} (X : Res5 w W) (hg : W.grownBy W' (some (w.heap.size + 1))) : Res5 w W' :=
  ⟨Below.grown X.bel hg X.bel.size (fun j hj => by injection hj with hj; omega), (hg.block _ X.lt (fun e => by injection e; omega)).trans X.blk⟩
theorem Res5.cells {w W : World} (X : Res5 w W) : W.cell? ⟨w.heap.size, 0, none⟩ = some (.int .i64 0) ∧ W.cell? ⟨w.heap.size, 1, none⟩ = some (.string em) ∧ W.cell? ⟨w.heap.size, 2, none⟩ = some (.int .i64 0) ∧ W.cell? ⟨w.heap.size, 3, none⟩ = some (.int .i64 0) ∧ W.cell? ⟨w.heap.size, 4, none⟩ = some (.string em) ∧ W.frozen? ⟨w.heap.size, 0, none⟩ = false ∧ W.frozen? ⟨w.heap.size, 1, none⟩ = false ∧ W.frozen? ⟨w.heap.size, 2, none⟩ = false ∧ W.frozen? ⟨w.heap.size, 3, none⟩ = false ∧ W.frozen? ⟨w.heap.size, 4, none⟩ = false := by
  have h := X.blk
  refine ⟨?_, ?_, ?_, ?_, ?_, ?_, ?_, ?_, ?_, ?_⟩ <;> simp [World.cell?, World.frozen?, h]
set_option maxRecDepth 4000 in
set_option maxHeartbeats 1000000 in
theorem termT_any (x : Option Addr) (cap : Nat) (zs : List Int) (w : World) (h : InC w x zs) :
    Calls Tryz.prog 16 #[.slice x zs.length cap] w fun e w' => (∃ t : Trm, e = .returned (.agg #[.int .i64 t.op, .string t.p, .int .i64 t.c.k, .int .i64 t.c.n, .string t.c.t]) ∧ termB t.op t.p t.c = true) ∧ Below w.heap.size w w' := by
  have K0 := Res5.start w
  have HS : Hid (Calls _ _ _ _ _) := l00Source_any x cap zs (w.alloc (.cells #[.int .i64 0, .string em, .int .i64 0, .int .i64 0, .string em] 34)) (h.step K0.bel)
  clear h
  go_enter Tryz.func16, Tryz.ntmps16
  go_wp2_with fail
  refine HS.out.mono ?_
  rintro e w1 ⟨rfl, s1, b1⟩
  have K1 := K0.step b1
  simp only [heap_size_alloc] at s1
  have HSR : Hid (SrcAt _ _ _ _ _ _) := s1
  clear s1 b1 K0 HS
  go_wp2_with fail
  refine (term_at (w.heap.size + 1) x cap zs 0 _ HSR.out (by decide)).mono ?_
  rintro e w2 ⟨⟨t, rfl, ht⟩, d2⟩
  have K2 := K1.grown d2.1
  have HV : Hid (termB t.op t.p t.c = true) := ht
  obtain ⟨c0, c1, c2, c3, c4, f0, f1, f2, f3, f4⟩ := K2.cells
  have hlt := K2.lt
  have B2 := K2.bel
  clear d2 K1 HSR ht
  go_wp2_with fail
  refine bodyPost_ret (v := .agg #[.int .i64 t.op, .string t.p, .int .i64 t.c.k, .int .i64 t.c.n, .string t.c.t]) (by simp [results, Tryz.results16, go_sem, *]) rfl ⟨⟨t, rfl, HV.out⟩, ?_⟩
  (repeat (first | (with_reducible exact Below.refl _ _) | (with_reducible assumption) | (with_reducible apply below_drewN) | (with_reducible apply Below.drew) | ((with_reducible refine Below.setCell ?_ ?_ _); rotate_left; focus (first | (simp; done) | (simp; omega) | omega)) | ((with_reducible refine Below.alloc ?_ ?_ _); rotate_left; focus (first | (simp; done) | (simp; omega) | omega))))

end Go.Proofs.YtkeghknceccdmaaGreatDoor

/- What the specification draws for the law on intervals: keys and intervals; a byte, and a code's bytes behind it. -/
namespace Go.Proofs.YtkeghknceccdmaaGreatDoor
open Go.RowKit
set_option linter.unusedVariables false

/-- A call that draws an interval: the source, and the cells of the answer. -/
structure DrawI (w W : World) (g : Nat) (x : Option Addr) (cap : Nat) (zs : List Int) (a : Nat) : Prop where
  drew : Drew w g x cap zs a W
  blk : W.heap[w.heap.size]? = some (.cells #[.string em, .string em, .bool false] 24)
section
variable {w W W' : World} {g : Nat} {x : Option Addr} {cap : Nat} {zs : List Int} {a b : Nat}
theorem DrawI.lt (X : DrawI w W g x cap zs a) : w.heap.size < W.heap.size := (Array.getElem?_eq_some_iff.1 X.blk).1
theorem DrawI.cells (X : DrawI w W g x cap zs a) : W.cell? ⟨w.heap.size, 0, none⟩ = some (.string em) ∧ W.cell? ⟨w.heap.size, 1, none⟩ = some (.string em) ∧ W.cell? ⟨w.heap.size, 2, none⟩ = some (.bool false) ∧ W.frozen? ⟨w.heap.size, 0, none⟩ = false ∧ W.frozen? ⟨w.heap.size, 1, none⟩ = false ∧ W.frozen? ⟨w.heap.size, 2, none⟩ = false := by
  have h := X.blk
  refine ⟨?_, ?_, ?_, ?_, ?_, ?_⟩ <;> simp [World.cell?, World.frozen?, h]
theorem DrawI.start (h : SrcAt w g x cap zs a) : DrawI w (w.alloc (.cells #[.string em, .string em, .bool false] 24)) g x cap zs a := by
  have hb : Below w.heap.size w (w.alloc (.cells #[.string em, .string em, .bool false] 24)) := (Below.refl _ _).alloc (Nat.le_refl _) _
  have hg : w.grownBy (w.alloc (.cells #[.string em, .string em, .bool false] 24)) (some g) := (grown_below hb).but _
  obtain ⟨k, s, h1, h2, h3⟩ := h.block
  exact ⟨⟨hg, ⟨⟨k, s, h1, h2, (hb.block g h.lt).trans h3⟩, h.code.next hg⟩⟩, heap_alloc_new w _⟩
theorem DrawI.grown (X : DrawI w W g x cap zs a) (hc : CodeAt w g x zs) (hg : g < w.heap.size) {row : Option Nat} (k : W.grownBy W' row) (hr : ∀ j, row = some j → w.heap.size < j) : DrawI w W' g x cap zs a := by
  have h1 : w.grownBy W' (some g) := grown_up X.drew.1 k (fun j hj => Nat.le_of_lt (hr j hj))
  obtain ⟨p, s, e1, e2, e3⟩ := X.drew.2.block
  have hl := X.lt
  refine ⟨⟨h1, ⟨⟨p, s, e1, e2, (k.block g (by omega) (fun e => by have := hr g e.symm; omega)).trans e3⟩, hc.next h1⟩⟩, (k.block _ hl (fun e => by have := hr _ e.symm; omega)).trans X.blk⟩
theorem DrawI.below (X : DrawI w W g x cap zs a) (hc : CodeAt w g x zs) (hg : g < w.heap.size) (hb : Below W.heap.size W W') : DrawI w W' g x cap zs a := X.grown hc hg (grown_below hb) (fun _ h => by cases h)
theorem DrawI.step (X : DrawI w W g x cap zs a) (hg : g < w.heap.size) (d : Drew W g x cap zs b W') : DrawI w W' g x cap zs b :=
  ⟨X.drew.trans d, (d.1.block _ X.lt (fun e => by injection e with e; omega)).trans X.blk⟩
theorem DrawI.fin (X : DrawI w W g x cap zs a) (hc : CodeAt w g x zs) (hg : g < w.heap.size) (hab : a ≤ b) (v0 v1 v2 : Value) : Drew w g x cap zs b (((W.setCell ⟨w.heap.size, 0, none⟩ v0).setCell ⟨w.heap.size, 1, none⟩ v1).setCell ⟨w.heap.size, 2, none⟩ v2) := by
  have h := Drew.setR hc hg (Drew.setR hc hg (Drew.setR hc hg X.drew 0 v0) 1 v1) 2 v2
  exact ⟨h.1, h.2.mono hab⟩
end
/-- A block of an interval that may be written. -/
structure T3i (W : World) (b : Nat) (v0 v1 v2 : Value) : Prop where
  blk : W.heap[b]? = some (.cells #[v0, v1, v2] 24)
theorem T3i.lt {W : World} {b : Nat} {v0 v1 v2 : Value} (X : T3i W b v0 v1 v2) : b < W.heap.size := (Array.getElem?_eq_some_iff.1 X.blk).1
theorem T3i.cells {W : World} {b : Nat} {v0 v1 v2 : Value} (X : T3i W b v0 v1 v2) : W.cell? ⟨b, 0, none⟩ = some v0 ∧ W.cell? ⟨b, 1, none⟩ = some v1 ∧ W.cell? ⟨b, 2, none⟩ = some v2 ∧ W.frozen? ⟨b, 0, none⟩ = false := by
  have h := X.blk
  refine ⟨?_, ?_, ?_, ?_⟩ <;> simp [World.cell?, World.frozen?, h]
theorem T3i.new (W : World) (v0 v1 v2 : Value) : T3i (W.alloc (.cells #[v0, v1, v2] 24)) W.heap.size v0 v1 v2 := ⟨heap_alloc_new W _⟩
theorem T3i.grown {W W' : World} {b : Nat} {v0 v1 v2 : Value} (X : T3i W b v0 v1 v2) {row : Option Nat} (k : W.grownBy W' row) (hne : some b ≠ row) : T3i W' b v0 v1 v2 := ⟨(k.block b X.lt hne).trans X.blk⟩
theorem T3i.under {W W' : World} {b B : Nat} {v0 v1 v2 : Value} (X : T3i W b v0 v1 v2) (hb : Below B W W') (h : b < B) : T3i W' b v0 v1 v2 := ⟨(hb.block _ h).trans X.blk⟩
theorem T3i.step {W W' : World} {b : Nat} {v0 v1 v2 : Value} (X : T3i W b v0 v1 v2) (hb : Below W.heap.size W W') : T3i W' b v0 v1 v2 := X.under hb X.lt

set_option maxRecDepth 4000 in
set_option maxHeartbeats 1000000 in
theorem keyT_at (g : Nat) (x : Option Addr) (cap : Nat) (zs : List Int) (a : Nat) (w : World) (h : SrcAt w g x cap zs a) (ha : a + 500 ≤ 100000) :
    Calls Tryz.prog 102 #[.pointer (some ⟨g, 0, none⟩)] w fun e w' => (∃ t : ByteArray, e = .returned (.string t) ∧ t.size ≤ 6622) ∧ Drew w g x cap zs (a + 500) w' := by
  have hcost : costV 2 = 430 := rfl
  have HC : Hid (CodeAt _ _ _ _) := h.code
  have HV : Hid (Calls _ _ _ _ _) := val_at 2 g x cap zs a w h (by omega)
  clear h
  go_enter Tryz.func102, Tryz.ntmps102
  go_wp2_with fail
  refine HV.out.mono ?_
  rintro e w1 ⟨⟨v, rfl, hv⟩, d1⟩
  have HO : Hid (okB v = true) := hv
  have HD1 : Hid (Drew _ _ _ _ _ _ _) := d1
  clear d1 hv HV
  go_wp2_with fail
  refine (chance_any g x cap zs (a + costV 2) 4 _ HD1.out.2 (by omega) (by omega) (by omega)).mono ?_
  rintro e w2 ⟨⟨b, rfl⟩, d2⟩
  have HD2 : Hid (Drew _ _ _ _ _ _ _) := HD1.out.trans d2
  clear d2 HD1
  go_wp2_with fail
  refine (l04Key_any v b _ HO.out).mono ?_
  rintro e w3 ⟨rfl, hb⟩
  have k : w2.grownBy w3 none := grown_below hb
  have h1 : w.grownBy w3 (some g) := grown_up HD2.out.1 k (fun j hj => by cases hj)
  obtain ⟨p, s, e1, e2, e3⟩ := HD2.out.2.block
  have HD3 : Hid (Drew w g x cap zs (a + 500) w3) := ⟨h1, ⟨⟨p, s, by omega, e2, (k.block g HD2.out.2.lt (fun e => by cases e)).trans e3⟩, HC.out.next h1⟩⟩
  have hsz : (mkB (dirK b (keyV 5 v))).size ≤ 6622 := by
    have := key_size v HO.out
    rw [mkB_size] at this ⊢
    unfold dirK
    cases b
    · exact this
    · simp only [if_true]; rw [turnL_len]; exact this
  clear h1 k hb e1 e2 e3 HD2
  go_wp2_with fail
  go_ret
  exact ⟨⟨_, rfl, hsz⟩, HD3.out⟩

set_option maxRecDepth 4000 in
set_option maxHeartbeats 4000000 in
theorem interval_at (g : Nat) (x : Option Addr) (cap : Nat) (zs : List Int) (a : Nat) (w : World) (h : SrcAt w g x cap zs a) (ha : a + 1010 ≤ 100000) :
    Calls Tryz.prog 44 #[.pointer (some ⟨g, 0, none⟩)] w fun e w' => (∃ i : Ivl, e = .returned (.agg #[.string i.lo, .string i.hi, .bool i.op]) ∧ i.lo.size ≤ 6622 ∧ i.hi.size ≤ 6622) ∧ Drew w g x cap zs (a + 1010) w' := by
  have hg := h.lt
  have HC : Hid (CodeAt _ _ _ _) := h.code
  have HX0 : Hid (DrawI _ _ _ _ _ _ _) := DrawI.start h
  clear h
  go_enter Tryz.func44, Tryz.ntmps44
  go_wp2_with fail
  refine (keyT_at g x cap zs a _ HX0.out.drew.2 (by omega)).mono ?_
  rintro e w1 ⟨⟨lo, rfl, hlo⟩, d1⟩
  have HX1 : Hid (DrawI _ _ _ _ _ _ _) := HX0.out.step hg d1
  clear d1 HX0
  go_wp2_with fail
  refine (keyT_at g x cap zs (a + 500) _ HX1.out.drew.2 (by omega)).mono ?_
  rintro e w2 ⟨⟨hi, rfl, hhi⟩, d2⟩
  have HX2 : Hid (DrawI _ _ _ _ _ _ _) := HX1.out.step hg d2
  clear d2 HX1
  go_wp2_with fail
  refine (chance_any g x cap zs (a + 500 + 500) 4 _ HX2.out.drew.2 (by omega) (by omega) (by omega)).mono ?_
  rintro e w3 ⟨⟨op, rfl⟩, d3⟩
  have HX3 : Hid (DrawI _ _ _ _ _ _ _) := HX2.out.step hg d3
  have hl3 := HX3.out.lt
  have HT4 : Hid (T3i _ _ _ _ _) := T3i.new w3 (.string lo) (.string hi) (.bool op)
  have HX4 : Hid (DrawI _ _ _ _ _ _ _) := HX3.out.below HC.out hg ((Below.refl _ _).alloc (Nat.le_refl _) (.cells #[.string lo, .string hi, .bool op] 24))
  clear d3 HX2
  go_wp2_with fail
  refine (chance_any g x cap zs (a + 500 + 500 + 1) 4 _ HX4.out.drew.2 (by omega) (by omega) (by omega)).mono ?_
  rintro e w5 ⟨⟨c, rfl⟩, d5⟩
  have HX5 : Hid (DrawI _ _ _ _ _ _ _) := HX4.out.step hg d5
  have HT5 : Hid (T3i _ _ _ _ _) := HT4.out.grown d5.1 (fun e => by injection e; omega)
  clear d5 HX4 HT4 HX3
  obtain ⟨c0, c1, c2, f0, f1, f2⟩ := HX5.out.cells
  obtain ⟨t0, t1, t2, s0⟩ := HT5.out.cells
  have hne1 : ¬ w3.heap.size = w.heap.size := by omega
  have hne2 : ¬ w.heap.size = w3.heap.size := by omega
  have hlF := HT5.out.lt
  cases c
  · go_wp2_with fail
    refine bodyPost_ret (v := .agg #[.string lo, .string hi, .bool op]) (by simp [results, Tryz.results44, go_sem, *]) rfl ⟨⟨⟨lo, hi, op⟩, rfl, hlo, hhi⟩, ?_⟩
    exact HX5.out.fin (b := a + 1010) HC.out hg (by omega) _ _ _
  · go_wp2_with fail
    refine bodyPost_ret (v := .agg #[.string em, .string hi, .bool op]) (by simp [results, Tryz.results44, go_sem, *]) rfl ⟨⟨⟨em, hi, op⟩, rfl, (by decide : (em : ByteArray).size ≤ 6622), hhi⟩, ?_⟩
    exact (HX5.out.grown HC.out hg grown_set (fun j hj => by injection hj with hj; omega)).fin (b := a + 1010) HC.out hg (by omega) _ _ _

/-- Three cells of the answer. -/
structure Res3i (w W : World) : Prop where
  bel : Below w.heap.size w W
  blk : W.heap[w.heap.size]? = some (.cells #[.string em, .string em, .bool false] 24)
theorem Res3i.lt {w W : World} (X : Res3i w W) : w.heap.size < W.heap.size := (Array.getElem?_eq_some_iff.1 X.blk).1
theorem Res3i.start (w : World) : Res3i w (w.alloc (.cells #[.string em, .string em, .bool false] 24)) := ⟨(Below.refl _ _).alloc (Nat.le_refl _) _, heap_alloc_new w _⟩
theorem Res3i.step {w W W' : World} (X : Res3i w W) (hb : Below W.heap.size W W') : Res3i w W' := ⟨X.bel.trans (hb.mono X.bel.size), (hb.block _ X.lt).trans X.blk⟩
theorem Res3i.grown {w W W' : World} (X : Res3i w W) (hg : W.grownBy W' (some (w.heap.size + 1))) : Res3i w W' :=
  ⟨Below.grown X.bel hg X.bel.size (fun j hj => by injection hj with hj; omega), (hg.block _ X.lt (fun e => by injection e; omega)).trans X.blk⟩
theorem Res3i.cells {w W : World} (X : Res3i w W) : W.cell? ⟨w.heap.size, 0, none⟩ = some (.string em) ∧ W.cell? ⟨w.heap.size, 1, none⟩ = some (.string em) ∧ W.cell? ⟨w.heap.size, 2, none⟩ = some (.bool false) ∧ W.frozen? ⟨w.heap.size, 0, none⟩ = false ∧ W.frozen? ⟨w.heap.size, 1, none⟩ = false ∧ W.frozen? ⟨w.heap.size, 2, none⟩ = false := by
  have h := X.blk
  refine ⟨?_, ?_, ?_, ?_, ?_, ?_⟩ <;> simp [World.cell?, World.frozen?, h]
set_option maxRecDepth 4000 in
set_option maxHeartbeats 1000000 in
theorem intervalT_any (x : Option Addr) (cap : Nat) (zs : List Int) (w : World) (h : InC w x zs) :
    Calls Tryz.prog 8 #[.slice x zs.length cap] w fun e w' => (∃ i : Ivl, e = .returned (.agg #[.string i.lo, .string i.hi, .bool i.op]) ∧ i.lo.size ≤ 6622 ∧ i.hi.size ≤ 6622) ∧ Below w.heap.size w w' := by
  have K0 := Res3i.start w
  have HS : Hid (Calls _ _ _ _ _) := l00Source_any x cap zs (w.alloc (.cells #[.string em, .string em, .bool false] 24)) (h.step K0.bel)
  clear h
  go_enter Tryz.func8, Tryz.ntmps8
  go_wp2_with fail
  refine HS.out.mono ?_
  rintro e w1 ⟨rfl, s1, b1⟩
  have K1 := K0.step b1
  simp only [heap_size_alloc] at s1
  have HSR : Hid (SrcAt _ _ _ _ _ _) := s1
  clear s1 b1 K0 HS
  go_wp2_with fail
  refine (interval_at (w.heap.size + 1) x cap zs 0 _ HSR.out (by decide)).mono ?_
  rintro e w2 ⟨⟨t, rfl, ht⟩, d2⟩
  have K2 := K1.grown d2.1
  have HV : Hid (t.lo.size ≤ 6622 ∧ t.hi.size ≤ 6622) := ht
  obtain ⟨c0, c1, c2, f0, f1, f2⟩ := K2.cells
  have hlt := K2.lt
  have B2 := K2.bel
  clear d2 K1 HSR ht
  go_wp2_with fail
  refine bodyPost_ret (v := .agg #[.string t.lo, .string t.hi, .bool t.op]) (by simp [results, Tryz.results8, go_sem, *]) rfl ⟨⟨t, rfl, HV.out⟩, ?_⟩
  (repeat (first | (with_reducible exact Below.refl _ _) | (with_reducible assumption) | (with_reducible apply below_drewN) | (with_reducible apply Below.drew) | ((with_reducible refine Below.setCell ?_ ?_ _); rotate_left; focus (first | (simp; done) | (simp; omega) | omega)) | ((with_reducible refine Below.alloc ?_ ?_ _); rotate_left; focus (first | (simp; done) | (simp; omega) | omega))))

theorem gd5 (zs : List Int) (i : Nat) (h : i < zs.length) : zs.getD i 0 = zs[i] := by rw [List.getD, List.getElem?_eq_getElem h]; rfl
theorem infoU8i : (Tryz.prog.info? 5).map (fun i => (i.zero, i.size, i.bytes)) = some (some (.int .u8 0), 1, 1) := by kernel_rfl
def byteW (zs : List Int) : List Value := zs.map (Value.int .u8)
theorem byteW_get (zs : List Int) (i : Nat) (h : i < zs.length) : (byteW zs)[i]? = some (.int .u8 (zs.getD i 0)) := by
  unfold byteW; rw [List.getElem?_map, List.getElem?_eq_getElem h, gd5 zs i h]; rfl
set_option maxRecDepth 8000 in
/-- A byte, and a code's bytes behind it. -/
theorem app5_bytes (bb : Nat) (x : Option Addr) (cap : Nat) (zs : List Int) (w : World) (ty : TypeId) (hb : w.cell? ⟨bb, 0, none⟩ = some (.int .u8 5)) (hbl : bb < w.heap.size) (h : InC w x zs) (hl : zs.length ≤ 1048576) :
    ∃ g c' w', (Builtin.append_ #[22, 22] ty #[.slice (some ⟨bb, 0, none⟩) 1 1, .slice x zs.length cap]).run Tryz.prog w = .ok (.slice (some ⟨g, 0, none⟩) (5 :: zs : List Int).length c') w' ∧ InC w' (some ⟨g, 0, none⟩) (5 :: zs) ∧ Below w.heap.size w w' := by
  obtain ⟨i0, hi, hz0, hz1, hz2⟩ := info_parts infoU8i
  have hbytes : ∀ i, i < (5 :: zs : List Int).length → 0 ≤ (5 :: zs : List Int).getD i 0 ∧ (5 :: zs : List Int).getD i 0 < 256 := by
    intro i hi
    match i, hi with
    | 0, _ => exact ⟨by simp, by simp⟩
    | i + 1, hi => simpa using h.bytes i (by simpa using hi)
  have hlen : (5 :: zs : List Int).length = 1 + zs.length := by simp; omega
  have hle : (5 :: zs : List Int).length ≤ 2097152 := by rw [hlen]; omega
  rcases Nat.eq_zero_or_pos zs.length with h0 | h0
  · obtain rfl := List.eq_nil_of_length_eq_zero h0
    have hsrc : Src Tryz.prog i0.size 22 (.slice x 0 cap) 0 [] w := by
      cases x with
      | none => exact Src.ofNil (P := Tryz.prog) w (e' := 5) Tryz.underlying22 cap
      | some a => exact Src.ofSlice (P := Tryz.prog) w (e' := 5) Tryz.underlying22 a 0 cap [] (by simp) (fun j u hj => by simp at hj) (fun u hu => by cases hu)
    have hr := run_append_room_src (P := Tryz.prog) w 22 22 ty 5 i0 Tryz.underlying22 hi bb 0 1 1 (.slice x 0 cap) 0 [] hsrc (by omega) (fun j hj => absurd hj (by simp)) (fun j hj => absurd hj (by simp))
    refine ⟨bb, 1, w, hr, ⟨.inr ⟨bb, 0, rfl, hbl, fun i hi => ?_⟩, hbytes, hle⟩, Below.refl _ _⟩
    have : i = 0 := by simp at hi; exact hi
    subst this; simpa using hb
  · obtain ⟨b, off, rfl, hlt, hc⟩ : ∃ b off, x = some ⟨b, off, none⟩ ∧ b < w.heap.size ∧ ∀ i, i < zs.length → w.cell? ⟨b, off + i, none⟩ = some (.int .u8 (zs.getD i 0)) := by
      rcases h.inb with h1 | h1
      · omega
      · exact h1
    have hadd : ∀ (b o j : Nat), (⟨b, o, none⟩ : Addr).add j = ⟨b, o + j, none⟩ := fun b o j => by unfold Addr.add; split <;> simp_all
    have hbv : (byteW zs).length = zs.length := by unfold byteW; simp
    have hcs : ∀ j u, (byteW zs)[j]? = some u → w.cell? ((⟨b, off, none⟩ : Addr).add j) = some u := by
      intro j u hj
      have hjl : j < zs.length := by
        rcases Nat.lt_or_ge j zs.length with h | h
        · exact h
        · rw [List.getElem?_eq_none (by omega)] at hj; cases hj
      rw [byteW_get zs j hjl] at hj; injection hj with hj
      rw [hadd, ← hj]; exact hc j hjl
    have hsrc : Src Tryz.prog i0.size 22 (.slice (some ⟨b, off, none⟩) zs.length cap) zs.length (byteW zs) w :=
      Src.ofSlice (P := Tryz.prog) w (e' := 5) Tryz.underlying22 ⟨b, off, none⟩ zs.length cap (byteW zs) (by rw [hz1, hbv, Nat.mul_one]) hcs (fun u hu => by
        unfold byteW at hu; obtain ⟨_, _, rfl⟩ := List.mem_map.1 hu; rfl)
    have hold := (Src.ofSlice (P := Tryz.prog) (size := i0.size) w (e' := 5) Tryz.underlying22 ⟨bb, 0, none⟩ 1 1 [.int .u8 5] (by rw [hz1]; rfl) (fun j u hj => by
        have : j = 0 := by
          rcases Nat.eq_zero_or_pos j with h | h
          · exact h
          · rw [List.getElem?_eq_none (by simp; omega)] at hj; cases hj
        subst this
        simp at hj; rw [hadd, ← hj]; simpa using hb) (fun u hu => by simp at hu; rw [hu]; rfl)).cellsD
    have hr := run_append_grow_src (P := Tryz.prog) w 22 22 ty 5 i0 _ Tryz.underlying22 hi hz0 (some ⟨bb, 0, none⟩) 1 1 [.int .u8 5] hold (.slice (some ⟨b, off, none⟩) zs.length cap) zs.length (byteW zs) hsrc (by omega) (by omega) (by rw [hz2]; have := nextslicecap_le (need := 1 + zs.length) (old := 1) (by omega); omega)
    refine ⟨w.heap.size, _, _, by rw [hlen]; exact hr, ⟨.inr ⟨w.heap.size, 0, rfl, by simp, fun i hi => ?_⟩, hbytes, hle⟩, (Below.refl _ _).drew.alloc (by simp) _⟩
    have hs0 : w.drew.heap.size = w.heap.size := rfl
    have hcell : ∀ (W : World) (cs : Array Value) (T : TypeId) (j : Nat), (W.alloc (.cells cs T)).cell? ⟨W.heap.size, j, none⟩ = cs[j]? := fun W cs T j => World.cell?_alloc_new W cs T j
    rw [Nat.zero_add, ← hs0, hcell, Array.getElem?_append_left (by rw [List.size_toArray, List.length_append, hbv]; simp at hi ⊢; omega)]
    match i, hi with
    | 0, _ => simp
    | i + 1, hi => simpa using byteW_get zs i (by simpa using hi)

theorem wpList_app5_bytes {w : World} {ops : Array Oper} {rest : List Oper} {o : Oper} {a : Act} {Q : Exit → Act → World → Prop} (hgd : o.guard = none) (s x : Operand)
    (ho : o.op = .call { callee := .builtin .append, args := #[s, x], argTypes := #[22, 22] }) (bb : Nat) (xx : Option Addr) (cap : Nat) (zs : List Int)
    (hs : a.eval s = .slice (some ⟨bb, 0, none⟩) 1 1) (hx : a.eval x = .slice xx zs.length cap) (hb : w.cell? ⟨bb, 0, none⟩ = some (.int .u8 5)) (hbl : bb < w.heap.size) (h : InC w xx zs) (hl : zs.length ≤ 1048576)
    (hK : ∀ g c' w' nz, nz = (5 :: zs : List Int).length → InC w' (some ⟨g, 0, none⟩) (5 :: zs) → Below w.heap.size w w' → wpList Tryz.prog ops Q rest (a.put o.dst (.slice (some ⟨g, 0, none⟩) nz c')) w') :
    wpList Tryz.prog ops Q (o :: rest) a w := by
  refine wpList_plain hgd fun K hK2 => ?_
  obtain ⟨g, c', w', hr, h2, h3⟩ := app5_bytes bb xx cap zs w o.type hb hbl h hl
  unfold Oper.wp execOp
  simp only [ho, resolve, invoke, builtin, Sem.run_bind, Sem.run_pure, Result.andThen_ok, List.map_toArray, List.map_cons, List.map_nil, hs, hx, hr]
  exact hK2 _ _ (hK g c' w' _ rfl h2 h3)

end Go.Proofs.YtkeghknceccdmaaGreatDoor

/- A region of open order whose head reads old memory alone, its callees making new memory as they like, and whose tail (a store of what the head has reckoned) comes last in every order: the head is walked once, in the order of the text. -/
namespace Go.Proofs.YtkeghknceccdmaaGreatDoor
open Go.RowKit
set_option linter.unusedVariables false

section
variable {P : Program} {ops : Array Oper} {md : Region.Mode} {C : World → Prop}
/-- Whatever order the head takes, f operations from here on. -/
def headAny (P : Program) (md : Region.Mode) (ops : Array Oper) (C : World → Prop) (n : Nat) (L : Array Bool → Act → Prop) : Nat → Array Bool → Act → Prop
  | 0, done, a => L done a
  | f + 1, done, a => Region.ready md ops done ≠ [] ∧ ∀ i ∈ Region.ready md ops done, i < n ∧ qOp P ops C i (headAny P md ops C n L f (done.setIfInBounds i true)) a
theorem headAny_out {n g : Nat} {L : Array Bool → Act → Prop} {R : Exit → Act → World → Prop} (hL : ∀ done a w, C w → L done a → wpAny P md ops R g done a w) :
    ∀ (f : Nat) (done : Array Bool) (a : Act) (w : World), C w → headAny P md ops C n L f done a → wpAny P md ops R (f + g) done a w
  | 0, done, a, w, hw, h => by rw [Nat.zero_add]; exact hL _ _ _ hw h
  | f + 1, done, a, w, hw, h => by
    rw [Nat.succ_add]
    exact ⟨fun e => absurd e h.1, fun i hi => wpOp_of_qOp hw (fun a' w' hw' k => headAny_out hL f _ a' w' hw' k) (h.2 i hi).2⟩
theorem not_done {done : Array Bool} {i : Nat} (h : done.getD i true = false) (k : done.getD i false = true) : False := by
  rw [getD_both h] at k; cases k
/-- One of the head's operations that may come now may be taken first. -/
theorem headAny_first {n i : Nat} {oi : Oper} {v : Value} {L : Array Bool → Act → Prop} (hi : ops[i]? = some oi) (hsel : ∀ (j : Nat) (o : Oper) cs b, ops[j]? = some o → o.op ≠ .select cs b)
    (hs : Region.sinkB md ops n = true) (hc : Region.chainB md ops n = true) (hn : n < ops.size) (hin : i < n) (hend : ∀ done a, L done a → ∀ j ∈ Region.ready md ops done, n ≤ j) :
    ∀ (f : Nat) (done : Array Bool) (a : Act), HeadInv md ops n done →
      (∀ j oj, ops[j]? = some oj → j ≠ i → done.getD j true = false → (∀ e ∈ oj.after, Region.binds md e = true → e.on ≠ i) → oi.apart ops oj = true) →
      i ∈ Region.ready md ops done → YieldsIn P ops C oi v a → headAny P md ops C n L f (done.setIfInBounds i true) (a.put oi.dst v) → headAny P md ops C n L (f + 1) done a := by
  intro f
  induction f with
  | zero =>
    intro done a inv _ hr hy H
    have hun := (mem_ready.1 hr).1
    refine ⟨fun e => (by rw [e] at hr; cases hr), fun j hj => ?_⟩
    have hjn : j < n := Nat.lt_of_not_le fun h => tail_waits hs hc hn inv _ i rfl hin hun j h hj
    refine ⟨hjn, ?_⟩
    by_cases hji : j = i
    · subst hji; exact hy.qOp hi H
    · exact absurd (hend _ _ H j (ready_mono hj hji)) (Nat.not_le_of_lt hjn)
  | succ f ih =>
    intro done a inv hfree hr hy H
    have hun := (mem_ready.1 hr).1
    refine ⟨fun e => (by rw [e] at hr; cases hr), fun j hj => ?_⟩
    have hjn : j < n := Nat.lt_of_not_le fun h => tail_waits hs hc hn inv _ i rfl hin hun j h hj
    refine ⟨hjn, ?_⟩
    by_cases hji : j = i
    · subst hji; exact hy.qOp hi H
    · obtain ⟨hjun, oj, hoj, hall⟩ := mem_ready.1 hj
      have hnot : ∀ e ∈ oj.after, Region.binds md e = true → e.on ≠ i := fun e he hb heq => not_done hun (heq ▸ hall e he hb)
      have h2 := qOp_put hoj (hfree j oj hoj hji hjun hnot) (fun cs b => hsel i oi cs b hi) (fun cs b => hsel j oj cs b hoj) hy (H.2 j (ready_mono hj hji)).2
      refine qOp_mono (fun a' h3 => ih (done.setIfInBounds j true) a' (inv.set hj hjn) (fun k ok hk hki hu hno => hfree k ok hk hki ?_ hno) (ready_mono hr (Ne.symm hji)) h3.1 ?_) h2
      · by_cases hjk : j = k
        · subst hjk; exact hjun
        · rwa [getD_set_ne true hjk] at hu
      · rw [Array.setIfInBounds_comm _ _ hji]; exact h3.2
theorem headAny_lex {n g : Nat} {R : Act → Prop} (hsel : Region.noSelect ops = true) (hs : Region.sinkB md ops n = true) (hc : Region.chainB md ops n = true) (hn : n < ops.size) :
    ∀ (l : List Oper) (k : Nat) (done : Array Bool) (a : Act), (∀ j, j < l.length → l[j]? = ops[k + j]?) → k + l.length = n → HeadInv md ops n done → Region.lexHead md ops g l.length k done = true → wpQuiet P ops C R l a →
      headAny P md ops C n (fun d a' => Region.seqB md ops g n d = true ∧ R a') l.length done a
  | [], k, done, a, _, hk, _, hB, h => by
    obtain rfl : k = n := by simpa using hk
    exact ⟨by simpa [Region.lexHead] using hB, h⟩
  | o :: l, k, done, a, hl, hk, inv, hB, h => by
    rw [List.length_cons] at hk hl
    have h0 : ops[k]? = some o := by simpa using (hl 0 (by omega)).symm
    simp only [List.length_cons, Region.lexHead, Bool.and_eq_true] at hB
    obtain ⟨⟨hr, hf⟩, hB'⟩ := hB
    have hr' : k ∈ Region.ready md ops done := by simpa using hr
    obtain ⟨v, hy, hK⟩ := yieldsIn_of_qOp h0 (show qOp P ops C k (wpQuiet P ops C R l) a by unfold qOp; simp only [h0]; exact h)
    exact headAny_first h0 (Region.noSelect_spec hsel) hs hc hn (by omega) (fun _ _ hL => seqB_ready hL.1) l.length done a inv (Region.free_spec h0 hf) hr' hy
      (headAny_lex hsel hs hc hn l (k + 1) _ _ (fun j hj => by have := hl (j + 1) (by omega); simpa [Nat.add_assoc, Nat.add_comm 1 j] using this) (by omega) (inv.set hr' (by omega)) hB' hK)
end
theorem wp_region_under_tail {P : Program} {id : Nat} {Q : Exit → Act → World → Prop} {a : Act} {w : World} {l : List Oper} (n : Nat) (hm : P.follows .mixedOrders = true) (hB : Region.lexTailB .any l.toArray n = true)
    (h : wpQuiet P l.toArray (fun w' => ∃ u : Under w, w' = u.x) (fun a' => ∀ w', (∃ u : Under w, w' = u.x) → wpList P l.toArray Q (l.drop n) a' w') (l.take n) a) : (Code.region id l.toArray true).wp P Q a w := by
  simp only [Region.lexTailB, Bool.and_eq_true, decide_eq_true_eq] at hB
  obtain ⟨⟨⟨⟨hsel, hn⟩, hs⟩, hc⟩, hlex⟩ := hB
  have hn' : n < l.length := by simpa using hn
  have htl : (l.take n).length = n := by simp; omega
  have inv0 : HeadInv .any l.toArray n (Array.replicate l.toArray.size false) :=
    ⟨by simp, fun j oj _ e => (by rw [getD_replicate_false] at e; cases e), fun t _ ht => getD_in (by simpa using ht) (getD_replicate_false _ _)⟩
  have H := headAny_lex (md := .any) (g := l.toArray.size - n) hsel hs hc hn (l.take n) 0 _ a (fun j hj => by rw [htl] at hj; simp [hj]) (by rw [htl, Nat.zero_add]) inv0 (by rw [htl]; exact hlex) h
  refine wp_region_any hm ?_
  have hfin := headAny_out (R := Q) (g := l.toArray.size - n) (fun done a' w' hw' hL => by
    have hdl : (l.drop n).length = l.toArray.size - n := by simp
    have := wpAny_of_seq (md := .any) (Q' := Q) (l.drop n) n done a' w' (fun j => by simp [List.getElem?_drop]) (by rw [hdl]; exact hL.1) (hL.2 w' hw')
    rwa [hdl] at this) _ _ _ { w with drawn := w.drawn + 1 } ⟨⟨_, (Below.refl _ _).drew⟩, rfl⟩ H
  rwa [htl, show n + (l.toArray.size - n) = l.toArray.size by omega] at hfin

end Go.Proofs.YtkeghknceccdmaaGreatDoor

/- What two intervals have in common: the program's answer. -/
namespace Go.Proofs.YtkeghknceccdmaaGreatDoor
open Go.RowKit
set_option linter.unusedVariables false

set_option maxRecDepth 4000 in
set_option maxHeartbeats 8000000 in
theorem implMeet_false (lo hi lo' hi' M H : ByteArray) (op' : Bool) (w : World) (hmx : ∀ (W : World) ts t, (Builtin.max_ ts t #[.string lo, .string lo']).run Tryz.prog W = .ok (.string M) W)
    (hL : ∀ W : World, Calls Tryz.prog 46 #[.agg #[.string lo, .string hi, .bool false], .agg #[.string lo', .string hi', .bool op']] W fun e w' => e = .returned (.string H) ∧ Below W.heap.size W w') (hMs : M.size ≤ 1048576) (hHs : H.size ≤ 1048576) :
    Calls Tryz.prog 9 #[.agg #[.string lo, .string hi, .bool false], .agg #[.string lo', .string hi', .bool op']] w fun e w' => e = .returned (.agg #[.string M, .string H, .bool false]) ∧ Below w.heap.size w w' := by
  have X0 := OwnI.start w (.string lo) (.string hi) (.bool false) (.string lo') (.string hi') (.bool op') 24
  have HL : Hid (∀ W : World, Calls _ _ _ W _) := hL
  have HM : Hid (∀ W : World, Calls _ _ _ W _) := fun W => strClone_any M W hMs
  have HH : Hid (∀ W : World, Calls _ _ _ W _) := fun W => strClone_any H W hHs
  clear hL hMs hHs
  go_enter Tryz.func9, Tryz.ntmps9
  go_wp2_with fail
  generalize ((w.alloc (.cells #[.string lo, .string hi, .bool false] 24)).alloc (.cells #[.string lo', .string hi', .bool op'] 24)).alloc (.cells #[.string em, .string em, .bool false] 24) = W0 at X0 ⊢
  have q0 : ∀ u : Under W0, u.x.cell? ⟨w.heap.size, 0, none⟩ = some (.string lo) := fun u => (X0.step u.h).c0
  have q1 : ∀ u : Under W0, u.x.cell? ⟨w.heap.size, 1, none⟩ = some (.string hi) := fun u => (X0.step u.h).c1
  have q2 : ∀ u : Under W0, u.x.cell? ⟨w.heap.size, 2, none⟩ = some (.bool false) := fun u => (X0.step u.h).c2
  have r0 : ∀ u : Under W0, u.x.cell? ⟨w.heap.size + 1, 0, none⟩ = some (.string lo') := fun u => (X0.step u.h).e0
  have r1 : ∀ u : Under W0, u.x.cell? ⟨w.heap.size + 1, 1, none⟩ = some (.string hi') := fun u => (X0.step u.h).e1
  have r2 : ∀ u : Under W0, u.x.cell? ⟨w.heap.size + 1, 2, none⟩ = some (.bool op') := fun u => (X0.step u.h).e2
  have hnu : Nonempty (Under W0) := ⟨⟨W0, Below.refl _ _⟩⟩
  refine wp_region_under_tail 17 (by kernel_rfl) (by kernel_rfl) ?_
  simp only [List.take_succ_cons, List.take_zero, List.drop_succ_cons, List.drop_zero]
  repeat (go_big_quiet_step ((first | (go_at_call_of 45 (Value.string M); exact calls_under _ (HM.out _)) | (go_at_call_of 45 (Value.string H); exact calls_under _ (HH.out _)) | (go_at_call 46; exact calls_under _ (HL.out _)))))
  refine wpQuiet_nil ?_
  rintro _ ⟨u, rfl⟩
  have Y := X0.step u.h
  have d0 := Y.d0
  have d1 := Y.d1
  have d2 := Y.d2
  have z0 := Y.z0
  have z1 := Y.z1
  have z2 := Y.z2
  have hlt := Y.lt
  have hbw := Y.bel
  clear q0 q1 q2 r0 r1 r2 hnu
  go_wp2_with fail
  refine bodyPost_ret (v := .agg #[.string M, .string H, .bool false]) (by simp [results, Tryz.results9, go_sem, *]) rfl ⟨rfl, ?_⟩
  (repeat (first | (with_reducible exact Below.refl _ _) | (with_reducible assumption) | (with_reducible apply below_drewN) | (with_reducible apply Below.drew) | ((with_reducible refine Below.setCell ?_ ?_ _); rotate_left; focus (first | (simp; done) | (simp; omega) | omega)) | ((with_reducible refine Below.alloc ?_ ?_ _); rotate_left; focus (first | (simp; done) | (simp; omega) | omega))))

set_option maxRecDepth 4000 in
set_option maxHeartbeats 8000000 in
theorem implMeet_true (lo hi lo' hi' M H : ByteArray) (op' : Bool) (w : World) (hmx : ∀ (W : World) ts t, (Builtin.max_ ts t #[.string lo, .string lo']).run Tryz.prog W = .ok (.string M) W)
    (hL : ∀ W : World, Calls Tryz.prog 46 #[.agg #[.string lo, .string hi, .bool true], .agg #[.string lo', .string hi', .bool op']] W fun e w' => e = .returned (.string H) ∧ Below W.heap.size W w') (hMs : M.size ≤ 1048576) (hHs : H.size ≤ 1048576) :
    Calls Tryz.prog 9 #[.agg #[.string lo, .string hi, .bool true], .agg #[.string lo', .string hi', .bool op']] w fun e w' => e = .returned (.agg #[.string M, .string H, .bool op']) ∧ Below w.heap.size w w' := by
  have X0 := OwnI.start w (.string lo) (.string hi) (.bool true) (.string lo') (.string hi') (.bool op') 24
  have HL : Hid (∀ W : World, Calls _ _ _ W _) := hL
  have HM : Hid (∀ W : World, Calls _ _ _ W _) := fun W => strClone_any M W hMs
  have HH : Hid (∀ W : World, Calls _ _ _ W _) := fun W => strClone_any H W hHs
  clear hL hMs hHs
  go_enter Tryz.func9, Tryz.ntmps9
  go_wp2_with fail
  generalize ((w.alloc (.cells #[.string lo, .string hi, .bool true] 24)).alloc (.cells #[.string lo', .string hi', .bool op'] 24)).alloc (.cells #[.string em, .string em, .bool false] 24) = W0 at X0 ⊢
  have q0 : ∀ u : Under W0, u.x.cell? ⟨w.heap.size, 0, none⟩ = some (.string lo) := fun u => (X0.step u.h).c0
  have q1 : ∀ u : Under W0, u.x.cell? ⟨w.heap.size, 1, none⟩ = some (.string hi) := fun u => (X0.step u.h).c1
  have q2 : ∀ u : Under W0, u.x.cell? ⟨w.heap.size, 2, none⟩ = some (.bool true) := fun u => (X0.step u.h).c2
  have r0 : ∀ u : Under W0, u.x.cell? ⟨w.heap.size + 1, 0, none⟩ = some (.string lo') := fun u => (X0.step u.h).e0
  have r1 : ∀ u : Under W0, u.x.cell? ⟨w.heap.size + 1, 1, none⟩ = some (.string hi') := fun u => (X0.step u.h).e1
  have r2 : ∀ u : Under W0, u.x.cell? ⟨w.heap.size + 1, 2, none⟩ = some (.bool op') := fun u => (X0.step u.h).e2
  have hnu : Nonempty (Under W0) := ⟨⟨W0, Below.refl _ _⟩⟩
  refine wp_region_under_tail 17 (by kernel_rfl) (by kernel_rfl) ?_
  simp only [List.take_succ_cons, List.take_zero, List.drop_succ_cons, List.drop_zero]
  repeat (go_big_quiet_step ((first | (go_at_call_of 45 (Value.string M); exact calls_under _ (HM.out _)) | (go_at_call_of 45 (Value.string H); exact calls_under _ (HH.out _)) | (go_at_call 46; exact calls_under _ (HL.out _)))))
  refine wpQuiet_nil ?_
  rintro _ ⟨u, rfl⟩
  have Y := X0.step u.h
  have d0 := Y.d0
  have d1 := Y.d1
  have d2 := Y.d2
  have z0 := Y.z0
  have z1 := Y.z1
  have z2 := Y.z2
  have hlt := Y.lt
  have hbw := Y.bel
  clear q0 q1 q2 r0 r1 r2 hnu
  go_wp2_with fail
  refine bodyPost_ret (v := .agg #[.string M, .string H, .bool op']) (by simp [results, Tryz.results9, go_sem, *]) rfl ⟨rfl, ?_⟩
  (repeat (first | (with_reducible exact Below.refl _ _) | (with_reducible assumption) | (with_reducible apply below_drewN) | (with_reducible apply Below.drew) | ((with_reducible refine Below.setCell ?_ ?_ _); rotate_left; focus (first | (simp; done) | (simp; omega) | omega)) | ((with_reducible refine Below.alloc ?_ ?_ _); rotate_left; focus (first | (simp; done) | (simp; omega) | omega))))

theorem implMeet_any (a b : Ivl) (w : World) (hs : a.lo.size ≤ 1048576) (hs1 : a.hi.size ≤ 1048576) (hs2 : b.lo.size ≤ 1048576) (hs3 : b.hi.size ≤ 1048576) :
    Calls Tryz.prog 9 #[.agg #[.string a.lo, .string a.hi, .bool a.op], .agg #[.string b.lo, .string b.hi, .bool b.op]] w fun e w' => e = .returned (.agg #[.string (meetI a b).lo, .string (meetI a b).hi, .bool (meetI a b).op]) ∧ Below w.heap.size w w' := by
  have hML : (Lib.maxS a.lo b.lo).size ≤ 1048576 := by unfold Lib.maxS; split <;> assumption
  have hHL : (hiM a b).size ≤ 1048576 := by
    unfold hiM
    split
    · split
      · show 0 ≤ 1048576; omega
      · exact hs3
    · split
      · exact hs1
      · unfold Lib.minS; split <;> assumption
  obtain ⟨lo, hi, op⟩ := a
  obtain ⟨lo', hi', op'⟩ := b
  cases op
  · exact implMeet_false lo hi lo' hi' _ _ op' w (fun W ts t => Lib.run_max_strs W ts t lo lo') (fun W => lesserHigh_any ⟨lo, hi, false⟩ ⟨lo', hi', op'⟩ W) hML hHL
  · exact implMeet_true lo hi lo' hi' _ _ op' w (fun W ts t => Lib.run_max_strs W ts t lo lo') (fun W => lesserHigh_any ⟨lo, hi, true⟩ ⟨lo', hi', op'⟩ W) hML hHL

end Go.Proofs.YtkeghknceccdmaaGreatDoor

/- The law on intervals, walked (whole). -/
namespace Go.Proofs.YtkeghknceccdmaaGreatDoor
open Go.RowKit
set_option linter.unusedVariables false

theorem bk_step {W W' : World} {b : Nat} {o : Obj} (h : W.heap[b]? = some o) (hb : Below W.heap.size W W') : W'.heap[b]? = some o := (hb.block _ (Array.getElem?_eq_some_iff.1 h).1).trans h
theorem bk_lt {W : World} {b : Nat} {o : Obj} (h : W.heap[b]? = some o) : b < W.heap.size := (Array.getElem?_eq_some_iff.1 h).1
theorem bk_cell {W : World} {b : Nat} {cs : Array Value} {T : TypeId} {v : Value} (h : W.heap[b]? = some (.cells cs T)) (j : Nat) (hv : cs[j]? = some v) : W.cell? ⟨b, j, none⟩ = some v := by simp [World.cell?, h, hv]
theorem bk_set {W : World} {b j : Nat} {cs : Array Value} {T : TypeId} {v : Value} (h : W.heap[b]? = some (.cells cs T)) : (W.setCell ⟨b, j, none⟩ v).heap[b]? = some (.cells (cs.setIfInBounds j v) T) := set_block h
theorem bk_off {W : World} {b c j : Nat} {o : Obj} {v : Value} (h : W.heap[b]? = some o) (hne : b ≠ c) : (W.setCell ⟨c, j, none⟩ v).heap[b]? = some o := by
  have : c ≠ b := fun e => hne e.symm
  simp [World.setCell, Array.getElem?_modify, this, h]
theorem bk_soft {W : World} {b : Nat} {cs : Array Value} {T : TypeId} (h : W.heap[b]? = some (.cells cs T)) (j : Nat) : W.frozen? ⟨b, j, none⟩ = false := by simp [World.frozen?, h]
theorem has_short {i : Ivl} {k : ByteArray} (h : k.size ≤ 6622) : hasP i k = hasI i k := by unfold hasP; rw [decide_eq_true (by omega)]; rfl
theorem meet_size (a b : Ivl) (h1 : a.lo.size ≤ 6622 ∧ a.hi.size ≤ 6622) (h2 : b.lo.size ≤ 6622 ∧ b.hi.size ≤ 6622) : (meetI a b).lo.size ≤ 6622 ∧ (meetI a b).hi.size ≤ 6622 := by
  unfold meetI hiM Lib.maxS Lib.minS
  refine ⟨?_, ?_⟩
  · show (if _ then _ else _ : ByteArray).size ≤ _
    split
    · exact h2.1
    · exact h1.1
  · show (if _ then _ else _ : ByteArray).size ≤ _
    split
    · split
      · decide
      · exact h2.2
    · split
      · exact h1.2
      · split
        · exact h1.2
        · exact h2.2
theorem dir_size (v : Val) (d : Bool) (h : okB v = true) : (mkB (dirK d (keyV 5 v))).size ≤ 6622 := by
  have := key_size v h
  rw [mkB_size] at this ⊢
  unfold dirK
  cases d
  · exact this
  · simp only [if_true]; rw [turnL_len]; exact this

set_option maxRecDepth 8000 in
set_option maxHeartbeats 16000000 in
theorem lawIntervals (x x' : Option Addr) (cap cap' : Nat) (zs zs' : List Int) (w : World) (hin : InB w x zs) (hin' : InB w x' zs') (hby : ∀ i, i < zs.length → 0 ≤ zs.getD i 0 ∧ zs.getD i 0 < 256) (hby' : ∀ i, i < zs'.length → 0 ≤ zs'.getD i 0 ∧ zs'.getD i 0 < 256)
    (hm : zs.length ≤ maxLen) (hm' : zs'.length ≤ maxLen) :
    Calls Tryz.prog 3 #[.slice x zs.length cap, .slice x' zs'.length cap'] w fun e w' => e = .returned (.bool true) ∧ Below w.heap.size w w' := by
  have HIN : Hid _ := hin
  have HIN' : Hid _ := hin'
  have HBY : Hid _ := hby
  have HBY' : Hid _ := hby'
  unfold maxLen at hm hm'
  clear hin hin' hby hby'
  by_cases h1 : (1048576 : Int) < zs.length
  · go_enter Tryz.func3, Tryz.ntmps3
    go_wp2_with fail
    go_ret
    exact ⟨rfl, Below.refl _ _⟩
  by_cases h2 : (1048576 : Int) < zs'.length
  · go_enter Tryz.func3, Tryz.ntmps3
    go_wp2_with fail
    go_ret
    exact ⟨rfl, Below.refl _ _⟩
  have C1 : Hid (InC w x zs) := (⟨HIN.out, HBY.out, by omega⟩ : InC w x zs)
  have C2 : Hid (InC w x' zs') := (⟨HIN'.out, HBY'.out, by omega⟩ : InC w x' zs')
  have HLZ : Hid (zs'.length ≤ 1048576) := (by omega : zs'.length ≤ 1048576)
  clear HIN HIN' HBY HBY'
  go_enter Tryz.func3, Tryz.ntmps3
  go_wp2_with fail
  refine (intervalT_any x cap zs _ C1.out).mono ?_
  rintro e w1 ⟨⟨a, rfl, ha⟩, b1⟩
  have HA : Hid (a.lo.size ≤ 6622 ∧ a.hi.size ≤ 6622) := ha
  have A : Hid ((_ : Option Obj) = _) := heap_alloc_new w1 (.cells #[.string a.lo, .string a.hi, .bool a.op] 24)
  have BW : Hid (Below w.heap.size w _) := b1.alloc b1.size (.cells #[.string a.lo, .string a.hi, .bool a.op] 24)
  clear ha b1
  go_wp2_with fail
  generalize w1.alloc (.cells #[.string a.lo, .string a.hi, .bool a.op] 24) = W1 at A BW ⊢
  generalize w1.heap.size = ba at A ⊢
  refine (intervalT_any x' cap' zs' _ (C2.out.step BW.out)).mono ?_
  rintro e w2 ⟨⟨b, rfl, hb0⟩, b2⟩
  have HB : Hid (b.lo.size ≤ 6622 ∧ b.hi.size ≤ 6622) := hb0
  have An : Hid (_ = _) := bk_step A.out b2
  clear A
  have A := An
  clear An
  have BWn : Hid (Below w.heap.size w _) := BW.out.trans (b2.mono BW.out.size)
  clear BW
  have BW := BWn
  clear BWn
  have B : Hid ((_ : Option Obj) = _) := heap_alloc_new w2 (.cells #[.string b.lo, .string b.hi, .bool b.op] 24)
  have hal : Below w2.heap.size w2 (w2.alloc (.cells #[.string b.lo, .string b.hi, .bool b.op] 24)) := (Below.refl _ _).alloc (Nat.le_refl _) _
  clear hb0 b2
  have An : Hid (_ = _) := bk_step A.out hal
  clear A
  have A := An
  clear An
  have BWn : Hid (Below w.heap.size w _) := BW.out.trans (hal.mono BW.out.size)
  clear BW
  have BW := BWn
  clear BWn
  clear hal
  go_upto_region 5 with fail
  generalize w2.alloc (.cells #[.string b.lo, .string b.hi, .bool b.op] 24) = W2 at A B BW ⊢
  generalize w2.heap.size = bb at B ⊢
  have cA0 := bk_cell (v := .string a.lo) A.out 0 rfl
  have cA1 := bk_cell (v := .string a.hi) A.out 1 rfl
  have cA2 := bk_cell (v := .bool a.op) A.out 2 rfl
  have cB0 := bk_cell (v := .string b.lo) B.out 0 rfl
  have cB1 := bk_cell (v := .string b.hi) B.out 1 rfl
  have cB2 := bk_cell (v := .bool b.op) B.out 2 rfl
  have HMC : Hid (Calls _ _ _ _ _) := implMeet_any a b W2 (by have := HA.out; omega) (by have := HA.out; omega) (by have := HB.out; omega) (by have := HB.out; omega)
  have HSM : Hid (∀ W : World, Calls _ _ _ W _) := fun W => specMeet_any a b W
  obtain ⟨m, hmm⟩ : ∃ m, m = meetI a b := ⟨_, rfl⟩
  rw [← hmm] at HMC HSM
  have HMM : Hid (m = _) := hmm
  have HM : Hid (m.lo.size ≤ 6622 ∧ m.hi.size ≤ 6622) := by rw [hmm]; exact meet_size a b HA.out HB.out
  clear hmm
  go_wp2_with fail
  refine HMC.out.mono ?_
  rintro e w3 ⟨rfl, b3⟩
  clear HMC
  clear cA0 cA1 cA2 cB0 cB1 cB2
  have An : Hid (_ = _) := bk_step A.out b3
  have Bn : Hid (_ = _) := bk_step B.out b3
  clear A
  have A := An
  clear An
  clear B
  have B := Bn
  clear Bn
  have BWn : Hid (Below w.heap.size w _) := BW.out.trans (b3.mono BW.out.size)
  clear BW
  have BW := BWn
  clear BWn
  have M : Hid ((_ : Option Obj) = _) := heap_alloc_new w3 (.cells #[.string m.lo, .string m.hi, .bool m.op] 24)
  have hal : Below w3.heap.size w3 (w3.alloc (.cells #[.string m.lo, .string m.hi, .bool m.op] 24)) := (Below.refl _ _).alloc (Nat.le_refl _) _
  clear b3
  have An : Hid (_ = _) := bk_step A.out hal
  have Bn : Hid (_ = _) := bk_step B.out hal
  clear A
  have A := An
  clear An
  clear B
  have B := Bn
  clear Bn
  have BWn : Hid (Below w.heap.size w _) := BW.out.trans (hal.mono BW.out.size)
  clear BW
  have BW := BWn
  clear BWn
  clear hal
  go_wp2_with fail
  generalize w3.alloc (.cells #[.string m.lo, .string m.hi, .bool m.op] 24) = W3 at A B M BW ⊢
  generalize w3.heap.size = bm at M ⊢
  have lA := bk_lt A.out
  have uA0 : ∀ u : Under W3, u.x.cell? ⟨ba, 0, none⟩ = some (.string a.lo) := fun u => (u.h.cell lA).trans (bk_cell A.out 0 rfl)
  have uA1 : ∀ u : Under W3, u.x.cell? ⟨ba, 1, none⟩ = some (.string a.hi) := fun u => (u.h.cell lA).trans (bk_cell A.out 1 rfl)
  have uA2 : ∀ u : Under W3, u.x.cell? ⟨ba, 2, none⟩ = some (.bool a.op) := fun u => (u.h.cell lA).trans (bk_cell A.out 2 rfl)
  have lB := bk_lt B.out
  have uB0 : ∀ u : Under W3, u.x.cell? ⟨bb, 0, none⟩ = some (.string b.lo) := fun u => (u.h.cell lB).trans (bk_cell B.out 0 rfl)
  have uB1 : ∀ u : Under W3, u.x.cell? ⟨bb, 1, none⟩ = some (.string b.hi) := fun u => (u.h.cell lB).trans (bk_cell B.out 1 rfl)
  have uB2 : ∀ u : Under W3, u.x.cell? ⟨bb, 2, none⟩ = some (.bool b.op) := fun u => (u.h.cell lB).trans (bk_cell B.out 2 rfl)
  have lM := bk_lt M.out
  have uM0 : ∀ u : Under W3, u.x.cell? ⟨bm, 0, none⟩ = some (.string m.lo) := fun u => (u.h.cell lM).trans (bk_cell M.out 0 rfl)
  have uM1 : ∀ u : Under W3, u.x.cell? ⟨bm, 1, none⟩ = some (.string m.hi) := fun u => (u.h.cell lM).trans (bk_cell M.out 1 rfl)
  have uM2 : ∀ u : Under W3, u.x.cell? ⟨bm, 2, none⟩ = some (.bool m.op) := fun u => (u.h.cell lM).trans (bk_cell M.out 2 rfl)
  have hnu : Nonempty (Under W3) := ⟨⟨W3, Below.refl _ _⟩⟩
  have HSU : Hid (∀ u : Under W3, Calls _ _ _ u.x _) := fun u => calls_under u (HSM.out u.x)
  clear HSM
  refine wp_region_under (by kernel_rfl) (by kernel_rfl) ?_
  repeat (go_big_quiet_step ((go_at_call 10; exact HSU.out _)))
  refine wpQuiet_nil ?_
  rintro _ ⟨u, rfl⟩
  have hbu := u.h
  clear HSU
  clear hnu lA lB lM uA0 uA1 uA2 uB0 uB1 uB2 uM0 uM1 uM2
  have An : Hid (_ = _) := bk_step A.out hbu
  have Bn : Hid (_ = _) := bk_step B.out hbu
  have Mn : Hid (_ = _) := bk_step M.out hbu
  clear A
  have A := An
  clear An
  clear B
  have B := Bn
  clear Bn
  clear M
  have M := Mn
  clear Mn
  have BWn : Hid (Below w.heap.size w _) := BW.out.trans (hbu.mono BW.out.size)
  clear BW
  have BW := BWn
  clear BWn
  generalize u.x = W4 at A B M BW ⊢
  clear hbu
  clear u
  go_upto_region 8 with fail
  have F5 : Hid (((W4.alloc (.cells #[.int .u8 5] 5)).cell? ⟨W4.heap.size, 0, none⟩ : Option Value) = some (.int .u8 5)) := by
    show (W4.alloc (.cells #[.int .u8 5] 5)).cell? ⟨W4.heap.size, 0, none⟩ = some (.int .u8 5)
    simp [go_sem]
  have L5 : Hid (W4.heap.size < (W4.alloc (.cells #[.int .u8 5] 5)).heap.size) := by
    show W4.heap.size < (W4.alloc (.cells #[.int .u8 5] 5)).heap.size
    simp
  have hal : Below W4.heap.size W4 (W4.alloc (.cells #[.int .u8 5] 5)) := (Below.refl _ _).alloc (Nat.le_refl _) _
  have An : Hid (_ = _) := bk_step A.out hal
  have Bn : Hid (_ = _) := bk_step B.out hal
  have Mn : Hid (_ = _) := bk_step M.out hal
  clear A
  have A := An
  clear An
  clear B
  have B := Bn
  clear Bn
  clear M
  have M := Mn
  clear Mn
  have BWn : Hid (Below w.heap.size w _) := BW.out.trans (hal.mono BW.out.size)
  clear BW
  have BW := BWn
  clear BWn
  clear hal
  have HIC : Hid (InC _ _ _) := C2.out.step BW.out
  go_wp2_with (refine wpList_app5_bytes rfl (.tmp 46) (.tmp 47) rfl W4.heap.size x' cap' zs' rfl rfl F5.out L5.out HIC.out HLZ.out ?_; intro ga ca wa nz hnz hIa hBa; have HNZ : Hid (nz = _) := hnz; have HIA : Hid (InC _ _ _) := hIa; have HBA : Hid (Below _ _ _) := hBa; clear hnz hIa hBa)
  rw [HNZ.out]
  clear F5 L5
  generalize W4.alloc (.cells #[.int .u8 5] 5) = W5 at A B M BW HIC HBA
  clear HIC
  have hba := HBA.out
  have An : Hid (_ = _) := bk_step A.out hba
  have Bn : Hid (_ = _) := bk_step B.out hba
  have Mn : Hid (_ = _) := bk_step M.out hba
  clear A
  have A := An
  clear An
  clear B
  have B := Bn
  clear Bn
  clear M
  have M := Mn
  clear Mn
  have BWn : Hid (Below w.heap.size w _) := BW.out.trans (hba.mono BW.out.size)
  clear BW
  have BW := BWn
  clear BWn
  clear hba HBA HNZ
  refine (valueT_any (some ⟨ga, 0, none⟩) ca (5 :: zs') _ HIA.out).mono ?_
  rintro e w6 ⟨⟨v, rfl, hv⟩, b6⟩
  clear HIA
  have An : Hid (_ = _) := bk_step A.out b6
  have Bn : Hid (_ = _) := bk_step B.out b6
  have Mn : Hid (_ = _) := bk_step M.out b6
  clear A
  have A := An
  clear An
  clear B
  have B := Bn
  clear Bn
  clear M
  have M := Mn
  clear Mn
  have BWn : Hid (Below w.heap.size w _) := BW.out.trans (b6.mono BW.out.size)
  clear BW
  have BW := BWn
  clear BWn
  have V : Hid ((_ : Option Obj) = _) := heap_alloc_new w6 (.cells #[.int .i64 v.k, .int .i64 v.n, .string v.t] 28)
  have hal : Below w6.heap.size w6 (w6.alloc (.cells #[.int .i64 v.k, .int .i64 v.n, .string v.t] 28)) := (Below.refl _ _).alloc (Nat.le_refl _) _
  have HV : Hid (okB v = true) := hv
  have hvs := ok_size v hv
  clear b6 hv
  have An : Hid (_ = _) := bk_step A.out hal
  have Bn : Hid (_ = _) := bk_step B.out hal
  have Mn : Hid (_ = _) := bk_step M.out hal
  clear A
  have A := An
  clear An
  clear B
  have B := Bn
  clear Bn
  clear M
  have M := Mn
  clear Mn
  have BWn : Hid (Below w.heap.size w _) := BW.out.trans (hal.mono BW.out.size)
  clear BW
  have BW := BWn
  clear BWn
  clear hal
  go_upto_region 9 with fail
  generalize w6.alloc (.cells #[.int .i64 v.k, .int .i64 v.n, .string v.t] 28) = W6 at A B M V BW ⊢
  generalize w6.heap.size = bv at V ⊢
  have cV0 := bk_cell (v := .int .i64 v.k) V.out 0 rfl
  have cV1 := bk_cell (v := .int .i64 v.n) V.out 1 rfl
  have cV2 := bk_cell (v := .string v.t) V.out 2 rfl
  have HK0 := fun (d : Bool) (W : World) => implKeyOf_any v.k v.n v.t d W (by omega)
  have HK : Hid (∀ (d : Bool) (W : World), Calls Tryz.prog 12 #[.agg #[.int .i64 v.k, .int .i64 v.n, .string v.t], .bool d] W fun e w' => e = .returned (.tuple #[.string (mkB (dirK d (keyV 5 v))), .int .i64 0]) ∧ Below W.heap.size W w') := fun d W => by
    have := HK0 d W
    rw [show keyP ⟨v.k, v.n, v.t⟩ d = (mkB (dirK d (keyV 5 v)), 0) from keyP_ok v d HV.out] at this; exact this
  clear HK0
  have hz1 := dir_size v false HV.out
  have hz2 := dir_size v true HV.out
  have T1 : Hid (∀ op (c : Val), okB c = true → (op = 9 → 0 ≤ c.n ∧ c.n ≤ 5) → letsT op c [v] = true → hasP (tintI op c false) (mkB (dirK false (keyV 5 v))) = true ∧ hasP (tintI op c true) (mkB (dirK true (keyV 5 v))) = true) := fun op c hc h9 hl => by
    rw [has_short hz1, has_short hz2]
    exact ⟨term_has op v c false HV.out hc h9 hl, term_has op v c true HV.out hc h9 hl⟩
  have K1 := HK.out false
  have K2 := HK.out true
  have MT : Hid (hasP m (mkB (dirK false (keyV 5 v))) = (hasP a (mkB (dirK false (keyV 5 v))) && hasP b (mkB (dirK false (keyV 5 v))))) := by
    show hasP m (mkB (dirK false (keyV 5 v))) = _
    rw [has_short hz1, has_short hz1, has_short hz1, HMM.out]; exact has_meet a b _
  clear HMM
  generalize mkB (dirK false (keyV 5 v)) = kf at K1 MT T1 hz1
  generalize mkB (dirK true (keyV 5 v)) = kt at K2 T1 hz2
  have HK1 : Hid (∀ W : World, Calls _ _ _ W _) := K1
  have HK2 : Hid (∀ W : World, Calls _ _ _ W _) := K2
  clear K1 K2 HK
  go_wp2_with fail
  refine (HK1.out _).mono ?_
  rintro e w7 ⟨rfl, b7⟩
  clear cV0 cV1 cV2
  have An : Hid (_ = _) := bk_step A.out b7
  have Bn : Hid (_ = _) := bk_step B.out b7
  have Mn : Hid (_ = _) := bk_step M.out b7
  have Vn : Hid (_ = _) := bk_step V.out b7
  clear A
  have A := An
  clear An
  clear B
  have B := Bn
  clear Bn
  clear M
  have M := Mn
  clear Mn
  clear V
  have V := Vn
  clear Vn
  have BWn : Hid (Below w.heap.size w _) := BW.out.trans (b7.mono BW.out.size)
  clear BW
  have BW := BWn
  clear BWn
  clear b7 HK1
  go_wp2_with fail
  have HHa : Hid (∀ W : World, Calls _ _ _ W _) := fun W => implHas_any a.lo a.hi a.op kf W (by omega)
  have HHb : Hid (∀ W : World, Calls _ _ _ W _) := fun W => implHas_any b.lo b.hi b.op kf W (by omega)
  have HHm : Hid (∀ W : World, Calls _ _ _ W _) := fun W => implHas_any m.lo m.hi m.op kf W (by omega)
  have HSa : Hid (∀ W : World, Calls _ _ _ W _) := fun W => specHas_any a.lo a.hi a.op kf W (by omega)
  have MT2 : hasP ⟨m.lo, m.hi, m.op⟩ kf = (hasP ⟨a.lo, a.hi, a.op⟩ kf && hasP ⟨b.lo, b.hi, b.op⟩ kf) := MT.out
  rw [MT2] at HHm
  clear MT MT2
  generalize hasP ⟨a.lo, a.hi, a.op⟩ kf = ra at HHa HHm HSa
  generalize hasP ⟨b.lo, b.hi, b.op⟩ kf = rb at HHb HHm
  have lA := bk_lt A.out
  have uA0 : ∀ u : Under w7, u.x.cell? ⟨ba, 0, none⟩ = some (.string a.lo) := fun u => (u.h.cell lA).trans (bk_cell A.out 0 rfl)
  have uA1 : ∀ u : Under w7, u.x.cell? ⟨ba, 1, none⟩ = some (.string a.hi) := fun u => (u.h.cell lA).trans (bk_cell A.out 1 rfl)
  have uA2 : ∀ u : Under w7, u.x.cell? ⟨ba, 2, none⟩ = some (.bool a.op) := fun u => (u.h.cell lA).trans (bk_cell A.out 2 rfl)
  have lB := bk_lt B.out
  have uB0 : ∀ u : Under w7, u.x.cell? ⟨bb, 0, none⟩ = some (.string b.lo) := fun u => (u.h.cell lB).trans (bk_cell B.out 0 rfl)
  have uB1 : ∀ u : Under w7, u.x.cell? ⟨bb, 1, none⟩ = some (.string b.hi) := fun u => (u.h.cell lB).trans (bk_cell B.out 1 rfl)
  have uB2 : ∀ u : Under w7, u.x.cell? ⟨bb, 2, none⟩ = some (.bool b.op) := fun u => (u.h.cell lB).trans (bk_cell B.out 2 rfl)
  have lM := bk_lt M.out
  have uM0 : ∀ u : Under w7, u.x.cell? ⟨bm, 0, none⟩ = some (.string m.lo) := fun u => (u.h.cell lM).trans (bk_cell M.out 0 rfl)
  have uM1 : ∀ u : Under w7, u.x.cell? ⟨bm, 1, none⟩ = some (.string m.hi) := fun u => (u.h.cell lM).trans (bk_cell M.out 1 rfl)
  have uM2 : ∀ u : Under w7, u.x.cell? ⟨bm, 2, none⟩ = some (.bool m.op) := fun u => (u.h.cell lM).trans (bk_cell M.out 2 rfl)
  have hnu : Nonempty (Under w7) := ⟨⟨w7, Below.refl _ _⟩⟩
  have UA : Hid (∀ u : Under w7, Calls _ _ _ u.x _) := fun u => calls_under u (HHa.out u.x)
  have UB : Hid (∀ u : Under w7, Calls _ _ _ u.x _) := fun u => calls_under u (HHb.out u.x)
  have UM : Hid (∀ u : Under w7, Calls _ _ _ u.x _) := fun u => calls_under u (HHm.out u.x)
  have US : Hid (∀ u : Under w7, Calls _ _ _ u.x _) := fun u => calls_under u (HSa.out u.x)
  clear HHa HHb HHm HSa
  refine wp_region_under (by kernel_rfl) (by kernel_rfl) ?_
  have hrr : ra = false ∨ (ra = true ∧ rb = false) ∨ (ra = true ∧ rb = true) := by cases ra <;> cases rb <;> simp
  rcases hrr with rfl | ⟨rfl, rfl⟩ | ⟨rfl, rfl⟩
  all_goals
    repeat (go_big_quiet_step (first | (go_at_call 15; with_reducible exact US.out _) | (go_at_call 14; with_reducible exact UM.out _) | (go_at_call 14; with_reducible exact UA.out _) | (go_at_call 14; with_reducible exact UB.out _)))
    refine wpQuiet_nil ?_
    rintro _ ⟨u, rfl⟩
    have hbu := u.h
    clear UA UB UM US
    clear hnu lA lB lM uA0 uA1 uA2 uB0 uB1 uB2 uM0 uM1 uM2
    have An : Hid (_ = _) := bk_step A.out hbu
    have Bn : Hid (_ = _) := bk_step B.out hbu
    have Mn : Hid (_ = _) := bk_step M.out hbu
    have Vn : Hid (_ = _) := bk_step V.out hbu
    clear A
    have A := An
    clear An
    clear B
    have B := Bn
    clear Bn
    clear M
    have M := Mn
    clear Mn
    clear V
    have V := Vn
    clear Vn
    have BWn : Hid (Below w.heap.size w _) := BW.out.trans (hbu.mono BW.out.size)
    clear BW
    have BW := BWn
    clear BWn
    generalize u.x = W8 at A B M V BW ⊢
    clear hbu
    clear u A B M
    go_wp2_with fail
    refine (termT_any x cap zs _ (C1.out.step BW.out)).mono ?_
    rintro e w9 ⟨⟨t, rfl, ht⟩, b9⟩
    have Vn : Hid (_ = _) := bk_step V.out b9
    clear V
    have V := Vn
    clear Vn
    have BWn : Hid (Below w.heap.size w _) := BW.out.trans (b9.mono BW.out.size)
    clear BW
    have BW := BWn
    clear BWn
    have T : Hid ((_ : Option Obj) = _) := heap_alloc_new w9 (.cells #[.int .i64 t.op, .string t.p, .int .i64 t.c.k, .int .i64 t.c.n, .string t.c.t] 34)
    have hal : Below w9.heap.size w9 (w9.alloc (.cells #[.int .i64 t.op, .string t.p, .int .i64 t.c.k, .int .i64 t.c.n, .string t.c.t] 34)) := (Below.refl _ _).alloc (Nat.le_refl _) _
    have hbt : w.heap.size ≤ w9.heap.size := BW.out.size
    have hnv : ¬ bv = w9.heap.size := by have := bk_lt V.out; omega
    have HTB : Hid (termB t.op ⟨#[97]⟩ t.c = true) := by
      show termB t.op ⟨#[97]⟩ t.c = true
      unfold termB at ht ⊢
      rw [Bool.and_eq_true] at ht
      rw [ht.2]; decide
    have hcs : t.c.t.size ≤ 300 := by
      unfold termB at ht; simp at ht; exact ok_size t.c ht.2.1
    clear b9 ht
    have Vn : Hid (_ = _) := bk_step V.out hal
    clear V
    have V := Vn
    clear Vn
    have BWn : Hid (Below w.heap.size w _) := BW.out.trans (hal.mono BW.out.size)
    clear BW
    have BW := BWn
    clear BWn
    clear hal
    go_upto_region 16 with fail
    generalize w9.alloc (.cells #[.int .i64 t.op, .string t.p, .int .i64 t.c.k, .int .i64 t.c.n, .string t.c.t] 34) = W9 at V T BW ⊢
    generalize w9.heap.size = bt at T hbt hnv ⊢
    have cT1 := bk_cell (v := .string t.p) T.out 1 rfl
    have fT1 : W9.frozen? ⟨bt, 1, none⟩ = false := bk_soft T.out 1
    go_upto_region 17 with fail
    clear cT1 fT1
    have Tn : Hid ((_ : Option Obj) = some (.cells #[.int .i64 t.op, .string ⟨#[97]⟩, .int .i64 t.c.k, .int .i64 t.c.n, .string t.c.t] 34)) := (bk_set (j := 1) (v := .string ⟨#[97]⟩) T.out).trans rfl
    have Vn : Hid ((_ : Option Obj) = _) := bk_off (j := 1) (v := .string ⟨#[97]⟩) V.out hnv
    have BWn : Hid (Below w.heap.size w _) := (BW.out.setCell (p := ⟨bt, 1, none⟩) hbt (.string ⟨#[97]⟩))
    clear T V BW
    have T := Tn
    have V := Vn
    have BW := BWn
    clear Tn Vn BWn
    generalize W9.setCell ⟨bt, 1, none⟩ (.string ⟨#[97]⟩) = Wa at T V BW ⊢
    have cV0 := bk_cell (v := .int .i64 v.k) V.out 0 rfl
    have cV1 := bk_cell (v := .int .i64 v.n) V.out 1 rfl
    have cV2 := bk_cell (v := .string v.t) V.out 2 rfl
    have hal : Below Wa.heap.size Wa (Wa.alloc (.cells #[.string ⟨#[97]⟩, .int .i64 v.k, .int .i64 v.n, .string v.t] 39)) := (Below.refl _ _).alloc (Nat.le_refl _) _
    have RF : Hid (ReadF (Wa.alloc (.cells #[.string ⟨#[97]⟩, .int .i64 v.k, .int .i64 v.n, .string v.t] 39)) Wa.heap.size [⟨⟨#[97]⟩, v⟩]) := by
      refine ⟨by simp, fun i hi => ?_⟩
      obtain rfl : i = 0 := by simp at hi; exact hi
      exact ⟨by simp [go_sem], by simp [go_sem], by simp [go_sem], by simp [go_sem]⟩
    have MD := one_made v HV.out
    have HDC : Hid (∀ W : World, ReadF W Wa.heap.size [⟨⟨#[97]⟩, v⟩] → Calls Tryz.prog 17 #[.slice (some ⟨Wa.heap.size, 0, none⟩) 1 1] W fun e w' => e = .returned (.tuple #[.agg #[.int .i64 (madeP [⟨⟨#[97]⟩, v⟩]).1.k, .int .i64 (madeP [⟨⟨#[97]⟩, v⟩]).1.n, .string (madeP [⟨⟨#[97]⟩, v⟩]).1.t], .int .i64 (madeP [⟨⟨#[97]⟩, v⟩]).2]) ∧ Below W.heap.size W w') := fun W hW => implDoc_any Wa.heap.size 1 [⟨⟨#[97]⟩, v⟩] W hW (by simp) (fun f hf => by simp at hf; subst hf; exact ⟨(show (⟨#[97]⟩ : ByteArray).size ≤ 1048576 by decide), by show v.t.size ≤ _; omega⟩)
    generalize madeP [⟨⟨#[97]⟩, v⟩] = md at MD HDC
    obtain ⟨doc, dc⟩ := md
    have HMD : Hid ((dc = 10 ∨ dc = 9) ∨ (dc = 0 ∧ docB doc = true ∧ (v.k ≠ 4 → getP (pieces ⟨#[97]⟩) doc = [v]))) := MD
    clear MD
    go_wp2_with fail
    refine (HDC.out _ RF.out).mono ?_
    rintro e wb ⟨rfl, bb9⟩
    have bA := hal.trans (bb9.mono hal.size)
    clear HDC RF
    clear cV0 cV1 cV2
    have Vn : Hid (_ = _) := bk_step V.out bA
    have Tn : Hid (_ = _) := bk_step T.out bA
    clear V
    have V := Vn
    clear Vn
    clear T
    have T := Tn
    clear Tn
    have BWn : Hid (Below w.heap.size w _) := BW.out.trans (bA.mono BW.out.size)
    clear BW
    have BW := BWn
    clear BWn
    clear bA hal bb9
    have D : Hid ((_ : Option Obj) = _) := heap_alloc_new wb (.cells #[.int .i64 doc.k, .int .i64 doc.n, .string doc.t] 28)
    have hal : Below wb.heap.size wb (wb.alloc (.cells #[.int .i64 doc.k, .int .i64 doc.n, .string doc.t] 28)) := (Below.refl _ _).alloc (Nat.le_refl _) _
    have Vn : Hid (_ = _) := bk_step V.out hal
    have Tn : Hid (_ = _) := bk_step T.out hal
    clear V
    have V := Vn
    clear Vn
    clear T
    have T := Tn
    clear Tn
    have BWn : Hid (Below w.heap.size w _) := BW.out.trans (hal.mono BW.out.size)
    clear BW
    have BW := BWn
    clear BWn
    clear hal
    go_upto_region 18 with fail
    generalize wb.alloc (.cells #[.int .i64 doc.k, .int .i64 doc.n, .string doc.t] 28) = Wb at T V D BW ⊢
    generalize wb.heap.size = bd at D ⊢
    by_cases hdc : dc = 0
    rotate_left
    · have h109 : dc = 10 ∨ dc = 9 := by rcases HMD.out with h | h; exact h; exact absurd h.1 hdc
      have B9 := BW.out
      clear HMD hdc
      rcases h109 with rfl | rfl
      all_goals
        go_wp2_with fail
        go_ret
        exact ⟨rfl, B9⟩
    subst hdc
    have HDO : Hid (docB doc = true ∧ (v.k ≠ 4 → getP (pieces ⟨#[97]⟩) doc = [v])) := by
      rcases HMD.out with h | h
      · omega
      · exact h.2
    clear HMD
    have hds : doc.t.size ≤ 300 := by
      have := HDO.out.1; unfold docB at this; simp at this; exact ok_size doc this.2
    have cV0 := bk_cell (v := .int .i64 v.k) V.out 0 rfl
    by_cases hk4 : v.k = 4
    · have e4 : (v.k == 4) = true := by simp [hk4]
      have B9 := BW.out
      go_wp2_with fail
      go_ret
      exact ⟨rfl, B9⟩
    have e4 : (v.k == 4) = false := beq_eq_false_iff_ne.mpr hk4
    go_upto_region 20 with fail
    clear cV0 e4
    have HTP := term_parts t.op ⟨#[97]⟩ t.c HTB.out
    have HLT : Hid (termL t.op ⟨#[97]⟩ t.c doc = true → hasP (tintI t.op t.c false) kf = true ∧ hasP (tintI t.op t.c true) kt = true) := fun hl => by
      unfold termL at hl
      rw [HDO.out.2 hk4] at hl
      exact T1.out t.op t.c HTP.1 HTP.2.2 hl
    have HMT : Hid (∀ W : World, Calls Tryz.prog 18 #[.agg #[.int .i64 t.op, .string ⟨#[97]⟩, .int .i64 t.c.k, .int .i64 t.c.n, .string t.c.t], .agg #[.int .i64 doc.k, .int .i64 doc.n, .string doc.t]] W fun e w' => e = .returned (.tuple #[.bool (termL t.op ⟨#[97]⟩ t.c doc), .int .i64 0]) ∧ Below W.heap.size W w') := fun W => by
      have := termMatches_any t.op ⟨#[97]⟩ t.c doc W (by decide) (by omega) (by omega)
      rw [show matchP t.op ⟨#[97]⟩ t.c doc = (termL t.op ⟨#[97]⟩ t.c doc, 0) from by unfold matchP; rw [if_pos ⟨HTB.out, HDO.out.1⟩]] at this; exact this
    have HTI : Hid (∀ (d : Bool) (W : World), Calls Tryz.prog 19 #[.agg #[.int .i64 t.op, .string ⟨#[97]⟩, .int .i64 t.c.k, .int .i64 t.c.n, .string t.c.t], .bool d] W fun e w' => e = .returned (.tuple #[.agg #[.string (tintI t.op t.c d).lo, .string (tintI t.op t.c d).hi, .bool (tintI t.op t.c d).op], .int .i64 0]) ∧ Below W.heap.size W w') := fun d W => by
      have := implTint_any t.op ⟨#[97]⟩ t.c.k t.c.n t.c.t d W (by decide) (by omega)
      rw [show tintP t.op ⟨#[97]⟩ ⟨t.c.k, t.c.n, t.c.t⟩ d = (tintI t.op t.c d, 0) from tintP_ok t.op ⟨#[97]⟩ t.c d HTB.out] at this; exact this
    have HST : Hid (∀ (W : World), Calls Tryz.prog 20 #[.agg #[.int .i64 t.op, .string ⟨#[97]⟩, .int .i64 t.c.k, .int .i64 t.c.n, .string t.c.t], .bool true] W fun e w' => e = .returned (.tuple #[.agg #[.string (tintI t.op t.c true).lo, .string (tintI t.op t.c true).hi, .bool (tintI t.op t.c true).op], .int .i64 0]) ∧ Below W.heap.size W w') := fun W => by
      have := specTint_any t.op ⟨#[97]⟩ t.c.k t.c.n t.c.t true W (by decide) (by omega)
      rw [show tintP t.op ⟨#[97]⟩ ⟨t.c.k, t.c.n, t.c.t⟩ true = (tintI t.op t.c true, 0) from tintP_ok t.op ⟨#[97]⟩ t.c true HTB.out] at this; exact this
    have I1 := HTI.out false
    have I2 := HTI.out true
    clear HTI HTP HTB T1 HDO hk4
    generalize termL t.op ⟨#[97]⟩ t.c doc = lt at HLT HMT
    generalize tintI t.op t.c false = up at HLT I1
    generalize tintI t.op t.c true = dn at HLT I2 HST
    have HI1 : Hid (∀ W : World, Calls _ _ _ W _) := I1
    have HI2 : Hid (∀ W : World, Calls _ _ _ W _) := I2
    clear I1 I2
    have cT0 := bk_cell (v := .int .i64 t.op) T.out 0 rfl
    have cT1 := bk_cell (v := .string ⟨#[97]⟩) T.out 1 rfl
    have cT2 := bk_cell (v := .int .i64 t.c.k) T.out 2 rfl
    have cT3 := bk_cell (v := .int .i64 t.c.n) T.out 3 rfl
    have cT4 := bk_cell (v := .string t.c.t) T.out 4 rfl
    have cD0 := bk_cell (v := .int .i64 doc.k) D.out 0 rfl
    have cD1 := bk_cell (v := .int .i64 doc.n) D.out 1 rfl
    have cD2 := bk_cell (v := .string doc.t) D.out 2 rfl
    go_wp2_with fail
    refine (HMT.out _).mono ?_
    rintro e wc ⟨rfl, bc⟩
    clear cT0 cT1 cT2 cT3 cT4 cD0 cD1 cD2
    have Vn : Hid (_ = _) := bk_step V.out bc
    have Tn : Hid (_ = _) := bk_step T.out bc
    have Dn : Hid (_ = _) := bk_step D.out bc
    clear V
    have V := Vn
    clear Vn
    clear T
    have T := Tn
    clear Tn
    clear D
    have D := Dn
    clear Dn
    have BWn : Hid (Below w.heap.size w _) := BW.out.trans (bc.mono BW.out.size)
    clear BW
    have BW := BWn
    clear BWn
    clear bc HMT D
    have cT0 := bk_cell (v := .int .i64 t.op) T.out 0 rfl
    have cT1 := bk_cell (v := .string ⟨#[97]⟩) T.out 1 rfl
    have cT2 := bk_cell (v := .int .i64 t.c.k) T.out 2 rfl
    have cT3 := bk_cell (v := .int .i64 t.c.n) T.out 3 rfl
    have cT4 := bk_cell (v := .string t.c.t) T.out 4 rfl
    go_wp2_with fail
    refine (HI1.out _).mono ?_
    rintro e wd ⟨rfl, bd9⟩
    clear cT0 cT1 cT2 cT3 cT4
    have Vn : Hid (_ = _) := bk_step V.out bd9
    have Tn : Hid (_ = _) := bk_step T.out bd9
    clear V
    have V := Vn
    clear Vn
    clear T
    have T := Tn
    clear Tn
    have BWn : Hid (Below w.heap.size w _) := BW.out.trans (bd9.mono BW.out.size)
    clear BW
    have BW := BWn
    clear BWn
    clear bd9 HI1
    have U : Hid ((_ : Option Obj) = _) := heap_alloc_new wd (.cells #[.string up.lo, .string up.hi, .bool up.op] 24)
    have hal : Below wd.heap.size wd (wd.alloc (.cells #[.string up.lo, .string up.hi, .bool up.op] 24)) := (Below.refl _ _).alloc (Nat.le_refl _) _
    have Vn : Hid (_ = _) := bk_step V.out hal
    have Tn : Hid (_ = _) := bk_step T.out hal
    clear V
    have V := Vn
    clear Vn
    clear T
    have T := Tn
    clear Tn
    have BWn : Hid (Below w.heap.size w _) := BW.out.trans (hal.mono BW.out.size)
    clear BW
    have BW := BWn
    clear BWn
    clear hal
    go_upto_region 22 with fail
    generalize wd.alloc (.cells #[.string up.lo, .string up.hi, .bool up.op] 24) = wdx at V T U BW ⊢
    generalize wd.heap.size = bU at U ⊢
    have cT0 := bk_cell (v := .int .i64 t.op) T.out 0 rfl
    have cT1 := bk_cell (v := .string ⟨#[97]⟩) T.out 1 rfl
    have cT2 := bk_cell (v := .int .i64 t.c.k) T.out 2 rfl
    have cT3 := bk_cell (v := .int .i64 t.c.n) T.out 3 rfl
    have cT4 := bk_cell (v := .string t.c.t) T.out 4 rfl
    go_wp2_with fail
    refine (HI2.out _).mono ?_
    rintro e we ⟨rfl, be⟩
    clear cT0 cT1 cT2 cT3 cT4
    have Vn : Hid (_ = _) := bk_step V.out be
    have Tn : Hid (_ = _) := bk_step T.out be
    have Un : Hid (_ = _) := bk_step U.out be
    clear V
    have V := Vn
    clear Vn
    clear T
    have T := Tn
    clear Tn
    clear U
    have U := Un
    clear Un
    have BWn : Hid (Below w.heap.size w _) := BW.out.trans (be.mono BW.out.size)
    clear BW
    have BW := BWn
    clear BWn
    clear be HI2
    have N : Hid ((_ : Option Obj) = _) := heap_alloc_new we (.cells #[.string dn.lo, .string dn.hi, .bool dn.op] 24)
    have hal : Below we.heap.size we (we.alloc (.cells #[.string dn.lo, .string dn.hi, .bool dn.op] 24)) := (Below.refl _ _).alloc (Nat.le_refl _) _
    have Vn : Hid (_ = _) := bk_step V.out hal
    have Tn : Hid (_ = _) := bk_step T.out hal
    have Un : Hid (_ = _) := bk_step U.out hal
    clear V
    have V := Vn
    clear Vn
    clear T
    have T := Tn
    clear Tn
    clear U
    have U := Un
    clear Un
    have BWn : Hid (Below w.heap.size w _) := BW.out.trans (hal.mono BW.out.size)
    clear BW
    have BW := BWn
    clear BWn
    clear hal
    go_upto_region 23 with fail
    generalize we.alloc (.cells #[.string dn.lo, .string dn.hi, .bool dn.op] 24) = wex at V T U N BW ⊢
    generalize we.heap.size = bN at N ⊢
    have cV0 := bk_cell (v := .int .i64 v.k) V.out 0 rfl
    have cV1 := bk_cell (v := .int .i64 v.n) V.out 1 rfl
    have cV2 := bk_cell (v := .string v.t) V.out 2 rfl
    go_wp2_with fail
    refine (HK2.out _).mono ?_
    rintro e wf ⟨rfl, bf⟩
    clear cV0 cV1 cV2
    have Vn : Hid (_ = _) := bk_step V.out bf
    have Tn : Hid (_ = _) := bk_step T.out bf
    have Un : Hid (_ = _) := bk_step U.out bf
    have Nn : Hid (_ = _) := bk_step N.out bf
    clear V
    have V := Vn
    clear Vn
    clear T
    have T := Tn
    clear Tn
    clear U
    have U := Un
    clear Un
    clear N
    have N := Nn
    clear Nn
    have BWn : Hid (Below w.heap.size w _) := BW.out.trans (bf.mono BW.out.size)
    clear BW
    have BW := BWn
    clear BWn
    clear bf HK2
    clear V
    have cT0 := bk_cell (v := .int .i64 t.op) T.out 0 rfl
    have cT1 := bk_cell (v := .string ⟨#[97]⟩) T.out 1 rfl
    have cT2 := bk_cell (v := .int .i64 t.c.k) T.out 2 rfl
    have cT3 := bk_cell (v := .int .i64 t.c.n) T.out 3 rfl
    have cT4 := bk_cell (v := .string t.c.t) T.out 4 rfl
    go_wp2_with fail
    refine (HST.out _).mono ?_
    rintro e wg ⟨rfl, bg⟩
    clear cT0 cT1 cT2 cT3 cT4
    have Tn : Hid (_ = _) := bk_step T.out bg
    have Un : Hid (_ = _) := bk_step U.out bg
    have Nn : Hid (_ = _) := bk_step N.out bg
    clear T
    have T := Tn
    clear Tn
    clear U
    have U := Un
    clear Un
    clear N
    have N := Nn
    clear Nn
    have BWn : Hid (Below w.heap.size w _) := BW.out.trans (bg.mono BW.out.size)
    clear BW
    have BW := BWn
    clear BWn
    clear bg HST
    have G : Hid ((_ : Option Obj) = _) := heap_alloc_new wg (.cells #[.string dn.lo, .string dn.hi, .bool dn.op] 24)
    have hal : Below wg.heap.size wg (wg.alloc (.cells #[.string dn.lo, .string dn.hi, .bool dn.op] 24)) := (Below.refl _ _).alloc (Nat.le_refl _) _
    have Tn : Hid (_ = _) := bk_step T.out hal
    have Un : Hid (_ = _) := bk_step U.out hal
    have Nn : Hid (_ = _) := bk_step N.out hal
    clear T
    have T := Tn
    clear Tn
    clear U
    have U := Un
    clear Un
    clear N
    have N := Nn
    clear Nn
    have BWn : Hid (Below w.heap.size w _) := BW.out.trans (hal.mono BW.out.size)
    clear BW
    have BW := BWn
    clear BWn
    clear hal
    go_upto_region 25 with fail
    generalize wg.alloc (.cells #[.string dn.lo, .string dn.hi, .bool dn.op] 24) = wgx at T U N G BW ⊢
    generalize wg.heap.size = bG at G ⊢
    clear T
    have cU0 := bk_cell (v := .string up.lo) U.out 0 rfl
    have cU1 := bk_cell (v := .string up.hi) U.out 1 rfl
    have cU2 := bk_cell (v := .bool up.op) U.out 2 rfl
    have cN0 := bk_cell (v := .string dn.lo) N.out 0 rfl
    have cN1 := bk_cell (v := .string dn.hi) N.out 1 rfl
    have cN2 := bk_cell (v := .bool dn.op) N.out 2 rfl
    have cG0 := bk_cell (v := .string dn.lo) G.out 0 rfl
    have cG1 := bk_cell (v := .string dn.hi) G.out 1 rfl
    have cG2 := bk_cell (v := .bool dn.op) G.out 2 rfl
    cases lt
    · have B9 := BW.out
      go_wp2_with fail
      go_ret
      exact ⟨rfl, B9⟩
    · have HH1 : Hid (∀ W : World, Calls _ _ _ W _) := fun W => implHas_any up.lo up.hi up.op kf W (by omega)
      have HH2 : Hid (∀ W : World, Calls _ _ _ W _) := fun W => implHas_any dn.lo dn.hi dn.op kt W (by omega)
      have l1 : hasP ⟨up.lo, up.hi, up.op⟩ kf = true := (HLT.out rfl).1
      have l2 : hasP ⟨dn.lo, dn.hi, dn.op⟩ kt = true := (HLT.out rfl).2
      rw [l1] at HH1
      rw [l2] at HH2
      clear l1 l2 HLT
      go_wp2_with fail
      refine (HH1.out _).mono ?_
      rintro e wh ⟨rfl, bh⟩
      clear cU0 cU1 cU2 cN0 cN1 cN2 cG0 cG1 cG2
      have cN0 := bk_cell (v := .string dn.lo) (bk_step N.out bh) 0 rfl
      have cN1 := bk_cell (v := .string dn.hi) (bk_step N.out bh) 1 rfl
      have cN2 := bk_cell (v := .bool dn.op) (bk_step N.out bh) 2 rfl
      have Bh := BW.out.trans (bh.mono BW.out.size)
      go_wp2_with fail
      refine (HH2.out _).mono ?_
      rintro e wi ⟨rfl, bi⟩
      have B9 := Bh.trans (bi.mono Bh.size)
      clear cN0 cN1 cN2
      go_wp2_with fail
      go_ret
      exact ⟨rfl, B9⟩

end Go.Proofs.YtkeghknceccdmaaGreatDoor

/- Bytes that come in as a law's code: where they lie, and each is one. -/
namespace Go.Proofs.YtkeghknceccdmaaGreatDoor
open Go.RowKit
set_option linter.unusedVariables false

theorem wf_byte {n : Int} (h : (Lit.int .u8 n).wf = true) : 0 ≤ n ∧ n < 256 := by
  unfold Lit.wf at h
  rw [Bool.and_eq_true, decide_eq_true_eq, decide_eq_true_eq] at h
  have h1 : IntKind.u8.min = 0 := by decide
  have h2 : IntKind.u8.max = 255 := by decide
  rw [h1, h2] at h
  omega
theorem inc_of {w : World} {x : Addr} {l c : Nat} {zs : List Int} (hl : l ≤ c) (hm : c ≤ maxLen) (hz : zs.length = c) (hcell : ∀ i, i < zs.length → w.cell? (x.add i) = some (.int .u8 (zs.getD i 0))) (hwf : ∀ n ∈ zs, (Lit.int .u8 n).wf = true) :
    ∃ ys : List Int, ys.length = l ∧ ys.length ≤ maxLen ∧ (∀ i, i < ys.length → 0 ≤ ys.getD i 0 ∧ ys.getD i 0 < 256) ∧ InB w (some x) ys := by
  have hlen : (zs.take l).length = l := by simp; omega
  refine ⟨zs.take l, hlen, by omega, ?_, ?_⟩
  · intro i hi
    rw [gd (zs.take l) i hi, List.getElem_take]
    exact wf_byte (hwf _ (List.getElem_mem _))
  by_cases h0 : l = 0
  · exact .inl (by simp [h0])
  · obtain ⟨b, off, spot⟩ := x
    have hc0 := hcell 0 (by omega)
    have hspot : spot = none := by simpa [Addr.add] using World.cell?_spot hc0
    subst hspot
    have hlt : b < w.heap.size := by
      rcases Nat.lt_or_ge b w.heap.size with h | h
      · exact h
      · simp [World.cell?, Addr.add, Array.getElem?_eq_none h] at hc0
    refine .inr ⟨b, off, rfl, hlt, fun i hi => ?_⟩
    have hi2 : i < l := by omega
    have := hcell i (by omega)
    rw [gd (zs.take l) i hi, List.getElem_take, ← gd zs i (by omega), ← this]
    by_cases hi0 : i = 0
    · subst hi0; simp [Addr.add]
    · simp [Addr.add, hi0]

end Go.Proofs.YtkeghknceccdmaaGreatDoor

/- All that the law on intervals reaches. -/

/- The law's own walk. -/
namespace Go.Proofs.YtkeghknceccdmaaGreatDoor
open Go.ChangeShapes Go.WideShapes Go.ChangeAt Go.RowKit Go.Joins
open Go.ChangeMaps (open_string shut_string)
set_option linter.unusedVariables false
namespace IvlLaw


theorem walk (x : Option Addr) (cap : Nat) (zs : List Int) (hm : zs.length ≤ maxLen) (hb : ∀ i, i < zs.length → 0 ≤ zs.getD i 0 ∧ zs.getD i 0 < 256) (x' : Option Addr) (cap' : Nat) (zs' : List Int) (hm' : zs'.length ≤ maxLen) (hb' : ∀ i, i < zs'.length → 0 ≤ zs'.getD i 0 ∧ zs'.getD i 0 < 256) (w : World) (hin : InB w x zs) (hin' : InB w x' zs') :
    Calls Tryz.prog 3 #[.slice x zs.length cap, .slice x' zs'.length cap'] w fun e w' => e = .returned (.bool true) ∧ Below w.heap.size w w' :=
  lawIntervals x x' cap cap' zs zs' w hin hin' hb hb' hm hm'

end IvlLaw
end Go.Proofs.YtkeghknceccdmaaGreatDoor

/- The law's walk, lifted to the row. -/
namespace Go.Proofs.YtkeghknceccdmaaGreatDoor
open Go.ChangeShapes Go.WideShapes Go.ChangeAt Go.RowKit Go.Joins
open Go.ChangeMaps (open_string shut_string)
set_option linter.unusedVariables false
namespace IvlLaw
theorem own : ownKnob Tryz.prog.godebug = none := by kernel_rfl
theorem laidOut : laidOutB Tryz.prog = true := by kernel_rfl

set_option maxRecDepth 100000 in
theorem lifted (os : Os) (started : os.Started) (H : Type) (enc : TypeId × Value → H) :
    ReturnsInHanded {} Tryz.checked os 3 .any (fun w args => (Rows.fnIntervalsSpec.pre enc Tryz.prog Tryz.f3 Rows.fnIntervalsRow.domain false w args ∧ laidMetH Tryz.prog Rows.fnIntervalsRow.laid w) ∧ sizedMet enc Tryz.prog Tryz.f3 (OpenSpec.ofChange Rows.fnIntervalsSpec) false w args)
      (Rows.fnIntervalsSpec.post enc Tryz.prog Tryz.f3 false true false false) := by
  refine returnsInHanded_of_change_and (C := Tryz.checked) (X := fun w _ => laidMetH Tryz.prog Rows.fnIntervalsRow.laid w) (fun _ _ _ hh h => h.of_heap hh) own started (by kernel_rfl) Tryz.func3
    (ChangeSpec.witness_shaped (enc := enc) (C := Tryz.checked) (os := os) (X := fun w _ => laidMetH Tryz.prog Rows.fnIntervalsRow.laid w) false (World.laidAll Tryz.prog os Rows.fnIntervalsRow.laid) #[.slice none 0 0, .slice none 0 0] 8 (World.laidAll_os _ _ _)
      (World.shaped_of_ZipB (by kernel_rfl) (by kernel_rfl)) (by kernel_rfl) (by kernel_rfl) (by kernel_rfl)
      (by rw [MakeChecks.laidMetH_plain _ _ _ (by kernel_rfl)]; exact laidMet_laidAll _ (by kernel_rfl) (by kernel_rfl))) ?_
  intro W base args ds gs before hval0 hW hcnd _ hL _
  have hval : ∀ (j : Nat) t v, Tryz.f3.params[j]? = some t → args[j]? = some v → Value.okWide Tryz.prog W .any base t v := hval0
  have hW' := hW
  obtain ⟨p, q, hA0, hV, rfl, hfz, hnd⟩ := hW
  have hA : DataW.TrodAll enc Tryz.prog W 0 (fun _ => true) true Tryz.f3.params.toList args.toList ds p := hA0
  rw [Tryz.params3] at hA hval
  obtain ⟨v0, vs0, d0, ds0, p0, q0, hargs, rfl, rfl, h0, r0⟩ := trodAll_cons hA
  obtain ⟨v1, vs1, d1, ds1, p1, q1, rfl, rfl, rfl, h1, r1⟩ := trodAll_cons r0
  obtain ⟨rfl, rfl, rfl⟩ := trodAll_nil r1
  obtain rfl : args = #[v0, v1] := by cases args; simp_all
  obtain ⟨rfl, rfl⟩ := trodVars_none hV
  have k0 := h0
  have lt0 : ∀ x ∈ p0, x.block < W.heap.size := by obtain ⟨m, hm⟩ := k0; exact DataW.trod_lt m _ _ _ hm
  obtain ⟨x0, len0, cap0, rfl⟩ := okWide_slice Tryz.underlying22 (hval 0 22 v0 rfl rfl)
  obtain ⟨z0, hz0, hm0, hb0, i0⟩ : ∃ zs : List Int, zs.length = len0 ∧ zs.length ≤ maxLen ∧ (∀ i, i < zs.length → 0 ≤ zs.getD i 0 ∧ zs.getD i 0 < 256) ∧ InB W x0 zs := by
    obtain ⟨fuel, hf⟩ := h0
    rcases open_ints Tryz.underlying22 Tryz.underlying5 (by kernel_rfl) hf with ⟨hcs, _⟩ | ⟨x, l, c, zs, hcs, _, hl, hm, hz, _, hcell, hwz⟩
    · simp [Value.cells] at hcs
      obtain ⟨rfl, rfl, rfl⟩ := hcs
      exact ⟨[], rfl, by simp, by simp, .inl rfl⟩
    · simp [Value.cells] at hcs
      obtain ⟨rfl, rfl, rfl⟩ := hcs
      exact inc_of hl hm (by simpa using hz) hcell hwz
  subst hz0
  have k1 := h1
  have lt1 : ∀ x ∈ p1, x.block < W.heap.size := by obtain ⟨m, hm⟩ := k1; exact DataW.trod_lt m _ _ _ hm
  obtain ⟨x1, len1, cap1, rfl⟩ := okWide_slice Tryz.underlying22 (hval 1 22 v1 rfl rfl)
  obtain ⟨z1, hz1, hm1, hb1, i1⟩ : ∃ zs : List Int, zs.length = len1 ∧ zs.length ≤ maxLen ∧ (∀ i, i < zs.length → 0 ≤ zs.getD i 0 ∧ zs.getD i 0 < 256) ∧ InB W x1 zs := by
    obtain ⟨fuel, hf⟩ := h1
    rcases open_ints Tryz.underlying22 Tryz.underlying5 (by kernel_rfl) hf with ⟨hcs, _⟩ | ⟨x, l, c, zs, hcs, _, hl, hm, hz, _, hcell, hwz⟩
    · simp [Value.cells] at hcs
      obtain ⟨rfl, rfl, rfl⟩ := hcs
      exact ⟨[], rfl, by simp, by simp, .inl rfl⟩
    · simp [Value.cells] at hcs
      obtain ⟨rfl, rfl, rfl⟩ := hcs
      exact inc_of hl hm (by simpa using hz) hcell hwz
  subst hz1
  clear hA0 hval0
  refine (walk x0 cap0 z0 hm0 hb0 x1 cap1 z1 hm1 hb1 W i0 i1).mono fun e W' ⟨he, bel⟩ => ?_
  subst he
  exact ⟨_, rfl, _, _, _, [], _, [], hW', trodAll_mk1 (shut_bool Tryz.underlying4 _), (trodAll_cons_mk (Below.trod laidOut (by kernel_rfl) (of_decide_eq_true (by kernel_rfl)) k0 bel lt0) (trodAll_cons_mk (Below.trod laidOut (by kernel_rfl) (of_decide_eq_true (by kernel_rfl)) k1 bel lt1) trodAll_mk0)), rfl, bel.frame _, fun h => by cases h⟩
end IvlLaw
end Go.Proofs.YtkeghknceccdmaaGreatDoor
