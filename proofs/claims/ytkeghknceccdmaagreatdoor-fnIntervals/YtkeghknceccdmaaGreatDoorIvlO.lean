/- What two intervals have in common is what both have; each value that a term lets in has a key in the term's interval, rising or falling. Nothing of the program is used here. -/
import Derived.Test.YtkeghknceccdmaaGreatDoorKeyO
import Derived.Test.YtkeghknceccdmaaGreatDoorTintM
import Derived.Test.YtkeghknceccdmaaGreatDoorTermM
import Derived.Test.YtkeghknceccdmaaGreatDoorDocM
import Derived.Sort.Walk0
namespace Go.Proofs.YtkeghknceccdmaaGreatDoor
open Go.RowKit
set_option linter.unusedVariables false

theorem lt_or (x y : List UInt8) : Op.bytesLess x y = true ∨ x = y ∨ Op.bytesLess y x = true := by
  have h := less_total y x
  by_cases h1 : Op.bytesLess x y = true
  · exact .inl h1
  · by_cases e : x = y
    · exact .inr (.inl e)
    · refine .inr (.inr ?_)
      have e' : (x == y) = false := beq_eq_false_iff_ne.mpr e
      rw [Bool.not_eq_true] at h1
      rw [h1, e'] at h
      by_cases h2 : Op.bytesLess y x = true
      · exact h2
      · rw [Bool.not_eq_true] at h2; rw [h2] at h; cases h
theorem lt_not {x y : List UInt8} (h : Op.bytesLess x y = true) : Op.bytesLess y x = false := by
  cases h2 : Op.bytesLess y x with
  | false => rfl
  | true => have := less_trans _ _ _ h h2; rw [less_irrefl] at this; cases this
theorem hasI_eq (i : Ivl) (key : ByteArray) : hasI i key = (!(Op.bytesLess key.data.toList i.lo.data.toList) && (i.op || Op.bytesLess key.data.toList i.hi.data.toList)) := by
  unfold hasI
  rw [leB_not]
  unfold ltB
  rw [ByteArray.toList_eq, ByteArray.toList_eq, ByteArray.toList_eq]
theorem max_lt (k a b : ByteArray) : Op.bytesLess k.data.toList (Lib.maxS a b).data.toList = (Op.bytesLess k.data.toList a.data.toList || Op.bytesLess k.data.toList b.data.toList) := by
  unfold Lib.maxS
  by_cases h : a.data.toList < b.data.toList
  · rw [if_pos h]
    have hl : Op.bytesLess a.data.toList b.data.toList = true := by show Op.bytesLess _ _ = true; rw [bytesLess_eq]; exact decide_eq_true h
    cases h1 : Op.bytesLess k.data.toList a.data.toList
    · rfl
    · rw [less_trans _ _ _ h1 hl]; rfl
  · rw [if_neg h]
    have hl : Op.bytesLess a.data.toList b.data.toList = false := by show Op.bytesLess _ _ = false; rw [bytesLess_eq]; exact decide_eq_false h
    cases h1 : Op.bytesLess k.data.toList b.data.toList
    · simp
    · rcases lt_or a.data.toList b.data.toList with h2 | h2 | h2
      · rw [h2] at hl; cases hl
      · rw [h2, h1]; rfl
      · rw [less_trans _ _ _ h1 h2]; rfl
theorem min_lt (k a b : ByteArray) : Op.bytesLess k.data.toList (Lib.minS a b).data.toList = (Op.bytesLess k.data.toList a.data.toList && Op.bytesLess k.data.toList b.data.toList) := by
  unfold Lib.minS
  by_cases h : a.data.toList < b.data.toList ∨ a.data.toList = b.data.toList
  · rw [if_pos h]
    cases h1 : Op.bytesLess k.data.toList a.data.toList
    · rfl
    · rcases h with h | h
      · have hl : Op.bytesLess a.data.toList b.data.toList = true := by show Op.bytesLess _ _ = true; rw [bytesLess_eq]; exact decide_eq_true h
        rw [less_trans _ _ _ h1 hl]; rfl
      · rw [← h, h1]; rfl
  · rw [if_neg h]
    cases h1 : Op.bytesLess k.data.toList b.data.toList
    · simp
    · rcases lt_or a.data.toList b.data.toList with h2 | h2 | h2
      · exact absurd (.inl (by have h2' : Op.bytesLess a.data.toList b.data.toList = true := h2; rw [bytesLess_eq] at h2'; exact of_decide_eq_true h2')) h
      · exact absurd (.inr h2) h
      · rw [less_trans _ _ _ h1 h2]; rfl
/-- **What two intervals have in common is what both have.** -/
theorem has_meet (a b : Ivl) (k : ByteArray) : hasI (meetI a b) k = (hasI a k && hasI b k) := by
  rw [hasI_eq, hasI_eq, hasI_eq]
  unfold meetI hiM
  simp only [max_lt]
  cases ha : a.op <;> cases hb : b.op <;> simp [min_lt] <;>
    cases Op.bytesLess k.data.toList a.lo.data.toList <;> cases Op.bytesLess k.data.toList b.lo.data.toList <;> cases Op.bytesLess k.data.toList a.hi.data.toList <;> cases Op.bytesLess k.data.toList b.hi.data.toList <;> rfl

theorem Dv.part {s : Int} : ∀ {p y : List UInt8} {c : UInt8}, Dv s (p ++ [c]) y → Dv s p y ∨ ∃ b r, y = p ++ b :: r ∧ ((c < b ∧ s = -1) ∨ (b < c ∧ s = 1))
  | [], [], c, h => by cases h
  | [], b :: r, c, h => by
    rcases h with h | h | h
    · exact .inr ⟨b, r, rfl, .inl h⟩
    · exact .inr ⟨b, r, rfl, .inr h⟩
    · exact absurd h.2 (by intro h'; cases r <;> cases h')
  | a :: p, [], c, h => by cases h
  | a :: p, b :: y, c, h => by
    rcases h with h | h | h
    · exact .inl (.inl h)
    · exact .inl (.inr (.inl h))
    · rcases Dv.part h.2 with h2 | ⟨b', r, e, h2⟩
      · exact .inl (.inr (.inr ⟨h.1, h2⟩))
      · exact .inr ⟨b', r, by rw [e, h.1]; rfl, h2⟩
theorem take_next (x : List UInt8) (n : Nat) (h : n < x.length) : x.take (n + 1) = x.take n ++ [x.getD n 0] := by
  rw [List.take_add_one, List.getElem?_eq_getElem h]
  simp [List.getD, List.getElem?_eq_getElem h]
theorem lt_one (c : UInt8) (h : c < 255) : c < c + 1 := by
  rw [UInt8.lt_iff_toNat_lt] at h ⊢
  rw [UInt8.toNat_add]
  have : (255 : UInt8).toNat = 255 := rfl
  have : (1 : UInt8).toNat = 1 := rfl
  omega
/-- All that begins with the first bytes of a text stands ahead of what is behind them. -/
theorem beh_up (x : List UInt8) : ∀ (n : Nat), n ≤ x.length → ∀ r, (behN x n).2 = true → Op.bytesLess (x.take n ++ r) (behN x n).1 = true
  | 0, _, r, h => by cases h
  | n + 1, hn, r, h => by
    rw [behN] at h ⊢
    rw [take_next x n (by omega)]
    by_cases hc : x.getD n 0 < 255
    · rw [if_pos hc]
      have : Dv (-1) (x.take n ++ [x.getD n 0] ++ r) (x.take n ++ [x.getD n 0 + 1]) := by
        rw [List.append_assoc]
        exact (Dv.lt _ _ (lt_one _ hc)).pre _
      exact this.less
    · rw [if_neg hc] at h ⊢
      rw [List.append_assoc]
      exact beh_up x n (by omega) _ h
/-- What parts from a text and stands behind it stands behind all that begins with it. -/
theorem beh_low (x : List UInt8) : ∀ (n : Nat), n ≤ x.length → ∀ y, Dv (-1) (x.take n) y → (behN x n).2 = true → Op.bytesLess y (behN x n).1 = false
  | 0, _, y, hd, h => by cases h
  | n + 1, hn, y, hd, h => by
    rw [behN] at h ⊢
    rw [take_next x n (by omega)] at hd
    by_cases hc : x.getD n 0 < 255
    · rw [if_pos hc]
      rcases hd.part with h1 | ⟨b, r, e, h1⟩
      · have h2 := (h1.more [x.getD n 0 + 1] []).less
        rw [List.append_nil] at h2
        exact lt_not h2
      · rcases h1 with ⟨h1, _⟩ | ⟨_, h1⟩
        · have hb : x.getD n 0 + 1 = b ∨ x.getD n 0 + 1 < b := by
            rw [UInt8.lt_iff_toNat_lt] at hc h1 ⊢
            have e1 : (255 : UInt8).toNat = 255 := rfl
            have e2 : (x.getD n 0 + 1).toNat = (x.getD n 0).toNat + 1 := by
              rw [UInt8.toNat_add]
              have : (1 : UInt8).toNat = 1 := rfl
              omega
            by_cases h3 : (x.getD n 0).toNat + 1 = b.toNat
            · exact .inl (UInt8.toNat_inj.mp (by rw [e2]; exact h3))
            · exact .inr (by rw [e2]; omega)
          rw [e]
          rcases hb with hb | hb
          · rw [← hb]
            show Op.bytesLess _ _ = false
            have : ∀ (p : List UInt8) (c : UInt8) (r : List UInt8), Op.bytesLess (p ++ c :: r) (p ++ [c]) = false := by
              intro p c r
              induction p with
              | nil => cases r <;> simp [Op.bytesLess]
              | cons a p ih => simpa [Op.bytesLess] using ih
            exact this _ _ _
          · exact lt_not ((Dv.lt [] r hb).pre _).less
        · cases h1
    · rw [if_neg hc] at h ⊢
      rcases hd.part with h1 | ⟨b, r, e, h1⟩
      · exact beh_low x n (by omega) y h1 h
      · rcases h1 with ⟨h1, _⟩ | ⟨_, h1⟩
        · exfalso
          rw [UInt8.lt_iff_toNat_lt] at hc h1
          have e1 : (255 : UInt8).toNat = 255 := rfl
          have := b.toNat_lt
          omega
        · cases h1
theorem le_app (x r : List UInt8) : Op.bytesLess (x ++ r) x = false := by
  induction x with
  | nil => cases r <;> rfl
  | cons a p ih => show Op.bytesLess _ _ = false; simpa [Op.bytesLess] using ih
/-- A text that begins with another one is in its interval. -/
theorem begin_has (x r : List UInt8) : hasI (beginI x) (mkB (x ++ r)) = true := by
  rw [hasI_eq]
  unfold beginI
  simp only [mkB_data]
  rw [le_app]
  cases h : (behN x x.length).2
  · rfl
  · have := beh_up x x.length (Nat.le_refl _) r h
    rw [List.take_length] at this
    rw [this]; rfl
theorem kind_has (v : Val) (desc : Bool) (k : Int) (h0 : 0 ≤ k) (h5 : k ≤ 5) (hk : v.k = k) : hasI (kindI k desc) (mkB (dirK desc (keyV 5 v))) = true := by
  obtain ⟨r, hr⟩ := key_head v
  rw [hr, hk]
  obtain ⟨c, r', _, e1, e2⟩ := dir_head desc k h0 h5 r
  unfold kindI
  rw [e1, e2]
  exact begin_has [c] r'
theorem dv_dir {s : Int} {x y : List UInt8} (desc : Bool) (h : Dv s x y) : Dv (if desc then -s else s) (dirK desc x) (dirK desc y) := by
  cases desc
  · exact h
  · exact h.turn
theorem one_true (c : Val) (desc : Bool) (h : okB c = true) : (behN (dirK desc (keyV 5 c)) (dirK desc (keyV 5 c)).length).2 = true := by
  obtain ⟨b, r, s, _, _, e, _⟩ := one_begin c desc h
  unfold oneI beginI at e
  have := congrArg Ivl.op e
  simpa using this
/-- The key of a value that stands ahead of, at, or behind another one's, against all that begins with that one's key. -/
theorem one_side (v c : Val) (desc : Bool) (hv : okB v = true) (hc : okB c = true) :
    (ordV 5 v c = 0 → v = c) ∧
    ((if desc then -(ordV 5 v c) else ordV 5 v c) < 0 → Op.bytesLess (dirK desc (keyV 5 v)) (oneI c desc).lo.data.toList = true) ∧
    (0 < (if desc then -(ordV 5 v c) else ordV 5 v c) → Op.bytesLess (dirK desc (keyV 5 v)) (oneI c desc).hi.data.toList = false ∧ Op.bytesLess (dirK desc (keyV 5 v)) (oneI c desc).lo.data.toList = false) ∧
    Op.bytesLess (oneI c desc).lo.data.toList (oneI c desc).hi.data.toList = true := by
  have lo : (oneI c desc).lo.data.toList = dirK desc (keyV 5 c) := by unfold oneI beginI; rw [mkB_data]
  have hi : (oneI c desc).hi.data.toList = (behN (dirK desc (keyV 5 c)) (dirK desc (keyV 5 c)).length).1 := by unfold oneI beginI; rw [mkB_data]
  have ht := one_true c desc hc
  refine ⟨ordV_zero 5 v c hv hc, fun h => ?_, fun h => ?_, ?_⟩
  · have hne : ordV 5 v c ≠ 0 := by intro e; rw [e] at h; cases desc <;> simp at h
    rw [lo, (dv_dir desc (keyV_order 5 v c hv hc hne)).less]
    exact decide_eq_true h
  · have hne : ordV 5 v c ≠ 0 := by intro e; rw [e] at h; cases desc <;> simp at h
    have D := dv_dir desc (keyV_order 5 v c hv hc hne)
    have D2 := D.swap
    have hs : -(if desc then -(ordV 5 v c) else ordV 5 v c) = -1 := by rcases D.one with e | e <;> omega
    rw [hs] at D2
    constructor
    · rw [hi]
      exact beh_low _ _ (Nat.le_refl _) _ (by rw [List.take_length]; exact D2) ht
    · rw [lo]; exact lt_not D2.less
  · rw [lo, hi]
    have := beh_up (dirK desc (keyV 5 c)) _ (Nat.le_refl _) [] ht
    rw [List.take_length, List.append_nil] at this
    exact this
theorem ord_has (op : Int) (v c : Val) (desc : Bool) (hv : okB v = true) (hc : okB c = true) (hop : op = 3 ∨ op = 4 ∨ op = 5 ∨ op = 6) (hl : oneT op c v = true) : hasI (ordT op c desc) (mkB (dirK desc (keyV 5 v))) = true := by
  rw [oneT_ord op c v hop, Bool.and_eq_true] at hl
  obtain ⟨hk, hf⟩ := hl
  have hk := of_decide_eq_true hk
  obtain ⟨k0, k5⟩ := fits_kind v hv
  have K := kind_has v desc c.k (by omega) (by omega) hk
  rw [hasI_eq, Bool.and_eq_true] at K
  obtain ⟨Klo, Khi⟩ := K
  have Kop : (kindI c.k desc).op = false := by obtain ⟨b, _, e⟩ := kind_begin c.k desc (by omega) (by omega); rw [e]
  rw [Kop, Bool.false_or, mkB_data] at Khi
  rw [mkB_data] at Klo
  obtain ⟨S0, S1, S2, S3⟩ := one_side v c desc hv hc
  have E0 : ordV 5 v c = 0 → dirK desc (keyV 5 v) = (oneI c desc).lo.data.toList := fun e => by rw [S0 e]; unfold oneI beginI; rw [mkB_data]
  have lo_self : Op.bytesLess (oneI c desc).lo.data.toList (oneI c desc).lo.data.toList = false := less_irrefl _
  have one : ∀ lo hi : ByteArray, Op.bytesLess (dirK desc (keyV 5 v)) lo.data.toList = false → Op.bytesLess (dirK desc (keyV 5 v)) hi.data.toList = true → hasI ⟨lo, hi, false⟩ (mkB (dirK desc (keyV 5 v))) = true := by
    intro lo hi h1 h2
    rw [hasI_eq]
    simp only [mkB_data]
    rw [h1, h2]; rfl
  have Klo' : Op.bytesLess (dirK desc (keyV 5 v)) (kindI c.k desc).lo.data.toList = false := by simpa using Klo
  clear Klo
  have up4 : 0 ≤ (if desc then -(ordV 5 v c) else ordV 5 v c) → Op.bytesLess (dirK desc (keyV 5 v)) (oneI c desc).lo.data.toList = false := fun h => by
    by_cases e : ordV 5 v c = 0
    · rw [E0 e]; exact lo_self
    · exact (S2 (by cases desc <;> simp at h ⊢ <;> omega)).2
  have dn4 : (if desc then -(ordV 5 v c) else ordV 5 v c) ≤ 0 → Op.bytesLess (dirK desc (keyV 5 v)) (oneI c desc).hi.data.toList = true := fun h => by
    by_cases e : ordV 5 v c = 0
    · rw [E0 e]; exact S3
    · exact less_trans _ _ _ (S1 (by cases desc <;> simp at h ⊢ <;> omega)) S3
  unfold ordT
  cases desc <;> rcases hop with rfl | rfl | rfl | rfl <;> simp only [fitsO] at hf <;> simp at hf ⊢
  · exact one _ _ Klo' (S1 (by simpa using hf))
  · exact one _ _ Klo' (dn4 (by simpa using hf))
  · exact one _ _ (S2 (by simpa using hf)).1 Khi
  · exact one _ _ (up4 (by simpa using hf)) Khi
  · exact one _ _ (S2 (by simp; omega)).1 Khi
  · exact one _ _ (up4 (by simp; omega)) Khi
  · exact one _ _ Klo' (S1 (by simp; omega))
  · exact one _ _ Klo' (dn4 (by simp; omega))
theorem all_has (k : ByteArray) : hasI ⟨em, em, true⟩ k = true := by
  rw [hasI_eq]
  have : Op.bytesLess k.data.toList (em : ByteArray).data.toList = false := by
    show Op.bytesLess _ [] = false
    cases k.data.toList <;> rfl
  simp [this]
/-- **A value that a term lets in has its key in the term's interval.** -/
theorem term_has (op : Int) (v c : Val) (desc : Bool) (hv : okB v = true) (hc : okB c = true) (h9 : op = 9 → 0 ≤ c.n ∧ c.n ≤ 5) (hl : letsT op c [v] = true) : hasI (tintI op c desc) (mkB (dirK desc (keyV 5 v))) = true := by
  unfold tintI
  by_cases h1 : op = 1
  · rw [if_pos h1]
    subst h1
    have : v = c := by simpa [letsT, heldT, oneT] using hl
    rw [this]
    have := begin_has (dirK desc (keyV 5 c)) []
    rw [List.append_nil] at this
    exact this
  · rw [if_neg h1]
    by_cases h2 : op = 9
    · rw [if_pos h2]
      subst h2
      have : v.k = c.n := by simpa [letsT, heldT, oneT] using hl
      exact kind_has v desc c.n (h9 rfl).1 (h9 rfl).2 this
    · rw [if_neg h2]
      by_cases h3 : 3 ≤ op ∧ op ≤ 6
      · rw [if_pos h3]
        have hop : op = 3 ∨ op = 4 ∨ op = 5 ∨ op = 6 := by omega
        have : oneT op c v = true := by
          unfold letsT heldT at hl
          rw [if_neg (by omega)] at hl
          have e2 : decide (op = 2) = false := decide_eq_false (by omega)
          rw [e2] at hl
          simpa using hl
        exact ord_has op v c desc hv hc hop this
      · rw [if_neg h3]; exact all_has _

/-- What a document of one field comes to. -/
theorem one_made (v : Val) (hv : okB v = true) : ((madeP [⟨⟨#[97]⟩, v⟩]).2 = 10 ∨ (madeP [⟨⟨#[97]⟩, v⟩]).2 = 9) ∨
    ((madeP [⟨⟨#[97]⟩, v⟩]).2 = 0 ∧ docB (madeP [⟨⟨#[97]⟩, v⟩]).1 = true ∧ (v.k ≠ 4 → getP (pieces ⟨#[97]⟩) (madeP [⟨⟨#[97]⟩, v⟩]).1 = [v])) := by
  have hf : foldD [] [⟨⟨#[97]⟩, v⟩] = .ok [⟨⟨#[97]⟩, v⟩] := by
    rw [foldD, if_neg (show ¬ shortB ⟨#[97]⟩ = false by decide), if_neg (by rw [hv]; decide), if_neg (show ¬ hasN ⟨#[97]⟩ [] = true by decide)]
    rfl
  rw [madeP_few _ (by simp), hf]
  show ((fitD [⟨⟨#[97]⟩, v⟩]).2 = 10 ∨ (fitD [⟨⟨#[97]⟩, v⟩]).2 = 9) ∨ ((fitD [⟨⟨#[97]⟩, v⟩]).2 = 0 ∧ docB (fitD [⟨⟨#[97]⟩, v⟩]).1 = true ∧ (v.k ≠ 4 → getP (pieces ⟨#[97]⟩) (fitD [⟨⟨#[97]⟩, v⟩]).1 = [v]))
  by_cases h1 : 300 < (encFL [⟨⟨#[97]⟩, v⟩]).length
  · rw [fitD_size _ h1]; exact .inl (.inl rfl)
  · by_cases h2 : 4 < dF (depthV 5) [⟨⟨#[97]⟩, v⟩]
    · rw [fitD_deep _ h1 h2]; exact .inl (.inr rfl)
    · rw [fitD_ok _ h1 h2]
      have hg : GoodF [⟨⟨#[97]⟩, v⟩] := by
        refine ⟨?_, ?_⟩
        · intro i j hi hj hij; simp at hi hj; omega
        · intro f hf; simp at hf; subst hf; exact ⟨show shortB ⟨#[97]⟩ = true by decide, hv⟩
      refine .inr ⟨rfl, ?_, fun hk => ?_⟩
      · unfold docB
        show (decide ((5 : Int) = 5) && okB ⟨5, 0, txt (encFL [⟨⟨#[97]⟩, v⟩])⟩) = true
        rw [madeD_ok _ hg h1, decide_eq_true (show dF (depthV 5) [⟨⟨#[97]⟩, v⟩] ≤ 4 by omega)]; rfl
      · have hp : pieces ⟨#[97]⟩ = [⟨#[97]⟩] := by decide
        have hi : fields (txt (encFL [⟨⟨#[97]⟩, v⟩])) = some [⟨⟨#[97]⟩, v⟩] := fields_enc _ hg.names
        have hfl : flds ⟨5, 0, txt (encFL [⟨⟨#[97]⟩, v⟩])⟩ = [⟨⟨#[97]⟩, v⟩] := by unfold flds; show (fields (txt (encFL [⟨⟨#[97]⟩, v⟩]))).getD [] = _; rw [hi]; rfl
        rw [hp, getP_doc _ _ _ rfl, docP_some _ _ _ v (by rw [hfl, fieldV, if_pos ((cB_zero _ _).mpr rfl)])]
        rw [getP_end, if_neg hk]

end Go.Proofs.YtkeghknceccdmaaGreatDoor
