/- Whether a store is right, as the specification asks it, and that this is what the program asks. Nothing of the program is used here. -/
import Derived.Test.YtpfbepbmiillbaaGreatDoorStoIR
namespace Go.Proofs.YtpfbepbmiillbaaGreatDoor.Tx
open Go.RowKit Tr Co Rea Ce
set_option linter.unusedVariables false

/-- The time of a chain's last version. -/
def tmE (l : List Ver) : Int := match l[l.length - 1]? with | some v => v.tm | none => 0
def oldC (c : Int) (l : List Chn) : Bool := l.all fun x => decide (tmE x.vs ≤ c)
def oldK (c : Int) (l : List Col) : Bool := l.all fun x => oldC c x.chs
def txsG (c : Int) (cs : List Col) : Int → List Tn → Bool
  | _, [] => true
  | last, x :: t => (txnB x && smallW x) && (decide (x.sp ≤ c) && (decide (last < x.sn) && (ofB cs x && txsG c cs x.sn t)))
def endD (c : Int) (l : List Dn) : Bool := match l[l.length - 1]? with | some x => decide (x.at_ ≤ c) | none => true
/-- Is a store right, as the specification asks. -/
def speB (s : Sto) : Bool := decide (0 ≤ s.clk ∧ s.clk ≤ 10000) && (decide (0 < s.cs.length) && ((decide (s.cs.length ≤ 3) && colsB s.cs) && (decide (s.ts.length ≤ 4) && (donesB s.ds && (oldK s.clk s.cs && (txsG s.clk s.cs (-1) s.ts && endD s.clk s.ds))))))
theorem oldC_step (c : Int) (l : List Chn) (k : Nat) (h : k < l.length) : oldC c (l.drop k) = (decide (tmE l[k].vs ≤ c) && oldC c (l.drop (k + 1))) := by
  rw [List.drop_eq_getElem_cons h]; rfl
theorem oldC_end (c : Int) (l : List Chn) (k : Nat) (h : l.length ≤ k) : oldC c (l.drop k) = true := by
  rw [List.drop_of_length_le h]; rfl
theorem oldK_step (c : Int) (l : List Col) (k : Nat) (h : k < l.length) : oldK c (l.drop k) = (oldC c l[k].chs && oldK c (l.drop (k + 1))) := by
  rw [List.drop_eq_getElem_cons h]; rfl
theorem oldK_end (c : Int) (l : List Col) (k : Nat) (h : l.length ≤ k) : oldK c (l.drop k) = true := by
  rw [List.drop_of_length_le h]; rfl
theorem txsG_step (c : Int) (cs : List Col) (l : List Tn) (k : Nat) (h : k < l.length) : txsG c cs (lastS l k) (l.drop k) = ((txnB l[k] && smallW l[k]) && (decide (l[k].sp ≤ c) && (decide (lastS l k < l[k].sn) && (ofB cs l[k] && txsG c cs (lastS l (k + 1)) (l.drop (k + 1)))))) := by
  rw [List.drop_eq_getElem_cons h, lastS_succ l k h]; rfl
theorem txsG_end (c : Int) (cs : List Col) (z : Int) (l : List Tn) (k : Nat) (h : l.length ≤ k) : txsG c cs z (l.drop k) = true := by
  rw [List.drop_of_length_le h]; rfl

theorem mx2_le (a b c : Int) : mx2 a b ≤ c ↔ a ≤ c ∧ b ≤ c := by unfold mx2; omega
theorem newC_le (c : Int) : ∀ (l : List Chn) (a : Int), newC a l ≤ c ↔ a ≤ c ∧ ∀ x ∈ l, nwT x.vs ≤ c
  | [], a => by simp [newC]
  | y :: l, a => by
    show newC (mx2 a (nwT y.vs)) l ≤ c ↔ _
    rw [newC_le c l, mx2_le]
    simp only [List.mem_cons, forall_eq_or_imp, and_assoc]
theorem newK_le (c : Int) : ∀ (l : List Col) (a : Int), newK a l ≤ c ↔ a ≤ c ∧ ∀ x ∈ l, ∀ y ∈ x.chs, nwT y.vs ≤ c
  | [], a => by simp [newK]
  | y :: l, a => by
    show newK (newC a y.chs) l ≤ c ↔ _
    rw [newK_le c l, newC_le]
    simp only [List.mem_cons, forall_eq_or_imp, and_assoc]
theorem newX_le (c : Int) : ∀ (l : List Tn) (a : Int), newX a l ≤ c ↔ a ≤ c ∧ ∀ x ∈ l, x.sp ≤ c
  | [], a => by simp [newX]
  | y :: l, a => by
    show newX (mx2 a y.sp) l ≤ c ↔ _
    rw [newX_le c l, mx2_le]
    simp only [List.mem_cons, forall_eq_or_imp, and_assoc]
theorem newD_le (c : Int) : ∀ (l : List Dn) (a : Int), newD a l ≤ c ↔ a ≤ c ∧ ∀ x ∈ l, x.at_ ≤ c
  | [], a => by simp [newD]
  | y :: l, a => by
    show newD (mx2 a y.at_) l ≤ c ↔ _
    rw [newD_le c l, mx2_le]
    simp only [List.mem_cons, forall_eq_or_imp, and_assoc]
theorem newest_le (s : Sto) : newestB s ≤ s.clk ↔ 0 ≤ s.clk ∧ (∀ x ∈ s.cs, ∀ y ∈ x.chs, nwT y.vs ≤ s.clk) ∧ (∀ x ∈ s.ts, x.sp ≤ s.clk) ∧ ∀ x ∈ s.ds, x.at_ ≤ s.clk := by
  unfold newestB
  rw [newD_le, newX_le, newK_le]
  constructor
  · rintro ⟨⟨⟨a, b⟩, c⟩, d⟩; exact ⟨a, b, c, d⟩
  · rintro ⟨a, b, c, d⟩; exact ⟨⟨⟨a, b⟩, c⟩, d⟩

theorem trk_last (id : Int) : ∀ (l : List Ver) (last : Int) (cur : Ver), versB id last l = true → (trk 10000 cur l).1 = (l.getLast?).getD cur
  | [], _, cur, _ => rfl
  | v :: r, last, cur, h => by
    rw [versB] at h
    simp only [Bool.and_eq_true, decide_eq_true_eq, timeB] at h
    rw [trk_yes 10000 cur v r h.2.1.2, trk_last id r v.tm v h.2.2.2, List.getLast?_cons]; rfl
theorem nwT_tmE (id : Int) (l : List Ver) (h : versB id 0 l = true) (hl : 1 ≤ l.length) : nwT l = tmE l := by
  unfold nwT tmE trP
  rw [trk_last id l 0 zG h, List.getLast?_eq_getElem?, List.getElem?_eq_getElem (show l.length - 1 < l.length by omega)]; rfl
theorem chsB_mem : ∀ (l : List Chn) (z : Int), chsB z l = true → ∀ x ∈ l, chnB x = true
  | [], _, _, x, hx => by simp at hx
  | c :: r, z, h, x, hx => by
    rw [chsB] at h
    simp only [Bool.and_eq_true] at h
    rcases List.mem_cons.mp hx with rfl | hx
    · exact h.2.2.1
    · exact chsB_mem r c.id h.2.2.2 x hx
theorem riseN_mem : ∀ (l : List Col) (o : Option Col), riseN o l = true → ∀ x ∈ l, collB x = true
  | [], _, _, x, hx => by simp at hx
  | c :: r, o, h, x, hx => by
    have h2 : collB c = true ∧ riseN (some c) r = true := by
      cases o with
      | none => rw [riseN] at h; simpa using h
      | some y => rw [riseN] at h; simp only [Bool.and_eq_true] at h; exact ⟨h.1, h.2.2⟩
    rcases List.mem_cons.mp hx with rfl | hx
    · exact h2.1
    · exact riseN_mem r (some c) h2.2 x hx
/-- In right collections no chain is empty. -/
theorem cols_chn (l : List Col) (h : colsB l = true) : ∀ x ∈ l, ∀ y ∈ x.chs, 1 ≤ y.vs.length ∧ nwT y.vs = tmE y.vs := by
  intro x hx y hy
  have h1 := riseN_mem l none h x hx
  unfold collB at h1
  simp only [Bool.and_eq_true] at h1
  have h2 := chsB_mem x.chs (-1) h1.2.2 y hy
  unfold chnB at h2
  simp only [Bool.and_eq_true, decide_eq_true_eq] at h2
  exact ⟨h2.1.1, nwT_tmE y.id y.vs h2.2 h2.1.1⟩
theorem oldK_iff (c : Int) (l : List Col) (h : colsB l = true) : oldK c l = true ↔ ∀ x ∈ l, ∀ y ∈ x.chs, nwT y.vs ≤ c := by
  unfold oldK oldC
  simp only [List.all_eq_true, decide_eq_true_eq]
  constructor
  · intro hh x hx y hy; rw [(cols_chn l h x hx y hy).2]; exact hh x hx y hy
  · intro hh x hx y hy; rw [← (cols_chn l h x hx y hy).2]; exact hh x hx y hy

theorem endD_mem (c : Int) : ∀ (l : List Dn) (z : Int), riseB z l = true → endD c l = true → ∀ d ∈ l, d.at_ ≤ c
  | [], _, _, _, d, hd => by simp at hd
  | [x], _, _, he, d, hd => by
    have : d = x := by simpa using hd
    subst this
    simpa [endD] using he
  | x :: y :: t, z, h, he, d, hd => by
    have h2 : riseB x.at_ (y :: t) = true := by
      rw [riseB] at h; simp only [Bool.and_eq_true] at h; exact h.2.2.2
    have ht := endD_mem c (y :: t) x.at_ h2 (by simpa [endD] using he)
    rcases List.mem_cons.mp hd with rfl | hd
    · have hy := ht y (by simp)
      rw [riseB] at h2
      simp only [Bool.and_eq_true, decide_eq_true_eq] at h2
      omega
    · exact ht d hd
theorem endD_of (c : Int) (l : List Dn) (h : ∀ d ∈ l, d.at_ ≤ c) : endD c l = true := by
  unfold endD
  cases e : l[l.length - 1]? with
  | none => rfl
  | some x => exact decide_eq_true (h x (List.mem_of_getElem? e))

theorem few_ids : ∀ (l : List Wrt) (lo : Int), l.Pairwise (fun a b => a.id < b.id) → (∀ y ∈ l, lo ≤ y.id ∧ y.id ≤ 19) → lo ≤ 20 → (l.length : Int) ≤ 20 - lo
  | [], lo, _, _, h => by simp; omega
  | y :: r, lo, hp, hb, h => by
    obtain ⟨h1, h2⟩ := List.pairwise_cons.mp hp
    have hy := hb y (by simp)
    have := few_ids r (y.id + 1) h2 (fun z hz => ⟨by have := h1 z hz; omega, (hb z (by simp [hz])).2⟩) (by omega)
    simp only [List.length_cons]
    omega
theorem riseW_pair : ∀ (l : List Wrt) (o : Option Wrt), riseW o l = true → l.Pairwise (fun a b => lessE (ew a) (ew b) = true) ∧ (∀ x ∈ l, writeB x = true) ∧ ∀ y, o = some y → ∀ x ∈ l, lessE (ew y) (ew x) = true
  | [], _, _ => ⟨List.Pairwise.nil, fun x hx => by simp at hx, fun _ _ x hx => by simp at hx⟩
  | c :: r, o, h => by
    have h2 : (writeB c = true ∧ riseW (some c) r = true) ∧ ∀ y, o = some y → lessE (ew y) (ew c) = true := by
      cases o with
      | none => rw [riseW] at h; exact ⟨by simpa using h, fun y hy => by cases hy⟩
      | some y => rw [riseW] at h; simp only [Bool.and_eq_true] at h; exact ⟨⟨h.1, h.2.2⟩, fun z hz => by injection hz with hz; subst hz; exact h.2.1⟩
    obtain ⟨i1, i2, i3⟩ := riseW_pair r (some c) h2.1.2
    refine ⟨List.pairwise_cons.mpr ⟨i3 c rfl, i1⟩, fun x hx => ?_, fun y hy x hx => ?_⟩
    · rcases List.mem_cons.mp hx with rfl | hx
      · exact h2.1.1
      · exact i2 x hx
    · rcases List.mem_cons.mp hx with rfl | hx
      · exact h2.2 y hy
      · exact lessE_trans (h2.2 y hy) (i3 c rfl x hx)
/-- The writes of one name are 20 at most. -/
theorem few_of (l : List Wrt) (c : Col) (h : wrsB l = true) : (l.filter fun y => namedC y.coll c).length ≤ 20 := by
  obtain ⟨h1, h2, _⟩ := riseW_pair l none h
  have hp : (l.filter fun y => namedC y.coll c).Pairwise (fun a b => a.id < b.id) := by
    refine List.Pairwise.imp_of_mem ?_ (h1.filter _)
    intro a b ha hb hab
    have ea := (List.mem_filter.mp ha).2
    have eb := (List.mem_filter.mp hb).2
    unfold namedC at ea eb
    have e1 : c.name.toList = a.coll.toList := by simpa using ea
    have e2 : c.name.toList = b.coll.toList := by simpa using eb
    unfold lessE ew at hab
    simp only [← e1, ← e2, less_irrefl] at hab
    simpa using hab
  have := few_ids _ 0 hp (fun y hy => by
    have hw := h2 y (List.mem_filter.mp hy).1
    unfold writeB topB at hw
    simp only [Bool.and_eq_true, decide_eq_true_eq] at hw
    exact hw.2.1) (by omega)
  omega
def cntW (l : List Wrt) : List Col → Nat
  | [] => 0
  | c :: r => (l.filter fun y => namedC y.coll c).length + cntW l r
theorem cntW_le (l : List Wrt) (h : wrsB l = true) : ∀ cs : List Col, cntW l cs ≤ 20 * cs.length
  | [] => by simp [cntW]
  | c :: r => by
    have h1 := cntW_le l h r
    have h2 := few_of l c h
    simp only [cntW, List.length_cons]
    omega
theorem cntW_mono (y : Wrt) (l : List Wrt) : ∀ cs : List Col, cntW l cs ≤ cntW (y :: l) cs
  | [] => by simp [cntW]
  | c :: r => by
    have h1 := cntW_mono y l r
    have h2 : (l.filter fun y => namedC y.coll c).length ≤ ((y :: l).filter fun y => namedC y.coll c).length := by
      rw [List.filter_cons]; split
      · simp
      · exact Nat.le_refl _
    simp only [cntW]
    omega
theorem cntW_more (y : Wrt) (l : List Wrt) : ∀ cs : List Col, cs.any (namedC y.coll) = true → cntW l cs + 1 ≤ cntW (y :: l) cs
  | [], h => by simp at h
  | c :: r, h => by
    have h1 := cntW_mono y l r
    rw [List.any_cons] at h
    cases e : namedC y.coll c
    · rw [e, Bool.false_or] at h
      have h2 := cntW_more y l r h
      have h3 : (y :: l).filter (fun y => namedC y.coll c) = l.filter fun y => namedC y.coll c := by rw [List.filter_cons, if_neg (by rw [e]; simp)]
      simp only [cntW, h3]
      omega
    · have h3 : (y :: l).filter (fun y => namedC y.coll c) = y :: l.filter fun y => namedC y.coll c := by rw [List.filter_cons, if_pos e]
      simp only [cntW, h3, List.length_cons]
      omega
theorem len_cntW (cs : List Col) : ∀ l : List Wrt, (∀ y ∈ l, cs.any (namedC y.coll) = true) → l.length ≤ cntW l cs
  | [], _ => Nat.zero_le _
  | y :: l, h => by
    have h1 := len_cntW cs l (fun z hz => h z (by simp [hz]))
    have h2 := cntW_more y l cs (h y (by simp))
    simp only [List.length_cons]
    omega
/-- Of at most three collections there are 60 writes at most. -/
theorem small_of (cs : List Col) (x : Tn) (hc : cs.length ≤ 3) (h1 : txnB x = true) (h2 : ofB cs x = true) : smallW x = true := by
  unfold txnB at h1
  simp only [Bool.and_eq_true] at h1
  have hw := h1.2.2.2.2
  have a := len_cntW cs x.cs (fun y hy => List.all_eq_true.mp h2 y hy)
  have b := cntW_le x.cs hw cs
  exact decide_eq_true (by omega)
theorem txsG_txsB (c : Int) (cs : List Col) (hc : cs.length ≤ 3) : ∀ (l : List Tn) (z : Int), txsG c cs z l = (txsB cs z l && l.all fun x => decide (x.sp ≤ c))
  | [], _ => rfl
  | x :: t, z => by
    rw [txsG, txsB, List.all_cons, txsG_txsB c cs hc t x.sn]
    have hs := small_of cs x hc
    cases h1 : txnB x <;> cases h2 : ofB cs x
    · simp
    · simp
    · simp
    · rw [hs h1 h2]
      cases decide (x.sp ≤ c) <;> cases decide (z < x.sn) <;> simp
theorem txsB_len (cs : List Col) : ∀ (l : List Tn) (z : Int), z ≤ 3 → txsB cs z l = true → (l.length : Int) ≤ 3 - z
  | [], z, h, _ => by simp; omega
  | x :: t, z, h, hh => by
    rw [txsB] at hh
    simp only [Bool.and_eq_true, decide_eq_true_eq] at hh
    have h1 := hh.2.1
    unfold txnB sesB at h1
    simp only [Bool.and_eq_true, decide_eq_true_eq] at h1
    have := txsB_len cs t x.sn (by omega) hh.2.2.2
    simp only [List.length_cons]
    omega
theorem speB_stoB (s : Sto) : speB s = stoB s := by
  rw [Bool.eq_iff_iff]
  unfold speB stoB
  simp only [Bool.and_eq_true, decide_eq_true_eq]
  constructor
  · rintro ⟨⟨a0, a1⟩, a2, ⟨a3, a4⟩, a5, a6, a7, a8, a9⟩
    rw [txsG_txsB s.clk s.cs a3, Bool.and_eq_true] at a8
    have hr : riseB 0 s.ds = true := by unfold donesB at a6; simp only [Bool.and_eq_true] at a6; exact a6.1
    exact ⟨a0, a1, a2, ⟨a3, a4⟩, a8.1, a6, (newest_le s).mpr ⟨a0, (oldK_iff s.clk s.cs a4).mp a7, fun x hx => of_decide_eq_true (List.all_eq_true.mp a8.2 x hx), endD_mem s.clk s.ds 0 hr a9⟩⟩
  · rintro ⟨a0, a1, a2, ⟨a3, a4⟩, a5, a6, a7⟩
    obtain ⟨_, b1, b2, b3⟩ := (newest_le s).mp a7
    have hl := txsB_len s.cs s.ts (-1) (by omega) a5
    exact ⟨⟨a0, a1⟩, a2, ⟨a3, a4⟩, by omega, a6, (oldK_iff s.clk s.cs a4).mpr b1, by rw [txsG_txsB s.clk s.cs a3, a5, Bool.true_and]; exact List.all_eq_true.mpr fun x hx => decide_eq_true (b2 x hx), endD_of s.clk s.ds b3⟩

end Go.Proofs.YtpfbepbmiillbaaGreatDoor.Tx
