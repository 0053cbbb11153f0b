/- A tree with an entry less, said plainly, and that it stays right. Nothing of the program is used here but the entries' order. -/
import Derived.Test.YtnmpfooegnmknaaPutA
namespace Go.Proofs.Ytnmpfooegnmknaa.Tr
open Go.RowKit
set_option linter.unusedVariables false

theorem chainB_iff (last : Ent) : ∀ (l : List Ent), chainB last l = true ↔ ((∀ x ∈ l, entB x = true ∧ lessE last x = true) ∧ l.Pairwise (fun a b => lessE a b = true))
  | [] => by simp [chainB]
  | e :: t => by
    rw [chainB_cons, Bool.and_eq_true, Bool.and_eq_true, chainB_iff e t, List.pairwise_cons]
    constructor
    · rintro ⟨⟨h1, h2⟩, h3, h4⟩
      refine ⟨?_, fun x hx => (h3 x hx).2, h4⟩
      intro x hx
      rcases List.mem_cons.1 hx with rfl | hx
      · exact ⟨h1, h2⟩
      · exact ⟨(h3 x hx).1, lessE_trans h2 (h3 x hx).2⟩
    · rintro ⟨h1, h2, h3⟩
      exact ⟨h1 e (List.mem_cons_self ..), fun x hx => ⟨(h1 x (List.mem_cons_of_mem _ hx)).1, h2 x hx⟩, h3⟩
theorem chainB_rise {last : Ent} {l : List Ent} (h : chainB last l = true) : RiseE l := fun i j hi hj hij => List.pairwise_iff_getElem.1 ((chainB_iff last l).1 h).2 i j hi hj hij
theorem chainB_append (last : Ent) : ∀ (a b : List Ent), chainB last (a ++ b) = (chainB last a && chainB (lastE last a) b)
  | [], b => by simp [chainB, lastE]
  | e :: t, b => by rw [List.cons_append, chainB_cons, chainB_cons, lastE_cons, chainB_append e t b]; simp only [Bool.and_assoc]
theorem lastE_append (last : Ent) : ∀ (a b : List Ent), lastE last (a ++ b) = lastE (lastE last a) b
  | [], b => rfl
  | e :: t, b => by rw [List.cons_append, lastE_cons, lastE_cons, lastE_append e t b]
/-- All entries of the pages, in order. -/
def allE (f : List Pg) : List Ent := f.flatMap Pg.es
theorem entsB_all (last : Ent) : ∀ f : List Pg, entsB last f = chainB last (allE f)
  | [] => rfl
  | p :: t => by
    rw [entsB_cons, entsB_all (lastE last p.es) t]
    show _ = chainB last (List.flatMap Pg.es (p :: t))
    rw [List.flatMap_cons, chainB_append]; rfl
theorem chainB_sub {last : Ent} {l m : List Ent} (h : chainB last l = true) (hs : m.Sublist l) : chainB last m = true := by
  have h := (chainB_iff last l).1 h
  exact (chainB_iff last m).2 ⟨fun x hx => h.1 x (hs.subset hx), h.2.sublist hs⟩
theorem sizesB_iff (n : Nat) : ∀ f : List Pg, sizesB n f = true ↔ ∀ p ∈ f, sizeB n p = true
  | [] => by simp [sizesB]
  | p :: t => by rw [sizesB_cons, Bool.and_eq_true, sizesB_iff n t]; simp
theorem numsB_iff (next : Int) : ∀ (f pre : List Pg), numsB next pre f = true ↔ ((∀ p ∈ f, 1 ≤ p.num ∧ p.num < next) ∧ (∀ q ∈ pre, ∀ p ∈ f, q.num ≠ p.num) ∧ f.Pairwise (fun a b => a.num ≠ b.num))
  | [], pre => by simp [numsB]
  | p :: t, pre => by
    rw [numsB_cons, Bool.and_eq_true, numsB_iff next t, List.pairwise_cons]
    unfold numB
    simp only [Bool.and_eq_true, decide_eq_true_eq, Bool.not_eq_true', List.any_eq_false, List.mem_append, List.mem_cons, List.not_mem_nil, or_false, forall_eq_or_imp]
    constructor
    · rintro ⟨⟨h1, h2, h3⟩, h4, h5, h6⟩
      exact ⟨⟨⟨h1, h2⟩, h4⟩, fun q hq => ⟨h3 q hq, h5 q (.inl hq)⟩, h5 p (.inr rfl), h6⟩
    · rintro ⟨⟨⟨h1, h2⟩, h4⟩, h5, h6, h7⟩
      refine ⟨⟨h1, h2, fun q hq => (h5 q hq).1⟩, h4, ?_, h7⟩
      rintro q (hq | rfl)
      · exact (h5 q hq).2
      · exact h6
/-- What makes a tree right, said at once. -/
theorem treeB_iff (f : List Pg) (next : Int) : treeB f next = true ↔ ((1 ≤ f.length ∧ f.length ≤ 60 ∧ 2 ≤ next ∧ next ≤ 100000) ∧ (∀ p ∈ f, p.es.length ≤ 4 ∧ (1 < f.length → 1 ≤ p.es.length)) ∧ (∀ p ∈ f, 1 ≤ p.num ∧ p.num < next) ∧ f.Pairwise (fun a b => a.num ≠ b.num) ∧ chainB e0 (allE f) = true) := by
  unfold treeB headB
  simp only [Bool.and_eq_true]
  rw [sizesB_iff, numsB_iff, entsB_all]
  simp only [decide_eq_true_eq, List.not_mem_nil, false_implies, implies_true, true_and]
  unfold sizeB
  simp only [Bool.and_eq_true, decide_eq_true_eq, Bool.not_eq_true', Bool.and_eq_false_iff, decide_eq_false_iff_not]
  constructor
  · rintro ⟨⟨⟨⟨h1, h2⟩, h3⟩, h4⟩, h5, ⟨h6, h7⟩, h8⟩
    exact ⟨⟨h1, h2, h3, h4⟩, fun p hp => ⟨(h5 p hp).1, fun hl => by rcases (h5 p hp).2 with h | h <;> omega⟩, h6, h7, h8⟩
  · rintro ⟨⟨h1, h2, h3, h4⟩, h5, h6, h7, h8⟩
    refine ⟨⟨⟨⟨h1, h2⟩, h3⟩, h4⟩, fun p hp => ⟨(h5 p hp).1, ?_⟩, ⟨h6, h7⟩, h8⟩
    rcases Nat.lt_or_ge 1 f.length with hl | hl
    · have := (h5 p hp).2 hl; exact .inl (by omega)
    · exact .inr (by omega)
theorem page_sub {f : List Pg} {k : Nat} (hk : k < f.length) : (f[k].es).Sublist (allE f) := by
  unfold allE
  induction f generalizing k with
  | nil => simp at hk
  | cons p t ih =>
    rw [List.flatMap_cons]
    cases k with
    | zero => simp
    | succ k => simp only [List.getElem_cons_succ]; exact (ih (by simpa using hk)).trans (List.sublist_append_right _ _)
theorem page_rise {f : List Pg} {next : Int} (h : treeB f next = true) {k : Nat} (hk : k < f.length) : RiseE f[k].es := chainB_rise (chainB_sub ((treeB_iff f next).1 h).2.2.2.2 (page_sub hk))
theorem page_small {f : List Pg} {next : Int} (h : treeB f next = true) {k : Nat} (hk : k < f.length) : f[k].es.length ≤ 4 := (((treeB_iff f next).1 h).2.1 _ (List.getElem_mem hk)).1

/-- In rising entries an entry stands once at most, and where the search says. -/
theorem PlaceE.only {l : List Ent} {e : Ent} {i : Nat} {b : Bool} (h : PlaceE l e i b) {q : Nat} (hq : q < l.length) (he : l[q] = e) (hs : RiseE l) : q = i ∧ b = true := by
  have h1 : ¬ q < i := fun hlt => by have := h.lo q hq hlt; rw [he, lessE_irrefl] at this; cases this
  have h2 : ¬ i < q := fun hlt => by
    have h3 := hs i q (by omega) hq hlt
    have h4 := h.hi i (by omega) (Nat.le_refl _)
    rw [he, h4] at h3; cases h3
  have h5 : q = i := by omega
  subst h5
  exact ⟨rfl, h.at_.2 ⟨hq, he⟩⟩
theorem PlaceE.none {l : List Ent} {e : Ent} {i : Nat} (h : PlaceE l e i false) (hs : RiseE l) : ∀ q (hq : q < l.length), l[q] ≠ e := fun q hq he => by
  have := (h.only hq he hs).2; cases this

/-- A tree without the entry that stands at i on page k. -/
def dropP (f : List Pg) (k i : Nat) : List Pg := match f[k]? with
  | none => f
  | some p => if p.es.length = 1 ∧ 1 < f.length then f.eraseIdx k else f.set k ⟨p.num, p.es.eraseIdx i⟩
theorem allE_set_sub (f : List Pg) (k : Nat) (hk : k < f.length) (q : Pg) (hq : q.es.Sublist f[k].es) : (allE (f.set k q)).Sublist (allE f) := by
  unfold allE
  induction f generalizing k with
  | nil => simp at hk
  | cons p t ih =>
    cases k with
    | zero => simp only [List.set_cons_zero, List.flatMap_cons, List.getElem_cons_zero] at *; exact List.Sublist.append hq (List.Sublist.refl _)
    | succ k => simp only [List.set_cons_succ, List.flatMap_cons, List.getElem_cons_succ] at *; exact List.Sublist.append (List.Sublist.refl _) (ih k (by simpa using hk) hq)
theorem allE_erase_sub (f : List Pg) (k : Nat) : (allE (f.eraseIdx k)).Sublist (allE f) := by
  unfold allE
  induction f generalizing k with
  | nil => simp
  | cons p t ih =>
    cases k with
    | zero => simp only [List.eraseIdx_cons_zero, List.flatMap_cons]; exact List.sublist_append_right _ _
    | succ k => simp only [List.eraseIdx_cons_succ, List.flatMap_cons]; exact List.Sublist.append (List.Sublist.refl _) (ih k)
theorem pair_set (f : List Pg) (k : Nat) (hk : k < f.length) (q : Pg) (hq : q.num = f[k].num) (h : f.Pairwise (fun a b => a.num ≠ b.num)) : (f.set k q).Pairwise (fun a b => a.num ≠ b.num) := by
  rw [List.pairwise_iff_getElem] at h ⊢
  intro i j hi hj hij
  simp only [List.length_set] at hi hj
  have := h i j hi hj hij
  rw [List.getElem_set, List.getElem_set]
  split <;> split <;> simp_all <;> omega
theorem dropP_right {f : List Pg} {next : Int} (h : treeB f next = true) {k i : Nat} (hk : k < f.length) (hi : i < f[k].es.length) : treeB (dropP f k i) next = true := by
  have hT := (treeB_iff f next).1 h
  obtain ⟨⟨h1, h2, h3, h4⟩, h5, h6, h7, h8⟩ := hT
  unfold dropP
  rw [List.getElem?_eq_getElem hk]
  dsimp only
  split
  · rename_i hc
    have hl : (f.eraseIdx k).length = f.length - 1 := List.length_eraseIdx_of_lt hk
    refine (treeB_iff _ _).2 ⟨⟨by omega, by omega, h3, h4⟩, fun p hp => ⟨(h5 p (List.mem_of_mem_eraseIdx hp)).1, fun _ => (h5 p (List.mem_of_mem_eraseIdx hp)).2 hc.2⟩, fun p hp => h6 p (List.mem_of_mem_eraseIdx hp), h7.sublist (List.eraseIdx_sublist ..), chainB_sub h8 (allE_erase_sub f k)⟩
  · rename_i hc
    have hm : ∀ p ∈ f.set k ⟨f[k].num, f[k].es.eraseIdx i⟩, p ∈ f ∨ p = ⟨f[k].num, f[k].es.eraseIdx i⟩ := fun p hp => List.mem_or_eq_of_mem_set hp
    have hl : (f[k].es.eraseIdx i).length = f[k].es.length - 1 := List.length_eraseIdx_of_lt hi
    have h5k := h5 f[k] (List.getElem_mem hk)
    refine (treeB_iff _ _).2 ⟨⟨by simpa using h1, by simpa using h2, h3, h4⟩, ?_, ?_, pair_set f k hk _ rfl h7, chainB_sub h8 (allE_set_sub f k hk _ (List.eraseIdx_sublist ..))⟩
    · intro p hp
      rw [List.length_set]
      rcases hm p hp with hp | rfl
      · exact h5 p hp
      · dsimp only; exact ⟨by omega, fun h1 => by omega⟩
    · intro p hp
      rcases hm p hp with hp | rfl
      · exact h6 p hp
      · exact h6 f[k] (List.getElem_mem hk)

end Go.Proofs.Ytnmpfooegnmknaa.Tr
