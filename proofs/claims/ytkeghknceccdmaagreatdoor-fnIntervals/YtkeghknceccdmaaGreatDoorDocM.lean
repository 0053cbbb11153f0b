/- Fields put in the order of their names, and the document that is made of them, said plainly. Nothing of the program is used here. -/
import Derived.Test.YtkeghknceccdmaaGreatDoorFindM
import Derived.Test.YtkeghknceccdmaaGreatDoorInsF
import Derived.Test.YtkeghknceccdmaaGreatDoorDrawD
namespace Go.Proofs.YtkeghknceccdmaaGreatDoor
open Go.RowKit
set_option linter.unusedVariables false

theorem takeWhile_at {α : Type} (p : α → Bool) : ∀ (l : List α) (i : Nat), i ≤ l.length → (∀ q (h : q < l.length), q < i → p l[q] = true) → (∀ h : i < l.length, p l[i] = false) → (l.takeWhile p).length = i
  | [], i, hi, _, _ => by simp at hi; simp [hi]
  | x :: r, 0, _, _, h => by have h' : p x = false := h (by simp); simp [h']
  | x :: r, i + 1, hi, h1, h2 => by
    have h0 : p x = true := h1 0 (by simp) (by omega)
    rw [List.takeWhile_cons, if_pos h0, List.length_cons, takeWhile_at p r i (by simpa using hi) (fun q hq hlt => by have := h1 (q + 1) (by simpa using hq) (by omega); simpa using this) (fun h => by have := h2 (by simpa using h); simpa using this)]
/-- How many names are ahead of a name. -/
def pN (nm : ByteArray) (l : List Fld) : Nat := (l.takeWhile (fun g => ltB g.name nm)).length
def hasN (nm : ByteArray) (l : List Fld) : Bool := l.any (fun g => decide (g.name = nm))
theorem hasN_true {nm : ByteArray} {l : List Fld} (f : Fld) (hf : f ∈ l) (h : f.name = nm) : hasN nm l = true := by
  unfold hasN; rw [List.any_eq_true]; exact ⟨f, hf, decide_eq_true h⟩
theorem hasN_false {nm : ByteArray} {l : List Fld} (h : ∀ f ∈ l, f.name ≠ nm) : hasN nm l = false := by
  unfold hasN; rw [List.any_eq_false]; exact fun f hf => by simpa using h f hf
theorem Place.pos {l : List Fld} {nm : ByteArray} {i : Nat} {b : Bool} (h : Place l nm i b) : pN nm l = i :=
  takeWhile_at _ l i h.le (fun q hq hlt => h.lo q hq hlt) (fun hh => h.hi i hh (Nat.le_refl _))
theorem Place.absent {l : List Fld} {nm : ByteArray} {i : Nat} (hr : Rise l) (h : Place l nm i false) : ∀ f ∈ l, f.name ≠ nm := fun f hf e => by
  obtain ⟨q, hq, rfl⟩ := List.getElem_of_mem hf
  rcases Nat.lt_or_ge q i with hlt | hge
  · have := h.lo q hq hlt; rw [e, ltB_irrefl] at this; cases this
  · rcases Nat.lt_or_ge i q with hlt | hge2
    · have h1 := hr i q (by omega) hq hlt
      rw [e] at h1
      have := h.hi i (by omega) (Nat.le_refl _)
      rw [this] at h1; cases h1
    · obtain rfl : q = i := by omega
      have := h.there.mpr ⟨hq, e⟩; cases this
theorem Place.has {l : List Fld} {nm : ByteArray} {i : Nat} {b : Bool} (hr : Rise l) (h : Place l nm i b) : hasN nm l = b := by
  cases b
  · exact hasN_false (h.absent hr)
  · obtain ⟨hi, he, _⟩ := h.some
    exact hasN_true _ (List.getElem_mem hi) he

theorem ltB_of {a b : ByteArray} (h : ltB a b = false) (hne : a ≠ b) : ltB b a = true := by
  have := less_total a.toList b.toList
  have e : (b.toList == a.toList) = false := eqL_false b a (fun e => hne e.symm)
  unfold ltB at h ⊢
  rw [e, h] at this
  simpa using this
theorem rise_pair (l : List Fld) : Rise l ↔ l.Pairwise (fun a b => ltB a.name b.name = true) := by
  rw [List.pairwise_iff_getElem]; exact Iff.rfl
theorem rise_ins {l : List Fld} {f : Fld} {i : Nat} (hr : Rise l) (h : Place l f.name i false) : Rise (insL l i f) := by
  have ha := h.absent hr
  rw [rise_pair] at hr ⊢
  unfold insL
  rw [List.pairwise_append, List.pairwise_cons]
  have hlo : ∀ g ∈ l.take i, ltB g.name f.name = true := fun g hg => by
    obtain ⟨q, hq, rfl⟩ := List.getElem_of_mem hg
    have hq2 : q < i ∧ q < l.length := by rw [List.length_take] at hq; omega
    rw [List.getElem_take]; exact h.lo q hq2.2 hq2.1
  have hhi : ∀ g ∈ l.drop i, ltB f.name g.name = true := fun g hg => by
    obtain ⟨q, hq, rfl⟩ := List.getElem_of_mem hg
    have hq2 : i + q < l.length := by rw [List.length_drop] at hq; omega
    rw [List.getElem_drop]
    exact ltB_of (h.hi (i + q) hq2 (by omega)) (ha _ (List.getElem_mem hq2))
  refine ⟨hr.sublist (List.take_sublist _ _), ⟨hhi, hr.sublist (List.drop_sublist _ _)⟩, ?_⟩
  intro a hA b hB
  rcases List.mem_cons.mp hB with rfl | hB
  · exact hlo a hA
  · exact ltB_trans (hlo a hA) (hhi b hB)

/-- Fields that rise, with short names and right values. -/
structure GoodF (l : List Fld) : Prop where
  rise : Rise l
  all : ∀ f ∈ l, shortB f.name = true ∧ okB f.v = true
theorem GoodF.nil : GoodF [] := ⟨fun i j hi => by simp at hi, fun f hf => by simp at hf⟩
theorem GoodF.ins {l : List Fld} {f : Fld} {i : Nat} (h : GoodF l) (hn : shortB f.name = true) (ho : okB f.v = true) (hp : Place l f.name i false) : GoodF (insL l i f) :=
  ⟨rise_ins h.rise hp, fun g hg => by
    unfold insL at hg
    rcases List.mem_append.mp hg with hg | hg
    · exact h.all g (List.mem_of_mem_take hg)
    · rcases List.mem_cons.mp hg with rfl | hg
      · exact ⟨hn, ho⟩
      · exact h.all g (List.mem_of_mem_drop hg)⟩
theorem short_size {s : ByteArray} (h : shortB s = true) : s.size ≤ 12 := by
  unfold shortB at h; rw [Bool.and_eq_true, decide_eq_true_eq] at h; exact h.1
theorem short_some {s : ByteArray} (h : shortB s = true) : ltB em s = true := by
  unfold shortB at h; rw [Bool.and_eq_true] at h
  have h2 := h.2
  unfold nameB at h2
  unfold ltB
  rw [ByteArray.toList_eq, ByteArray.toList_eq]
  show Op.bytesLess [] s.data.toList = true
  cases hc : s.data.toList with
  | nil => rw [hc] at h2; cases h2
  | cons a r => rfl
theorem riseAll_of (p : Val → Bool) : ∀ (l : List Fld) (last : ByteArray), l.Pairwise (fun a b => ltB a.name b.name = true) → (∀ f ∈ l, ltB last f.name = true) → (∀ f ∈ l, shortB f.name = true ∧ p f.v = true) → riseAll p last l = true
  | [], _, _, _, _ => rfl
  | f :: r, last, h1, h2, h3 => by
    rw [List.pairwise_cons] at h1
    have hf := h3 f (by simp)
    rw [riseAll, hf.1, h2 f (by simp), hf.2, riseAll_of p r f.name h1.2 h1.1 (fun g hg => h3 g (by simp [hg]))]; rfl
theorem GoodF.riseAll {l : List Fld} (h : GoodF l) (p : Val → Bool) (hp : ∀ f ∈ l, p f.v = true) : riseAll p em l = true :=
  riseAll_of p l em ((rise_pair l).mp h.rise) (fun f hf => short_some (h.all f hf).1) (fun f hf => ⟨(h.all f hf).1, hp f hf⟩)
theorem GoodF.names {l : List Fld} (h : GoodF l) : ∀ f ∈ l, okB f.v = true ∧ f.name.size < 256 := fun f hf => ⟨(h.all f hf).2, by have := short_size (h.all f hf).1; omega⟩

/-- Fields put in one by one; a code, if one of them can't be. -/
def foldD : List Fld → List Fld → Except Int (List Fld)
  | acc, [] => .ok acc
  | acc, f :: r => if shortB f.name = false then .error 11 else if okB f.v = false then .error 1 else if hasN f.name acc = true then .error 12 else foldD (insL acc (pN f.name acc) f) r
theorem foldD_end (acc l : List Fld) (k : Nat) (h : l.length ≤ k) : foldD acc (l.drop k) = .ok acc := by rw [List.drop_of_length_le h]; rfl
theorem foldD_name (acc l : List Fld) (k : Nat) (hk : k < l.length) (h : shortB l[k].name = false) : foldD acc (l.drop k) = .error 11 := by
  rw [List.drop_eq_getElem_cons hk, foldD, if_pos h]
theorem foldD_bad (acc l : List Fld) (k : Nat) (hk : k < l.length) (h : shortB l[k].name = true) (h1 : okB l[k].v = false) : foldD acc (l.drop k) = .error 1 := by
  rw [List.drop_eq_getElem_cons hk, foldD, if_neg (by simp [h]), if_pos h1]
theorem foldD_twice (acc l : List Fld) (k : Nat) (hk : k < l.length) (h : shortB l[k].name = true) (h1 : okB l[k].v = true) (h2 : hasN l[k].name acc = true) : foldD acc (l.drop k) = .error 12 := by
  rw [List.drop_eq_getElem_cons hk, foldD, if_neg (by simp [h]), if_neg (by simp [h1]), if_pos h2]
theorem foldD_next (acc l : List Fld) (k i : Nat) (hk : k < l.length) (h : shortB l[k].name = true) (h1 : okB l[k].v = true) (hr : Rise acc) (hp : Place acc l[k].name i false) : foldD acc (l.drop k) = foldD (insL acc i l[k]) (l.drop (k + 1)) := by
  rw [List.drop_eq_getElem_cons hk, foldD, if_neg (by simp [h]), if_neg (by simp [h1]), if_neg (by simp [hp.has hr]), hp.pos]

/-- What is answered of a made document that is made of right fields. -/
def fitD (l : List Fld) : Val × Int :=
  if 300 < (encFL l).length then (zv, 10)
  else if 4 < dF (depthV 5) l then (zv, 9)
  else (⟨5, 0, txt (encFL l)⟩, 0)
def foldP : Except Int (List Fld) → Val × Int
  | .error c => (zv, c)
  | .ok s => fitD s
/-- What a call that makes a document answers: a value, and a code. -/
def madeP (l : List Fld) : Val × Int :=
  if 4096 < l.length then (zv, 2)
  else if 300 < l.length then (zv, 10)
  else foldP (foldD [] l)
theorem madeP_long (l : List Fld) (h : 4096 < l.length) : madeP l = (zv, 2) := by unfold madeP; rw [if_pos h]
theorem madeP_many (l : List Fld) (h : ¬ 4096 < l.length) (h2 : 300 < l.length) : madeP l = (zv, 10) := by unfold madeP; rw [if_neg h, if_pos h2]
theorem madeP_few (l : List Fld) (h2 : ¬ 300 < l.length) : madeP l = foldP (foldD [] l) := by unfold madeP; rw [if_neg (by omega), if_neg h2]
theorem fitD_size (l : List Fld) (h : 300 < (encFL l).length) : fitD l = (zv, 10) := by unfold fitD; rw [if_pos h]
theorem fitD_deep (l : List Fld) (h : ¬ 300 < (encFL l).length) (h2 : 4 < dF (depthV 5) l) : fitD l = (zv, 9) := by unfold fitD; rw [if_neg h, if_pos h2]
theorem fitD_ok (l : List Fld) (h : ¬ 300 < (encFL l).length) (h2 : ¬ 4 < dF (depthV 5) l) : fitD l = (⟨5, 0, txt (encFL l)⟩, 0) := by unfold fitD; rw [if_neg h, if_neg h2]
theorem madeD_ok (l : List Fld) (hg : GoodF l) (h : ¬ 300 < (encFL l).length) : okB ⟨5, 0, txt (encFL l)⟩ = decide (dF (depthV 5) l ≤ 4) :=
  doc_made l (fun f hf => (hg.all f hf).2) (hg.riseAll _ (fun _ _ => rfl)) (by unfold encFL at h; omega)
theorem madeD_fits (l : List Fld) (hg : GoodF l) (h : ¬ 300 < (encFL l).length) : fits 6 ⟨5, 0, txt (encFL l)⟩ = true ∧ depthV 6 ⟨5, 0, txt (encFL l)⟩ = dF (depthV 5) l + 1 := by
  have hi : fields (txt (encFL l)) = some l := fields_enc l hg.names
  constructor
  · rw [fits_doc 5 _ rfl]
    show (decide ((0 : Int) = 0 ∧ (txt (encFL l)).size ≤ 300) && fieldsAll (fits 5) em (fields (txt (encFL l)))) = true
    rw [hi, Bool.and_eq_true, decide_eq_true_eq]
    exact ⟨⟨rfl, by rw [txt_size]; omega⟩, hg.riseAll _ (fun f hf => (hg.all f hf).2)⟩
  · exact depthV_doc 5 _ l rfl hi

end Go.Proofs.YtkeghknceccdmaaGreatDoor
