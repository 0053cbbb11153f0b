/- Rows whose elements hold rows of their own, each in blocks of its own: what a change in one of them leaves. -/
import Derived.Test.YtcggkeleaepebaaGreatDoorDnsRQ
import Derived.Test.YtcggkeleaepebaaGreatDoorTrMQ
import Derived.Deep.RegionHeld3
namespace Go.Proofs.YtcggkeleaepebaaGreatDoor.Hx
open Go.RowKit Tr Co Rea Ce
set_option linter.unusedVariables false

/-- What an element is: in a world, with blocks of its own from one number on, below another, by its cells. -/
abbrev ElP (α : Type) := World → Nat → Nat → List Value → α → Prop
/-- It hangs on nothing but its own blocks. -/
def Fr {α : Type} (E : ElP α) : Prop := ∀ (w w' : World) (a b : Nat) (cs : List Value) (x : α), E w a b cs x → (∀ k, a ≤ k → k < b → k < w.heap.size → w'.heap[k]? = w.heap[k]?) → E w' a b cs x
def RowH {α : Type} (E : ElP α) (T : TypeId) (sz : Nat) (w : World) (lo hi : Nat) (v : Value) (l : List α) : Prop :=
  ∃ (xs : List Value) (A B : Nat → Nat), w.ownsRow lo T sz v l.length xs ∧ (∀ g, v.ownBlock = some g → g < hi) ∧
    (∀ i (h : i < l.length), lo ≤ A i ∧ A i ≤ B i ∧ B i ≤ hi ∧ (∀ g, v.ownBlock = some g → g < A i ∨ B i ≤ g) ∧ E w (A i) (B i) ((xs.drop (i * sz)).take sz) l[i]) ∧
    ∀ i j, i < j → j < l.length → B i ≤ A j

theorem owns_same {w w' : World} {base : Nat} {e : TypeId} {size : Nat} {v : Value} {n : Nat} {xs : List Value} (ho : w.ownsRow base e size v n xs) (h : ∀ g, v.ownBlock = some g → w'.heap[g]? = w.heap[g]?) : w'.ownsRow base e size v n xs := by
  obtain ⟨h1, h2⟩ := ho
  refine ⟨h1, ?_⟩
  rcases h2 with h2 | ⟨g, cap, cur, hv, hg, hh, r⟩
  · exact .inl h2
  · exact .inr ⟨g, cap, cur, hv, hg, by rw [h g (by rw [hv]; rfl)]; exact hh, r⟩
theorem owns_low {w : World} {base base' : Nat} {e : TypeId} {size : Nat} {v : Value} {n : Nat} {xs : List Value} (h : w.ownsRow base e size v n xs) (hb : base' ≤ base) : w.ownsRow base' e size v n xs := by
  obtain ⟨h1, h2⟩ := h
  refine ⟨h1, ?_⟩
  rcases h2 with h2 | ⟨g, cap, cur, hv, hg, r⟩
  · exact .inl h2
  · exact .inr ⟨g, cap, cur, hv, Nat.le_trans hb hg, r⟩
theorem owns_up {w : World} {base base' : Nat} {e : TypeId} {size : Nat} {v : Value} {n : Nat} {xs : List Value} (h : w.ownsRow base e size v n xs) (hb : ∀ g, v.ownBlock = some g → base' ≤ g) : w.ownsRow base' e size v n xs := by
  obtain ⟨h1, h2⟩ := h
  refine ⟨h1, ?_⟩
  rcases h2 with h2 | ⟨g, cap, cur, hv, hg, r⟩
  · exact .inl h2
  · exact .inr ⟨g, cap, cur, hv, hb g (by rw [hv]; rfl), r⟩

theorem RowH.nil {α : Type} (E : ElP α) (T : TypeId) (sz : Nat) (w : World) (lo hi : Nat) : RowH E T sz w lo hi (.slice none 0 0) [] := by
  refine ⟨[], fun _ => 0, fun _ => 0, ⟨by simp, .inl ⟨rfl, rfl⟩⟩, ?_, ?_, ?_⟩
  · intro g h
    simp [Value.ownBlock] at h
  · intro i h
    simp at h
  · intro i j _ h
    simp at h
theorem RowH.same {α : Type} {E : ElP α} (hE : Fr E) {T : TypeId} {sz : Nat} {w w' : World} {lo hi : Nat} {v : Value} {l : List α} (h : RowH E T sz w lo hi v l) (hk : ∀ k, lo ≤ k → k < hi → k < w.heap.size → w'.heap[k]? = w.heap[k]?) : RowH E T sz w' lo hi v l := by
  obtain ⟨xs, A, B, ho, hg, he, hd⟩ := h
  refine ⟨xs, A, B, owns_same ho (fun g e => hk g (ho.lt g e).1 (hg g e) (ho.lt g e).2), hg, fun i hi' => ?_, hd⟩
  obtain ⟨h1, h2, h3, h4, h5⟩ := he i hi'
  exact ⟨h1, h2, h3, h4, hE _ _ _ _ _ _ h5 (fun k ha hb hs => hk k (by omega) (by omega) hs)⟩
theorem RowH.next {α : Type} {E : ElP α} (hE : Fr E) {T : TypeId} {sz : Nat} {w w' : World} {lo hi : Nat} {v : Value} {l : List α} (h : RowH E T sz w lo hi v l) (hb : Below w.heap.size w w') : RowH E T sz w' lo hi v l :=
  h.same hE (fun k _ _ hs => hb.block k hs)
theorem RowH.wide {α : Type} {E : ElP α} {T : TypeId} {sz : Nat} {w : World} {lo hi lo' hi' : Nat} {v : Value} {l : List α} (h : RowH E T sz w lo hi v l) (h1 : lo' ≤ lo) (h2 : hi ≤ hi') : RowH E T sz w lo' hi' v l := by
  obtain ⟨xs, A, B, ho, hg, he, hd⟩ := h
  refine ⟨xs, A, B, owns_low ho h1, fun g e => by have := hg g e; omega, fun i hi' => ?_, hd⟩
  obtain ⟨e1, e2, e3, e4, e5⟩ := he i hi'
  exact ⟨by omega, e2, by omega, e4, e5⟩
theorem RowH.owns {α : Type} {E : ElP α} {T : TypeId} {sz : Nat} {w : World} {lo hi : Nat} {v : Value} {l : List α} (h : RowH E T sz w lo hi v l) : ∃ xs, w.ownsRow lo T sz v l.length xs := by
  obtain ⟨xs, A, B, ho, _⟩ := h
  exact ⟨xs, ho⟩
theorem RowH.form {α : Type} {E : ElP α} {T : TypeId} {sz : Nat} {w : World} {lo hi : Nat} {v : Value} {l : List α} (h : RowH E T sz w lo hi v l) : (v = .slice none 0 0 ∧ l = []) ∨ ∃ g c, v = .slice (some ⟨g, 0, none⟩) l.length c ∧ lo ≤ g ∧ g < hi ∧ g < w.heap.size := by
  obtain ⟨xs, A, B, ho, hg, _⟩ := h
  have hlt := ho.lt
  rcases ho.2 with ⟨h2, h3⟩ | ⟨g, c, cur, hv, hg2, _⟩
  · exact .inl ⟨h2, List.length_eq_zero_iff.1 h3⟩
  · have e : v.ownBlock = some g := by rw [hv]; rfl
    exact .inr ⟨g, c, hv, hg2, hg g e, (hlt g e).2⟩

/-- A cut of a list where one cell is set. -/
theorem cut_set (xs : List Value) (i sz o : Nat) (u : Value) (ho : o < sz) : ((xs.set (i * sz + o) u).drop (i * sz)).take sz = ((xs.drop (i * sz)).take sz).set o u := by
  apply List.ext_getElem?
  intro j
  simp only [List.getElem?_take, List.getElem?_drop, List.getElem?_set, List.length_take, List.length_drop]
  by_cases hj : j < sz
  · simp only [hj, if_true]
    by_cases e : o = j
    · subst e
      simp
      by_cases hl : i * sz + o < xs.length
      · simp [hl]; omega
      · simp [hl]; omega
    · rw [if_neg (by omega), if_neg e]
  · simp only [hj, if_false]
    rw [if_neg (by omega)]
theorem cut_other (xs : List Value) (i j sz o : Nat) (u : Value) (ho : o < sz) (hij : i ≠ j) : ((xs.set (i * sz + o) u).drop (j * sz)).take sz = (xs.drop (j * sz)).take sz := by
  apply List.ext_getElem?
  intro m
  simp only [List.getElem?_take, List.getElem?_drop, List.getElem?_set]
  by_cases hm : m < sz
  · simp only [hm, if_true]
    rw [if_neg]
    intro e
    rcases Nat.lt_or_gt_of_ne hij with h | h
    · have : (i + 1) * sz ≤ j * sz := Nat.mul_le_mul_right _ h
      rw [Nat.add_mul, Nat.one_mul] at this
      omega
    · have : (j + 1) * sz ≤ i * sz := Nat.mul_le_mul_right _ h
      rw [Nat.add_mul, Nat.one_mul] at this
      omega
  · simp only [hm, if_false]
theorem cut_app (xs cs : List Value) (n i sz : Nat) (hx : xs.length = n * sz) (h : i < n) : ((xs ++ cs).drop (i * sz)).take sz = (xs.drop (i * sz)).take sz := by
  have : (i + 1) * sz ≤ n * sz := Nat.mul_le_mul_right _ h
  rw [Nat.add_mul, Nat.one_mul] at this
  rw [List.drop_append_of_le_length (by omega), List.take_append_of_le_length (by rw [List.length_drop]; omega)]
theorem cut_last (xs cs : List Value) (n sz : Nat) (hx : xs.length = n * sz) (hc : cs.length = sz) : ((xs ++ cs).drop (n * sz)).take sz = cs := by
  rw [List.drop_append_of_le_length (by omega), List.drop_of_length_le (by omega), List.nil_append, List.take_of_length_le (by omega)]

/-- One element, with what may become of it. -/
structure One {α : Type} (E : ElP α) (T : TypeId) (sz : Nat) (w : World) (lo hi : Nat) (v : Value) (l : List α) (i g a b : Nat) (cs : List Value) (x : α) : Prop where
  blk : v.ownBlock = some g
  ge : lo ≤ g
  lt : g < hi
  dom : g < w.heap.size
  la : lo ≤ a
  ab : a ≤ b
  bh : b ≤ hi
  out : g < a ∨ b ≤ g
  len : cs.length = sz
  there : ∀ o, o < sz → w.cell? ⟨g, i * sz + o, none⟩ = cs[o]?
  soft : ∀ o, w.frozen? ⟨g, o, none⟩ = false
  el : E w a b cs x
  /-- Its own blocks change. -/
  upd : ∀ (w' : World) (x' : α), Chg a b w w' → E w' a b cs x' → RowH E T sz w' lo hi v (l.set i x')
  /-- One of its cells is set. -/
  put : ∀ (o : Nat) (u : Value) (x' : α), o < sz → E (w.setCell ⟨g, i * sz + o, none⟩ u) a b (cs.set o u) x' → RowH E T sz (w.setCell ⟨g, i * sz + o, none⟩ u) lo hi v (l.set i x')

theorem RowH.one {α : Type} {E : ElP α} (hE : Fr E) {T : TypeId} {sz : Nat} {w : World} {lo hi : Nat} {v : Value} {l : List α} (h : RowH E T sz w lo hi v l) (i : Nat) (hi' : i < l.length) : ∃ g a b cs, One E T sz w lo hi v l i g a b cs l[i] := by
  obtain ⟨xs, A, B, ho, hg, he, hd⟩ := h
  obtain ⟨e1, e2, e3, e4, e5⟩ := he i hi'
  have hlt := ho.lt
  have ho' := ho
  rcases ho.2 with ⟨_, h3⟩ | ⟨g, cap, cur, hv, hgb, hh, hn, hm, hcs, htk⟩
  · omega
  have hbl : v.ownBlock = some g := by rw [hv]; rfl
  have hxl : xs.length = l.length * sz := ho.1
  have hcut : (i + 1) * sz ≤ l.length * sz := Nat.mul_le_mul_right _ hi'
  rw [Nat.add_mul, Nat.one_mul] at hcut
  subst hv
  refine ⟨g, A i, B i, (xs.drop (i * sz)).take sz, hbl, hgb, hg g hbl, (hlt g hbl).2, e1, e2, e3, e4 g hbl, by rw [List.length_take, List.length_drop]; omega, ?_, ?_, e5, ?_, ?_⟩
  · intro o hos
    have hi2 : i * sz + o < xs.length := by omega
    rw [List.getElem?_take, if_pos hos, List.getElem?_drop]
    have := owns_cell ho' (i * sz + o) xs[i * sz + o] (List.getElem?_eq_getElem hi2)
    rw [this, List.getElem?_eq_getElem hi2]
  · intro o
    simp [World.frozen?, hh]
  · intro w' x' hc hx'
    have hgo : w'.heap[g]? = w.heap[g]? := hc.block g (hlt g hbl).2 (e4 g hbl)
    refine ⟨xs, A, B, ?_, hg, ?_, fun p q hpq hq => hd p q hpq (by rw [List.length_set] at hq; exact hq)⟩
    · rw [List.length_set]
      exact owns_same ho' (fun g' e => by obtain rfl : g = g' := Option.some.inj e; exact hgo)
    · intro j hj
      rw [List.length_set] at hj
      obtain ⟨f1, f2, f3, f4, f5⟩ := he j hj
      refine ⟨f1, f2, f3, f4, ?_⟩
      by_cases e : i = j
      · subst e; rw [List.getElem_set_self]; exact hx'
      · rw [List.getElem_set_ne e]
        refine hE _ _ _ _ _ _ f5 (fun k ha hb hs => hc.block k hs ?_)
        rcases Nat.lt_or_gt_of_ne e with h | h
        · have := hd i j h hj; omega
        · have := hd j i h hi'; omega
  · intro o u x' hos hx'
    have hst := (World.ownsRow.stored (w := w) (base := lo) (e := T) (size := sz) (g := g) (cap := cap) ho' (i * sz + o) u).1
    have hgr : w.grownBy (w.setCell ⟨g, i * sz + o, none⟩ u) (some g) := grown_set
    refine ⟨xs.set (i * sz + o) u, A, B, by rw [List.length_set]; exact hst, hg, ?_, fun p q hpq hq => hd p q hpq (by rw [List.length_set] at hq; exact hq)⟩
    intro j hj
    rw [List.length_set] at hj
    obtain ⟨f1, f2, f3, f4, f5⟩ := he j hj
    refine ⟨f1, f2, f3, f4, ?_⟩
    by_cases e : i = j
    · subst e; rw [List.getElem_set_self, cut_set _ _ _ _ _ hos]; exact hx'
    · rw [List.getElem_set_ne e, cut_other _ _ _ _ _ _ hos e]
      refine hE _ _ _ _ _ _ f5 (fun k ha hb hs => hgr.block k hs (fun e' => ?_))
      obtain rfl : k = g := Option.some.inj e'
      have := f4 k hbl
      omega

/-- One element more. -/
theorem RowH.snoc {α : Type} {E : ElP α} (hE : Fr E) {T : TypeId} {sz : Nat} {w : World} {lo hi : Nat} {v : Value} {l : List α} (h : RowH E T sz w lo hi v l) : ∃ xs, w.ownsRow lo T sz v l.length xs ∧
    ∀ (w' : World) (a b hi' : Nat) (cs : List Value) (x : α) (v' : Value), hi ≤ a → lo ≤ a → a ≤ b → b ≤ hi' → b ≤ w.heap.size → E w a b cs x → cs.length = sz → w'.ownsRow lo T sz v' (l.length + 1) (xs ++ cs) → (∀ k, k < w.heap.size → some k ≠ v.ownBlock → w'.heap[k]? = w.heap[k]?) → (v'.ownBlock = v.ownBlock ∨ ∃ g, v'.ownBlock = some g ∧ w.heap.size ≤ g) → (∀ g, v'.ownBlock = some g → g < hi') → RowH E T sz w' lo hi' v' (l ++ [x]) := by
  obtain ⟨xs, A, B, ho, hg, he, hd⟩ := h
  refine ⟨xs, ho, ?_⟩
  intro w' a b hi' cs x v' h1 h2 h3 h4 hbs hx hcs ho' hk hat hg'
  have hxl := ho.1
  have hfar : ∀ g, v'.ownBlock = some g → g < hi ∨ b ≤ g := by
    intro g e
    rcases hat with e' | ⟨g', e', hle⟩
    · exact .inl (hg g (e'.symm.trans e))
    · rw [e'] at e
      obtain rfl := Option.some.inj e
      exact .inr (by omega)
  refine ⟨xs ++ cs, fun i => if i < l.length then A i else a, fun i => if i < l.length then B i else b, by rw [List.length_append, List.length_singleton]; exact ho', hg', ?_, ?_⟩
  · intro i hi2
    rw [List.length_append, List.length_singleton] at hi2
    by_cases hlt : i < l.length
    · obtain ⟨f1, f2, f3, f4, f5⟩ := he i hlt
      simp only [if_pos hlt]
      refine ⟨f1, f2, by omega, ?_, ?_⟩
      · intro g e
        rcases hat with e' | ⟨g', e', hle⟩
        · exact f4 g (e'.symm.trans e)
        · rw [e'] at e
          obtain rfl := Option.some.inj e
          exact .inr (by omega)
      · rw [List.getElem_append_left hlt, cut_app xs cs l.length i sz hxl hlt]
        refine hE _ _ _ _ _ _ f5 (fun k ha hb hs => hk k hs (fun e => ?_))
        have := f4 k e.symm
        omega
    · obtain rfl : i = l.length := by omega
      simp only [if_neg hlt]
      refine ⟨h2, h3, h4, fun g e => by have := hfar g e; omega, ?_⟩
      rw [List.getElem_append_right (Nat.le_refl _), cut_last xs cs l.length sz hxl hcs]
      simp only [Nat.sub_self, List.getElem_cons_zero]
      exact hE _ _ _ _ _ _ hx (fun k ha hb hs => hk k hs (fun e => by have := hg k e.symm; omega))
  · intro i j hij hj
    rw [List.length_append, List.length_singleton] at hj
    by_cases hlt : j < l.length
    · simp only [if_pos hlt, if_pos (show i < l.length by omega)]
      exact hd i j hij hlt
    · simp only [if_neg hlt, if_pos (show i < l.length by omega)]
      have := (he i (by omega)).2.2.1
      omega

/-- Marks on the elements of a list, one behind the other. -/
def mkL {α : Type} (sz : α → Nat) (mk : Nat → α → α) : Nat → List α → List α
  | _, [] => []
  | q, x :: t => mk q x :: mkL sz mk (q + sz x) t
theorem mkL_len {α : Type} (sz : α → Nat) (mk : Nat → α → α) : ∀ (q : Nat) (l : List α), (mkL sz mk q l).length = l.length
  | _, [] => rfl
  | q, x :: t => by rw [mkL, List.length_cons, mkL_len sz mk, List.length_cons]
theorem mkL_get {α : Type} (sz : α → Nat) (mk : Nat → α → α) : ∀ (q : Nat) (l : List α) (k : Nat) (h : k < l.length), (mkL sz mk q l)[k]? = some (mk (q + sumN sz (l.take k)) l[k])
  | _, [], k, h => by simp at h
  | q, x :: t, 0, h => by simp [mkL, sumN]
  | q, x :: t, k + 1, h => by
    have := mkL_get sz mk (q + sz x) t k (by simpa using h)
    rw [mkL, List.getElem?_cons_succ, this, List.take_succ_cons, sumN_cons, List.getElem_cons_succ, Nat.add_assoc]
theorem mkL_get' {α : Type} (sz : α → Nat) (mk : Nat → α → α) (q : Nat) (l : List α) (k : Nat) (h : k < (mkL sz mk q l).length) (h' : k < l.length) : (mkL sz mk q l)[k] = mk (q + sumN sz (l.take k)) l[k] := by
  have := mkL_get sz mk q l k h'
  rw [List.getElem?_eq_getElem h] at this
  exact Option.some.inj this
def mixL {α : Type} (sz : α → Nat) (mk : Nat → α → α) (q : Nat) (l : List α) (k : Nat) : List α := (mkL sz mk q l).take k ++ l.drop k
theorem mixL_len {α : Type} (sz : α → Nat) (mk : Nat → α → α) (q : Nat) (l : List α) (k : Nat) (h : k ≤ l.length) : (mixL sz mk q l k).length = l.length := by
  unfold mixL; rw [List.length_append, List.length_take, List.length_drop, mkL_len]; omega
theorem mixL_zero {α : Type} (sz : α → Nat) (mk : Nat → α → α) (q : Nat) (l : List α) : mixL sz mk q l 0 = l := by simp [mixL]
theorem mixL_full {α : Type} (sz : α → Nat) (mk : Nat → α → α) (q : Nat) (l : List α) : mixL sz mk q l l.length = mkL sz mk q l := by
  unfold mixL; rw [List.drop_length, List.append_nil, List.take_of_length_le (by rw [mkL_len]; exact Nat.le_refl _)]
theorem mixL_get {α : Type} (sz : α → Nat) (mk : Nat → α → α) (q : Nat) (l : List α) (k : Nat) (h : k < l.length) : (mixL sz mk q l k)[k]? = some l[k] := by
  unfold mixL
  rw [List.getElem?_append_right (by rw [List.length_take, mkL_len]; omega), List.length_take, mkL_len, List.getElem?_drop, List.getElem?_eq_getElem (by omega)]
  congr 1
  simp only [show k + (k - min k l.length) = k by omega]
theorem mixL_set {α : Type} (sz : α → Nat) (mk : Nat → α → α) (q : Nat) (l : List α) (k : Nat) (h : k < l.length) : (mixL sz mk q l k).set k (mk (q + sumN sz (l.take k)) l[k]) = mixL sz mk q l (k + 1) := by
  unfold mixL
  rw [List.set_append_right _ _ (by rw [List.length_take, mkL_len]; omega), List.length_take, mkL_len, show k - min k l.length = 0 by omega, List.take_succ_eq_append_getElem (by rw [mkL_len]; exact h), List.append_assoc, mkL_get' sz mk q l k (by rw [mkL_len]; exact h) h, List.drop_eq_getElem_cons h]
  rfl

end Go.Proofs.YtcggkeleaepebaaGreatDoor.Hx

/- Terms, clauses, reads, changes, committed ones, each with rows in blocks of its own; what marks make of them. -/
namespace Go.Proofs.YtcggkeleaepebaaGreatDoor.Hx
open Go.RowKit Tr Co Rea Ce Ty
set_option linter.unusedVariables false

def ElT : ElP Trm := fun _ _ _ cs t => cs = rowT t
def ElG : ElP Cgr := fun _ _ _ cs x => cs = rowCg x
theorem frT : Fr ElT := fun _ _ _ _ _ _ h _ => h
theorem frG : Fr ElG := fun _ _ _ _ _ _ h _ => h
abbrev RowTH := RowH ElT 144 5
abbrev RowGH := RowH ElG 86 10
def ElC : ElP (List Trm) := fun w a b cs l => ∃ v, cs = [v] ∧ RowTH w a b v l
theorem frC : Fr ElC := fun w w' a b cs l h hk => by
  obtain ⟨v, rfl, hv⟩ := h
  exact ⟨v, rfl, hv.same frT hk⟩
abbrev RowCH := RowH ElC 109 1
def ElR : ElP Rdg := fun w a b cs x => ∃ v, cs = [.string x.coll, v] ∧ RowCH w a b v x.f
theorem frR : Fr ElR := fun w w' a b cs x h hk => by
  obtain ⟨v, rfl, hv⟩ := h
  exact ⟨v, rfl, hv.same frC hk⟩
abbrev RowRH := RowH ElR 80 2
def ElD : ElP Dn := fun w a b cs x => ∃ v1 v2 a1 b1 a2 b2, cs = [.int .i64 x.sn, .int .i64 x.at_, v1, v2, .bool x.di, .bool x.do_] ∧ (a ≤ a1 ∧ b1 ≤ b ∧ a ≤ a2 ∧ b2 ≤ b ∧ (b1 ≤ a2 ∨ b2 ≤ a1)) ∧ RowRH w a1 b1 v1 x.rs ∧ RowGH w a2 b2 v2 x.cs
theorem frD : Fr ElD := fun w w' a b cs x h hk => by
  obtain ⟨v1, v2, a1, b1, a2, b2, rfl, hp, h1, h2⟩ := h
  exact ⟨v1, v2, a1, b1, a2, b2, rfl, hp, h1.same frR (fun k q1 q2 q3 => hk k (by omega) (by omega) q3), h2.same frG (fun k q1 q2 q3 => hk k (by omega) (by omega) q3)⟩
abbrev RowDH := RowH ElD 36 6

theorem chg_wide {lo hi lo' hi' : Nat} {w w' : World} (h : Chg lo hi w w') (h1 : lo' ≤ lo) (h2 : hi ≤ hi') : Chg lo' hi' w w' := ⟨h.os, h.tape, h.output, h.size, fun k hk ho => h.block k hk (by omega)⟩
theorem chg_set {lo hi g o : Nat} (w : World) (v : Value) (h1 : lo ≤ g) (h2 : g < hi) : Chg lo hi w (w.setCell ⟨g, o, none⟩ v) :=
  have hg : w.grownBy (w.setCell ⟨g, o, none⟩ v) (some g) := grown_set
  Chg.of_grown hg (fun b e => by obtain rfl : g = b := Option.some.inj e; exact ⟨h1, h2⟩)
/-- The element that stands at a place, whatever it has become. -/
structure Cur {α : Type} (E : ElP α) (T : TypeId) (sz : Nat) (w : World) (lo hi : Nat) (v : Value) (L : List α) (k g a b : Nat) (cs : List Value) (x : α) : Prop where
  ge : lo ≤ g
  lt : g < hi
  dom : g < w.heap.size
  la : lo ≤ a
  bh : b ≤ hi
  out : g < a ∨ b ≤ g
  len : cs.length = sz
  there : ∀ o, o < sz → w.cell? ⟨g, k * sz + o, none⟩ = cs[o]?
  soft : ∀ o, w.frozen? ⟨g, o, none⟩ = false
  el : E w a b cs x
  upd : ∀ (w' : World) (x' : α), Chg a b w w' → E w' a b cs x' → RowH E T sz w' lo hi v (L.set k x')
  put : ∀ (o : Nat) (u : Value) (x' : α), o < sz → E (w.setCell ⟨g, k * sz + o, none⟩ u) a b (cs.set o u) x' → RowH E T sz (w.setCell ⟨g, k * sz + o, none⟩ u) lo hi v (L.set k x')
theorem RowH.cur {α : Type} {E : ElP α} (hE : Fr E) {T : TypeId} {sz : Nat} {w : World} {lo hi g n c : Nat} {L : List α} {k : Nat} {x : α} (h : RowH E T sz w lo hi (.slice (some ⟨g, 0, none⟩) n c) (L.set k x)) (hk : k < L.length) : ∃ a b cs, Cur E T sz w lo hi (.slice (some ⟨g, 0, none⟩) n c) L k g a b cs x := by
  obtain ⟨g', a, b, cs, O⟩ := h.one hE k (by rw [List.length_set]; exact hk)
  obtain rfl : g = g' := by simpa [Value.ownBlock] using O.blk
  rw [List.getElem_set_self] at O
  exact ⟨a, b, cs, O.ge, O.lt, O.dom, O.la, O.bh, O.out, O.len, O.there, O.soft, O.el, fun w' x' h1 h2 => by have := O.upd w' x' h1 h2; rwa [List.set_set] at this, fun o u x' h1 h2 => by have := O.put o u x' h1 h2; rwa [List.set_set] at this⟩
theorem RowH.fresh {α : Type} {E : ElP α} {T : TypeId} {sz : Nat} {w : World} {lo hi : Nat} {v : Value} {L : List α} {k : Nat} (h : RowH E T sz w lo hi v L) (hk : k < L.length) : RowH E T sz w lo hi v (L.set k L[k]) := by
  rw [List.set_getElem_self]; exact h
/-- Behind a store into a block that lies elsewhere. -/
theorem RowH.off {α : Type} {E : ElP α} (hE : Fr E) {T : TypeId} {sz : Nat} {w : World} {lo hi : Nat} {v : Value} {l : List α} (h : RowH E T sz w lo hi v l) {g o : Nat} (u : Value) (hg : g < lo ∨ hi ≤ g) : RowH E T sz (w.setCell ⟨g, o, none⟩ u) lo hi v l :=
  have hgr : w.grownBy (w.setCell ⟨g, o, none⟩ u) (some g) := grown_set
  h.same hE (fun k h1 h2 h3 => hgr.block k h3 (fun e => by obtain rfl : k = g := Option.some.inj e; omega))

theorem cell_beside {W : World} {g o p : Nat} {v : Value} (h : p ≠ o) : (W.setCell ⟨g, o, none⟩ v).cell? ⟨g, p, none⟩ = W.cell? ⟨g, p, none⟩ := by
  simp only [World.cell?, World.setCell, Array.getElem?_modify]
  cases hx : W.heap[g]? with
  | none => simp
  | some x => cases x <;> simp [h.symm]
theorem beside_eq {W : World} {g o p : Nat} {u x y : Value} (h : p ≠ o) (h1 : (W.setCell ⟨g, o, none⟩ u).cell? ⟨g, p, none⟩ = some x) (h2 : W.cell? ⟨g, p, none⟩ = some y) : x = y := by
  rw [cell_beside h] at h1
  exact Option.some.inj (h1.symm.trans h2)
def szTm : Trm → Nat := fun _ => 5
def szCgr : Cgr → Nat := fun _ => 10
def szCl : List Trm → Nat := fun l => 5 * l.length
def szRdg : Rdg → Nat := fun x => 1 + mkC x.f
def szDnn : Dn → Nat := fun x => 4 + mkR x.rs + 10 * x.cs.length
def mkTm (q : Nat) (_ : Trm) : Trm := ⟨(q : Int), Tr.mt (q + 1), ⟨(q : Int) + 1 + 1, (q : Int) + 1 + 1 + 1, Tr.mt (q + 4)⟩⟩
def mkCgr (q : Nat) (_ : Cgr) : Cgr := ⟨⟨Tr.mt q, (q : Int) + 1, boolK ((q : Int) + 1 + 1), ⟨(q : Int) + 1 + 1 + 1, (q : Int) + 1 + 1 + 1 + 1, Tr.mt (q + 5)⟩⟩, ⟨(q : Int) + 1 + 1 + 1 + 1 + 1 + 1, (q : Int) + 1 + 1 + 1 + 1 + 1 + 1 + 1, Tr.mt (q + 8)⟩, boolK ((q : Int) + 1 + 1 + 1 + 1 + 1 + 1 + 1 + 1 + 1)⟩
def mkCl (q : Nat) (l : List Trm) : List Trm := mkL szTm mkTm q l
def mkRdg (q : Nat) (x : Rdg) : Rdg := ⟨Tr.mt q, mkL szCl mkCl (q + 1) x.f⟩
def mkDnn (q : Nat) (x : Dn) : Dn := ⟨(q : Int), (q : Int) + 1, mkL szRdg mkRdg (q + 2) x.rs, mkL szCgr mkCgr (q + 2 + mkR x.rs) x.cs, boolK ((q + 2 + mkR x.rs + 10 * x.cs.length : Nat) : Int), boolK (((q + 2 + mkR x.rs + 10 * x.cs.length : Nat) : Int) + 1)⟩
theorem sumN_tm (l : List Trm) : sumN szTm l = 5 * l.length := by
  induction l with
  | nil => rfl
  | cons a t ih => rw [sumN_cons, ih, List.length_cons]; unfold szTm; omega
theorem sumN_cg (l : List Cgr) : sumN szCgr l = 10 * l.length := by
  induction l with
  | nil => rfl
  | cons a t ih => rw [sumN_cons, ih, List.length_cons]; unfold szCgr; omega
theorem sumN_cl (f : List (List Trm)) : sumN szCl f = mkC f := rfl
theorem sumN_rd (rs : List Rdg) : sumN szRdg rs = mkR rs := rfl
theorem sumN_dn (ds : List Dn) : sumN szDnn ds = mkD ds := rfl

end Go.Proofs.YtcggkeleaepebaaGreatDoor.Hx

/- Marks on rows of terms and changes, exact: what the laws' helpers answer, and what the rows hold then. -/
namespace Go.Proofs.YtcggkeleaepebaaGreatDoor.Hx
open Go.RowKit Go.ChangeShapes Go.WideShapes Go.ChangeAt Go.Joins Tr Co Rea Ce Ty
set_option linter.unusedVariables false

set_option maxRecDepth 4000 in
set_option maxHeartbeats 4000000 in
theorem markTermS_h (lo hi : Nat) (v : Value) (l : List Trm) (q : Nat) (z : Int) (w : World) (hz : z = (q : Int)) (h : RowTH w lo hi v l) (h1 : 1 ≤ q) (h2 : q + sumN szTm l ≤ 17592186044416) (hl : l.length ≤ 1048576) :
    Calls Tryz.prog 91 #[v, .int .i64 z] w fun e w' => e = .returned (.int .i64 ((q + sumN szTm l : Nat) : Int)) ∧ RowTH w' lo hi v (mkL szTm mkTm q l) ∧ Chg lo hi w w' := by
  subst hz
  rcases h.form with ⟨rfl, rfl⟩ | ⟨g, c, rfl, hge, hgh, hgl⟩
  · have HO : Hid (RowTH _ _ _ _ _) := h
    clear h
    go_enter Tryz.func91, Tryz.ntmps91
    go_wp2_with fail
    refine wp_loop_rounds 1 ?_
    rw [rounds_succ]
    go_wp2_with fail
    go_ret
    exact ⟨rfl, HO.out, Chg.refl _ _ _⟩
  have HO0 : Hid (RowTH _ _ _ _ _) := h
  have HG : Hid (lo ≤ g ∧ g < hi) := ⟨hge, hgh⟩
  clear h hge hgh hgl
  go_enter Tryz.func91, Tryz.ntmps91
  go_wp2_with fail
  go_loopw [1, 5] (fun x i wr => ∃ (k E : Nat), k ≤ l.length ∧ i = .int .i64 k ∧ x = .int .i64 (E : Int) ∧ E = q + sumN szTm (l.take k) ∧ RowTH wr lo hi (.slice (some ⟨g, 0, none⟩) l.length c) (mixL szTm mkTm q l k) ∧ Chg lo hi w wr) (fun _ i _ => l.length - (intOf i).toNat)
  case atStart => exact ⟨0, q, Nat.zero_le _, rfl, rfl, by simp [sumN], by rw [mixL_zero]; exact HO0.out, Chg.refl _ _ _⟩
  case round =>
    obtain ⟨k, E, hk, rfl, rfl, hE, hR, hM⟩ := hrel
    clear HO0
    by_cases hlt : k < l.length
    · have hlt2 : (k : Int) < (l.length : Int) := by omega
      have hmx := mixL_len szTm mkTm q l k hk
      have hmg := mixL_get szTm mkTm q l k hlt
      have hms := mixL_set szTm mkTm q l k hlt
      have hone := sumN_one szTm l k hlt
      have hst := sumN_take szTm l k hlt
      rw [← hE] at hms
      have hR0 := hR.fresh (k := k) (by omega)
      rw [List.getElem?_eq_getElem (by omega)] at hmg
      rw [Option.some.inj hmg] at hR0
      obtain ⟨en, hen⟩ : ∃ en, en = l[k] := ⟨_, rfl⟩
      rw [← hen] at hms hone hst hR0
      obtain ⟨L, hL⟩ : ∃ L, L = mixL szTm mkTm q l k := ⟨_, rfl⟩
      rw [← hL] at hmx hms hR0
      have HKL : Hid (k < L.length) := by show k < L.length; omega
      have HMS : Hid (_ = _) := hms
      have HEQ : Hid (q + sumN szTm (l.take (k + 1)) = E + szTm en) := by show _ = _; rw [hst]; omega
      have hE1 : 1 ≤ E := by omega
      have hEb : E + szTm en ≤ 17592186044416 := by omega
      simp only [szTm] at hEb
      have HA0 : Hid (RowTH wr lo hi (.slice (some ⟨g, 0, none⟩) l.length c) (L.set k en)) := hR0
      have HD0 : Hid (Chg lo hi w wr) := hM
      clear hE hR hM hmx hmg hms hone hst hR0 hL hen
      obtain ⟨a0, b0, cs0, O0⟩ := (HA0.out).cur frT HKL.out
      obtain rfl := O0.el
      have y0 : wr.cell? ⟨g, k * 5, none⟩ = some _ := O0.there 0 (by decide)
      have f0 : wr.frozen? ⟨g, k * 5, none⟩ = false := O0.soft _
      have hgl0 := O0.dom
      have K0_0 : RowTH (wr.setCell ⟨g, k * 5, none⟩ (.int .i64 ((E : Int)))) lo hi (.slice (some ⟨g, 0, none⟩) l.length c) (L.set k ⟨((E : Int)), en.p, ⟨en.c.k, en.c.n, en.c.t⟩⟩) := O0.put 0 (.int .i64 ((E : Int))) ⟨((E : Int)), en.p, ⟨en.c.k, en.c.n, en.c.t⟩⟩ (by decide) rfl
      have HS0 : Hid (RowTH (wr.setCell ⟨g, k * 5, none⟩ (.int .i64 ((E : Int)))) lo hi (.slice (some ⟨g, 0, none⟩) l.length c) (L.set k ⟨((E : Int)), en.p, ⟨en.c.k, en.c.n, en.c.t⟩⟩)) := K0_0
      have HC0 : Hid (Chg lo hi w (wr.setCell ⟨g, k * 5, none⟩ (.int .i64 ((E : Int))))) := (HD0.out.trans (chg_set wr (.int .i64 ((E : Int))) HG.out.1 HG.out.2))
      clear O0 K0_0
      clear HA0 HD0
      go_wp2_with fail
      refine (mText_at (E + 1) _ (by omega) (by omega) (by omega) _).mono ?_
      rintro e w2 ⟨rfl, hb⟩
      have HA1 : Hid (RowTH w2 lo hi (.slice (some ⟨g, 0, none⟩) l.length c) (L.set k ⟨((E : Int)), en.p, ⟨en.c.k, en.c.n, en.c.t⟩⟩)) := RowH.next frT HS0.out hb
      have HD1 : Hid (Chg lo hi w w2) := HC0.out.trans (Chg.of_below hb)
      clear hb y0 f0 hgl0 HS0 HC0
      obtain ⟨a1, b1, cs1, O1⟩ := (HA1.out).cur frT HKL.out
      obtain rfl := O1.el
      have y1 : w2.cell? ⟨g, k * 5 + 1, none⟩ = some _ := O1.there 1 (by decide)
      have f1 : w2.frozen? ⟨g, k * 5 + 1, none⟩ = false := O1.soft _
      have y2 : w2.cell? ⟨g, k * 5 + 2, none⟩ = some _ := O1.there 2 (by decide)
      have f2 : w2.frozen? ⟨g, k * 5 + 2, none⟩ = false := O1.soft _
      have y3 : w2.cell? ⟨g, k * 5 + 3, none⟩ = some _ := O1.there 3 (by decide)
      have f3 : w2.frozen? ⟨g, k * 5 + 3, none⟩ = false := O1.soft _
      have hgl1 := O1.dom
      have K1_0 : RowTH (w2.setCell ⟨g, k * 5 + 1, none⟩ (.string (Tr.mt (E + 1)))) lo hi (.slice (some ⟨g, 0, none⟩) l.length c) (L.set k ⟨((E : Int)), (Tr.mt (E + 1)), ⟨en.c.k, en.c.n, en.c.t⟩⟩) := O1.put 1 (.string (Tr.mt (E + 1))) ⟨((E : Int)), (Tr.mt (E + 1)), ⟨en.c.k, en.c.n, en.c.t⟩⟩ (by decide) rfl
      obtain ⟨a1_0, b1_0, cs1_0, O1_0⟩ := K1_0.cur frT HKL.out
      obtain rfl := O1_0.el
      have K1_1 : RowTH ((w2.setCell ⟨g, k * 5 + 1, none⟩ (.string (Tr.mt (E + 1)))).setCell ⟨g, k * 5 + 2, none⟩ (.int .i64 ((E : Int) + 1 + 1))) lo hi (.slice (some ⟨g, 0, none⟩) l.length c) (L.set k ⟨((E : Int)), (Tr.mt (E + 1)), ⟨((E : Int) + 1 + 1), en.c.n, en.c.t⟩⟩) := O1_0.put 2 (.int .i64 ((E : Int) + 1 + 1)) ⟨((E : Int)), (Tr.mt (E + 1)), ⟨((E : Int) + 1 + 1), en.c.n, en.c.t⟩⟩ (by decide) rfl
      obtain ⟨a1_1, b1_1, cs1_1, O1_1⟩ := K1_1.cur frT HKL.out
      obtain rfl := O1_1.el
      have K1_2 : RowTH (((w2.setCell ⟨g, k * 5 + 1, none⟩ (.string (Tr.mt (E + 1)))).setCell ⟨g, k * 5 + 2, none⟩ (.int .i64 ((E : Int) + 1 + 1))).setCell ⟨g, k * 5 + 3, none⟩ (.int .i64 ((E : Int) + 1 + 1 + 1))) lo hi (.slice (some ⟨g, 0, none⟩) l.length c) (L.set k ⟨((E : Int)), (Tr.mt (E + 1)), ⟨((E : Int) + 1 + 1), ((E : Int) + 1 + 1 + 1), en.c.t⟩⟩) := O1_1.put 3 (.int .i64 ((E : Int) + 1 + 1 + 1)) ⟨((E : Int)), (Tr.mt (E + 1)), ⟨((E : Int) + 1 + 1), ((E : Int) + 1 + 1 + 1), en.c.t⟩⟩ (by decide) rfl
      have HS1 : Hid (RowTH (((w2.setCell ⟨g, k * 5 + 1, none⟩ (.string (Tr.mt (E + 1)))).setCell ⟨g, k * 5 + 2, none⟩ (.int .i64 ((E : Int) + 1 + 1))).setCell ⟨g, k * 5 + 3, none⟩ (.int .i64 ((E : Int) + 1 + 1 + 1))) lo hi (.slice (some ⟨g, 0, none⟩) l.length c) (L.set k ⟨((E : Int)), (Tr.mt (E + 1)), ⟨((E : Int) + 1 + 1), ((E : Int) + 1 + 1 + 1), en.c.t⟩⟩)) := K1_2
      have HC1 : Hid (Chg lo hi w (((w2.setCell ⟨g, k * 5 + 1, none⟩ (.string (Tr.mt (E + 1)))).setCell ⟨g, k * 5 + 2, none⟩ (.int .i64 ((E : Int) + 1 + 1))).setCell ⟨g, k * 5 + 3, none⟩ (.int .i64 ((E : Int) + 1 + 1 + 1)))) := (((HD1.out.trans (chg_set w2 (.string (Tr.mt (E + 1))) HG.out.1 HG.out.2)).trans (chg_set (w2.setCell ⟨g, k * 5 + 1, none⟩ (.string (Tr.mt (E + 1)))) (.int .i64 ((E : Int) + 1 + 1)) HG.out.1 HG.out.2)).trans (chg_set ((w2.setCell ⟨g, k * 5 + 1, none⟩ (.string (Tr.mt (E + 1)))).setCell ⟨g, k * 5 + 2, none⟩ (.int .i64 ((E : Int) + 1 + 1))) (.int .i64 ((E : Int) + 1 + 1 + 1)) HG.out.1 HG.out.2))
      clear O1 K1_0 O1_0 K1_1 O1_1 K1_2
      clear HA1 HD1
      go_wp2_with fail
      refine (mText_at (E + 4) _ (by omega) (by omega) (by omega) _).mono ?_
      rintro e w3 ⟨rfl, hb⟩
      have HA2 : Hid (RowTH w3 lo hi (.slice (some ⟨g, 0, none⟩) l.length c) (L.set k ⟨((E : Int)), (Tr.mt (E + 1)), ⟨((E : Int) + 1 + 1), ((E : Int) + 1 + 1 + 1), en.c.t⟩⟩)) := RowH.next frT HS1.out hb
      have HD2 : Hid (Chg lo hi w w3) := HC1.out.trans (Chg.of_below hb)
      clear hb y1 f1 y2 f2 y3 f3 hgl1 HS1 HC1
      obtain ⟨a2, b2, cs2, O2⟩ := (HA2.out).cur frT HKL.out
      obtain rfl := O2.el
      have y4 : w3.cell? ⟨g, k * 5 + 4, none⟩ = some _ := O2.there 4 (by decide)
      have f4 : w3.frozen? ⟨g, k * 5 + 4, none⟩ = false := O2.soft _
      have hgl2 := O2.dom
      have K2_0 : RowTH (w3.setCell ⟨g, k * 5 + 4, none⟩ (.string (Tr.mt (E + 4)))) lo hi (.slice (some ⟨g, 0, none⟩) l.length c) (L.set k ⟨((E : Int)), (Tr.mt (E + 1)), ⟨((E : Int) + 1 + 1), ((E : Int) + 1 + 1 + 1), (Tr.mt (E + 4))⟩⟩) := O2.put 4 (.string (Tr.mt (E + 4))) ⟨((E : Int)), (Tr.mt (E + 1)), ⟨((E : Int) + 1 + 1), ((E : Int) + 1 + 1 + 1), (Tr.mt (E + 4))⟩⟩ (by decide) rfl
      have HS2 : Hid (RowTH (w3.setCell ⟨g, k * 5 + 4, none⟩ (.string (Tr.mt (E + 4)))) lo hi (.slice (some ⟨g, 0, none⟩) l.length c) (L.set k ⟨((E : Int)), (Tr.mt (E + 1)), ⟨((E : Int) + 1 + 1), ((E : Int) + 1 + 1 + 1), (Tr.mt (E + 4))⟩⟩)) := K2_0
      have HC2 : Hid (Chg lo hi w (w3.setCell ⟨g, k * 5 + 4, none⟩ (.string (Tr.mt (E + 4))))) := (HD2.out.trans (chg_set w3 (.string (Tr.mt (E + 4))) HG.out.1 HG.out.2))
      clear O2 K2_0
      clear HA2 HD2
      go_wp2_with fail
      go_roundw
      case rel => exact ⟨k + 1, E + 5, by omega, by go_num, by go_num, by have := HEQ.out; simp only [szTm] at this; omega, by rw [← HMS.out]; exact HS2.out, HC2.out⟩
      case measure => simp [intOf]; omega
    · obtain rfl : k = l.length := by omega
      rw [mixL_full] at hR
      rw [List.take_length] at hE
      have HRF : Hid (RowTH wr lo hi _ _) := hR
      clear hR
      subst hE
      go_wp2_with fail
      go_ret
      exact ⟨rfl, HRF.out, hM⟩

set_option maxRecDepth 4000 in
set_option maxHeartbeats 4000000 in
theorem markChangeS_h (lo hi : Nat) (v : Value) (l : List Cgr) (q : Nat) (z : Int) (w : World) (hz : z = (q : Int)) (h : RowGH w lo hi v l) (h1 : 1 ≤ q) (h2 : q + sumN szCgr l ≤ 17592186044416) (hl : l.length ≤ 1048576) :
    Calls Tryz.prog 34 #[v, .int .i64 z] w fun e w' => e = .returned (.int .i64 ((q + sumN szCgr l : Nat) : Int)) ∧ RowGH w' lo hi v (mkL szCgr mkCgr q l) ∧ Chg lo hi w w' := by
  subst hz
  rcases h.form with ⟨rfl, rfl⟩ | ⟨g, c, rfl, hge, hgh, hgl⟩
  · have HO : Hid (RowGH _ _ _ _ _) := h
    clear h
    go_enter Tryz.func34, Tryz.ntmps34
    go_wp2_with fail
    refine wp_loop_rounds 1 ?_
    rw [rounds_succ]
    go_wp2_with fail
    go_ret
    exact ⟨rfl, HO.out, Chg.refl _ _ _⟩
  have HO0 : Hid (RowGH _ _ _ _ _) := h
  have HG : Hid (lo ≤ g ∧ g < hi) := ⟨hge, hgh⟩
  clear h hge hgh hgl
  go_enter Tryz.func34, Tryz.ntmps34
  go_wp2_with fail
  go_loopw [1, 5] (fun x i wr => ∃ (k E : Nat), k ≤ l.length ∧ i = .int .i64 k ∧ x = .int .i64 (E : Int) ∧ E = q + sumN szCgr (l.take k) ∧ RowGH wr lo hi (.slice (some ⟨g, 0, none⟩) l.length c) (mixL szCgr mkCgr q l k) ∧ Chg lo hi w wr) (fun _ i _ => l.length - (intOf i).toNat)
  case atStart => exact ⟨0, q, Nat.zero_le _, rfl, rfl, by simp [sumN], by rw [mixL_zero]; exact HO0.out, Chg.refl _ _ _⟩
  case round =>
    obtain ⟨k, E, hk, rfl, rfl, hE, hR, hM⟩ := hrel
    clear HO0
    by_cases hlt : k < l.length
    · have hlt2 : (k : Int) < (l.length : Int) := by omega
      have hmx := mixL_len szCgr mkCgr q l k hk
      have hmg := mixL_get szCgr mkCgr q l k hlt
      have hms := mixL_set szCgr mkCgr q l k hlt
      have hone := sumN_one szCgr l k hlt
      have hst := sumN_take szCgr l k hlt
      rw [← hE] at hms
      have hR0 := hR.fresh (k := k) (by omega)
      rw [List.getElem?_eq_getElem (by omega)] at hmg
      rw [Option.some.inj hmg] at hR0
      obtain ⟨en, hen⟩ : ∃ en, en = l[k] := ⟨_, rfl⟩
      rw [← hen] at hms hone hst hR0
      obtain ⟨L, hL⟩ : ∃ L, L = mixL szCgr mkCgr q l k := ⟨_, rfl⟩
      rw [← hL] at hmx hms hR0
      have HKL : Hid (k < L.length) := by show k < L.length; omega
      have HMS : Hid (_ = _) := hms
      have HEQ : Hid (q + sumN szCgr (l.take (k + 1)) = E + szCgr en) := by show _ = _; rw [hst]; omega
      have hE1 : 1 ≤ E := by omega
      have hEb : E + szCgr en ≤ 17592186044416 := by omega
      simp only [szCgr] at hEb
      have HA0 : Hid (RowGH wr lo hi (.slice (some ⟨g, 0, none⟩) l.length c) (L.set k en)) := hR0
      have HD0 : Hid (Chg lo hi w wr) := hM
      clear hE hR hM hmx hmg hms hone hst hR0 hL hen
      obtain ⟨a0, b0, cs0, O0⟩ := (HA0.out).cur frG HKL.out
      obtain rfl := O0.el
      have hgl0 := O0.dom
      have HS0 : Hid (RowGH wr lo hi (.slice (some ⟨g, 0, none⟩) l.length c) (L.set k ⟨⟨en.wr.coll, en.wr.id, en.wr.gone, ⟨en.wr.doc.k, en.wr.doc.n, en.wr.doc.t⟩⟩, ⟨en.bef.k, en.bef.n, en.bef.t⟩, en.was⟩)) := HA0.out
      have HC0 : Hid (Chg lo hi w wr) := HD0.out
      clear O0
      clear HA0 HD0
      go_wp2_with fail
      refine (mText_at (E) _ (by omega) (by omega) (by omega) _).mono ?_
      rintro e w2 ⟨rfl, hb⟩
      have HA1 : Hid (RowGH w2 lo hi (.slice (some ⟨g, 0, none⟩) l.length c) (L.set k ⟨⟨en.wr.coll, en.wr.id, en.wr.gone, ⟨en.wr.doc.k, en.wr.doc.n, en.wr.doc.t⟩⟩, ⟨en.bef.k, en.bef.n, en.bef.t⟩, en.was⟩)) := RowH.next frG HS0.out hb
      have HD1 : Hid (Chg lo hi w w2) := HC0.out.trans (Chg.of_below hb)
      clear hb  hgl0 HS0 HC0
      obtain ⟨B0, hB0⟩ : ∃ B0 : Bool, B0 = boolK ((E : Int) + 1 + 1) := ⟨_, rfl⟩
      have kB0 : (((E : Int) + 1 + 1) % 3 == 0) = B0 := by rw [hB0]; rfl
      have tB0 : Int.tmod ((E : Int) + 1 + 1) 3 = ((E : Int) + 1 + 1) % 3 := Int.tmod_eq_emod_of_nonneg (by omega)
      have HB0 : Hid (B0 = boolK ((E : Int) + 1 + 1)) := hB0
      clear hB0
      obtain ⟨a1, b1, cs1, O1⟩ := (HA1.out).cur frG HKL.out
      obtain rfl := O1.el
      have y0 : w2.cell? ⟨g, k * 10, none⟩ = some _ := O1.there 0 (by decide)
      have f0 : w2.frozen? ⟨g, k * 10, none⟩ = false := O1.soft _
      have y1 : w2.cell? ⟨g, k * 10 + 1, none⟩ = some _ := O1.there 1 (by decide)
      have f1 : w2.frozen? ⟨g, k * 10 + 1, none⟩ = false := O1.soft _
      have y2 : w2.cell? ⟨g, k * 10 + 2, none⟩ = some _ := O1.there 2 (by decide)
      have f2 : w2.frozen? ⟨g, k * 10 + 2, none⟩ = false := O1.soft _
      have y3 : w2.cell? ⟨g, k * 10 + 3, none⟩ = some _ := O1.there 3 (by decide)
      have f3 : w2.frozen? ⟨g, k * 10 + 3, none⟩ = false := O1.soft _
      have y4 : w2.cell? ⟨g, k * 10 + 4, none⟩ = some _ := O1.there 4 (by decide)
      have f4 : w2.frozen? ⟨g, k * 10 + 4, none⟩ = false := O1.soft _
      have hgl1 := O1.dom
      have K1_0 : RowGH (w2.setCell ⟨g, k * 10, none⟩ (.string (Tr.mt (E)))) lo hi (.slice (some ⟨g, 0, none⟩) l.length c) (L.set k ⟨⟨(Tr.mt (E)), en.wr.id, en.wr.gone, ⟨en.wr.doc.k, en.wr.doc.n, en.wr.doc.t⟩⟩, ⟨en.bef.k, en.bef.n, en.bef.t⟩, en.was⟩) := O1.put 0 (.string (Tr.mt (E))) ⟨⟨(Tr.mt (E)), en.wr.id, en.wr.gone, ⟨en.wr.doc.k, en.wr.doc.n, en.wr.doc.t⟩⟩, ⟨en.bef.k, en.bef.n, en.bef.t⟩, en.was⟩ (by decide) rfl
      obtain ⟨a1_0, b1_0, cs1_0, O1_0⟩ := K1_0.cur frG HKL.out
      obtain rfl := O1_0.el
      have K1_1 : RowGH ((w2.setCell ⟨g, k * 10, none⟩ (.string (Tr.mt (E)))).setCell ⟨g, k * 10 + 1, none⟩ (.int .i64 ((E : Int) + 1))) lo hi (.slice (some ⟨g, 0, none⟩) l.length c) (L.set k ⟨⟨(Tr.mt (E)), ((E : Int) + 1), en.wr.gone, ⟨en.wr.doc.k, en.wr.doc.n, en.wr.doc.t⟩⟩, ⟨en.bef.k, en.bef.n, en.bef.t⟩, en.was⟩) := O1_0.put 1 (.int .i64 ((E : Int) + 1)) ⟨⟨(Tr.mt (E)), ((E : Int) + 1), en.wr.gone, ⟨en.wr.doc.k, en.wr.doc.n, en.wr.doc.t⟩⟩, ⟨en.bef.k, en.bef.n, en.bef.t⟩, en.was⟩ (by decide) rfl
      obtain ⟨a1_1, b1_1, cs1_1, O1_1⟩ := K1_1.cur frG HKL.out
      obtain rfl := O1_1.el
      have K1_2 : RowGH (((w2.setCell ⟨g, k * 10, none⟩ (.string (Tr.mt (E)))).setCell ⟨g, k * 10 + 1, none⟩ (.int .i64 ((E : Int) + 1))).setCell ⟨g, k * 10 + 2, none⟩ (.bool B0)) lo hi (.slice (some ⟨g, 0, none⟩) l.length c) (L.set k ⟨⟨(Tr.mt (E)), ((E : Int) + 1), B0, ⟨en.wr.doc.k, en.wr.doc.n, en.wr.doc.t⟩⟩, ⟨en.bef.k, en.bef.n, en.bef.t⟩, en.was⟩) := O1_1.put 2 (.bool B0) ⟨⟨(Tr.mt (E)), ((E : Int) + 1), B0, ⟨en.wr.doc.k, en.wr.doc.n, en.wr.doc.t⟩⟩, ⟨en.bef.k, en.bef.n, en.bef.t⟩, en.was⟩ (by decide) rfl
      obtain ⟨a1_2, b1_2, cs1_2, O1_2⟩ := K1_2.cur frG HKL.out
      obtain rfl := O1_2.el
      have K1_3 : RowGH ((((w2.setCell ⟨g, k * 10, none⟩ (.string (Tr.mt (E)))).setCell ⟨g, k * 10 + 1, none⟩ (.int .i64 ((E : Int) + 1))).setCell ⟨g, k * 10 + 2, none⟩ (.bool B0)).setCell ⟨g, k * 10 + 3, none⟩ (.int .i64 ((E : Int) + 1 + 1 + 1))) lo hi (.slice (some ⟨g, 0, none⟩) l.length c) (L.set k ⟨⟨(Tr.mt (E)), ((E : Int) + 1), B0, ⟨((E : Int) + 1 + 1 + 1), en.wr.doc.n, en.wr.doc.t⟩⟩, ⟨en.bef.k, en.bef.n, en.bef.t⟩, en.was⟩) := O1_2.put 3 (.int .i64 ((E : Int) + 1 + 1 + 1)) ⟨⟨(Tr.mt (E)), ((E : Int) + 1), B0, ⟨((E : Int) + 1 + 1 + 1), en.wr.doc.n, en.wr.doc.t⟩⟩, ⟨en.bef.k, en.bef.n, en.bef.t⟩, en.was⟩ (by decide) rfl
      obtain ⟨a1_3, b1_3, cs1_3, O1_3⟩ := K1_3.cur frG HKL.out
      obtain rfl := O1_3.el
      have K1_4 : RowGH (((((w2.setCell ⟨g, k * 10, none⟩ (.string (Tr.mt (E)))).setCell ⟨g, k * 10 + 1, none⟩ (.int .i64 ((E : Int) + 1))).setCell ⟨g, k * 10 + 2, none⟩ (.bool B0)).setCell ⟨g, k * 10 + 3, none⟩ (.int .i64 ((E : Int) + 1 + 1 + 1))).setCell ⟨g, k * 10 + 4, none⟩ (.int .i64 ((E : Int) + 1 + 1 + 1 + 1))) lo hi (.slice (some ⟨g, 0, none⟩) l.length c) (L.set k ⟨⟨(Tr.mt (E)), ((E : Int) + 1), B0, ⟨((E : Int) + 1 + 1 + 1), ((E : Int) + 1 + 1 + 1 + 1), en.wr.doc.t⟩⟩, ⟨en.bef.k, en.bef.n, en.bef.t⟩, en.was⟩) := O1_3.put 4 (.int .i64 ((E : Int) + 1 + 1 + 1 + 1)) ⟨⟨(Tr.mt (E)), ((E : Int) + 1), B0, ⟨((E : Int) + 1 + 1 + 1), ((E : Int) + 1 + 1 + 1 + 1), en.wr.doc.t⟩⟩, ⟨en.bef.k, en.bef.n, en.bef.t⟩, en.was⟩ (by decide) rfl
      have HS1 : Hid (RowGH (((((w2.setCell ⟨g, k * 10, none⟩ (.string (Tr.mt (E)))).setCell ⟨g, k * 10 + 1, none⟩ (.int .i64 ((E : Int) + 1))).setCell ⟨g, k * 10 + 2, none⟩ (.bool B0)).setCell ⟨g, k * 10 + 3, none⟩ (.int .i64 ((E : Int) + 1 + 1 + 1))).setCell ⟨g, k * 10 + 4, none⟩ (.int .i64 ((E : Int) + 1 + 1 + 1 + 1))) lo hi (.slice (some ⟨g, 0, none⟩) l.length c) (L.set k ⟨⟨(Tr.mt (E)), ((E : Int) + 1), B0, ⟨((E : Int) + 1 + 1 + 1), ((E : Int) + 1 + 1 + 1 + 1), en.wr.doc.t⟩⟩, ⟨en.bef.k, en.bef.n, en.bef.t⟩, en.was⟩)) := K1_4
      have HC1 : Hid (Chg lo hi w (((((w2.setCell ⟨g, k * 10, none⟩ (.string (Tr.mt (E)))).setCell ⟨g, k * 10 + 1, none⟩ (.int .i64 ((E : Int) + 1))).setCell ⟨g, k * 10 + 2, none⟩ (.bool B0)).setCell ⟨g, k * 10 + 3, none⟩ (.int .i64 ((E : Int) + 1 + 1 + 1))).setCell ⟨g, k * 10 + 4, none⟩ (.int .i64 ((E : Int) + 1 + 1 + 1 + 1)))) := (((((HD1.out.trans (chg_set w2 (.string (Tr.mt (E))) HG.out.1 HG.out.2)).trans (chg_set (w2.setCell ⟨g, k * 10, none⟩ (.string (Tr.mt (E)))) (.int .i64 ((E : Int) + 1)) HG.out.1 HG.out.2)).trans (chg_set ((w2.setCell ⟨g, k * 10, none⟩ (.string (Tr.mt (E)))).setCell ⟨g, k * 10 + 1, none⟩ (.int .i64 ((E : Int) + 1))) (.bool B0) HG.out.1 HG.out.2)).trans (chg_set (((w2.setCell ⟨g, k * 10, none⟩ (.string (Tr.mt (E)))).setCell ⟨g, k * 10 + 1, none⟩ (.int .i64 ((E : Int) + 1))).setCell ⟨g, k * 10 + 2, none⟩ (.bool B0)) (.int .i64 ((E : Int) + 1 + 1 + 1)) HG.out.1 HG.out.2)).trans (chg_set ((((w2.setCell ⟨g, k * 10, none⟩ (.string (Tr.mt (E)))).setCell ⟨g, k * 10 + 1, none⟩ (.int .i64 ((E : Int) + 1))).setCell ⟨g, k * 10 + 2, none⟩ (.bool B0)).setCell ⟨g, k * 10 + 3, none⟩ (.int .i64 ((E : Int) + 1 + 1 + 1))) (.int .i64 ((E : Int) + 1 + 1 + 1 + 1)) HG.out.1 HG.out.2))
      clear O1 K1_0 O1_0 K1_1 O1_1 K1_2 O1_2 K1_3 O1_3 K1_4
      clear HA1 HD1
      go_wp2_with fail
      refine (mText_at (E + 5) _ (by omega) (by omega) (by omega) _).mono ?_
      rintro e w3 ⟨rfl, hb⟩
      have HA2 : Hid (RowGH w3 lo hi (.slice (some ⟨g, 0, none⟩) l.length c) (L.set k ⟨⟨(Tr.mt (E)), ((E : Int) + 1), B0, ⟨((E : Int) + 1 + 1 + 1), ((E : Int) + 1 + 1 + 1 + 1), en.wr.doc.t⟩⟩, ⟨en.bef.k, en.bef.n, en.bef.t⟩, en.was⟩)) := RowH.next frG HS1.out hb
      have HD2 : Hid (Chg lo hi w w3) := HC1.out.trans (Chg.of_below hb)
      clear hb y0 f0 y1 f1 y2 f2 y3 f3 y4 f4 hgl1 HS1 HC1
      obtain ⟨a2, b2, cs2, O2⟩ := (HA2.out).cur frG HKL.out
      obtain rfl := O2.el
      have y5 : w3.cell? ⟨g, k * 10 + 5, none⟩ = some _ := O2.there 5 (by decide)
      have f5 : w3.frozen? ⟨g, k * 10 + 5, none⟩ = false := O2.soft _
      have y6 : w3.cell? ⟨g, k * 10 + 6, none⟩ = some _ := O2.there 6 (by decide)
      have f6 : w3.frozen? ⟨g, k * 10 + 6, none⟩ = false := O2.soft _
      have y7 : w3.cell? ⟨g, k * 10 + 7, none⟩ = some _ := O2.there 7 (by decide)
      have f7 : w3.frozen? ⟨g, k * 10 + 7, none⟩ = false := O2.soft _
      have hgl2 := O2.dom
      have K2_0 : RowGH (w3.setCell ⟨g, k * 10 + 5, none⟩ (.string (Tr.mt (E + 5)))) lo hi (.slice (some ⟨g, 0, none⟩) l.length c) (L.set k ⟨⟨(Tr.mt (E)), ((E : Int) + 1), B0, ⟨((E : Int) + 1 + 1 + 1), ((E : Int) + 1 + 1 + 1 + 1), (Tr.mt (E + 5))⟩⟩, ⟨en.bef.k, en.bef.n, en.bef.t⟩, en.was⟩) := O2.put 5 (.string (Tr.mt (E + 5))) ⟨⟨(Tr.mt (E)), ((E : Int) + 1), B0, ⟨((E : Int) + 1 + 1 + 1), ((E : Int) + 1 + 1 + 1 + 1), (Tr.mt (E + 5))⟩⟩, ⟨en.bef.k, en.bef.n, en.bef.t⟩, en.was⟩ (by decide) rfl
      obtain ⟨a2_0, b2_0, cs2_0, O2_0⟩ := K2_0.cur frG HKL.out
      obtain rfl := O2_0.el
      have K2_1 : RowGH ((w3.setCell ⟨g, k * 10 + 5, none⟩ (.string (Tr.mt (E + 5)))).setCell ⟨g, k * 10 + 6, none⟩ (.int .i64 ((E : Int) + 1 + 1 + 1 + 1 + 1 + 1))) lo hi (.slice (some ⟨g, 0, none⟩) l.length c) (L.set k ⟨⟨(Tr.mt (E)), ((E : Int) + 1), B0, ⟨((E : Int) + 1 + 1 + 1), ((E : Int) + 1 + 1 + 1 + 1), (Tr.mt (E + 5))⟩⟩, ⟨((E : Int) + 1 + 1 + 1 + 1 + 1 + 1), en.bef.n, en.bef.t⟩, en.was⟩) := O2_0.put 6 (.int .i64 ((E : Int) + 1 + 1 + 1 + 1 + 1 + 1)) ⟨⟨(Tr.mt (E)), ((E : Int) + 1), B0, ⟨((E : Int) + 1 + 1 + 1), ((E : Int) + 1 + 1 + 1 + 1), (Tr.mt (E + 5))⟩⟩, ⟨((E : Int) + 1 + 1 + 1 + 1 + 1 + 1), en.bef.n, en.bef.t⟩, en.was⟩ (by decide) rfl
      obtain ⟨a2_1, b2_1, cs2_1, O2_1⟩ := K2_1.cur frG HKL.out
      obtain rfl := O2_1.el
      have K2_2 : RowGH (((w3.setCell ⟨g, k * 10 + 5, none⟩ (.string (Tr.mt (E + 5)))).setCell ⟨g, k * 10 + 6, none⟩ (.int .i64 ((E : Int) + 1 + 1 + 1 + 1 + 1 + 1))).setCell ⟨g, k * 10 + 7, none⟩ (.int .i64 ((E : Int) + 1 + 1 + 1 + 1 + 1 + 1 + 1))) lo hi (.slice (some ⟨g, 0, none⟩) l.length c) (L.set k ⟨⟨(Tr.mt (E)), ((E : Int) + 1), B0, ⟨((E : Int) + 1 + 1 + 1), ((E : Int) + 1 + 1 + 1 + 1), (Tr.mt (E + 5))⟩⟩, ⟨((E : Int) + 1 + 1 + 1 + 1 + 1 + 1), ((E : Int) + 1 + 1 + 1 + 1 + 1 + 1 + 1), en.bef.t⟩, en.was⟩) := O2_1.put 7 (.int .i64 ((E : Int) + 1 + 1 + 1 + 1 + 1 + 1 + 1)) ⟨⟨(Tr.mt (E)), ((E : Int) + 1), B0, ⟨((E : Int) + 1 + 1 + 1), ((E : Int) + 1 + 1 + 1 + 1), (Tr.mt (E + 5))⟩⟩, ⟨((E : Int) + 1 + 1 + 1 + 1 + 1 + 1), ((E : Int) + 1 + 1 + 1 + 1 + 1 + 1 + 1), en.bef.t⟩, en.was⟩ (by decide) rfl
      have HS2 : Hid (RowGH (((w3.setCell ⟨g, k * 10 + 5, none⟩ (.string (Tr.mt (E + 5)))).setCell ⟨g, k * 10 + 6, none⟩ (.int .i64 ((E : Int) + 1 + 1 + 1 + 1 + 1 + 1))).setCell ⟨g, k * 10 + 7, none⟩ (.int .i64 ((E : Int) + 1 + 1 + 1 + 1 + 1 + 1 + 1))) lo hi (.slice (some ⟨g, 0, none⟩) l.length c) (L.set k ⟨⟨(Tr.mt (E)), ((E : Int) + 1), B0, ⟨((E : Int) + 1 + 1 + 1), ((E : Int) + 1 + 1 + 1 + 1), (Tr.mt (E + 5))⟩⟩, ⟨((E : Int) + 1 + 1 + 1 + 1 + 1 + 1), ((E : Int) + 1 + 1 + 1 + 1 + 1 + 1 + 1), en.bef.t⟩, en.was⟩)) := K2_2
      have HC2 : Hid (Chg lo hi w (((w3.setCell ⟨g, k * 10 + 5, none⟩ (.string (Tr.mt (E + 5)))).setCell ⟨g, k * 10 + 6, none⟩ (.int .i64 ((E : Int) + 1 + 1 + 1 + 1 + 1 + 1))).setCell ⟨g, k * 10 + 7, none⟩ (.int .i64 ((E : Int) + 1 + 1 + 1 + 1 + 1 + 1 + 1)))) := (((HD2.out.trans (chg_set w3 (.string (Tr.mt (E + 5))) HG.out.1 HG.out.2)).trans (chg_set (w3.setCell ⟨g, k * 10 + 5, none⟩ (.string (Tr.mt (E + 5)))) (.int .i64 ((E : Int) + 1 + 1 + 1 + 1 + 1 + 1)) HG.out.1 HG.out.2)).trans (chg_set ((w3.setCell ⟨g, k * 10 + 5, none⟩ (.string (Tr.mt (E + 5)))).setCell ⟨g, k * 10 + 6, none⟩ (.int .i64 ((E : Int) + 1 + 1 + 1 + 1 + 1 + 1))) (.int .i64 ((E : Int) + 1 + 1 + 1 + 1 + 1 + 1 + 1)) HG.out.1 HG.out.2))
      clear O2 K2_0 O2_0 K2_1 O2_1 K2_2
      clear HA2 HD2
      go_wp2_with fail
      refine (mText_at (E + 8) _ (by omega) (by omega) (by omega) _).mono ?_
      rintro e w4 ⟨rfl, hb⟩
      have HA3 : Hid (RowGH w4 lo hi (.slice (some ⟨g, 0, none⟩) l.length c) (L.set k ⟨⟨(Tr.mt (E)), ((E : Int) + 1), B0, ⟨((E : Int) + 1 + 1 + 1), ((E : Int) + 1 + 1 + 1 + 1), (Tr.mt (E + 5))⟩⟩, ⟨((E : Int) + 1 + 1 + 1 + 1 + 1 + 1), ((E : Int) + 1 + 1 + 1 + 1 + 1 + 1 + 1), en.bef.t⟩, en.was⟩)) := RowH.next frG HS2.out hb
      have HD3 : Hid (Chg lo hi w w4) := HC2.out.trans (Chg.of_below hb)
      clear hb y5 f5 y6 f6 y7 f7 hgl2 HS2 HC2
      obtain ⟨B1, hB1⟩ : ∃ B1 : Bool, B1 = boolK ((E : Int) + 1 + 1 + 1 + 1 + 1 + 1 + 1 + 1 + 1) := ⟨_, rfl⟩
      have kB1 : (((E : Int) + 1 + 1 + 1 + 1 + 1 + 1 + 1 + 1 + 1) % 3 == 0) = B1 := by rw [hB1]; rfl
      have tB1 : Int.tmod ((E : Int) + 1 + 1 + 1 + 1 + 1 + 1 + 1 + 1 + 1) 3 = ((E : Int) + 1 + 1 + 1 + 1 + 1 + 1 + 1 + 1 + 1) % 3 := Int.tmod_eq_emod_of_nonneg (by omega)
      have HB1 : Hid (B1 = boolK ((E : Int) + 1 + 1 + 1 + 1 + 1 + 1 + 1 + 1 + 1)) := hB1
      clear hB1
      obtain ⟨a3, b3, cs3, O3⟩ := (HA3.out).cur frG HKL.out
      obtain rfl := O3.el
      have y8 : w4.cell? ⟨g, k * 10 + 8, none⟩ = some _ := O3.there 8 (by decide)
      have f8 : w4.frozen? ⟨g, k * 10 + 8, none⟩ = false := O3.soft _
      have y9 : w4.cell? ⟨g, k * 10 + 9, none⟩ = some _ := O3.there 9 (by decide)
      have f9 : w4.frozen? ⟨g, k * 10 + 9, none⟩ = false := O3.soft _
      have hgl3 := O3.dom
      have K3_0 : RowGH (w4.setCell ⟨g, k * 10 + 8, none⟩ (.string (Tr.mt (E + 8)))) lo hi (.slice (some ⟨g, 0, none⟩) l.length c) (L.set k ⟨⟨(Tr.mt (E)), ((E : Int) + 1), B0, ⟨((E : Int) + 1 + 1 + 1), ((E : Int) + 1 + 1 + 1 + 1), (Tr.mt (E + 5))⟩⟩, ⟨((E : Int) + 1 + 1 + 1 + 1 + 1 + 1), ((E : Int) + 1 + 1 + 1 + 1 + 1 + 1 + 1), (Tr.mt (E + 8))⟩, en.was⟩) := O3.put 8 (.string (Tr.mt (E + 8))) ⟨⟨(Tr.mt (E)), ((E : Int) + 1), B0, ⟨((E : Int) + 1 + 1 + 1), ((E : Int) + 1 + 1 + 1 + 1), (Tr.mt (E + 5))⟩⟩, ⟨((E : Int) + 1 + 1 + 1 + 1 + 1 + 1), ((E : Int) + 1 + 1 + 1 + 1 + 1 + 1 + 1), (Tr.mt (E + 8))⟩, en.was⟩ (by decide) rfl
      obtain ⟨a3_0, b3_0, cs3_0, O3_0⟩ := K3_0.cur frG HKL.out
      obtain rfl := O3_0.el
      have K3_1 : RowGH ((w4.setCell ⟨g, k * 10 + 8, none⟩ (.string (Tr.mt (E + 8)))).setCell ⟨g, k * 10 + 9, none⟩ (.bool B1)) lo hi (.slice (some ⟨g, 0, none⟩) l.length c) (L.set k ⟨⟨(Tr.mt (E)), ((E : Int) + 1), B0, ⟨((E : Int) + 1 + 1 + 1), ((E : Int) + 1 + 1 + 1 + 1), (Tr.mt (E + 5))⟩⟩, ⟨((E : Int) + 1 + 1 + 1 + 1 + 1 + 1), ((E : Int) + 1 + 1 + 1 + 1 + 1 + 1 + 1), (Tr.mt (E + 8))⟩, B1⟩) := O3_0.put 9 (.bool B1) ⟨⟨(Tr.mt (E)), ((E : Int) + 1), B0, ⟨((E : Int) + 1 + 1 + 1), ((E : Int) + 1 + 1 + 1 + 1), (Tr.mt (E + 5))⟩⟩, ⟨((E : Int) + 1 + 1 + 1 + 1 + 1 + 1), ((E : Int) + 1 + 1 + 1 + 1 + 1 + 1 + 1), (Tr.mt (E + 8))⟩, B1⟩ (by decide) rfl
      have HS3 : Hid (RowGH ((w4.setCell ⟨g, k * 10 + 8, none⟩ (.string (Tr.mt (E + 8)))).setCell ⟨g, k * 10 + 9, none⟩ (.bool B1)) lo hi (.slice (some ⟨g, 0, none⟩) l.length c) (L.set k ⟨⟨(Tr.mt (E)), ((E : Int) + 1), B0, ⟨((E : Int) + 1 + 1 + 1), ((E : Int) + 1 + 1 + 1 + 1), (Tr.mt (E + 5))⟩⟩, ⟨((E : Int) + 1 + 1 + 1 + 1 + 1 + 1), ((E : Int) + 1 + 1 + 1 + 1 + 1 + 1 + 1), (Tr.mt (E + 8))⟩, B1⟩)) := K3_1
      have HC3 : Hid (Chg lo hi w ((w4.setCell ⟨g, k * 10 + 8, none⟩ (.string (Tr.mt (E + 8)))).setCell ⟨g, k * 10 + 9, none⟩ (.bool B1))) := ((HD3.out.trans (chg_set w4 (.string (Tr.mt (E + 8))) HG.out.1 HG.out.2)).trans (chg_set (w4.setCell ⟨g, k * 10 + 8, none⟩ (.string (Tr.mt (E + 8)))) (.bool B1) HG.out.1 HG.out.2))
      clear O3 K3_0 O3_0 K3_1
      clear HA3 HD3
      go_wp2_with fail
      go_roundw
      case rel => exact ⟨k + 1, E + 10, by omega, by go_num, by go_num, by have := HEQ.out; simp only [szCgr] at this; omega, by rw [← HMS.out]; exact (by rw [show mkCgr E en = ⟨⟨Tr.mt E, (E : Int) + 1, B0, ⟨(E : Int) + 1 + 1 + 1, (E : Int) + 1 + 1 + 1 + 1, Tr.mt (E + 5)⟩⟩, ⟨(E : Int) + 1 + 1 + 1 + 1 + 1 + 1, (E : Int) + 1 + 1 + 1 + 1 + 1 + 1 + 1, Tr.mt (E + 8)⟩, B1⟩ from by rw [HB0.out, HB1.out]; rfl]; exact HS3.out), HC3.out⟩
      case measure => simp [intOf]; omega
    · obtain rfl : k = l.length := by omega
      rw [mixL_full] at hR
      rw [List.take_length] at hE
      have HRF : Hid (RowGH wr lo hi _ _) := hR
      clear hR
      subst hE
      go_wp2_with fail
      go_ret
      exact ⟨rfl, HRF.out, hM⟩

end Go.Proofs.YtcggkeleaepebaaGreatDoor.Hx

/- Marks on rows of clauses and reads, exact. -/
namespace Go.Proofs.YtcggkeleaepebaaGreatDoor.Hx
open Go.RowKit Go.ChangeShapes Go.WideShapes Go.ChangeAt Go.Joins Tr Co Rea Ce Ty
set_option linter.unusedVariables false

set_option maxRecDepth 4000 in
set_option maxHeartbeats 4000000 in
theorem markClauseS_h (lo hi : Nat) (v : Value) (l : List (List Trm)) (q : Nat) (z : Int) (w : World) (hz : z = (q : Int)) (h : RowCH w lo hi v l) (h1 : 1 ≤ q) (h2 : q + sumN szCl l ≤ 17592186044416) (hl : l.length ≤ 1048576) (hy : ∀ x ∈ l, x.length ≤ 1048576) :
    Calls Tryz.prog 64 #[v, .int .i64 z] w fun e w' => e = .returned (.int .i64 ((q + sumN szCl l : Nat) : Int)) ∧ RowCH w' lo hi v (mkL szCl mkCl q l) ∧ Chg lo hi w w' := by
  subst hz
  rcases h.form with ⟨rfl, rfl⟩ | ⟨g, c, rfl, hge, hgh, hgl⟩
  · have HO : Hid (RowCH _ _ _ _ _) := h
    clear h
    go_enter Tryz.func64, Tryz.ntmps64
    go_wp2_with fail
    refine wp_loop_rounds 1 ?_
    rw [rounds_succ]
    go_wp2_with fail
    go_ret
    exact ⟨rfl, HO.out, Chg.refl _ _ _⟩
  have HO0 : Hid (RowCH _ _ _ _ _) := h
  have HG : Hid (lo ≤ g ∧ g < hi) := ⟨hge, hgh⟩
  have HY : Hid (∀ x ∈ l, x.length ≤ 1048576) := hy
  clear h hge hgh hgl hy
  go_enter Tryz.func64, Tryz.ntmps64
  go_wp2_with fail
  go_loopw [1, 5] (fun x i wr => ∃ (k E : Nat), k ≤ l.length ∧ i = .int .i64 k ∧ x = .int .i64 (E : Int) ∧ E = q + sumN szCl (l.take k) ∧ RowCH wr lo hi (.slice (some ⟨g, 0, none⟩) l.length c) (mixL szCl mkCl q l k) ∧ Chg lo hi w wr) (fun _ i _ => l.length - (intOf i).toNat)
  case atStart => exact ⟨0, q, Nat.zero_le _, rfl, rfl, by simp [sumN], by rw [mixL_zero]; exact HO0.out, Chg.refl _ _ _⟩
  case round =>
    obtain ⟨k, E, hk, rfl, rfl, hE, hR, hM⟩ := hrel
    clear HO0
    by_cases hlt : k < l.length
    · have hlt2 : (k : Int) < (l.length : Int) := by omega
      have hmx := mixL_len szCl mkCl q l k hk
      have hmg := mixL_get szCl mkCl q l k hlt
      have hms := mixL_set szCl mkCl q l k hlt
      have hone := sumN_one szCl l k hlt
      have hst := sumN_take szCl l k hlt
      rw [← hE] at hms
      have hR0 := hR.fresh (k := k) (by omega)
      rw [List.getElem?_eq_getElem (by omega)] at hmg
      rw [Option.some.inj hmg] at hR0
      have hyk := HY.out l[k] (List.getElem_mem _)
      obtain ⟨en, hen⟩ : ∃ en, en = l[k] := ⟨_, rfl⟩
      rw [← hen] at hms hone hst hR0 hyk
      obtain ⟨L, hL⟩ : ∃ L, L = mixL szCl mkCl q l k := ⟨_, rfl⟩
      rw [← hL] at hmx hms hR0
      have HKL : Hid (k < L.length) := by show k < L.length; omega
      have HMS : Hid (_ = _) := hms
      have HEQ : Hid (q + sumN szCl (l.take (k + 1)) = E + szCl en) := by show _ = _; rw [hst]; omega
      have hE1 : 1 ≤ E := by omega
      have hEb : E + szCl en ≤ 17592186044416 := by omega
      simp only [szCl] at hEb
      have HYK : Hid _ := hyk
      have HA0 : Hid (RowCH wr lo hi (.slice (some ⟨g, 0, none⟩) l.length c) (L.set k en)) := hR0
      have HD0 : Hid (Chg lo hi w wr) := hM
      clear hE hR hM hmx hmg hms hone hst hR0 hL hen hyk
      obtain ⟨a0, b0, cs0, O0⟩ := (HA0.out).cur frC HKL.out
      obtain ⟨v0, rfl, hv0⟩ := O0.el
      have y0 : wr.cell? ⟨g, k, none⟩ = some v0 := by have := O0.there 0 (by decide); simpa using this
      have f0 : wr.frozen? ⟨g, k, none⟩ = false := O0.soft _
      have hgl0 := O0.dom
      have HS0 : Hid (RowCH wr lo hi (.slice (some ⟨g, 0, none⟩) l.length c) (L.set k en)) := HA0.out
      have HC0 : Hid (Chg lo hi w wr) := HD0.out
      have HCH0 : Hid (RowTH wr a0 b0 v0 en ∧ _) := ⟨hv0, O0.out⟩
      have HUP0 : Hid (∀ (w' : World) (x' : (List Trm)), Chg _ _ _ w' → ElC w' _ _ _ x' → RowCH w' lo hi _ _) := O0.upd
      have HIN0 : Hid (lo ≤ a0 ∧ b0 ≤ hi) := ⟨O0.la, O0.bh⟩
      clear O0
      clear HA0 HD0
      go_wp2_with fail
      refine (markTermS_h _ _ _ _ (E) _ _ (by omega) HCH0.out.1 (by omega) (by rw [sumN_tm]; omega) HYK.out).mono ?_
      rintro e w2 ⟨rfl, hch, hcm⟩
      have HA1 : Hid (RowCH w2 lo hi (.slice (some ⟨g, 0, none⟩) l.length c) (L.set k (mkL szTm mkTm (E) en))) := HUP0.out w2 (mkL szTm mkTm (E) en) hcm ⟨_, rfl, hch⟩
      have HD1 : Hid (Chg lo hi w w2) := HC0.out.trans (chg_wide hcm HIN0.out.1 HIN0.out.2)
      clear hch hcm y0 f0 hgl0 HS0 HC0 HUP0 HCH0
      obtain ⟨a1, b1, cs1, O1⟩ := (HA1.out).cur frC HKL.out
      obtain ⟨v1, rfl, hv1⟩ := O1.el
      have hgl1 := O1.dom
      have HS1 : Hid (RowCH w2 lo hi (.slice (some ⟨g, 0, none⟩) l.length c) (L.set k (mkL szTm mkTm (E) en))) := HA1.out
      have HC1 : Hid (Chg lo hi w w2) := HD1.out
      clear O1
      clear HA1 HD1
      go_wp2_with fail
      go_roundw
      case rel => exact ⟨k + 1, E + 5 * en.length, by omega, by go_num, by rw [sumN_tm]; go_num, by have := HEQ.out; simp only [szCl] at this; omega, by rw [← HMS.out]; exact HS1.out, HC1.out⟩
      case measure => simp [intOf]; omega
    · obtain rfl : k = l.length := by omega
      rw [mixL_full] at hR
      rw [List.take_length] at hE
      have HRF : Hid (RowCH wr lo hi _ _) := hR
      clear hR
      subst hE
      go_wp2_with fail
      go_ret
      exact ⟨rfl, HRF.out, hM⟩

set_option maxRecDepth 4000 in
set_option maxHeartbeats 4000000 in
theorem markReadS_h (lo hi : Nat) (v : Value) (l : List Rdg) (q : Nat) (z : Int) (w : World) (hz : z = (q : Int)) (h : RowRH w lo hi v l) (h1 : 1 ≤ q) (h2 : q + sumN szRdg l ≤ 17592186044416) (hl : l.length ≤ 1048576) (hy : ∀ x ∈ l, x.f.length ≤ 1048576 ∧ ∀ y ∈ x.f, y.length ≤ 1048576) :
    Calls Tryz.prog 33 #[v, .int .i64 z] w fun e w' => e = .returned (.int .i64 ((q + sumN szRdg l : Nat) : Int)) ∧ RowRH w' lo hi v (mkL szRdg mkRdg q l) ∧ Chg lo hi w w' := by
  subst hz
  rcases h.form with ⟨rfl, rfl⟩ | ⟨g, c, rfl, hge, hgh, hgl⟩
  · have HO : Hid (RowRH _ _ _ _ _) := h
    clear h
    go_enter Tryz.func33, Tryz.ntmps33
    go_wp2_with fail
    refine wp_loop_rounds 1 ?_
    rw [rounds_succ]
    go_wp2_with fail
    go_ret
    exact ⟨rfl, HO.out, Chg.refl _ _ _⟩
  have HO0 : Hid (RowRH _ _ _ _ _) := h
  have HG : Hid (lo ≤ g ∧ g < hi) := ⟨hge, hgh⟩
  have HY : Hid (∀ x ∈ l, x.f.length ≤ 1048576 ∧ ∀ y ∈ x.f, y.length ≤ 1048576) := hy
  clear h hge hgh hgl hy
  go_enter Tryz.func33, Tryz.ntmps33
  go_wp2_with fail
  go_loopw [1, 5] (fun x i wr => ∃ (k E : Nat), k ≤ l.length ∧ i = .int .i64 k ∧ x = .int .i64 (E : Int) ∧ E = q + sumN szRdg (l.take k) ∧ RowRH wr lo hi (.slice (some ⟨g, 0, none⟩) l.length c) (mixL szRdg mkRdg q l k) ∧ Chg lo hi w wr) (fun _ i _ => l.length - (intOf i).toNat)
  case atStart => exact ⟨0, q, Nat.zero_le _, rfl, rfl, by simp [sumN], by rw [mixL_zero]; exact HO0.out, Chg.refl _ _ _⟩
  case round =>
    obtain ⟨k, E, hk, rfl, rfl, hE, hR, hM⟩ := hrel
    clear HO0
    by_cases hlt : k < l.length
    · have hlt2 : (k : Int) < (l.length : Int) := by omega
      have hmx := mixL_len szRdg mkRdg q l k hk
      have hmg := mixL_get szRdg mkRdg q l k hlt
      have hms := mixL_set szRdg mkRdg q l k hlt
      have hone := sumN_one szRdg l k hlt
      have hst := sumN_take szRdg l k hlt
      rw [← hE] at hms
      have hR0 := hR.fresh (k := k) (by omega)
      rw [List.getElem?_eq_getElem (by omega)] at hmg
      rw [Option.some.inj hmg] at hR0
      have hyk := HY.out l[k] (List.getElem_mem _)
      obtain ⟨en, hen⟩ : ∃ en, en = l[k] := ⟨_, rfl⟩
      rw [← hen] at hms hone hst hR0 hyk
      obtain ⟨L, hL⟩ : ∃ L, L = mixL szRdg mkRdg q l k := ⟨_, rfl⟩
      rw [← hL] at hmx hms hR0
      have HKL : Hid (k < L.length) := by show k < L.length; omega
      have HMS : Hid (_ = _) := hms
      have HEQ : Hid (q + sumN szRdg (l.take (k + 1)) = E + szRdg en) := by show _ = _; rw [hst]; omega
      have hE1 : 1 ≤ E := by omega
      have hEb : E + szRdg en ≤ 17592186044416 := by omega
      simp only [szRdg] at hEb
      have HYK : Hid _ := hyk
      have HA0 : Hid (RowRH wr lo hi (.slice (some ⟨g, 0, none⟩) l.length c) (L.set k en)) := hR0
      have HD0 : Hid (Chg lo hi w wr) := hM
      clear hE hR hM hmx hmg hms hone hst hR0 hL hen hyk
      obtain ⟨a0, b0, cs0, O0⟩ := (HA0.out).cur frR HKL.out
      obtain ⟨v0, rfl, hv0⟩ := O0.el
      have hgl0 := O0.dom
      have HS0 : Hid (RowRH wr lo hi (.slice (some ⟨g, 0, none⟩) l.length c) (L.set k ⟨en.coll, en.f⟩)) := HA0.out
      have HC0 : Hid (Chg lo hi w wr) := HD0.out
      clear O0
      clear HA0 HD0
      go_wp2_with fail
      refine (mText_at (E) _ (by omega) (by omega) (by omega) _).mono ?_
      rintro e w2 ⟨rfl, hb⟩
      have HA1 : Hid (RowRH w2 lo hi (.slice (some ⟨g, 0, none⟩) l.length c) (L.set k ⟨en.coll, en.f⟩)) := RowH.next frR HS0.out hb
      have HD1 : Hid (Chg lo hi w w2) := HC0.out.trans (Chg.of_below hb)
      clear hb  hgl0 HS0 HC0
      obtain ⟨a1, b1, cs1, O1⟩ := (HA1.out).cur frR HKL.out
      obtain ⟨v1, rfl, hv1⟩ := O1.el
      have y0 : w2.cell? ⟨g, k * 2, none⟩ = some (.string _) := O1.there 0 (by decide)
      have f0 : w2.frozen? ⟨g, k * 2, none⟩ = false := O1.soft _
      have y1 : w2.cell? ⟨g, k * 2 + 1, none⟩ = some v1 := O1.there 1 (by decide)
      have f1 : w2.frozen? ⟨g, k * 2 + 1, none⟩ = false := O1.soft _
      have hgl1 := O1.dom
      have K1_0 : RowRH (w2.setCell ⟨g, k * 2, none⟩ (.string (Tr.mt (E)))) lo hi (.slice (some ⟨g, 0, none⟩) l.length c) (L.set k ⟨(Tr.mt (E)), en.f⟩) := O1.put 0 (.string (Tr.mt (E))) ⟨(Tr.mt (E)), en.f⟩ (by decide) ⟨v1, rfl, hv1.off frC _ O1.out⟩
      obtain ⟨a1_0, b1_0, cs1_0, O1_0⟩ := K1_0.cur frR HKL.out
      obtain ⟨v1_0, rfl, hv1_0⟩ := O1_0.el
      obtain rfl : v1_0 = v1 := beside_eq (by omega) (O1_0.there 1 (by decide)) (O1.there 1 (by decide))
      have HS1 : Hid (RowRH (w2.setCell ⟨g, k * 2, none⟩ (.string (Tr.mt (E)))) lo hi (.slice (some ⟨g, 0, none⟩) l.length c) (L.set k ⟨(Tr.mt (E)), en.f⟩)) := K1_0
      have HC1 : Hid (Chg lo hi w (w2.setCell ⟨g, k * 2, none⟩ (.string (Tr.mt (E))))) := (HD1.out.trans (chg_set w2 (.string (Tr.mt (E))) HG.out.1 HG.out.2))
      have HCH1 : Hid (RowCH (w2.setCell ⟨g, k * 2, none⟩ (.string (Tr.mt (E)))) a1_0 b1_0 v1_0 en.f ∧ _) := ⟨hv1_0, O1_0.out⟩
      have HUP1 : Hid (∀ (w' : World) (x' : Rdg), Chg _ _ _ w' → ElR w' _ _ _ x' → RowRH w' lo hi _ _) := O1_0.upd
      have HIN1 : Hid (lo ≤ a1_0 ∧ b1_0 ≤ hi) := ⟨O1_0.la, O1_0.bh⟩
      clear O1 K1_0 O1_0
      clear HA1 HD1
      go_wp2_with fail
      refine (markClauseS_h _ _ _ _ (E + 1) _ _ (by omega) HCH1.out.1 (by omega) (by rw [sumN_cl]; omega) HYK.out.1 HYK.out.2).mono ?_
      rintro e w3 ⟨rfl, hch, hcm⟩
      have HA2 : Hid (RowRH w3 lo hi (.slice (some ⟨g, 0, none⟩) l.length c) (L.set k ⟨(Tr.mt (E)), (mkL szCl mkCl (E + 1) en.f)⟩)) := HUP1.out w3 ⟨(Tr.mt (E)), (mkL szCl mkCl (E + 1) en.f)⟩ hcm ⟨_, rfl, hch⟩
      have HD2 : Hid (Chg lo hi w w3) := HC1.out.trans (chg_wide hcm HIN1.out.1 HIN1.out.2)
      clear hch hcm y0 f0 y1 f1 hgl1 HS1 HC1 HUP1 HCH1
      obtain ⟨a2, b2, cs2, O2⟩ := (HA2.out).cur frR HKL.out
      obtain ⟨v2, rfl, hv2⟩ := O2.el
      have hgl2 := O2.dom
      have HS2 : Hid (RowRH w3 lo hi (.slice (some ⟨g, 0, none⟩) l.length c) (L.set k ⟨(Tr.mt (E)), (mkL szCl mkCl (E + 1) en.f)⟩)) := HA2.out
      have HC2 : Hid (Chg lo hi w w3) := HD2.out
      clear O2
      clear HA2 HD2
      go_wp2_with fail
      go_roundw
      case rel => exact ⟨k + 1, E + 1 + mkC en.f, by omega, by go_num, by rw [sumN_cl]; go_num, by have := HEQ.out; simp only [szRdg] at this; omega, by rw [← HMS.out]; exact HS2.out, HC2.out⟩
      case measure => simp [intOf]; omega
    · obtain rfl : k = l.length := by omega
      rw [mixL_full] at hR
      rw [List.take_length] at hE
      have HRF : Hid (RowRH wr lo hi _ _) := hR
      clear hR
      subst hE
      go_wp2_with fail
      go_ret
      exact ⟨rfl, HRF.out, hM⟩

end Go.Proofs.YtcggkeleaepebaaGreatDoor.Hx

/- Marks on rows of committed ones, exact. -/
namespace Go.Proofs.YtcggkeleaepebaaGreatDoor.Hx
open Go.RowKit Go.ChangeShapes Go.WideShapes Go.ChangeAt Go.Joins Tr Co Rea Ce Ty
set_option linter.unusedVariables false

set_option maxRecDepth 4000 in
set_option maxHeartbeats 4000000 in
theorem markDoneS_h (lo hi : Nat) (v : Value) (l : List Dn) (q : Nat) (z : Int) (w : World) (hz : z = (q : Int)) (h : RowDH w lo hi v l) (h1 : 1 ≤ q) (h2 : q + sumN szDnn l ≤ 17592186044416) (hl : l.length ≤ 1048576) (hy : ∀ d ∈ l, d.rs.length ≤ 1048576 ∧ d.cs.length ≤ 1048576 ∧ ∀ x ∈ d.rs, x.f.length ≤ 1048576 ∧ ∀ y ∈ x.f, y.length ≤ 1048576) :
    Calls Tryz.prog 13 #[v, .int .i64 z] w fun e w' => e = .returned (.int .i64 ((q + sumN szDnn l : Nat) : Int)) ∧ RowDH w' lo hi v (mkL szDnn mkDnn q l) ∧ Chg lo hi w w' := by
  subst hz
  rcases h.form with ⟨rfl, rfl⟩ | ⟨g, c, rfl, hge, hgh, hgl⟩
  · have HO : Hid (RowDH _ _ _ _ _) := h
    clear h
    go_enter Tryz.func13, Tryz.ntmps13
    go_wp2_with fail
    refine wp_loop_rounds 1 ?_
    rw [rounds_succ]
    go_wp2_with fail
    go_ret
    exact ⟨rfl, HO.out, Chg.refl _ _ _⟩
  have HO0 : Hid (RowDH _ _ _ _ _) := h
  have HG : Hid (lo ≤ g ∧ g < hi) := ⟨hge, hgh⟩
  have HY : Hid (∀ d ∈ l, d.rs.length ≤ 1048576 ∧ d.cs.length ≤ 1048576 ∧ ∀ x ∈ d.rs, x.f.length ≤ 1048576 ∧ ∀ y ∈ x.f, y.length ≤ 1048576) := hy
  clear h hge hgh hgl hy
  go_enter Tryz.func13, Tryz.ntmps13
  go_wp2_with fail
  go_loopw [1, 5] (fun x i wr => ∃ (k E : Nat), k ≤ l.length ∧ i = .int .i64 k ∧ x = .int .i64 (E : Int) ∧ E = q + sumN szDnn (l.take k) ∧ RowDH wr lo hi (.slice (some ⟨g, 0, none⟩) l.length c) (mixL szDnn mkDnn q l k) ∧ Chg lo hi w wr) (fun _ i _ => l.length - (intOf i).toNat)
  case atStart => exact ⟨0, q, Nat.zero_le _, rfl, rfl, by simp [sumN], by rw [mixL_zero]; exact HO0.out, Chg.refl _ _ _⟩
  case round =>
    obtain ⟨k, E, hk, rfl, rfl, hE, hR, hM⟩ := hrel
    clear HO0
    by_cases hlt : k < l.length
    · have hlt2 : (k : Int) < (l.length : Int) := by omega
      have hmx := mixL_len szDnn mkDnn q l k hk
      have hmg := mixL_get szDnn mkDnn q l k hlt
      have hms := mixL_set szDnn mkDnn q l k hlt
      have hone := sumN_one szDnn l k hlt
      have hst := sumN_take szDnn l k hlt
      rw [← hE] at hms
      have hR0 := hR.fresh (k := k) (by omega)
      rw [List.getElem?_eq_getElem (by omega)] at hmg
      rw [Option.some.inj hmg] at hR0
      have hyk := HY.out l[k] (List.getElem_mem _)
      obtain ⟨en, hen⟩ : ∃ en, en = l[k] := ⟨_, rfl⟩
      rw [← hen] at hms hone hst hR0 hyk
      obtain ⟨L, hL⟩ : ∃ L, L = mixL szDnn mkDnn q l k := ⟨_, rfl⟩
      rw [← hL] at hmx hms hR0
      have HKL : Hid (k < L.length) := by show k < L.length; omega
      have HMS : Hid (_ = _) := hms
      have HEQ : Hid (q + sumN szDnn (l.take (k + 1)) = E + szDnn en) := by show _ = _; rw [hst]; omega
      have hE1 : 1 ≤ E := by omega
      have hEb : E + szDnn en ≤ 17592186044416 := by omega
      simp only [szDnn] at hEb
      have HYK : Hid _ := hyk
      have HA0 : Hid (RowDH wr lo hi (.slice (some ⟨g, 0, none⟩) l.length c) (L.set k en)) := hR0
      have HD0 : Hid (Chg lo hi w wr) := hM
      clear hE hR hM hmx hmg hms hone hst hR0 hL hen hyk
      obtain ⟨a0, b0, cs0, O0⟩ := (HA0.out).cur frD HKL.out
      obtain ⟨v0, u0, p0, q0, r0, s0, rfl, hp0, hv0, hu0⟩ := O0.el
      have y0 : wr.cell? ⟨g, k * 6, none⟩ = some (.int .i64 _) := O0.there 0 (by decide)
      have f0 : wr.frozen? ⟨g, k * 6, none⟩ = false := O0.soft _
      have y1 : wr.cell? ⟨g, k * 6 + 1, none⟩ = some (.int .i64 _) := O0.there 1 (by decide)
      have f1 : wr.frozen? ⟨g, k * 6 + 1, none⟩ = false := O0.soft _
      have y2 : wr.cell? ⟨g, k * 6 + 2, none⟩ = some v0 := O0.there 2 (by decide)
      have f2 : wr.frozen? ⟨g, k * 6 + 2, none⟩ = false := O0.soft _
      have hgl0 := O0.dom
      have K0_0 : RowDH (wr.setCell ⟨g, k * 6, none⟩ (.int .i64 ((E : Int)))) lo hi (.slice (some ⟨g, 0, none⟩) l.length c) (L.set k ⟨((E : Int)), en.at_, en.rs, en.cs, en.di, en.do_⟩) := O0.put 0 (.int .i64 ((E : Int))) ⟨((E : Int)), en.at_, en.rs, en.cs, en.di, en.do_⟩ (by decide) ⟨v0, u0, p0, q0, r0, s0, rfl, hp0, hv0.off frR _ (by have := hp0; have := O0.out; omega), hu0.off frG _ (by have := hp0; have := O0.out; omega)⟩
      obtain ⟨a0_0, b0_0, cs0_0, O0_0⟩ := K0_0.cur frD HKL.out
      obtain ⟨v0_0, u0_0, p0_0, q0_0, r0_0, s0_0, rfl, hp0_0, hv0_0, hu0_0⟩ := O0_0.el
      obtain rfl : v0_0 = v0 := beside_eq (by omega) (O0_0.there 2 (by decide)) (O0.there 2 (by decide))
      have K0_1 : RowDH ((wr.setCell ⟨g, k * 6, none⟩ (.int .i64 ((E : Int)))).setCell ⟨g, k * 6 + 1, none⟩ (.int .i64 ((E : Int) + 1))) lo hi (.slice (some ⟨g, 0, none⟩) l.length c) (L.set k ⟨((E : Int)), ((E : Int) + 1), en.rs, en.cs, en.di, en.do_⟩) := O0_0.put 1 (.int .i64 ((E : Int) + 1)) ⟨((E : Int)), ((E : Int) + 1), en.rs, en.cs, en.di, en.do_⟩ (by decide) ⟨v0_0, u0_0, p0_0, q0_0, r0_0, s0_0, rfl, hp0_0, hv0_0.off frR _ (by have := hp0_0; have := O0_0.out; omega), hu0_0.off frG _ (by have := hp0_0; have := O0_0.out; omega)⟩
      obtain ⟨a0_1, b0_1, cs0_1, O0_1⟩ := K0_1.cur frD HKL.out
      obtain ⟨v0_1, u0_1, p0_1, q0_1, r0_1, s0_1, rfl, hp0_1, hv0_1, hu0_1⟩ := O0_1.el
      obtain rfl : v0_1 = v0_0 := beside_eq (by omega) (O0_1.there 2 (by decide)) (O0_0.there 2 (by decide))
      have HS0 : Hid (RowDH ((wr.setCell ⟨g, k * 6, none⟩ (.int .i64 ((E : Int)))).setCell ⟨g, k * 6 + 1, none⟩ (.int .i64 ((E : Int) + 1))) lo hi (.slice (some ⟨g, 0, none⟩) l.length c) (L.set k ⟨((E : Int)), ((E : Int) + 1), en.rs, en.cs, en.di, en.do_⟩)) := K0_1
      have HC0 : Hid (Chg lo hi w ((wr.setCell ⟨g, k * 6, none⟩ (.int .i64 ((E : Int)))).setCell ⟨g, k * 6 + 1, none⟩ (.int .i64 ((E : Int) + 1)))) := ((HD0.out.trans (chg_set wr (.int .i64 ((E : Int))) HG.out.1 HG.out.2)).trans (chg_set (wr.setCell ⟨g, k * 6, none⟩ (.int .i64 ((E : Int)))) (.int .i64 ((E : Int) + 1)) HG.out.1 HG.out.2))
      have HCH0 : Hid (RowRH ((wr.setCell ⟨g, k * 6, none⟩ (.int .i64 ((E : Int)))).setCell ⟨g, k * 6 + 1, none⟩ (.int .i64 ((E : Int) + 1))) p0_1 q0_1 v0_1 en.rs ∧ _) := ⟨hv0_1, (show RowGH _ r0_1 s0_1 u0_1 en.cs ∧ _ from ⟨hu0_1, hp0_1⟩)⟩
      have HUP0 : Hid (∀ (w' : World) (x' : Dn), Chg _ _ _ w' → ElD w' _ _ _ x' → RowDH w' lo hi _ _) := O0_1.upd
      have HIN0 : Hid (lo ≤ a0_1 ∧ b0_1 ≤ hi) := ⟨O0_1.la, O0_1.bh⟩
      clear O0 K0_0 O0_0 K0_1 O0_1
      clear HA0 HD0
      go_wp2_with fail
      refine (markReadS_h _ _ _ _ (E + 2) _ _ (by omega) HCH0.out.1 (by omega) (by rw [sumN_rd]; omega) HYK.out.1 HYK.out.2.2).mono ?_
      rintro e w2 ⟨rfl, hch, hcm⟩
      have HA1 : Hid (RowDH w2 lo hi (.slice (some ⟨g, 0, none⟩) l.length c) (L.set k ⟨((E : Int)), ((E : Int) + 1), (mkL szRdg mkRdg (E + 2) en.rs), en.cs, en.di, en.do_⟩)) := HUP0.out w2 ⟨((E : Int)), ((E : Int) + 1), (mkL szRdg mkRdg (E + 2) en.rs), en.cs, en.di, en.do_⟩ (chg_wide hcm (by have := HCH0.out.2.2; omega) (by have := HCH0.out.2.2; omega)) ⟨_, _, _, _, _, _, rfl, HCH0.out.2.2, hch, HCH0.out.2.1.same frG (fun k h1 h2 h3 => hcm.block k h3 (by have := HCH0.out.2.2; omega))⟩
      have HD1 : Hid (Chg lo hi w w2) := HC0.out.trans (chg_wide hcm (by have := HCH0.out.2.2; have := HIN0.out; omega) (by have := HCH0.out.2.2; have := HIN0.out; omega))
      clear hch hcm y0 f0 y1 f1 y2 f2 hgl0 HS0 HC0 HUP0 HCH0
      obtain ⟨E1, hE1⟩ : ∃ n : Nat, n = E + 2 + mkR en.rs := ⟨_, rfl⟩
      have eE1 : E + 2 + sumN szRdg en.rs = E1 := by rw [hE1]; rw [sumN_rd]
      rw [eE1]
      have HE1 : Hid (E1 = E + 2 + mkR en.rs) := hE1
      have hbE1 : 1 ≤ E1 ∧ E1 + 10 * en.cs.length + 2 ≤ 17592186044416 := by constructor <;> omega
      clear eE1 hE1
      obtain ⟨a1, b1, cs1, O1⟩ := (HA1.out).cur frD HKL.out
      obtain ⟨v1, u1, p1, q1, r1, s1, rfl, hp1, hv1, hu1⟩ := O1.el
      have y3 : w2.cell? ⟨g, k * 6 + 3, none⟩ = some u1 := O1.there 3 (by decide)
      have f3 : w2.frozen? ⟨g, k * 6 + 3, none⟩ = false := O1.soft _
      have hgl1 := O1.dom
      have HS1 : Hid (RowDH w2 lo hi (.slice (some ⟨g, 0, none⟩) l.length c) (L.set k ⟨((E : Int)), ((E : Int) + 1), (mkL szRdg mkRdg (E + 2) en.rs), en.cs, en.di, en.do_⟩)) := HA1.out
      have HC1 : Hid (Chg lo hi w w2) := HD1.out
      have HCH1 : Hid (RowGH w2 r1 s1 u1 en.cs ∧ _) := ⟨hu1, (show RowRH _ p1 q1 v1 _ ∧ _ from ⟨hv1, hp1⟩)⟩
      have HUP1 : Hid (∀ (w' : World) (x' : Dn), Chg _ _ _ w' → ElD w' _ _ _ x' → RowDH w' lo hi _ _) := O1.upd
      have HIN1 : Hid (lo ≤ a1 ∧ b1 ≤ hi) := ⟨O1.la, O1.bh⟩
      clear O1
      clear HA1 HD1
      go_wp2_with fail
      refine (markChangeS_h _ _ _ _ (E1) _ _ (by omega) HCH1.out.1 (by omega) (by rw [sumN_cg]; omega) HYK.out.2.1).mono ?_
      rintro e w3 ⟨rfl, hch, hcm⟩
      have HA2 : Hid (RowDH w3 lo hi (.slice (some ⟨g, 0, none⟩) l.length c) (L.set k ⟨((E : Int)), ((E : Int) + 1), (mkL szRdg mkRdg (E + 2) en.rs), (mkL szCgr mkCgr (E1) en.cs), en.di, en.do_⟩)) := HUP1.out w3 ⟨((E : Int)), ((E : Int) + 1), (mkL szRdg mkRdg (E + 2) en.rs), (mkL szCgr mkCgr (E1) en.cs), en.di, en.do_⟩ (chg_wide hcm (by have := HCH1.out.2.2; omega) (by have := HCH1.out.2.2; omega)) ⟨_, _, _, _, _, _, rfl, HCH1.out.2.2, HCH1.out.2.1.same frR (fun k h1 h2 h3 => hcm.block k h3 (by have := HCH1.out.2.2; omega)), hch⟩
      have HD2 : Hid (Chg lo hi w w3) := HC1.out.trans (chg_wide hcm (by have := HCH1.out.2.2; have := HIN1.out; omega) (by have := HCH1.out.2.2; have := HIN1.out; omega))
      clear hch hcm y3 f3 hgl1 HS1 HC1 HUP1 HCH1
      obtain ⟨E2, hE2⟩ : ∃ n : Nat, n = E1 + 10 * en.cs.length := ⟨_, rfl⟩
      have eE2 : E1 + sumN szCgr en.cs = E2 := by rw [hE2]; rw [sumN_cg]
      rw [eE2]
      have HE2 : Hid (E2 = E1 + 10 * en.cs.length) := hE2
      have hbE2 : 1 ≤ E2 ∧ E2 + 2 ≤ 17592186044416 := by constructor <;> omega
      clear eE2 hE2
      obtain ⟨B0, hB0⟩ : ∃ B0 : Bool, B0 = boolK ((E2 : Int)) := ⟨_, rfl⟩
      have kB0 : (((E2 : Int)) % 3 == 0) = B0 := by rw [hB0]; rfl
      have tB0 : Int.tmod ((E2 : Int)) 3 = ((E2 : Int)) % 3 := Int.tmod_eq_emod_of_nonneg (by omega)
      have HB0 : Hid (B0 = boolK ((E2 : Int))) := hB0
      clear hB0
      obtain ⟨B1, hB1⟩ : ∃ B1 : Bool, B1 = boolK ((E2 : Int) + 1) := ⟨_, rfl⟩
      have kB1 : (((E2 : Int) + 1) % 3 == 0) = B1 := by rw [hB1]; rfl
      have tB1 : Int.tmod ((E2 : Int) + 1) 3 = ((E2 : Int) + 1) % 3 := Int.tmod_eq_emod_of_nonneg (by omega)
      have HB1 : Hid (B1 = boolK ((E2 : Int) + 1)) := hB1
      clear hB1
      obtain ⟨a2, b2, cs2, O2⟩ := (HA2.out).cur frD HKL.out
      obtain ⟨v2, u2, p2, q2, r2, s2, rfl, hp2, hv2, hu2⟩ := O2.el
      have y4 : w3.cell? ⟨g, k * 6 + 4, none⟩ = some (.bool _) := O2.there 4 (by decide)
      have f4 : w3.frozen? ⟨g, k * 6 + 4, none⟩ = false := O2.soft _
      have y5 : w3.cell? ⟨g, k * 6 + 5, none⟩ = some (.bool _) := O2.there 5 (by decide)
      have f5 : w3.frozen? ⟨g, k * 6 + 5, none⟩ = false := O2.soft _
      have hgl2 := O2.dom
      have K2_0 : RowDH (w3.setCell ⟨g, k * 6 + 4, none⟩ (.bool B0)) lo hi (.slice (some ⟨g, 0, none⟩) l.length c) (L.set k ⟨((E : Int)), ((E : Int) + 1), (mkL szRdg mkRdg (E + 2) en.rs), (mkL szCgr mkCgr (E1) en.cs), B0, en.do_⟩) := O2.put 4 (.bool B0) ⟨((E : Int)), ((E : Int) + 1), (mkL szRdg mkRdg (E + 2) en.rs), (mkL szCgr mkCgr (E1) en.cs), B0, en.do_⟩ (by decide) ⟨v2, u2, p2, q2, r2, s2, rfl, hp2, hv2.off frR _ (by have := hp2; have := O2.out; omega), hu2.off frG _ (by have := hp2; have := O2.out; omega)⟩
      obtain ⟨a2_0, b2_0, cs2_0, O2_0⟩ := K2_0.cur frD HKL.out
      obtain ⟨v2_0, u2_0, p2_0, q2_0, r2_0, s2_0, rfl, hp2_0, hv2_0, hu2_0⟩ := O2_0.el
      have K2_1 : RowDH ((w3.setCell ⟨g, k * 6 + 4, none⟩ (.bool B0)).setCell ⟨g, k * 6 + 5, none⟩ (.bool B1)) lo hi (.slice (some ⟨g, 0, none⟩) l.length c) (L.set k ⟨((E : Int)), ((E : Int) + 1), (mkL szRdg mkRdg (E + 2) en.rs), (mkL szCgr mkCgr (E1) en.cs), B0, B1⟩) := O2_0.put 5 (.bool B1) ⟨((E : Int)), ((E : Int) + 1), (mkL szRdg mkRdg (E + 2) en.rs), (mkL szCgr mkCgr (E1) en.cs), B0, B1⟩ (by decide) ⟨v2_0, u2_0, p2_0, q2_0, r2_0, s2_0, rfl, hp2_0, hv2_0.off frR _ (by have := hp2_0; have := O2_0.out; omega), hu2_0.off frG _ (by have := hp2_0; have := O2_0.out; omega)⟩
      have HS2 : Hid (RowDH ((w3.setCell ⟨g, k * 6 + 4, none⟩ (.bool B0)).setCell ⟨g, k * 6 + 5, none⟩ (.bool B1)) lo hi (.slice (some ⟨g, 0, none⟩) l.length c) (L.set k ⟨((E : Int)), ((E : Int) + 1), (mkL szRdg mkRdg (E + 2) en.rs), (mkL szCgr mkCgr (E1) en.cs), B0, B1⟩)) := K2_1
      have HC2 : Hid (Chg lo hi w ((w3.setCell ⟨g, k * 6 + 4, none⟩ (.bool B0)).setCell ⟨g, k * 6 + 5, none⟩ (.bool B1))) := ((HD2.out.trans (chg_set w3 (.bool B0) HG.out.1 HG.out.2)).trans (chg_set (w3.setCell ⟨g, k * 6 + 4, none⟩ (.bool B0)) (.bool B1) HG.out.1 HG.out.2))
      clear O2 K2_0 O2_0 K2_1
      clear HA2 HD2
      go_wp2_with fail
      go_roundw
      case rel => exact ⟨k + 1, E2 + 2, by omega, by go_num, by go_num, by have := HEQ.out; simp only [szDnn] at this; have e1 := HE1.out; have e2 := HE2.out; omega, by rw [← HMS.out]; exact (by rw [show mkDnn E en = ⟨(E : Int), (E : Int) + 1, mkL szRdg mkRdg (E + 2) en.rs, mkL szCgr mkCgr E1 en.cs, B0, B1⟩ from by rw [HB0.out, HB1.out, HE2.out, HE1.out]; rfl]; exact HS2.out), HC2.out⟩
      case measure => simp [intOf]; omega
    · obtain rfl : k = l.length := by omega
      rw [mixL_full] at hR
      rw [List.take_length] at hE
      have HRF : Hid (RowDH wr lo hi _ _) := hR
      clear hR
      subst hE
      go_wp2_with fail
      go_ret
      exact ⟨rfl, HRF.out, hM⟩

end Go.Proofs.YtcggkeleaepebaaGreatDoor.Hx

/- Marks that are held by rows of terms and changes: what the laws' helpers answer. -/
namespace Go.Proofs.YtcggkeleaepebaaGreatDoor.Hx
open Go.RowKit Go.ChangeShapes Go.WideShapes Go.ChangeAt Go.Joins Tr Co Rea Ce Ty
set_option linter.unusedVariables false

set_option maxRecDepth 4000 in
set_option maxHeartbeats 4000000 in
theorem heldTermS_h (lo hi : Nat) (v : Value) (l : List Trm) (q : Nat) (z : Int) (w : World) (hz : z = (q : Int)) (h : RowTH w lo hi v (mkL szTm mkTm q l)) (h1 : 1 ≤ q) (h2 : q + sumN szTm l ≤ 17592186044416) (hl : l.length ≤ 1048576) :
    Calls Tryz.prog 92 #[v, .int .i64 z] w fun e w' => e = .returned (.int .i64 ((q + sumN szTm l : Nat) : Int)) ∧ Below w.heap.size w w' := by
  subst hz
  rcases h.form with ⟨rfl, hnil⟩ | ⟨g, c, rfl, hge, hgh, hgl⟩
  · obtain rfl : l = [] := by
      cases l with
      | nil => rfl
      | cons a t => simp [mkL] at hnil
    clear h hnil
    go_enter Tryz.func92, Tryz.ntmps92
    go_wp2_with fail
    refine wp_loop_rounds 1 ?_
    rw [rounds_succ]
    go_wp2_with fail
    go_ret
    exact ⟨rfl, Below.refl _ _⟩
  rw [mkL_len] at h ⊢
  have HH : Hid (RowTH _ _ _ _ _) := h
  clear h hge hgh
  go_enter Tryz.func92, Tryz.ntmps92
  go_wp2_with fail
  go_loopw [1, 5] (fun x i wr => ∃ (k E : Nat), k ≤ l.length ∧ i = .int .i64 k ∧ x = .int .i64 (E : Int) ∧ E = q + sumN szTm (l.take k) ∧ Below w.heap.size w wr) (fun _ i _ => l.length - (intOf i).toNat)
  case atStart => exact ⟨0, q, Nat.zero_le _, rfl, rfl, by simp [sumN], Below.refl _ _⟩
  case round =>
    obtain ⟨k, E, hk, rfl, rfl, hE, hbel⟩ := hrel
    by_cases hlt : k < l.length
    · have hlt2 : (k : Int) < (l.length : Int) := by omega
      have hone := sumN_one szTm l k hlt
      have hst := sumN_take szTm l k hlt
      obtain ⟨g', a, b, cs, O⟩ := (HH.out.next frT hbel).one frT k (by rw [mkL_len]; exact hlt)
      obtain rfl : g = g' := by simpa [Value.ownBlock] using O.blk
      rw [mkL_get' szTm mkTm q l k (by rw [mkL_len]; exact hlt) hlt, ← hE] at O
      obtain ⟨en, hen⟩ : ∃ en, en = l[k] := ⟨_, rfl⟩
      rw [← hen] at hone hst O
      have HEQ : Hid (q + sumN szTm (l.take (k + 1)) = E + szTm en) := by show _ = _; rw [hst]; omega
      have hE1 : 1 ≤ E := by omega
      have hEb : E + szTm en ≤ 17592186044416 := by omega
      simp only [szTm] at hEb
      have HB0 : Hid (Below w.heap.size w wr) := hbel
      have hgl0 := O.dom
      obtain rfl : cs = rowT (mkTm E en) := O.el
      have y0 : wr.cell? ⟨g, k * 5, none⟩ = some (.int .i64 ((E : Int))) := O.there 0 (by decide)
      obtain ⟨T1, hT1⟩ : ∃ T, T = Tr.mt (E + 1) := ⟨_, rfl⟩
      have HM1 : Hid (∀ (z : Int) (_ : z = ((E + 1 : Nat) : Int)) (W : World), Calls Tryz.prog 63 #[.int .i64 z] W fun e w' => e = .returned (.string T1) ∧ Below W.heap.size W w') := fun z hz W => by rw [hT1]; exact mText_at (E + 1) z hz (by omega) (by omega) W
      have y1 : wr.cell? ⟨g, k * 5 + 1, none⟩ = some (.string T1) := by rw [hT1]; exact O.there 1 (by decide)
      have y2 : wr.cell? ⟨g, k * 5 + 2, none⟩ = some (.int .i64 ((E : Int) + 1 + 1)) := O.there 2 (by decide)
      have y3 : wr.cell? ⟨g, k * 5 + 3, none⟩ = some (.int .i64 ((E : Int) + 1 + 1 + 1)) := O.there 3 (by decide)
      obtain ⟨T4, hT4⟩ : ∃ T, T = Tr.mt (E + 4) := ⟨_, rfl⟩
      have HM4 : Hid (∀ (z : Int) (_ : z = ((E + 4 : Nat) : Int)) (W : World), Calls Tryz.prog 63 #[.int .i64 z] W fun e w' => e = .returned (.string T4) ∧ Below W.heap.size W w') := fun z hz W => by rw [hT4]; exact mText_at (E + 4) z hz (by omega) (by omega) W
      have y4 : wr.cell? ⟨g, k * 5 + 4, none⟩ = some (.string T4) := by rw [hT4]; exact O.there 4 (by decide)
      clear O hE hbel hone hst hen hT1 hT4   
      have hnu0 : Nonempty (Under wr) := ⟨⟨wr, Below.refl _ _⟩⟩
      have q1 : ∀ u : Under wr, u.x.cell? ⟨g, k * 5 + 1, none⟩ = some (.string T1) := fun u => (u.h.cell hgl0).trans y1
      go_wp2_with fail
      refine wp_region_under (by kernel_rfl) (by kernel_rfl) ?_
      repeat (go_big_quiet_step ((go_at_call 63; exact calls_under _ (HM1.out _ (by omega) _))))
      refine wpQuiet_nil ?_
      rintro _ ⟨u, rfl⟩
      have hnb0 : Below wr.heap.size wr u.x := u.h
      clear q1 hnu0 HM1
      generalize u.x = w2 at hnb0 ⊢
      clear y1 y0
      replace y2 := (hnb0.cell hgl0).trans y2
      replace y3 := (hnb0.cell hgl0).trans y3
      replace y4 := (hnb0.cell hgl0).trans y4
      have HB1 : Hid (Below w.heap.size w w2) := HB0.out.trans (hnb0.mono HB0.out.size)
      have hgl1 := Nat.lt_of_lt_of_le hgl0 hnb0.size
      clear HB0 hgl0 hnb0
      have hnu1 : Nonempty (Under w2) := ⟨⟨w2, Below.refl _ _⟩⟩
      have q4 : ∀ u : Under w2, u.x.cell? ⟨g, k * 5 + 4, none⟩ = some (.string T4) := fun u => (u.h.cell hgl1).trans y4
      go_wp2_with fail
      refine wp_region_under (by kernel_rfl) (by kernel_rfl) ?_
      repeat (go_big_quiet_step ((go_at_call 63; exact calls_under _ (HM4.out _ (by omega) _))))
      refine wpQuiet_nil ?_
      rintro _ ⟨u, rfl⟩
      have hnb1 : Below w2.heap.size w2 u.x := u.h
      clear q4 hnu1 HM4
      generalize u.x = w3 at hnb1 ⊢
      clear y4 y2 y3
      have HB2 : Hid (Below w.heap.size w w3) := HB1.out.trans (hnb1.mono HB1.out.size)
      have hgl2 := Nat.lt_of_lt_of_le hgl1 hnb1.size
      clear HB1 hgl1 hnb1
      go_wp2_with fail
      go_roundw
      case rel => exact ⟨k + 1, E + 5, by omega, by go_num, by go_num, by have := HEQ.out; simp only [szTm] at this; omega, HB2.out⟩
      case measure => simp [intOf]; omega
    · obtain rfl : k = l.length := by omega
      rw [List.take_length] at hE
      subst hE
      go_wp2_with fail
      go_ret
      exact ⟨rfl, hbel⟩

set_option maxRecDepth 4000 in
set_option maxHeartbeats 4000000 in
theorem heldChangeS_h (lo hi : Nat) (v : Value) (l : List Cgr) (q : Nat) (z : Int) (w : World) (hz : z = (q : Int)) (h : RowGH w lo hi v (mkL szCgr mkCgr q l)) (h1 : 1 ≤ q) (h2 : q + sumN szCgr l ≤ 17592186044416) (hl : l.length ≤ 1048576) :
    Calls Tryz.prog 36 #[v, .int .i64 z] w fun e w' => e = .returned (.int .i64 ((q + sumN szCgr l : Nat) : Int)) ∧ Below w.heap.size w w' := by
  subst hz
  rcases h.form with ⟨rfl, hnil⟩ | ⟨g, c, rfl, hge, hgh, hgl⟩
  · obtain rfl : l = [] := by
      cases l with
      | nil => rfl
      | cons a t => simp [mkL] at hnil
    clear h hnil
    go_enter Tryz.func36, Tryz.ntmps36
    go_wp2_with fail
    refine wp_loop_rounds 1 ?_
    rw [rounds_succ]
    go_wp2_with fail
    go_ret
    exact ⟨rfl, Below.refl _ _⟩
  rw [mkL_len] at h ⊢
  have HH : Hid (RowGH _ _ _ _ _) := h
  clear h hge hgh
  go_enter Tryz.func36, Tryz.ntmps36
  go_wp2_with fail
  go_loopw [1, 5] (fun x i wr => ∃ (k E : Nat), k ≤ l.length ∧ i = .int .i64 k ∧ x = .int .i64 (E : Int) ∧ E = q + sumN szCgr (l.take k) ∧ Below w.heap.size w wr) (fun _ i _ => l.length - (intOf i).toNat)
  case atStart => exact ⟨0, q, Nat.zero_le _, rfl, rfl, by simp [sumN], Below.refl _ _⟩
  case round =>
    obtain ⟨k, E, hk, rfl, rfl, hE, hbel⟩ := hrel
    by_cases hlt : k < l.length
    · have hlt2 : (k : Int) < (l.length : Int) := by omega
      have hone := sumN_one szCgr l k hlt
      have hst := sumN_take szCgr l k hlt
      obtain ⟨g', a, b, cs, O⟩ := (HH.out.next frG hbel).one frG k (by rw [mkL_len]; exact hlt)
      obtain rfl : g = g' := by simpa [Value.ownBlock] using O.blk
      rw [mkL_get' szCgr mkCgr q l k (by rw [mkL_len]; exact hlt) hlt, ← hE] at O
      obtain ⟨en, hen⟩ : ∃ en, en = l[k] := ⟨_, rfl⟩
      rw [← hen] at hone hst O
      have HEQ : Hid (q + sumN szCgr (l.take (k + 1)) = E + szCgr en) := by show _ = _; rw [hst]; omega
      have hE1 : 1 ≤ E := by omega
      have hEb : E + szCgr en ≤ 17592186044416 := by omega
      simp only [szCgr] at hEb
      have HB0 : Hid (Below w.heap.size w wr) := hbel
      have hgl0 := O.dom
      obtain ⟨B0, hB0⟩ : ∃ B0 : Bool, B0 = boolK ((E : Int) + 1 + 1) := ⟨_, rfl⟩
      have kB0 : (((E : Int) + 1 + 1) % 3 == 0) = B0 := by rw [hB0]; rfl
      have tB0 : Int.tmod ((E : Int) + 1 + 1) 3 = ((E : Int) + 1 + 1) % 3 := Int.tmod_eq_emod_of_nonneg (by omega)
      obtain ⟨B1, hB1⟩ : ∃ B1 : Bool, B1 = boolK ((E : Int) + 1 + 1 + 1 + 1 + 1 + 1 + 1 + 1 + 1) := ⟨_, rfl⟩
      have kB1 : (((E : Int) + 1 + 1 + 1 + 1 + 1 + 1 + 1 + 1 + 1) % 3 == 0) = B1 := by rw [hB1]; rfl
      have tB1 : Int.tmod ((E : Int) + 1 + 1 + 1 + 1 + 1 + 1 + 1 + 1 + 1) 3 = ((E : Int) + 1 + 1 + 1 + 1 + 1 + 1 + 1 + 1 + 1) % 3 := Int.tmod_eq_emod_of_nonneg (by omega)
      obtain rfl : cs = rowCg (mkCgr E en) := O.el
      obtain ⟨T0, hT0⟩ : ∃ T, T = Tr.mt (E) := ⟨_, rfl⟩
      have HM0 : Hid (∀ (z : Int) (_ : z = ((E : Nat) : Int)) (W : World), Calls Tryz.prog 63 #[.int .i64 z] W fun e w' => e = .returned (.string T0) ∧ Below W.heap.size W w') := fun z hz W => by rw [hT0]; exact mText_at (E) z hz (by omega) (by omega) W
      have y0 : wr.cell? ⟨g, k * 10, none⟩ = some (.string T0) := by rw [hT0]; exact O.there 0 (by decide)
      have y1 : wr.cell? ⟨g, k * 10 + 1, none⟩ = some (.int .i64 ((E : Int) + 1)) := O.there 1 (by decide)
      have y2 : wr.cell? ⟨g, k * 10 + 2, none⟩ = some (.bool B0) := by rw [hB0]; exact O.there 2 (by decide)
      have y3 : wr.cell? ⟨g, k * 10 + 3, none⟩ = some (.int .i64 ((E : Int) + 1 + 1 + 1)) := O.there 3 (by decide)
      have y4 : wr.cell? ⟨g, k * 10 + 4, none⟩ = some (.int .i64 ((E : Int) + 1 + 1 + 1 + 1)) := O.there 4 (by decide)
      obtain ⟨T5, hT5⟩ : ∃ T, T = Tr.mt (E + 5) := ⟨_, rfl⟩
      have HM5 : Hid (∀ (z : Int) (_ : z = ((E + 5 : Nat) : Int)) (W : World), Calls Tryz.prog 63 #[.int .i64 z] W fun e w' => e = .returned (.string T5) ∧ Below W.heap.size W w') := fun z hz W => by rw [hT5]; exact mText_at (E + 5) z hz (by omega) (by omega) W
      have y5 : wr.cell? ⟨g, k * 10 + 5, none⟩ = some (.string T5) := by rw [hT5]; exact O.there 5 (by decide)
      have y6 : wr.cell? ⟨g, k * 10 + 6, none⟩ = some (.int .i64 ((E : Int) + 1 + 1 + 1 + 1 + 1 + 1)) := O.there 6 (by decide)
      have y7 : wr.cell? ⟨g, k * 10 + 7, none⟩ = some (.int .i64 ((E : Int) + 1 + 1 + 1 + 1 + 1 + 1 + 1)) := O.there 7 (by decide)
      obtain ⟨T8, hT8⟩ : ∃ T, T = Tr.mt (E + 8) := ⟨_, rfl⟩
      have HM8 : Hid (∀ (z : Int) (_ : z = ((E + 8 : Nat) : Int)) (W : World), Calls Tryz.prog 63 #[.int .i64 z] W fun e w' => e = .returned (.string T8) ∧ Below W.heap.size W w') := fun z hz W => by rw [hT8]; exact mText_at (E + 8) z hz (by omega) (by omega) W
      have y8 : wr.cell? ⟨g, k * 10 + 8, none⟩ = some (.string T8) := by rw [hT8]; exact O.there 8 (by decide)
      have y9 : wr.cell? ⟨g, k * 10 + 9, none⟩ = some (.bool B1) := by rw [hB1]; exact O.there 9 (by decide)
      clear O hE hbel hone hst hen hT0 hT5 hT8 hB0 hB1  
      have hnu0 : Nonempty (Under wr) := ⟨⟨wr, Below.refl _ _⟩⟩
      have q0 : ∀ u : Under wr, u.x.cell? ⟨g, k * 10, none⟩ = some (.string T0) := fun u => (u.h.cell hgl0).trans y0
      go_wp2_with fail
      refine wp_region_under (by kernel_rfl) (by kernel_rfl) ?_
      repeat (go_big_quiet_step ((go_at_call 63; exact calls_under _ (HM0.out _ (by omega) _))))
      refine wpQuiet_nil ?_
      rintro _ ⟨u, rfl⟩
      have hnb0 : Below wr.heap.size wr u.x := u.h
      clear q0 hnu0 HM0
      generalize u.x = w2 at hnb0 ⊢
      clear y0
      replace y1 := (hnb0.cell hgl0).trans y1
      replace y2 := (hnb0.cell hgl0).trans y2
      replace y3 := (hnb0.cell hgl0).trans y3
      replace y4 := (hnb0.cell hgl0).trans y4
      replace y5 := (hnb0.cell hgl0).trans y5
      replace y6 := (hnb0.cell hgl0).trans y6
      replace y7 := (hnb0.cell hgl0).trans y7
      replace y8 := (hnb0.cell hgl0).trans y8
      replace y9 := (hnb0.cell hgl0).trans y9
      have HB1 : Hid (Below w.heap.size w w2) := HB0.out.trans (hnb0.mono HB0.out.size)
      have hgl1 := Nat.lt_of_lt_of_le hgl0 hnb0.size
      clear HB0 hgl0 hnb0
      have hnu1 : Nonempty (Under w2) := ⟨⟨w2, Below.refl _ _⟩⟩
      have q5 : ∀ u : Under w2, u.x.cell? ⟨g, k * 10 + 5, none⟩ = some (.string T5) := fun u => (u.h.cell hgl1).trans y5
      go_wp2_with fail
      refine wp_region_under (by kernel_rfl) (by kernel_rfl) ?_
      repeat (go_big_quiet_step ((go_at_call 63; exact calls_under _ (HM5.out _ (by omega) _))))
      refine wpQuiet_nil ?_
      rintro _ ⟨u, rfl⟩
      have hnb1 : Below w2.heap.size w2 u.x := u.h
      clear q5 hnu1 HM5
      generalize u.x = w3 at hnb1 ⊢
      clear y5 y1 y2 y3 y4
      replace y6 := (hnb1.cell hgl1).trans y6
      replace y7 := (hnb1.cell hgl1).trans y7
      replace y8 := (hnb1.cell hgl1).trans y8
      replace y9 := (hnb1.cell hgl1).trans y9
      have HB2 : Hid (Below w.heap.size w w3) := HB1.out.trans (hnb1.mono HB1.out.size)
      have hgl2 := Nat.lt_of_lt_of_le hgl1 hnb1.size
      clear HB1 hgl1 hnb1
      have hnu2 : Nonempty (Under w3) := ⟨⟨w3, Below.refl _ _⟩⟩
      have q8 : ∀ u : Under w3, u.x.cell? ⟨g, k * 10 + 8, none⟩ = some (.string T8) := fun u => (u.h.cell hgl2).trans y8
      go_wp2_with fail
      refine wp_region_under (by kernel_rfl) (by kernel_rfl) ?_
      repeat (go_big_quiet_step ((go_at_call 63; exact calls_under _ (HM8.out _ (by omega) _))))
      refine wpQuiet_nil ?_
      rintro _ ⟨u, rfl⟩
      have hnb2 : Below w3.heap.size w3 u.x := u.h
      clear q8 hnu2 HM8
      generalize u.x = w4 at hnb2 ⊢
      clear y8 y6 y7
      replace y9 := (hnb2.cell hgl2).trans y9
      have HB3 : Hid (Below w.heap.size w w4) := HB2.out.trans (hnb2.mono HB2.out.size)
      have hgl3 := Nat.lt_of_lt_of_le hgl2 hnb2.size
      clear HB2 hgl2 hnb2
      go_wp2_with fail
      go_roundw
      case rel => exact ⟨k + 1, E + 10, by omega, by go_num, by go_num, by have := HEQ.out; simp only [szCgr] at this; omega, HB3.out⟩
      case measure => simp [intOf]; omega
    · obtain rfl : k = l.length := by omega
      rw [List.take_length] at hE
      subst hE
      go_wp2_with fail
      go_ret
      exact ⟨rfl, hbel⟩

end Go.Proofs.YtcggkeleaepebaaGreatDoor.Hx

/- Marks that are held by rows of clauses, reads and committed ones. -/
namespace Go.Proofs.YtcggkeleaepebaaGreatDoor.Hx
open Go.RowKit Go.ChangeShapes Go.WideShapes Go.ChangeAt Go.Joins Tr Co Rea Ce Ty
set_option linter.unusedVariables false

set_option maxRecDepth 4000 in
set_option maxHeartbeats 4000000 in
theorem heldClauseS_h (lo hi : Nat) (v : Value) (l : List (List Trm)) (q : Nat) (z : Int) (w : World) (hz : z = (q : Int)) (h : RowCH w lo hi v (mkL szCl mkCl q l)) (h1 : 1 ≤ q) (h2 : q + sumN szCl l ≤ 17592186044416) (hl : l.length ≤ 1048576) (hy : ∀ x ∈ l, x.length ≤ 1048576) :
    Calls Tryz.prog 65 #[v, .int .i64 z] w fun e w' => e = .returned (.int .i64 ((q + sumN szCl l : Nat) : Int)) ∧ Below w.heap.size w w' := by
  subst hz
  rcases h.form with ⟨rfl, hnil⟩ | ⟨g, c, rfl, hge, hgh, hgl⟩
  · obtain rfl : l = [] := by
      cases l with
      | nil => rfl
      | cons a t => simp [mkL] at hnil
    clear h hnil
    go_enter Tryz.func65, Tryz.ntmps65
    go_wp2_with fail
    refine wp_loop_rounds 1 ?_
    rw [rounds_succ]
    go_wp2_with fail
    go_ret
    exact ⟨rfl, Below.refl _ _⟩
  rw [mkL_len] at h ⊢
  have HH : Hid (RowCH _ _ _ _ _) := h
  have HY : Hid (∀ x ∈ l, x.length ≤ 1048576) := hy
  clear h hge hgh hy
  go_enter Tryz.func65, Tryz.ntmps65
  go_wp2_with fail
  go_loopw [1, 5] (fun x i wr => ∃ (k E : Nat), k ≤ l.length ∧ i = .int .i64 k ∧ x = .int .i64 (E : Int) ∧ E = q + sumN szCl (l.take k) ∧ Below w.heap.size w wr) (fun _ i _ => l.length - (intOf i).toNat)
  case atStart => exact ⟨0, q, Nat.zero_le _, rfl, rfl, by simp [sumN], Below.refl _ _⟩
  case round =>
    obtain ⟨k, E, hk, rfl, rfl, hE, hbel⟩ := hrel
    by_cases hlt : k < l.length
    · have hlt2 : (k : Int) < (l.length : Int) := by omega
      have hone := sumN_one szCl l k hlt
      have hst := sumN_take szCl l k hlt
      obtain ⟨g', a, b, cs, O⟩ := (HH.out.next frC hbel).one frC k (by rw [mkL_len]; exact hlt)
      obtain rfl : g = g' := by simpa [Value.ownBlock] using O.blk
      rw [mkL_get' szCl mkCl q l k (by rw [mkL_len]; exact hlt) hlt, ← hE] at O
      have hyk := HY.out l[k] (List.getElem_mem _)
      obtain ⟨en, hen⟩ : ∃ en, en = l[k] := ⟨_, rfl⟩
      rw [← hen] at hone hst O hyk
      have HEQ : Hid (q + sumN szCl (l.take (k + 1)) = E + szCl en) := by show _ = _; rw [hst]; omega
      have hE1 : 1 ≤ E := by omega
      have hEb : E + szCl en ≤ 17592186044416 := by omega
      simp only [szCl] at hEb
      have HYK : Hid _ := hyk
      have HB0 : Hid (Below w.heap.size w wr) := hbel
      have hgl0 := O.dom
      obtain ⟨v0, rfl, hv0⟩ := O.el
      have y0 : wr.cell? ⟨g, k, none⟩ = some v0 := by have := O.there 0 (by decide); simpa using this
      have HCH0 : Hid (RowTH wr a b v0 (mkL szTm mkTm (E) en)) := hv0
      clear O hE hbel hone hst hen    hyk hv0
      go_wp2_with fail
      refine (heldTermS_h _ _ _ _ (E) _ _ (by omega) HCH0.out (by omega) (by rw [sumN_tm]; omega) HYK.out).mono ?_
      rintro e w2 ⟨rfl, hnb0⟩
      obtain ⟨N0, hN0⟩ : ∃ n : Nat, n = E + sumN szTm en := ⟨_, rfl⟩
      rw [← hN0]
      have HN0 : Hid (N0 = E + sumN szTm en) := hN0
      have n0 : ¬ ((N0 : Nat) : Int) < 0 := by omega
      clear hN0
      clear y0 HCH0
      have HB1 : Hid (Below w.heap.size w w2) := HB0.out.trans (hnb0.mono HB0.out.size)
      have hgl1 := Nat.lt_of_lt_of_le hgl0 hnb0.size
      clear HB0 hgl0 hnb0
      go_wp2_with fail
      go_roundw
      case rel => exact ⟨k + 1, N0, by omega, by go_num, rfl, by have := HEQ.out; simp only [szCl] at this; rw [HN0.out, sumN_tm]; omega, HB1.out⟩
      case measure => simp [intOf]; omega
    · obtain rfl : k = l.length := by omega
      rw [List.take_length] at hE
      subst hE
      go_wp2_with fail
      go_ret
      exact ⟨rfl, hbel⟩

set_option maxRecDepth 4000 in
set_option maxHeartbeats 4000000 in
theorem heldReadS_h (lo hi : Nat) (v : Value) (l : List Rdg) (q : Nat) (z : Int) (w : World) (hz : z = (q : Int)) (h : RowRH w lo hi v (mkL szRdg mkRdg q l)) (h1 : 1 ≤ q) (h2 : q + sumN szRdg l ≤ 17592186044416) (hl : l.length ≤ 1048576) (hy : ∀ x ∈ l, x.f.length ≤ 1048576 ∧ ∀ y ∈ x.f, y.length ≤ 1048576) :
    Calls Tryz.prog 35 #[v, .int .i64 z] w fun e w' => e = .returned (.int .i64 ((q + sumN szRdg l : Nat) : Int)) ∧ Below w.heap.size w w' := by
  subst hz
  rcases h.form with ⟨rfl, hnil⟩ | ⟨g, c, rfl, hge, hgh, hgl⟩
  · obtain rfl : l = [] := by
      cases l with
      | nil => rfl
      | cons a t => simp [mkL] at hnil
    clear h hnil
    go_enter Tryz.func35, Tryz.ntmps35
    go_wp2_with fail
    refine wp_loop_rounds 1 ?_
    rw [rounds_succ]
    go_wp2_with fail
    go_ret
    exact ⟨rfl, Below.refl _ _⟩
  rw [mkL_len] at h ⊢
  have HH : Hid (RowRH _ _ _ _ _) := h
  have HY : Hid (∀ x ∈ l, x.f.length ≤ 1048576 ∧ ∀ y ∈ x.f, y.length ≤ 1048576) := hy
  clear h hge hgh hy
  go_enter Tryz.func35, Tryz.ntmps35
  go_wp2_with fail
  go_loopw [1, 5] (fun x i wr => ∃ (k E : Nat), k ≤ l.length ∧ i = .int .i64 k ∧ x = .int .i64 (E : Int) ∧ E = q + sumN szRdg (l.take k) ∧ Below w.heap.size w wr) (fun _ i _ => l.length - (intOf i).toNat)
  case atStart => exact ⟨0, q, Nat.zero_le _, rfl, rfl, by simp [sumN], Below.refl _ _⟩
  case round =>
    obtain ⟨k, E, hk, rfl, rfl, hE, hbel⟩ := hrel
    by_cases hlt : k < l.length
    · have hlt2 : (k : Int) < (l.length : Int) := by omega
      have hone := sumN_one szRdg l k hlt
      have hst := sumN_take szRdg l k hlt
      obtain ⟨g', a, b, cs, O⟩ := (HH.out.next frR hbel).one frR k (by rw [mkL_len]; exact hlt)
      obtain rfl : g = g' := by simpa [Value.ownBlock] using O.blk
      rw [mkL_get' szRdg mkRdg q l k (by rw [mkL_len]; exact hlt) hlt, ← hE] at O
      have hyk := HY.out l[k] (List.getElem_mem _)
      obtain ⟨en, hen⟩ : ∃ en, en = l[k] := ⟨_, rfl⟩
      rw [← hen] at hone hst O hyk
      have HEQ : Hid (q + sumN szRdg (l.take (k + 1)) = E + szRdg en) := by show _ = _; rw [hst]; omega
      have hE1 : 1 ≤ E := by omega
      have hEb : E + szRdg en ≤ 17592186044416 := by omega
      simp only [szRdg] at hEb
      have HYK : Hid _ := hyk
      have HB0 : Hid (Below w.heap.size w wr) := hbel
      have hgl0 := O.dom
      obtain ⟨v1, rfl, hv1⟩ := O.el
      obtain ⟨T0, hT0⟩ : ∃ T, T = Tr.mt (E) := ⟨_, rfl⟩
      have HM0 : Hid (∀ (z : Int) (_ : z = ((E : Nat) : Int)) (W : World), Calls Tryz.prog 63 #[.int .i64 z] W fun e w' => e = .returned (.string T0) ∧ Below W.heap.size W w') := fun z hz W => by rw [hT0]; exact mText_at (E) z hz (by omega) (by omega) W
      have y0 : wr.cell? ⟨g, k * 2, none⟩ = some (.string T0) := by rw [hT0]; exact O.there 0 (by decide)
      have y1 : wr.cell? ⟨g, k * 2 + 1, none⟩ = some v1 := O.there 1 (by decide)
      have HCH1 : Hid (RowCH wr a b v1 (mkL szCl mkCl (E + 1) en.f)) := hv1
      clear O hE hbel hone hst hen hT0   hyk hv1
      have hnu0 : Nonempty (Under wr) := ⟨⟨wr, Below.refl _ _⟩⟩
      have q0 : ∀ u : Under wr, u.x.cell? ⟨g, k * 2, none⟩ = some (.string T0) := fun u => (u.h.cell hgl0).trans y0
      go_wp2_with fail
      refine wp_region_under (by kernel_rfl) (by kernel_rfl) ?_
      repeat (go_big_quiet_step ((go_at_call 63; exact calls_under _ (HM0.out _ (by omega) _))))
      refine wpQuiet_nil ?_
      rintro _ ⟨u, rfl⟩
      have hnb0 : Below wr.heap.size wr u.x := u.h
      clear q0 hnu0 HM0
      generalize u.x = w2 at hnb0 ⊢
      clear y0
      replace y1 := (hnb0.cell hgl0).trans y1
      replace HCH1 : Hid (RowCH w2 a b v1 (mkL szCl mkCl (E + 1) en.f)) := RowH.next frC HCH1.out hnb0
      have HB1 : Hid (Below w.heap.size w w2) := HB0.out.trans (hnb0.mono HB0.out.size)
      have hgl1 := Nat.lt_of_lt_of_le hgl0 hnb0.size
      clear HB0 hgl0 hnb0
      go_wp2_with fail
      refine (heldClauseS_h _ _ _ _ (E + 1) _ _ (by omega) HCH1.out (by omega) (by rw [sumN_cl]; omega) HYK.out.1 HYK.out.2).mono ?_
      rintro e w3 ⟨rfl, hnb1⟩
      obtain ⟨N1, hN1⟩ : ∃ n : Nat, n = E + 1 + sumN szCl en.f := ⟨_, rfl⟩
      rw [← hN1]
      have HN1 : Hid (N1 = E + 1 + sumN szCl en.f) := hN1
      have n1 : ¬ ((N1 : Nat) : Int) < 0 := by omega
      clear hN1
      clear y1 HCH1
      have HB2 : Hid (Below w.heap.size w w3) := HB1.out.trans (hnb1.mono HB1.out.size)
      have hgl2 := Nat.lt_of_lt_of_le hgl1 hnb1.size
      clear HB1 hgl1 hnb1
      go_wp2_with fail
      go_roundw
      case rel => exact ⟨k + 1, N1, by omega, by go_num, rfl, by have := HEQ.out; simp only [szRdg] at this; rw [HN1.out, sumN_cl]; omega, HB2.out⟩
      case measure => simp [intOf]; omega
    · obtain rfl : k = l.length := by omega
      rw [List.take_length] at hE
      subst hE
      go_wp2_with fail
      go_ret
      exact ⟨rfl, hbel⟩

set_option maxRecDepth 4000 in
set_option maxHeartbeats 4000000 in
theorem heldDoneS_h (lo hi : Nat) (v : Value) (l : List Dn) (q : Nat) (z : Int) (w : World) (hz : z = (q : Int)) (h : RowDH w lo hi v (mkL szDnn mkDnn q l)) (h1 : 1 ≤ q) (h2 : q + sumN szDnn l ≤ 17592186044416) (hl : l.length ≤ 1048576) (hy : ∀ d ∈ l, d.rs.length ≤ 1048576 ∧ d.cs.length ≤ 1048576 ∧ ∀ x ∈ d.rs, x.f.length ≤ 1048576 ∧ ∀ y ∈ x.f, y.length ≤ 1048576) :
    Calls Tryz.prog 15 #[v, .int .i64 z] w fun e w' => e = .returned (.int .i64 ((q + sumN szDnn l : Nat) : Int)) ∧ Below w.heap.size w w' := by
  subst hz
  rcases h.form with ⟨rfl, hnil⟩ | ⟨g, c, rfl, hge, hgh, hgl⟩
  · obtain rfl : l = [] := by
      cases l with
      | nil => rfl
      | cons a t => simp [mkL] at hnil
    clear h hnil
    go_enter Tryz.func15, Tryz.ntmps15
    go_wp2_with fail
    refine wp_loop_rounds 1 ?_
    rw [rounds_succ]
    go_wp2_with fail
    go_ret
    exact ⟨rfl, Below.refl _ _⟩
  rw [mkL_len] at h ⊢
  have HH : Hid (RowDH _ _ _ _ _) := h
  have HY : Hid (∀ d ∈ l, d.rs.length ≤ 1048576 ∧ d.cs.length ≤ 1048576 ∧ ∀ x ∈ d.rs, x.f.length ≤ 1048576 ∧ ∀ y ∈ x.f, y.length ≤ 1048576) := hy
  clear h hge hgh hy
  go_enter Tryz.func15, Tryz.ntmps15
  go_wp2_with fail
  go_loopw [1, 5] (fun x i wr => ∃ (k E : Nat), k ≤ l.length ∧ i = .int .i64 k ∧ x = .int .i64 (E : Int) ∧ E = q + sumN szDnn (l.take k) ∧ Below w.heap.size w wr) (fun _ i _ => l.length - (intOf i).toNat)
  case atStart => exact ⟨0, q, Nat.zero_le _, rfl, rfl, by simp [sumN], Below.refl _ _⟩
  case round =>
    obtain ⟨k, E, hk, rfl, rfl, hE, hbel⟩ := hrel
    by_cases hlt : k < l.length
    · have hlt2 : (k : Int) < (l.length : Int) := by omega
      have hone := sumN_one szDnn l k hlt
      have hst := sumN_take szDnn l k hlt
      obtain ⟨g', a, b, cs, O⟩ := (HH.out.next frD hbel).one frD k (by rw [mkL_len]; exact hlt)
      obtain rfl : g = g' := by simpa [Value.ownBlock] using O.blk
      rw [mkL_get' szDnn mkDnn q l k (by rw [mkL_len]; exact hlt) hlt, ← hE] at O
      have hyk := HY.out l[k] (List.getElem_mem _)
      obtain ⟨en, hen⟩ : ∃ en, en = l[k] := ⟨_, rfl⟩
      rw [← hen] at hone hst O hyk
      have HEQ : Hid (q + sumN szDnn (l.take (k + 1)) = E + szDnn en) := by show _ = _; rw [hst]; omega
      have hE1 : 1 ≤ E := by omega
      have hEb : E + szDnn en ≤ 17592186044416 := by omega
      simp only [szDnn] at hEb
      have HYK : Hid _ := hyk
      have HB0 : Hid (Below w.heap.size w wr) := hbel
      have hgl0 := O.dom
      obtain ⟨E1, hE1⟩ : ∃ n : Nat, n = E + 2 + mkR en.rs := ⟨_, rfl⟩
      have HE1 : Hid (E1 = E + 2 + mkR en.rs) := hE1
      have hbE1 : 1 ≤ E1 ∧ E1 + 10 * en.cs.length + 2 ≤ 17592186044416 := by constructor <;> omega
      obtain ⟨E2, hE2⟩ : ∃ n : Nat, n = E1 + 10 * en.cs.length := ⟨_, rfl⟩
      have HE2 : Hid (E2 = E1 + 10 * en.cs.length) := hE2
      have hbE2 : 1 ≤ E2 ∧ E2 + 2 ≤ 17592186044416 := by constructor <;> omega
      obtain ⟨B0, hB0⟩ : ∃ B0 : Bool, B0 = boolK ((E2 : Int)) := ⟨_, rfl⟩
      have kB0 : (((E2 : Int)) % 3 == 0) = B0 := by rw [hB0]; rfl
      have tB0 : Int.tmod ((E2 : Int)) 3 = ((E2 : Int)) % 3 := Int.tmod_eq_emod_of_nonneg (by omega)
      obtain ⟨B1, hB1⟩ : ∃ B1 : Bool, B1 = boolK ((E2 : Int) + 1) := ⟨_, rfl⟩
      have kB1 : (((E2 : Int) + 1) % 3 == 0) = B1 := by rw [hB1]; rfl
      have tB1 : Int.tmod ((E2 : Int) + 1) 3 = ((E2 : Int) + 1) % 3 := Int.tmod_eq_emod_of_nonneg (by omega)
      obtain ⟨v2, v3, p2, q2, p3, q3, rfl, hp, hv2, hv3⟩ := O.el
      have y0 : wr.cell? ⟨g, k * 6, none⟩ = some (.int .i64 ((E : Int))) := O.there 0 (by decide)
      have y1 : wr.cell? ⟨g, k * 6 + 1, none⟩ = some (.int .i64 ((E : Int) + 1)) := O.there 1 (by decide)
      have y2 : wr.cell? ⟨g, k * 6 + 2, none⟩ = some v2 := O.there 2 (by decide)
      have HCH2 : Hid (RowRH wr p2 q2 v2 (mkL szRdg mkRdg (E + 2) en.rs)) := hv2
      have y3 : wr.cell? ⟨g, k * 6 + 3, none⟩ = some v3 := O.there 3 (by decide)
      have HCH3 : Hid (RowGH wr p3 q3 v3 (mkL szCgr mkCgr (E1) en.cs)) := (by rw [hE1]; exact hv3)
      have y4 : wr.cell? ⟨g, k * 6 + 4, none⟩ = some (.bool B0) := by rw [hB0, hE2, hE1]; exact O.there 4 (by decide)
      have y5 : wr.cell? ⟨g, k * 6 + 5, none⟩ = some (.bool B1) := by rw [hB1, hE2, hE1]; exact O.there 5 (by decide)
      clear O hE hbel hone hst hen  hB0 hB1 hE1 hE2 hyk hp hv2 hv3
      go_wp2_with fail
      refine (heldReadS_h _ _ _ _ (E + 2) _ _ (by omega) HCH2.out (by omega) (by rw [sumN_rd]; omega) HYK.out.1 HYK.out.2.2).mono ?_
      rintro e w2 ⟨rfl, hnb0⟩
      have eE1 : E + 2 + sumN szRdg en.rs = E1 := by rw [HE1.out]; rw [sumN_rd]
      rw [eE1]
      have nE1 : ¬ ((E1 : Nat) : Int) < 0 := by omega
      clear eE1
      clear y2 y0 y1 HCH2
      replace y3 := (hnb0.cell hgl0).trans y3
      replace HCH3 : Hid (RowGH w2 p3 q3 v3 (mkL szCgr mkCgr (E1) en.cs)) := RowH.next frG HCH3.out hnb0
      replace y4 := (hnb0.cell hgl0).trans y4
      replace y5 := (hnb0.cell hgl0).trans y5
      have HB1 : Hid (Below w.heap.size w w2) := HB0.out.trans (hnb0.mono HB0.out.size)
      have hgl1 := Nat.lt_of_lt_of_le hgl0 hnb0.size
      clear HB0 hgl0 hnb0
      go_wp2_with fail
      refine (heldChangeS_h _ _ _ _ (E1) _ _ (by omega) HCH3.out (by omega) (by rw [sumN_cg]; omega) HYK.out.2.1).mono ?_
      rintro e w3 ⟨rfl, hnb1⟩
      have eE2 : E1 + sumN szCgr en.cs = E2 := by rw [HE2.out]; rw [sumN_cg]
      rw [eE2]
      have nE2 : ¬ ((E2 : Nat) : Int) < 0 := by omega
      clear eE2
      clear y3 HCH3
      replace y4 := (hnb1.cell hgl1).trans y4
      replace y5 := (hnb1.cell hgl1).trans y5
      have HB2 : Hid (Below w.heap.size w w3) := HB1.out.trans (hnb1.mono HB1.out.size)
      have hgl2 := Nat.lt_of_lt_of_le hgl1 hnb1.size
      clear HB1 hgl1 hnb1
      go_wp2_with fail
      go_roundw
      case rel => exact ⟨k + 1, E2 + 2, by omega, by go_num, by go_num, by have := HEQ.out; simp only [szDnn] at this; have e1 := HE1.out; have e2 := HE2.out; omega, HB2.out⟩
      case measure => simp [intOf]; omega
    · obtain rfl : k = l.length := by omega
      rw [List.take_length] at hE
      subst hE
      go_wp2_with fail
      go_ret
      exact ⟨rfl, hbel⟩

end Go.Proofs.YtcggkeleaepebaaGreatDoor.Hx

/- Rows of reads and committed ones as they are read, nil ones too; two that are alike. -/
namespace Go.Proofs.YtcggkeleaepebaaGreatDoor.Hx
open Go.RowKit Go.ChangeShapes Go.WideShapes Go.ChangeAt Go.Joins Tr Co Rea Ce Ty
set_option linter.unusedVariables false

def RowRd (w : World) (p : Option Addr) (l : List Rdg) : Prop := l = [] ∨ ∃ g, p = some ⟨g, 0, none⟩ ∧ g < w.heap.size ∧ ∀ i (h : i < l.length), w.cell? ⟨g, i * 2, none⟩ = some (.string l[i].coll) ∧ ∃ p' c', w.cell? ⟨g, i * 2 + 1, none⟩ = some (.slice p' l[i].f.length c') ∧ RowC w p' l[i].f
theorem RowRd.next {w w' : World} {p : Option Addr} {l : List Rdg} (h : RowRd w p l) (hb : Below w.heap.size w w') : RowRd w' p l := by
  rcases h with h | ⟨g, hp, hg, hc⟩
  · exact .inl h
  · refine .inr ⟨g, hp, Nat.lt_of_lt_of_le hg hb.size, fun i hi => ?_⟩
    obtain ⟨x, p', c', y, z⟩ := hc i hi
    exact ⟨(hb.cell hg).trans x, p', c', (hb.cell hg).trans y, z.next hb⟩
def RowDn (w : World) (p : Option Addr) (l : List Dn) : Prop := l = [] ∨ ∃ g, p = some ⟨g, 0, none⟩ ∧ g < w.heap.size ∧ ∀ i (h : i < l.length), ∃ p1 c1 p2 c2, (w.cell? ⟨g, i * 6, none⟩ = some (.int .i64 l[i].sn) ∧ w.cell? ⟨g, i * 6 + 1, none⟩ = some (.int .i64 l[i].at_) ∧ w.cell? ⟨g, i * 6 + 2, none⟩ = some (.slice p1 l[i].rs.length c1) ∧ w.cell? ⟨g, i * 6 + 3, none⟩ = some (.slice p2 l[i].cs.length c2) ∧ w.cell? ⟨g, i * 6 + 4, none⟩ = some (.bool l[i].di) ∧ w.cell? ⟨g, i * 6 + 5, none⟩ = some (.bool l[i].do_)) ∧ RowRd w p1 l[i].rs ∧ InCg w p2 l[i].cs
theorem RowDn.next {w w' : World} {p : Option Addr} {l : List Dn} (h : RowDn w p l) (hb : Below w.heap.size w w') : RowDn w' p l := by
  rcases h with h | ⟨g, hp, hg, hc⟩
  · exact .inl h
  · refine .inr ⟨g, hp, Nat.lt_of_lt_of_le hg hb.size, fun i hi => ?_⟩
    obtain ⟨p1, c1, p2, c2, ⟨x0, x1, x2, x3, x4, x5⟩, y, z⟩ := hc i hi
    exact ⟨p1, c1, p2, c2, ⟨(hb.cell hg).trans x0, (hb.cell hg).trans x1, (hb.cell hg).trans x2, (hb.cell hg).trans x3, (hb.cell hg).trans x4, (hb.cell hg).trans x5⟩, y.next hb, z.step hb⟩
theorem rowT_of {w : World} {lo hi : Nat} {v : Value} {l : List Trm} (h : RowTH w lo hi v l) : ∃ p c, v = .slice p l.length c ∧ RowT w p l := by
  have h' := h
  rcases h.form with ⟨rfl, rfl⟩ | ⟨g, c, rfl, _, _, hg⟩
  · exact ⟨none, 0, rfl, .inl rfl⟩
  · refine ⟨_, c, rfl, .inr ⟨g, rfl, hg, fun i hi => ?_⟩⟩
    obtain ⟨g', a, b, cs, O⟩ := h'.one frT i hi
    obtain rfl : g = g' := by simpa [Value.ownBlock] using O.blk
    obtain rfl : cs = rowT l[i] := O.el
    exact ⟨O.there 0 (by decide), O.there 1 (by decide), O.there 2 (by decide), O.there 3 (by decide), O.there 4 (by decide)⟩
theorem inCg_of {w : World} {lo hi : Nat} {v : Value} {l : List Cgr} (h : RowGH w lo hi v l) : ∃ p c, v = .slice p l.length c ∧ InCg w p l := by
  have h' := h
  rcases h.form with ⟨rfl, rfl⟩ | ⟨g, c, rfl, _, _, hg⟩
  · exact ⟨none, 0, rfl, .inl rfl⟩
  · refine ⟨_, c, rfl, .inr ⟨g, 0, rfl, hg, fun i hi => ?_⟩⟩
    obtain ⟨g', a, b, cs, O⟩ := h'.one frG i hi
    obtain rfl : g = g' := by simpa [Value.ownBlock] using O.blk
    obtain rfl : cs = rowCg l[i] := O.el
    rw [Nat.zero_add]
    exact ⟨O.there 0 (by decide), O.there 1 (by decide), O.there 2 (by decide), O.there 3 (by decide), O.there 4 (by decide), O.there 5 (by decide), O.there 6 (by decide), O.there 7 (by decide), O.there 8 (by decide), O.there 9 (by decide)⟩
theorem rowC_of {w : World} {lo hi : Nat} {v : Value} {l : List (List Trm)} (h : RowCH w lo hi v l) : ∃ p c, v = .slice p l.length c ∧ RowC w p l := by
  have h' := h
  rcases h.form with ⟨rfl, rfl⟩ | ⟨g, c, rfl, _, _, hg⟩
  · exact ⟨none, 0, rfl, .inl rfl⟩
  · refine ⟨_, c, rfl, .inr ⟨g, rfl, hg, fun i hi => ?_⟩⟩
    obtain ⟨g', a, b, cs, O⟩ := h'.one frC i hi
    obtain rfl : g = g' := by simpa [Value.ownBlock] using O.blk
    obtain ⟨v1, rfl, hv⟩ := O.el
    obtain ⟨p, c1, rfl, hr⟩ := rowT_of hv
    exact ⟨p, c1, by have := O.there 0 (by decide); simpa using this, hr⟩
theorem rowRd_of {w : World} {lo hi : Nat} {v : Value} {l : List Rdg} (h : RowRH w lo hi v l) : ∃ p c, v = .slice p l.length c ∧ RowRd w p l := by
  have h' := h
  rcases h.form with ⟨rfl, rfl⟩ | ⟨g, c, rfl, _, _, hg⟩
  · exact ⟨none, 0, rfl, .inl rfl⟩
  · refine ⟨_, c, rfl, .inr ⟨g, rfl, hg, fun i hi => ?_⟩⟩
    obtain ⟨g', a, b, cs, O⟩ := h'.one frR i hi
    obtain rfl : g = g' := by simpa [Value.ownBlock] using O.blk
    obtain ⟨v1, rfl, hv⟩ := O.el
    obtain ⟨p, c1, rfl, hr⟩ := rowC_of hv
    exact ⟨O.there 0 (by decide), p, c1, O.there 1 (by decide), hr⟩
theorem rowDn_of {w : World} {lo hi : Nat} {v : Value} {l : List Dn} (h : RowDH w lo hi v l) : ∃ p c, v = .slice p l.length c ∧ RowDn w p l := by
  have h' := h
  rcases h.form with ⟨rfl, rfl⟩ | ⟨g, c, rfl, _, _, hg⟩
  · exact ⟨none, 0, rfl, .inl rfl⟩
  · refine ⟨_, c, rfl, .inr ⟨g, rfl, hg, fun i hi => ?_⟩⟩
    obtain ⟨g', a, b, cs, O⟩ := h'.one frD i hi
    obtain rfl : g = g' := by simpa [Value.ownBlock] using O.blk
    obtain ⟨v1, v2, a1, b1, a2, b2, rfl, _, hv, hu⟩ := O.el
    obtain ⟨p, c1, rfl, hr⟩ := rowRd_of hv
    obtain ⟨p2, c2, rfl, hr2⟩ := inCg_of hu
    exact ⟨p, c1, p2, c2, ⟨O.there 0 (by decide), O.there 1 (by decide), O.there 2 (by decide), O.there 3 (by decide), O.there 4 (by decide), O.there 5 (by decide)⟩, hr, hr2⟩

set_option maxRecDepth 4000 in
set_option maxHeartbeats 4000000 in
theorem eqReadS_h (q1 q2 : Option Addr) (c1 c2 : Nat) (l : List Rdg) (w : World) (h1 : RowRd w q1 l) (h2 : RowRd w q2 l) (hlen : l.length ≤ 1048576) (hs : ∀ v ∈ l, szRd v) :
    Calls Tryz.prog 31 #[.slice q1 l.length c1, .slice q2 l.length c2] w fun e w' => e = .returned (.bool true) ∧ Below w.heap.size w w' := by
  have H1 : Hid (RowRd _ _ _) := h1
  have H2 : Hid (RowRd _ _ _) := h2
  have HS : Hid (∀ v ∈ l, szRd v) := hs
  clear h1 h2 hs
  go_enter Tryz.func31, Tryz.ntmps31
  go_wp2_with fail
  go_loopw [5] (fun i wr => ∃ k : Nat, k ≤ l.length ∧ i = .int .i64 k ∧ Below w.heap.size w wr) (fun i _ => l.length - (intOf i).toNat)
  case atStart => exact ⟨0, Nat.zero_le _, rfl, Below.refl _ _⟩
  case round =>
    obtain ⟨k, hk, rfl, hbel⟩ := hrel
    by_cases hlt : k < l.length
    · have hlt2 : (k : Int) < (l.length : Int) := by omega
      rcases H1.out.next hbel with h0 | ⟨g1, rfl, hg1, R1⟩
      · rw [h0] at hlt; simp at hlt
      rcases H2.out.next hbel with h0 | ⟨g2, rfl, hg2, R2⟩
      · rw [h0] at hlt; simp at hlt
      obtain ⟨x0, pa, ca, x1, xa⟩ := R1 k hlt
      obtain ⟨y0, pb, cb, y1, yb⟩ := R2 k hlt
      have hsk := HS.out l[k] (List.getElem_mem _)
      obtain ⟨x, hx⟩ : ∃ x, x = l[k] := ⟨_, rfl⟩
      rw [← hx] at x0 x1 xa y0 y1 yb hsk
      have HC : Hid (∀ W : World, Below wr.heap.size wr W → Calls Tryz.prog 61 #[.agg #[.string x.coll, .slice pa x.f.length ca], .agg #[.string x.coll, .slice pb x.f.length cb]] W fun e w' => e = .returned (.bool true) ∧ Below W.heap.size W w') := fun W hW => eqRead_same x.coll pa pb ca cb x.f W (xa.next hW) (yb.next hW) hsk
      clear hx hsk
      clear R1 R2 xa yb
      go_wp2_with fail
      go_region_held3 (fun w0 => w0.cell? ⟨g1, k * 2, none⟩ = some (.string x.coll) ∧ w0.cell? ⟨g1, k * 2 + 1, none⟩ = some (.slice pa x.f.length ca) ∧ w0.cell? ⟨g2, k * 2, none⟩ = some (.string x.coll) ∧ w0.cell? ⟨g2, k * 2 + 1, none⟩ = some (.slice pb x.f.length cb)) ((refine keepRr hg1 hg2 x0 x1 y0 y1 ?_; (repeat (first | (with_reducible exact Below.refl _ _) | (with_reducible assumption) | (with_reducible apply below_drewN) | (with_reducible apply Below.drew) | ((with_reducible refine Below.setCell ?_ ?_ _); rotate_left; focus (first | (simp; done) | (simp; omega) | omega)) | ((with_reducible refine Below.alloc ?_ ?_ _); rotate_left; focus (first | (simp; done) | (simp; omega) | omega)))))) ((go_at_call 61; refine (HC.out _ (by (repeat (first | (with_reducible exact Below.refl _ _) | (with_reducible assumption) | (with_reducible apply below_drewN) | (with_reducible apply Below.drew) | ((with_reducible refine Below.setCell ?_ ?_ _); rotate_left; focus (first | (simp; done) | (simp; omega) | omega)) | ((with_reducible refine Below.alloc ?_ ?_ _); rotate_left; focus (first | (simp; done) | (simp; omega) | omega)))))).mono ?_; rintro e w2 ⟨rfl, hb⟩; have hB2 : Below wr.heap.size wr w2 := (show Below wr.heap.size wr _ by (repeat (first | (with_reducible exact Below.refl _ _) | (with_reducible assumption) | (with_reducible apply below_drewN) | (with_reducible apply Below.drew) | ((with_reducible refine Below.setCell ?_ ?_ _); rotate_left; focus (first | (simp; done) | (simp; omega) | omega)) | ((with_reducible refine Below.alloc ?_ ?_ _); rotate_left; focus (first | (simp; done) | (simp; omega) | omega))))).trans (hb.mono (by simp)); clear hb))
      all_goals
        have hb2 := hbel.trans (hB2.mono hbel.size)
        go_wp2_with fail
        go_roundw
        case rel => exact ⟨k + 1, by omega, by go_num, hb2⟩
        case measure => simp [intOf]; omega
    · have hlt2 : ¬ (k : Int) < (l.length : Int) := by omega
      go_wp2_with fail
      go_ret
      exact ⟨rfl, hbel⟩

set_option maxRecDepth 4000 in
set_option maxHeartbeats 4000000 in
theorem eqDone_h (sn at_ : Int) (g1 g2 k1 k2 : Option Addr) (c1 c2 d1 d2 : Nat) (di do_ : Bool) (rs : List Rdg) (cs : List Cgr) (w : World) (h1 : RowRd w g1 rs) (h2 : RowRd w k1 rs) (h3 : InCg w g2 cs) (h4 : InCg w k2 cs) (hz : SzDn rs cs) :
    Calls Tryz.prog 12 #[.agg #[.int .i64 sn, .int .i64 at_, .slice g1 rs.length c1, .slice g2 cs.length c2, .bool di, .bool do_], .agg #[.int .i64 sn, .int .i64 at_, .slice k1 rs.length d1, .slice k2 cs.length d2, .bool di, .bool do_]] w fun e w' => e = .returned (.bool true) ∧ Below w.heap.size w w' := by
  have X0 := (BxDn.start w (.int .i64 sn) (.int .i64 at_) (.slice g1 rs.length c1) (.slice g2 cs.length c2) (.bool di) (.bool do_) 36).step ((Below.refl _ _).alloc (Nat.le_refl _) (.cells #[.int .i64 sn, .int .i64 at_, .slice k1 rs.length d1, .slice k2 cs.length d2, .bool di, .bool do_] 36))
  have Y0 := BxDn.start (w.alloc (.cells #[.int .i64 sn, .int .i64 at_, .slice g1 rs.length c1, .slice g2 cs.length c2, .bool di, .bool do_] 36)) (.int .i64 sn) (.int .i64 at_) (.slice k1 rs.length d1) (.slice k2 cs.length d2) (.bool di) (.bool do_) 36
  have HA : Hid (∀ W : World, Below w.heap.size w W → Calls _ _ _ W _) := fun W hW => eqReadS_h g1 k1 c1 d1 rs W (h1.next hW) (h2.next hW) hz.r0 hz.r1
  have HB : Hid (∀ W : World, Below w.heap.size w W → Calls _ _ _ W _) := fun W hW => eqChangeS_same g2 k2 c2 d2 cs W (h3.step hW) (h4.step hW) hz.s0
  clear h1 h2 h3 h4 hz
  go_enter Tryz.func12, Tryz.ntmps12
  go_wp2_with fail
  refine (HA.out _ X0.bel).mono ?_
  rintro e w1 ⟨rfl, hb⟩
  have X1 := X0.step hb
  have Y1 := Y0.step hb
  clear hb X0 Y0 HA
  have x3 := X1.c3
  have y3 := Y1.c3
  rw [World.size_alloc] at y3
  go_wp2_with fail
  refine (HB.out _ X1.bel).mono ?_
  rintro e w2 ⟨rfl, hb⟩
  have X2 := X1.step hb
  have Y2 := Y1.step hb
  clear hb X1 Y1 HB x3 y3
  have x4 := X2.c4
  have y4 := Y2.c4
  have x5 := X2.c5
  have y5 := Y2.c5
  rw [World.size_alloc] at y4 y5
  have hbw := X2.bel
  clear X2 Y2
  cases di <;> cases do_
  all_goals
    go_wp2_with fail
    go_ret
    exact ⟨rfl, hbw⟩
theorem keepDh {w w0 : World} {g1 g2 k ca cb da db : Nat} {ga gb ha hb_ : Option Addr} {x : Dn} (h1 : g1 < w.heap.size) (h2 : g2 < w.heap.size) (t0 : w.cell? ⟨g1, k * 6, none⟩ = some (.int .i64 x.sn)) (t1 : w.cell? ⟨g1, k * 6 + 1, none⟩ = some (.int .i64 x.at_)) (t2 : w.cell? ⟨g1, k * 6 + 2, none⟩ = some (.slice ga x.rs.length ca)) (t3 : w.cell? ⟨g1, k * 6 + 3, none⟩ = some (.slice ha x.cs.length da)) (t4 : w.cell? ⟨g1, k * 6 + 4, none⟩ = some (.bool x.di)) (t5 : w.cell? ⟨g1, k * 6 + 5, none⟩ = some (.bool x.do_)) (t6 : w.cell? ⟨g2, k * 6, none⟩ = some (.int .i64 x.sn)) (t7 : w.cell? ⟨g2, k * 6 + 1, none⟩ = some (.int .i64 x.at_)) (t8 : w.cell? ⟨g2, k * 6 + 2, none⟩ = some (.slice gb x.rs.length cb)) (t9 : w.cell? ⟨g2, k * 6 + 3, none⟩ = some (.slice hb_ x.cs.length db)) (t10 : w.cell? ⟨g2, k * 6 + 4, none⟩ = some (.bool x.di)) (t11 : w.cell? ⟨g2, k * 6 + 5, none⟩ = some (.bool x.do_)) (hb : Below w.heap.size w w0) : w0.cell? ⟨g1, k * 6, none⟩ = some (.int .i64 x.sn) ∧ w0.cell? ⟨g1, k * 6 + 1, none⟩ = some (.int .i64 x.at_) ∧ w0.cell? ⟨g1, k * 6 + 2, none⟩ = some (.slice ga x.rs.length ca) ∧ w0.cell? ⟨g1, k * 6 + 3, none⟩ = some (.slice ha x.cs.length da) ∧ w0.cell? ⟨g1, k * 6 + 4, none⟩ = some (.bool x.di) ∧ w0.cell? ⟨g1, k * 6 + 5, none⟩ = some (.bool x.do_) ∧ w0.cell? ⟨g2, k * 6, none⟩ = some (.int .i64 x.sn) ∧ w0.cell? ⟨g2, k * 6 + 1, none⟩ = some (.int .i64 x.at_) ∧ w0.cell? ⟨g2, k * 6 + 2, none⟩ = some (.slice gb x.rs.length cb) ∧ w0.cell? ⟨g2, k * 6 + 3, none⟩ = some (.slice hb_ x.cs.length db) ∧ w0.cell? ⟨g2, k * 6 + 4, none⟩ = some (.bool x.di) ∧ w0.cell? ⟨g2, k * 6 + 5, none⟩ = some (.bool x.do_) :=
  ⟨(hb.cell h1).trans t0, (hb.cell h1).trans t1, (hb.cell h1).trans t2, (hb.cell h1).trans t3, (hb.cell h1).trans t4, (hb.cell h1).trans t5, (hb.cell h2).trans t6, (hb.cell h2).trans t7, (hb.cell h2).trans t8, (hb.cell h2).trans t9, (hb.cell h2).trans t10, (hb.cell h2).trans t11⟩
set_option maxRecDepth 4000 in
set_option maxHeartbeats 4000000 in
theorem eqDoneS_h (q1 q2 : Option Addr) (c1 c2 : Nat) (l : List Dn) (w : World) (h1 : RowDn w q1 l) (h2 : RowDn w q2 l) (hlen : l.length ≤ 1048576) (hs : ∀ v ∈ l, szDn v) :
    Calls Tryz.prog 11 #[.slice q1 l.length c1, .slice q2 l.length c2] w fun e w' => e = .returned (.bool true) ∧ Below w.heap.size w w' := by
  have H1 : Hid (RowDn _ _ _) := h1
  have H2 : Hid (RowDn _ _ _) := h2
  have HS : Hid (∀ v ∈ l, szDn v) := hs
  clear h1 h2 hs
  go_enter Tryz.func11, Tryz.ntmps11
  go_wp2_with fail
  go_loopw [5] (fun i wr => ∃ k : Nat, k ≤ l.length ∧ i = .int .i64 k ∧ Below w.heap.size w wr) (fun i _ => l.length - (intOf i).toNat)
  case atStart => exact ⟨0, Nat.zero_le _, rfl, Below.refl _ _⟩
  case round =>
    obtain ⟨k, hk, rfl, hbel⟩ := hrel
    by_cases hlt : k < l.length
    · have hlt2 : (k : Int) < (l.length : Int) := by omega
      rcases H1.out.next hbel with h0 | ⟨g1, rfl, hg1, R1⟩
      · rw [h0] at hlt; simp at hlt
      rcases H2.out.next hbel with h0 | ⟨g2, rfl, hg2, R2⟩
      · rw [h0] at hlt; simp at hlt
      obtain ⟨ga, ca, ha, da, ⟨t0, t1, t2, t3, t4, t5⟩, u0, u1⟩ := R1 k hlt
      obtain ⟨gb, cb, hb_, db, ⟨t6, t7, t8, t9, t10, t11⟩, v0, v1⟩ := R2 k hlt
      have hsk := HS.out l[k] (List.getElem_mem _)
      obtain ⟨x, hx⟩ : ∃ x, x = l[k] := ⟨_, rfl⟩
      rw [← hx] at t0 t1 t2 t3 t4 t5 t6 t7 t8 t9 t10 t11 u0 u1 v0 v1 hsk
      have HC : Hid (∀ W : World, Below wr.heap.size wr W → Calls Tryz.prog 12 #[.agg #[.int .i64 x.sn, .int .i64 x.at_, .slice ga x.rs.length ca, .slice ha x.cs.length da, .bool x.di, .bool x.do_], .agg #[.int .i64 x.sn, .int .i64 x.at_, .slice gb x.rs.length cb, .slice hb_ x.cs.length db, .bool x.di, .bool x.do_]] W fun e w' => e = .returned (.bool true) ∧ Below W.heap.size W w') := fun W hW => eqDone_h x.sn x.at_ ga ha gb hb_ ca da cb db x.di x.do_ x.rs x.cs W (u0.next hW) (v0.next hW) (u1.step hW) (v1.step hW) hsk
      clear hx hsk
      clear R1 R2 u0 u1 v0 v1
      go_wp2_with fail
      go_region_held3 (fun w0 => w0.cell? ⟨g1, k * 6, none⟩ = some (.int .i64 x.sn) ∧ w0.cell? ⟨g1, k * 6 + 1, none⟩ = some (.int .i64 x.at_) ∧ w0.cell? ⟨g1, k * 6 + 2, none⟩ = some (.slice ga x.rs.length ca) ∧ w0.cell? ⟨g1, k * 6 + 3, none⟩ = some (.slice ha x.cs.length da) ∧ w0.cell? ⟨g1, k * 6 + 4, none⟩ = some (.bool x.di) ∧ w0.cell? ⟨g1, k * 6 + 5, none⟩ = some (.bool x.do_) ∧ w0.cell? ⟨g2, k * 6, none⟩ = some (.int .i64 x.sn) ∧ w0.cell? ⟨g2, k * 6 + 1, none⟩ = some (.int .i64 x.at_) ∧ w0.cell? ⟨g2, k * 6 + 2, none⟩ = some (.slice gb x.rs.length cb) ∧ w0.cell? ⟨g2, k * 6 + 3, none⟩ = some (.slice hb_ x.cs.length db) ∧ w0.cell? ⟨g2, k * 6 + 4, none⟩ = some (.bool x.di) ∧ w0.cell? ⟨g2, k * 6 + 5, none⟩ = some (.bool x.do_)) ((refine keepDh hg1 hg2 t0 t1 t2 t3 t4 t5 t6 t7 t8 t9 t10 t11 ?_; (repeat (first | (with_reducible exact Below.refl _ _) | (with_reducible assumption) | (with_reducible apply below_drewN) | (with_reducible apply Below.drew) | ((with_reducible refine Below.setCell ?_ ?_ _); rotate_left; focus (first | (simp; done) | (simp; omega) | omega)) | ((with_reducible refine Below.alloc ?_ ?_ _); rotate_left; focus (first | (simp; done) | (simp; omega) | omega)))))) ((go_at_call 12; refine (HC.out _ (by (repeat (first | (with_reducible exact Below.refl _ _) | (with_reducible assumption) | (with_reducible apply below_drewN) | (with_reducible apply Below.drew) | ((with_reducible refine Below.setCell ?_ ?_ _); rotate_left; focus (first | (simp; done) | (simp; omega) | omega)) | ((with_reducible refine Below.alloc ?_ ?_ _); rotate_left; focus (first | (simp; done) | (simp; omega) | omega)))))).mono ?_; rintro e w2 ⟨rfl, hb⟩; have hB2 : Below wr.heap.size wr w2 := (show Below wr.heap.size wr _ by (repeat (first | (with_reducible exact Below.refl _ _) | (with_reducible assumption) | (with_reducible apply below_drewN) | (with_reducible apply Below.drew) | ((with_reducible refine Below.setCell ?_ ?_ _); rotate_left; focus (first | (simp; done) | (simp; omega) | omega)) | ((with_reducible refine Below.alloc ?_ ?_ _); rotate_left; focus (first | (simp; done) | (simp; omega) | omega))))).trans (hb.mono (by simp)); clear hb))
      all_goals
        have hb2 := hbel.trans (hB2.mono hbel.size)
        go_wp2_with fail
        go_roundw
        case rel => exact ⟨k + 1, by omega, by go_num, hb2⟩
        case measure => simp [intOf]; omega
    · have hlt2 : ¬ (k : Int) < (l.length : Int) := by omega
      go_wp2_with fail
      go_ret
      exact ⟨rfl, hbel⟩

end Go.Proofs.YtcggkeleaepebaaGreatDoor.Hx
