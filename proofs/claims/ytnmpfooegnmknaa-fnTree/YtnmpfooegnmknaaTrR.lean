/- Marks on pages and trees: what the laws' helpers answer, and which memory they change. -/
import Derived.Test.YtnmpfooegnmknaaTrN
namespace Go.Proofs.Ytnmpfooegnmknaa.Tr
open Go.RowKit
set_option linter.unusedVariables false

/-- The pages that marks leave, from number q on, and the number behind them. -/
def marksP : Nat → List Pg → List Pg
  | _, [] => []
  | q, p :: t => ⟨q, marksE (q + 1) p.es.length⟩ :: marksP (q + 1 + 2 * p.es.length) t
def endP : Nat → List Pg → Nat
  | q, [] => q
  | q, p :: t => endP (q + 1 + 2 * p.es.length) t
theorem marksP_cons (q : Nat) (p : Pg) (t : List Pg) : marksP q (p :: t) = ⟨q, marksE (q + 1) p.es.length⟩ :: marksP (q + 1 + 2 * p.es.length) t := rfl
theorem endP_cons (q : Nat) (p : Pg) (t : List Pg) : endP q (p :: t) = endP (q + 1 + 2 * p.es.length) t := rfl
theorem marksP_len : ∀ (q : Nat) (f : List Pg), (marksP q f).length = f.length
  | _, [] => rfl
  | q, p :: t => by unfold marksP; simp [marksP_len _ t]
theorem marksP_app : ∀ (q : Nat) (a b : List Pg), marksP q (a ++ b) = marksP q a ++ marksP (endP q a) b
  | _, [], b => rfl
  | q, p :: t, b => by
    rw [List.cons_append, marksP_cons, marksP_cons, endP_cons, marksP_app _ t b]; rfl
theorem endP_app : ∀ (q : Nat) (a b : List Pg), endP q (a ++ b) = endP (endP q a) b
  | _, [], b => rfl
  | q, p :: t, b => by
    rw [List.cons_append, endP_cons, endP_cons]
    exact endP_app _ t b
theorem endP_ge : ∀ (q : Nat) (f : List Pg), q ≤ endP q f
  | q, [] => Nat.le_refl _
  | q, p :: t => by
    have := endP_ge (q + 1 + 2 * p.es.length) t
    unfold endP; omega
theorem endP_le : ∀ (q : Nat) (f : List Pg), (∀ p ∈ f, p.es.length ≤ 1048576) → endP q f ≤ q + f.length * 2097153
  | q, [], _ => by simp [endP]
  | q, p :: t, h => by
    have h1 := endP_le (q + 1 + 2 * p.es.length) t (fun r hr => h r (List.mem_cons_of_mem _ hr))
    have h2 := h p (List.mem_cons_self ..)
    unfold endP
    rw [List.length_cons, Nat.add_mul]
    omega
/-- The first k pages marked. -/
def mixM (q : Nat) (f : List Pg) (k : Nat) : List Pg := marksP q (f.take k) ++ f.drop k
theorem mixM_len (q : Nat) (f : List Pg) (k : Nat) (h : k ≤ f.length) : (mixM q f k).length = f.length := by unfold mixM; rw [List.length_append, marksP_len, List.length_take, List.length_drop]; omega
theorem mixM_zero (q : Nat) (f : List Pg) : mixM q f 0 = f := by unfold mixM marksP; simp
theorem mixM_full (q : Nat) (f : List Pg) (k : Nat) (h : k = f.length) : mixM q f k = marksP q f := by subst h; unfold mixM; simp
theorem mixM_get (q : Nat) (f : List Pg) (k : Nat) (h : k < f.length) (h2 : k < (mixM q f k).length) : (mixM q f k)[k] = f[k] := by
  have hl : (marksP q (f.take k)).length = k := by rw [marksP_len, List.length_take]; omega
  have e : (mixM q f k)[k]? = f[k]? := by
    unfold mixM
    rw [List.getElem?_append_right (by omega), hl, Nat.sub_self, List.getElem?_drop]; rfl
  rw [List.getElem?_eq_getElem h2, List.getElem?_eq_getElem h] at e
  exact Option.some.inj e
theorem mixM_set (q : Nat) (f : List Pg) (k : Nat) (h : k < f.length) : (mixM q f k).set k ⟨(endP q (f.take k) : Nat), marksE (endP q (f.take k) + 1) f[k].es.length⟩ = mixM q f (k + 1) := by
  unfold mixM
  have hl : (marksP q (f.take k)).length = k := by rw [marksP_len, List.length_take]; omega
  rw [List.set_append_right _ _ (by omega), hl, Nat.sub_self, List.take_succ_eq_append_getElem h, marksP_app, List.append_assoc]
  congr 1
  rw [List.drop_eq_getElem_cons h]; rfl
theorem endP_succ (q : Nat) (f : List Pg) (k : Nat) (h : k < f.length) : endP q (f.take (k + 1)) = endP q (f.take k) + 1 + 2 * f[k].es.length := by
  rw [List.take_succ_eq_append_getElem h, endP_app]; rfl

theorem PartT.mark {w w3 : World} {lo g c n : Nat} {f : List Pg} {vs : Nat → Value} {xs : List Value} (h : PartT w lo (.slice (some ⟨g, 0, none⟩) n c) n f n vs xs) (hn : f.length = n) {k : Nat} (hk : k < n) {num : Int} {es : List Ent}
    (ho : OwnE w3 lo (vs k) es) (hg : (w.setCell ⟨g, k * 2, none⟩ (.int .i64 num)).grownBy w3 (vs k).ownBlock) : PartT w3 lo (.slice (some ⟨g, 0, none⟩) n c) n (f.set k ⟨num, es⟩) n vs (xs.set (k * 2) (.int .i64 num)) := by
  have hl : xs.length = n * 2 := h.row.1
  have hsw : ∀ {i j : Nat}, ((vs i).ownBlock = none ∨ (vs i).ownBlock ≠ (vs j).ownBlock) → ((vs j).ownBlock = none ∨ (vs j).ownBlock ≠ (vs i).ownBlock) := by
    intro i j hh
    rcases hh with hh | hh
    · cases hj : (vs j).ownBlock with
      | none => exact .inl rfl
      | some b => exact .inr (by rw [hh]; simp)
    · exact .inr (fun e => hh e.symm)
  refine ⟨?_, ?_, ?_, ?_, ?_⟩
  · refine ((World.ownsRow.stored h.row (k * 2) (.int .i64 num)).1).kept hg (.inr ?_)
    rcases h.aside k (by omega) hk with hh | hh
    · rw [hh]; simp [Value.ownBlock]
    · exact fun e => hh e.symm
  · intro i hi0 hik
    have hi : i < f.length := by simpa using hi0
    by_cases e : i = k
    · subst e
      rw [List.getElem_set_self, List.getElem?_set_self (by omega), List.getElem?_set_ne (by omega)]
      exact ⟨rfl, (h.at_ i hi hik).2⟩
    · rw [List.getElem_set_ne (fun e' => e e'.symm), List.getElem?_set_ne (by omega), List.getElem?_set_ne (by omega)]
      exact h.at_ i hi hik
  · intro i hi0 hik
    have hi : i < f.length := by simpa using hi0
    by_cases e : i = k
    · subst e; rw [List.getElem_set_self]; exact ho
    · rw [List.getElem_set_ne (fun e' => e e'.symm)]
      exact ((World.ownsRow.kept (h.ents i hi hik) grown_set (h.aside i hi hik))).kept hg (h.apart i k hi (by omega) hik hk e)
  · intro i j hi hj hik hjk hne
    rw [List.length_set] at hi hj
    exact h.apart i j hi hj hik hjk hne
  · intro i hi hik
    rw [List.length_set] at hi
    exact h.aside i hi hik

/-- A tree's pages, owned, all of it in blocks from lo on, below hi. -/
def OwnH (w : World) (lo hi : Nat) (v : Value) (f : List Pg) : Prop := ∃ vs xs, PartT w lo v f.length f f.length vs xs ∧ (∀ b, v.ownBlock = some b → b < hi) ∧ ∀ i, i < f.length → ∀ b, (vs i).ownBlock = some b → b < hi
theorem OwnT.ownH {w : World} {lo : Nat} {v : Value} {f : List Pg} (h : OwnT w lo v f) : OwnH w lo w.heap.size v f := by
  obtain ⟨vs, xs, h⟩ := h
  exact ⟨vs, xs, h, fun b hb => (h.row.lt b hb).2, fun i hi b hb => (World.ownsRow.lt (h.ents i hi hi) b hb).2⟩
theorem OwnH.ownT {w : World} {lo hi : Nat} {v : Value} {f : List Pg} (h : OwnH w lo hi v f) : OwnT w lo v f := by
  obtain ⟨vs, xs, h, _⟩ := h
  exact ⟨vs, xs, h⟩
theorem OwnH.next {w w' : World} {lo hi : Nat} {v : Value} {f : List Pg} (h : OwnH w lo hi v f) (hb : Below w.heap.size w w') : OwnH w' lo hi v f := by
  obtain ⟨vs, xs, h, h2, h3⟩ := h
  exact ⟨vs, xs, h.next hb, h2, h3⟩
/-- What lies outside of the blocks that changed is as it was. -/
theorem OwnH.chg {w w' : World} {lo hi lo' hi' : Nat} {v : Value} {f : List Pg} (h : OwnH w lo hi v f) (hc : Chg lo' hi' w w') (ho : hi ≤ lo' ∨ hi' ≤ lo) : OwnH w' lo hi v f := by
  obtain ⟨vs, xs, h, h2, h3⟩ := h
  refine ⟨vs, xs, ⟨hc.owns h.row (fun g hg => ?_), h.at_, fun i hi' hk => hc.owns (h.ents i hi' hk) (fun g hg => ?_), h.apart, h.aside⟩, h2, h3⟩
  · have a := (h.row.lt g hg).1
    have b := h2 g hg
    omega
  · have a := (World.ownsRow.lt (h.ents i hi' hk) g hg).1
    have b := h3 i hi' g hg
    omega

end Go.Proofs.Ytnmpfooegnmknaa.Tr
