/- Bytes that are laid behind a row of the call's own, and the items and fields of a body, as values of other texts need them. -/
import Derived.Test.YtdchhjnmhnehiaaGreatDoorGetM
import Derived.Test.YtdchhjnmhnehiaaGreatDoorSplitM
import Derived.Test.YtdchhjnmhnehiaaGreatDoorIn
import Derived.Test.YtdchhjnmhnehiaaGreatDoorRowF
import Derived.Test.YtdchhjnmhnehiaaGreatDoorLawB
import Derived.Test.YtdchhjnmhnehiaaGreatDoorEncI
import Derived.Lib.AppendStr
import Derived.Lib.OthersKept
import Derived.Lib.BufferKept
import Derived.Maps.AppendAt
namespace Go.Proofs.YtdchhjnmhnehiaaGreatDoor
open Go.RowKit
set_option linter.unusedVariables false

theorem mkB_size (l : List UInt8) : (mkB l).size = l.length := by rw [← toList_length, mkB_data]
theorem mkB_app (a b : List UInt8) : mkB a ++ mkB b = mkB (a ++ b) := by
  apply ba_ext
  rw [mkB_data]
  simp [mkB]
theorem items_sum1 : ∀ (m : Nat) (t : ByteArray) (l : List Val), t.size ≤ m → items t = some l → (l.map (fun v => 1 + v.t.size)).sum ≤ t.size
  | 0, t, l, hm, h => by
    rw [items_nil (by omega)] at h; injection h with h; subst h; simp
  | m + 1, t, l, hm, h => by
    by_cases hz : t.size = 0
    · rw [items_nil hz] at h; injection h with h; subst h; simp
    · cases hc : cutV t with
      | none => rw [items_none hz hc] at h; cases h
      | some p =>
        obtain ⟨v, r⟩ := p
        have hsum := cutV_sum hc
        rw [items_cons hc] at h
        cases hr : items r with
        | none => rw [hr] at h; cases h
        | some l2 =>
          rw [hr] at h; injection h with h; subst h
          have ih := items_sum1 m r l2 (by omega) hr
          show ((v :: l2).map (fun v => 1 + v.t.size)).sum ≤ _
          rw [List.map_cons, List.sum_cons]; omega
theorem cutF_sum {s b : ByteArray} {f : Fld} (h : cutF s = some (f, b)) : 2 + f.name.size + f.v.t.size + b.size ≤ s.size := by
  unfold cutF at h
  cases hc : cutT s 1 with
  | none => rw [hc] at h; cases h
  | some p =>
    rw [hc] at h
    have h1 := cutT_sum (a := p.1) (b := p.2) hc
    cases hv : cutV p.2 with
    | none => simp only [hv] at h; cases h
    | some q =>
      simp only [hv] at h; injection h with h; injection h with h2 h3; subst h2; subst h3
      have h4 := cutV_sum (v := q.1) (b := q.2) hv
      show 2 + p.1.size + q.1.t.size + q.2.size ≤ _
      omega
theorem fields_sum1 : ∀ (m : Nat) (t : ByteArray) (l : List Fld), t.size ≤ m → fields t = some l → (l.map (fun f => 2 + f.name.size + f.v.t.size)).sum ≤ t.size
  | 0, t, l, hm, h => by
    rw [fields_nil (by omega)] at h; injection h with h; subst h; simp
  | m + 1, t, l, hm, h => by
    by_cases hz : t.size = 0
    · rw [fields_nil hz] at h; injection h with h; subst h; simp
    · cases hc : cutF t with
      | none => rw [fields_none hz hc] at h; cases h
      | some p =>
        obtain ⟨f, r⟩ := p
        have hsum := cutF_sum hc
        have hsz := cutF_size hc
        rw [fields_cons hc] at h
        cases hr : fields r with
        | none => rw [hr] at h; cases h
        | some l2 =>
          rw [hr] at h; injection h with h; subst h
          have ih := fields_sum1 m r l2 (by omega) hr
          show ((f :: l2).map (fun f => 2 + f.name.size + f.v.t.size)).sum ≤ _
          rw [List.map_cons, List.sum_cons]; omega
theorem sum_take {α : Type} (g : α → Nat) : ∀ (l : List α) (k : Nat), ((l.take k).map g).sum ≤ (l.map g).sum
  | [], k => by simp
  | x :: r, 0 => by simp
  | x :: r, k + 1 => by
    have := sum_take g r k
    rw [List.take_succ_cons, List.map_cons, List.map_cons, List.sum_cons, List.sum_cons]; omega
abbrev Kept (w w' : World) : Prop := Lib.OthersKept 5 none w w'
theorem own_tag {w : World} {B n : Nat} {v : Value} {xs : List Value} (h : w.ownsRow B 5 1 v n xs) : ∀ g, v.ownBlock = some g → ∃ c fz, w.heap[g]? = some (.cells c 5 fz) := by
  intro g hg
  rcases h.2 with ⟨rfl, _⟩ | ⟨g', cap, cur, rfl, _, hh, _⟩
  · cases hg
  · simp [Value.ownBlock] at hg; subst hg; exact ⟨_, _, hh⟩
/-- One byte behind a row of the call's own. -/
theorem app_byte {ops : Array Oper} {rest : List Oper} {o : Oper} {a : Act} {Q : Exit → Act → World → Prop} {w : World} (hgd : o.guard = none) (s x : Operand)
    (ho : o.op = .call { callee := .builtin .append, args := #[s, x], argTypes := #[22, 22] }) (B n : Nat) (v : Value) (xs : List Value) (c : Int)
    (ad : Nat) (hs : a.eval s = v) (hx : a.eval x = .slice (some ⟨ad, 0, none⟩) 1 1) (had : ad = w.heap.size) (hown : w.ownsRow B 5 1 v n xs) (hB : B ≤ w.heap.size) (hlim : n ≤ 1000000)
    (h : ∀ v' w', w'.ownsRow B 5 1 v' (n + 1) (xs ++ [.int .u8 c]) → Below B w w' → Kept w w' → wpList Tryz.prog ops Q rest (a.put o.dst v') w') :
    wpList Tryz.prog ops Q (o :: rest) a (w.alloc (.cells #[.int .u8 c] 5)) := by
  subst had
  obtain ⟨i0, hi, hz0, hz1, hz2⟩ := info_parts infoB
  refine wpList_append_own _ hgd s x 22 ho B 5 i0 (.int .u8 0) 1 1 Tryz.underlying22 hi hz0 hz1 hz2 rfl (by decide) _ _ _ hs (hown.alloc _) ⟨w.heap.size, 0, none⟩ 1 1 [.int .u8 c] hx rfl (cell_one_new _ _ _) (by intro u hu; simp at hu; subst hu; rfl) (by unfold maxLen; omega) (by omega) (by simp; omega) ?_
  intro v' w' hown' hgrow _
  have ha : Below B w (w.alloc (.cells #[.int .u8 c] 5)) := (Below.refl _ _).alloc hB _
  refine h v' w' hown' (Below.grown ha hgrow (by simp; omega) (fun k hk => (hown.lt k hk).1)) ?_
  exact ((Lib.OthersKept.refl _ _ _).alloc _).grown hgrow (own_tag (hown.alloc _))
/-- A text behind a row of the call's own. -/
theorem app_str {ops : Array Oper} {rest : List Oper} {o : Oper} {a : Act} {Q : Exit → Act → World → Prop} {w : World} (hgd : o.guard = none) (s x : Operand)
    (ho : o.op = .call { callee := .builtin .append, args := #[s, x], argTypes := #[22, 9] }) (B n : Nat) (v : Value) (xs : List Value) (t : ByteArray)
    (hs : a.eval s = v) (hx : a.eval x = .string t) (hown : w.ownsRow B 5 1 v n xs) (hB : B ≤ w.heap.size) (hlim : n ≤ 1000000) (ht : t.size ≤ 1000000)
    (h : ∀ v' w', w'.ownsRow B 5 1 v' (n + t.size) (xs ++ Lib.byteCells t.data.toList) → Below B w w' → Kept w w' → wpList Tryz.prog ops Q rest (a.put o.dst v') w') :
    wpList Tryz.prog ops Q (o :: rest) a w := by
  obtain ⟨i0, hi, hz0, hz1, hz2⟩ := info_parts infoB
  refine Lib.wpList_append_own_string _ hgd s x 22 9 ho B 5 i0 Tryz.underlying22 Tryz.underlying9 hi hz0 hz1 hz2 _ _ _ hs hown t hx (by unfold maxLen; omega) (by omega) hB ?_
  intro v' w' hown' hgrow _
  refine h v' w' hown' (Below.grown (Below.refl _ _) hgrow hB (fun k hk => (hown.lt k hk).1)) ?_
  exact (Lib.OthersKept.refl _ _ _).grown hgrow (own_tag hown)
/-- A row of the call's own has grown by some bytes; all else lies as it did. -/
def GrewT (B n : Nat) (xs : List Value) (out : List UInt8) (w : World) (e : Ending) (w' : World) : Prop :=
  ∃ v', e = .returned v' ∧ w'.ownsRow B 5 1 v' (n + out.length) (xs ++ Lib.byteCells out) ∧ Below B w w' ∧ Kept w w'
theorem GrewT.mk {B n : Nat} {xs : List Value} {out : List UInt8} {w : World} {e : Ending} {w' : World} (v' : Value) (h : e = .returned v') (ho : w'.ownsRow B 5 1 v' (n + out.length) (xs ++ Lib.byteCells out)) (hb : Below B w w') (hk : Kept w w') : GrewT B n xs out w e w' := ⟨v', h, ho, hb, hk⟩
theorem kept_alloc (w : World) (o : Obj) : Kept w (w.alloc o) := (Lib.OthersKept.refl _ _ _).alloc _
theorem owns_kept {w w' : World} {base n : Nat} {e : TypeId} {size : Nat} {v : Value} {xs : List Value} (h : w.ownsRow base e size v n xs) (hk : Kept w w') (hne : e ≠ 5) : w'.ownsRow base e size v n xs := by
  obtain ⟨h1, h2⟩ := h
  refine ⟨h1, ?_⟩
  rcases h2 with h2 | ⟨g, cap, cur, hv, hg, hh, r⟩
  · exact .inl h2
  · exact .inr ⟨g, cap, cur, hv, hg, hk g _ hh (by simp) (fun c fz e' => by injection e' with _ e2; exact hne e2), r⟩
theorem grow_cat {B n : Nat} {xs : List Value} {w : World} {v : Value} {a b : List UInt8} (h : w.ownsRow B 5 1 v (n + a.length + b.length) (xs ++ Lib.byteCells a ++ Lib.byteCells b)) : w.ownsRow B 5 1 v (n + (a ++ b).length) (xs ++ Lib.byteCells (a ++ b)) := by
  have e : Lib.byteCells (a ++ b) = Lib.byteCells a ++ Lib.byteCells b := by simp [Lib.byteCells]
  rw [e, List.length_append, ← Nat.add_assoc, ← List.append_assoc]; exact h
theorem itemsIn_own (body : ByteArray) (l : List Val) (w : World) (hs : body.size ≤ 1048576) (hi : items body = some l) :
    Calls Tryz.prog 139 #[.string body] w fun e w' => (∃ p cap, e = .returned (.slice p l.length cap) ∧ w'.ownsRow w.heap.size 38 3 (.slice p l.length cap) l.length (flat l) ∧ (l ≠ [] → ∃ g, p = some ⟨g, 0, none⟩)) ∧ Below w.heap.size w w' := by
  by_cases hl : l = []
  · subst hl
    exact (itemsIn_nil body w hs hi).mono fun e w' ⟨he, hb⟩ => ⟨⟨none, 0, he, World.ownsRow_nil _ _ _ _, fun h => absurd rfl h⟩, hb⟩
  · exact (itemsIn_cons body l w hs hi hl).mono fun e w' ⟨⟨g, cap, he, ho⟩, hb⟩ => ⟨⟨some ⟨g, 0, none⟩, cap, he, ho, fun _ => ⟨g, rfl⟩⟩, hb⟩
theorem fieldsIn_own (body : ByteArray) (l : List Fld) (w : World) (hs : body.size ≤ 1048576) (hi : fields body = some l) :
    Calls Tryz.prog 140 #[.string body] w fun e w' => (∃ p cap, e = .returned (.slice p l.length cap) ∧ w'.ownsRow w.heap.size 98 4 (.slice p l.length cap) l.length (flatF l) ∧ (l ≠ [] → ∃ g, p = some ⟨g, 0, none⟩)) ∧ Below w.heap.size w w' := by
  by_cases hl : l = []
  · subst hl
    exact (fieldsIn_nil body w hs hi).mono fun e w' ⟨he, hb⟩ => ⟨⟨none, 0, he, World.ownsRow_nil _ _ _ _, fun h => absurd rfl h⟩, hb⟩
  · exact (fieldsIn_cons body l w hs hi hl).mono fun e w' ⟨⟨g, cap, he, ho⟩, hb⟩ => ⟨⟨some ⟨g, 0, none⟩, cap, he, ho, fun _ => ⟨g, rfl⟩⟩, hb⟩
theorem kept_below {w w1 w' : World} (h : Kept w w1) (hb : Below w1.heap.size w1 w') : Kept w w' := Lib.OthersKept.below h hb
/-- Bytes behind bytes. -/
theorem grow_more {B n : Nat} {xs : List Value} {w : World} {v : Value} {a b c : List UInt8} (hc : c = a ++ b) (h : w.ownsRow B 5 1 v (n + a.length + b.length) (xs ++ Lib.byteCells a ++ Lib.byteCells b)) : w.ownsRow B 5 1 v (n + c.length) (xs ++ Lib.byteCells c) := by
  subst hc; exact grow_cat h
theorem kept_new {w w' : World} {cs : Array Value} {e : TypeId} (h : Kept (w.alloc (.cells cs e)) w') (hne : e ≠ 5) (j : Nat) : w'.cell? ⟨w.heap.size, j, none⟩ = cs[j]? := by
  have := h w.heap.size _ (heap_alloc_new w _) (by simp) (fun c fz e' => by injection e' with _ e2; exact hne e2)
  simp [World.cell?, this]
theorem convT (w : World) (v : Value) (l : List UInt8) (B : Nat) (h : w.ownsRow B 5 1 v l.length (Lib.byteCells l)) : (convert 22 9 v).run Tryz.prog w = .ok (.string (mkB l)) w := by
  rcases h.2 with ⟨rfl, h0⟩ | ⟨g, cap, cur, rfl, _⟩
  · obtain rfl : l = [] := List.eq_nil_of_length_eq_zero h0
    exact run_convert_bytes_nil w 22 5 Tryz.underlying22 Tryz.underlying5 0 0 9 Tryz.underlying9
  · exact run_convert_bytes_back (P := Tryz.prog) w 22 9 5 ⟨g, 0, none⟩ cap l Tryz.underlying22 Tryz.underlying5 Tryz.underlying9 (fun j hj => h.cells (g := g) rfl j _ (by simp [Lib.byteCells, hj]))

end Go.Proofs.YtdchhjnmhnehiaaGreatDoor
