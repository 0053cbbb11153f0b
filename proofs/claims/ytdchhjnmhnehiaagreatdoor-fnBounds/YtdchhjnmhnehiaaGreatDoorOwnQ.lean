/- A copy of a text is the same text, in new memory; so is a value with it. -/
import Derived.Test.YtdchhjnmhnehiaaGreatDoorRowV
import Derived.Test.YtdchhjnmhnehiaaGreatDoorEncI
import Derived.Lib.Walk
import Derived.Lib.BufferWrite
import Derived.Lib.UnsafeStr
import Derived.Laws.MakeOwn
import Derived.Test.YtdchhjnmhnehiaaGreatDoorGetM
import Derived.Test.YtdchhjnmhnehiaaGreatDoorSplitM
import Derived.Test.YtdchhjnmhnehiaaGreatDoorIn
import Derived.Test.YtdchhjnmhnehiaaGreatDoorLawB
import Derived.Lib.AppendStr
import Derived.Lib.OthersKept
import Derived.Lib.BufferKept
import Derived.Maps.AppendAt
namespace Go.Proofs.YtdchhjnmhnehiaaGreatDoor
open Go.RowKit
set_option linter.unusedVariables false

theorem list_of_bytes (s : ByteArray) : (⟨s.data.toList.toArray⟩ : ByteArray) = s := by cases s; simp
end Go.Proofs.YtdchhjnmhnehiaaGreatDoor

/- What the laws' marks on rows of values answer: a row that is marked holds its marks. -/
namespace Go.Proofs.YtdchhjnmhnehiaaGreatDoor
open Go.RowKit
set_option linter.unusedVariables false

/-- The digits of a number ahead of a text. -/
def digs (k : Nat) (out : ByteArray) : ByteArray := if h : k = 0 then out else digs (k / 10) (txt [48 + (k : Int) % 10] ++ out)
  termination_by k
  decreasing_by omega
theorem digs_zero (out : ByteArray) : digs 0 out = out := by rw [digs]; simp
theorem digs_pos (k : Nat) (out : ByteArray) (h : 0 < k) : digs k out = digs (k / 10) (txt [48 + (k : Int) % 10] ++ out) := by
  rw [digs, dif_neg (by omega)]
/-- The text of a mark. -/
def mt (k : Nat) : ByteArray := (⟨#[109]⟩ : ByteArray) ++ digs k em
theorem conv1 (W : World) (z : Int) : (convert 22 9 (.slice (some ⟨W.heap.size, 0, none⟩) 1 1)).run Tryz.prog (W.alloc (.cells #[.int .u8 z] 5)) = .ok (.string (txt [z])) (W.alloc (.cells #[.int .u8 z] 5)) :=
  run_convert_bytes_arg _ 22 5 Tryz.underlying22 Tryz.underlying5 W.heap.size 0 1 1 [z] rfl (fun i hi => by
    have : i = 0 := by omega
    subst this
    simp [go_sem]) 9 Tryz.underlying9
set_option maxRecDepth 4000 in
set_option maxHeartbeats 1000000 in
theorem markText_any (k : Nat) (h1 : 1 ≤ k) (h2 : k ≤ 1000000) (w : World) :
    Calls Tryz.prog 44 #[.int .i64 k] w fun e w' => e = .returned (.string (mt k)) ∧ Below w.heap.size w w' := by
  have hp : ¬ ((k : Int) ≤ 0) := by omega
  go_enter Tryz.func44, Tryz.ntmps44
  go_wp2_with fail
  go_loopw [0, 3] (fun i u wr => ∃ (j : Nat) (out : ByteArray), i = .int .i64 j ∧ u = .string out ∧ digs j out = digs k em ∧ out.size + j ≤ k ∧ Below w.heap.size w wr) (fun i _ _ => (intOf i).toNat)
  case atStart => exact ⟨k, em, rfl, rfl, rfl, by simp [ByteArray.size], Below.refl _ _⟩
  case round =>
    obtain ⟨j, out, rfl, rfl, hd, hsz, hbel⟩ := hrel
    have HD : Hid _ := hd
    clear hd
    have hz := hbel.size
    by_cases hj : 0 < j
    · have hj' : (0 : Int) < (j : Int) := by omega
      have ht : (txt [48 + (j : Int) % 10]).size = 1 := txt_size _
      have hc := conv1 wr (48 + (j : Int) % 10)
      have hm : Int.tmod (j : Int) 10 = (j : Int) % 10 := Int.tmod_eq_emod_of_nonneg (by omega)
      have hq : Int.tdiv (j : Int) 10 = (j : Int) / 10 := Int.tdiv_eq_ediv_of_nonneg (by omega)
      go_wp2_with fail
      go_roundw
      case rel => exact ⟨j / 10, txt [48 + (j : Int) % 10] ++ out, by go_num, rfl, by rw [← digs_pos j out hj]; exact HD.out, by rw [ByteArray.size_append, ht]; omega, by (repeat (first | (with_reducible exact Below.refl _ _) | (with_reducible assumption) | (with_reducible apply below_drewN) | (with_reducible apply Below.drew) | ((with_reducible refine Below.setCell ?_ ?_ _); rotate_left; focus (first | (simp; done) | (simp; omega) | omega)) | ((with_reducible refine Below.alloc ?_ ?_ _); rotate_left; focus (first | (simp; done) | (simp; omega) | omega))))⟩
      case measure => simp [intOf]; omega
    · have hj0 : j = 0 := by omega
      subst hj0
      have e : out = digs k em := by rw [← HD.out, digs_zero]
      subst e
      clear HD
      go_wp2_with fail
      go_ret
      exact ⟨rfl, hbel⟩

/-- The value that marks place number i. -/
def markV (i : Nat) : Val := ⟨1 + 3 * (i : Int), 1 + 3 * (i : Int) + 1, mt (1 + 3 * (i : Int) + 1 + 1).toNat⟩
theorem markText_int (z : Int) (h1 : 1 ≤ z) (h2 : z ≤ 1000000) (w : World) :
    Calls Tryz.prog 44 #[.int .i64 z] w fun e w' => e = .returned (.string (mt z.toNat)) ∧ Below w.heap.size w w' := by
  have := markText_any z.toNat (by omega) (by omega) w
  rw [show ((z.toNat : Nat) : Int) = z by omega] at this
  exact this
def marks (n : Nat) : List Val := (List.range n).map markV
theorem marks_len (n : Nat) : (marks n).length = n := by unfold marks; simp
theorem marks_get (n i : Nat) (h : i < (marks n).length) : (marks n)[i] = markV i := by simp [marks]
/-- The first k places marked. -/
def markMix (l : List Val) (k : Nat) : List Val := marks k ++ l.drop k
theorem markMix_len (l : List Val) (k : Nat) (h : k ≤ l.length) : (markMix l k).length = l.length := by unfold markMix; rw [List.length_append, marks_len, List.length_drop]; omega
theorem markMix_zero (l : List Val) : markMix l 0 = l := by unfold markMix marks; simp
theorem markMix_full (l : List Val) : markMix l l.length = marks l.length := by unfold markMix; simp
theorem markMix_set (l : List Val) (k : Nat) (h : k < l.length) : (markMix l k).set k (markV k) = markMix l (k + 1) := by
  unfold markMix
  rw [List.set_append_right _ _ (by rw [marks_len]; omega), marks_len, Nat.sub_self]
  have e : marks (k + 1) = marks k ++ [markV k] := by unfold marks; rw [List.range_succ, List.map_append]; rfl
  rw [e, List.append_assoc]
  congr 1
  rw [List.drop_eq_getElem_cons h]; rfl

end Go.Proofs.YtdchhjnmhnehiaaGreatDoor

/- What the laws' own helpers on rows of fields answer. -/
namespace Go.Proofs.YtdchhjnmhnehiaaGreatDoor
open Go.RowKit
set_option linter.unusedVariables false

/-- A row of fields that stands at a block's head. -/
structure ReadF (w : World) (g : Nat) (l : List Fld) : Prop where
  lt : g < w.heap.size
  cells : ∀ i (h : i < l.length), w.cell? ⟨g, i * 4, none⟩ = some (.string l[i].name) ∧ w.cell? ⟨g, i * 4 + 1, none⟩ = some (.int .i64 l[i].v.k) ∧ w.cell? ⟨g, i * 4 + 2, none⟩ = some (.int .i64 l[i].v.n) ∧ w.cell? ⟨g, i * 4 + 3, none⟩ = some (.string l[i].v.t)
theorem ReadF.step {w w' : World} {g base : Nat} {l : List Fld} (h : ReadF w g l) (hb : Below base w w') (hg : g < base) : ReadF w' g l :=
  ⟨Nat.lt_of_lt_of_le h.lt hb.size, fun i hi => ⟨(hb.cell hg).trans (h.cells i hi).1, (hb.cell hg).trans (h.cells i hi).2.1, (hb.cell hg).trans (h.cells i hi).2.2.1, (hb.cell hg).trans (h.cells i hi).2.2.2⟩⟩
theorem ReadF.next {w w' : World} {g : Nat} {l : List Fld} (h : ReadF w g l) (hb : Below w.heap.size w w') : ReadF w' g l := h.step hb h.lt
theorem ReadF.of_own {w : World} {base g cap : Nat} {l : List Fld} (h : w.ownsRow base 98 4 (.slice (some ⟨g, 0, none⟩) l.length cap) l.length (flatF l)) : ReadF w g l :=
  ⟨(h.lt g rfl).2, fun i hi => ⟨owns_cell h _ _ (flatF_get l i hi).1, owns_cell h _ _ (flatF_get l i hi).2.1, owns_cell h _ _ (flatF_get l i hi).2.2.1, owns_cell h _ _ (flatF_get l i hi).2.2.2⟩⟩
theorem flatF_cons (f : Fld) (l : List Fld) : flatF (f :: l) = .string f.name :: .int .i64 f.v.k :: .int .i64 f.v.n :: .string f.v.t :: flatF l := rfl
theorem flatF_set : ∀ (l : List Fld) (k : Nat) (f : Fld), k < l.length → ((((flatF l).set (k * 4) (.string f.name)).set (k * 4 + 1) (.int .i64 f.v.k)).set (k * 4 + 2) (.int .i64 f.v.n)).set (k * 4 + 3) (.string f.v.t) = flatF (l.set k f)
  | [], k, f, h => by simp at h
  | u :: l, 0, f, _ => rfl
  | u :: l, k + 1, f, h => by
    rw [List.set_cons_succ, flatF_cons, flatF_cons, ← flatF_set l k f (by simpa using h)]
    rw [show (k + 1) * 4 = k * 4 + 1 + 1 + 1 + 1 by omega]
    rfl

/-- The field that marks place number i. -/
def markF (i : Nat) : Fld := ⟨mt (1 + 4 * (i : Int)).toNat, ⟨1 + 4 * (i : Int) + 1, 1 + 4 * (i : Int) + 1 + 1, mt (1 + 4 * (i : Int) + 1 + 1 + 1).toNat⟩⟩
def marksF (n : Nat) : List Fld := (List.range n).map markF
theorem marksF_len (n : Nat) : (marksF n).length = n := by unfold marksF; simp
theorem marksF_get (n i : Nat) (h : i < (marksF n).length) : (marksF n)[i] = markF i := by simp [marksF]
def markMixF (l : List Fld) (k : Nat) : List Fld := marksF k ++ l.drop k
theorem markMixF_len (l : List Fld) (k : Nat) (h : k ≤ l.length) : (markMixF l k).length = l.length := by unfold markMixF; rw [List.length_append, marksF_len, List.length_drop]; omega
theorem markMixF_zero (l : List Fld) : markMixF l 0 = l := by unfold markMixF marksF; simp
theorem markMixF_full (l : List Fld) : markMixF l l.length = marksF l.length := by unfold markMixF; simp
theorem markMixF_set (l : List Fld) (k : Nat) (h : k < l.length) : (markMixF l k).set k (markF k) = markMixF l (k + 1) := by
  unfold markMixF
  rw [List.set_append_right _ _ (by rw [marksF_len]; omega), marksF_len, Nat.sub_self]
  have e : marksF (k + 1) = marksF k ++ [markF k] := by unfold marksF; rw [List.range_succ, List.map_append]; rfl
  rw [e, List.append_assoc]
  congr 1
  rw [List.drop_eq_getElem_cons h]; rfl
theorem readMarksF {w : World} {base g c : Nat} (n : Nat) (h : w.ownsRow base 98 4 (.slice (some ⟨g, 0, none⟩) n c) n (flatF (marksF n))) : ReadF w g (marksF n) :=
  ReadF.of_own (l := marksF n) (cap := c) (base := base) (by rw [marksF_len]; exact h)

theorem own_there {w : World} {base g c n : Nat} {e : TypeId} {size : Nat} {xs : List Value} (h : w.ownsRow base e size (.slice (some ⟨g, 0, none⟩) n c) n xs) (j : Nat) (hj : j < n * size) : ∃ u, w.cell? ⟨g, j, none⟩ = some u := by
  have := World.ownsRow.cellAt h j hj
  rw [this]
  exact ⟨_, List.getElem?_eq_getElem (by have := h.1; omega)⟩

end Go.Proofs.YtdchhjnmhnehiaaGreatDoor

/- Bytes that are laid behind a row of the call's own, and the items and fields of a body, as values of other texts need them. -/
namespace Go.Proofs.YtdchhjnmhnehiaaGreatDoor
open Go.RowKit
set_option linter.unusedVariables false

theorem mkB_size (l : List UInt8) : (mkB l).size = l.length := by rw [← toList_length, mkB_data]
theorem mkB_app (a b : List UInt8) : mkB a ++ mkB b = mkB (a ++ b) := by
  apply ba_ext
  rw [mkB_data]
  simp [mkB]
theorem items_sum1 : ∀ (m : Nat) (t : ByteArray) (l : List Val), t.size ≤ m → items t = some l → (l.map (fun v => 1 + v.t.size)).sum ≤ t.size
  | 0, t, l, hm, h => by
    rw [items_nil (by omega)] at h; injection h with h; subst h; simp
  | m + 1, t, l, hm, h => by
    by_cases hz : t.size = 0
    · rw [items_nil hz] at h; injection h with h; subst h; simp
    · cases hc : cutV t with
      | none => rw [items_none hz hc] at h; cases h
      | some p =>
        obtain ⟨v, r⟩ := p
        have hsum := cutV_sum hc
        rw [items_cons hc] at h
        cases hr : items r with
        | none => rw [hr] at h; cases h
        | some l2 =>
          rw [hr] at h; injection h with h; subst h
          have ih := items_sum1 m r l2 (by omega) hr
          show ((v :: l2).map (fun v => 1 + v.t.size)).sum ≤ _
          rw [List.map_cons, List.sum_cons]; omega
theorem cutF_sum {s b : ByteArray} {f : Fld} (h : cutF s = some (f, b)) : 2 + f.name.size + f.v.t.size + b.size ≤ s.size := by
  unfold cutF at h
  cases hc : cutT s 1 with
  | none => rw [hc] at h; cases h
  | some p =>
    rw [hc] at h
    have h1 := cutT_sum (a := p.1) (b := p.2) hc
    cases hv : cutV p.2 with
    | none => simp only [hv] at h; cases h
    | some q =>
      simp only [hv] at h; injection h with h; injection h with h2 h3; subst h2; subst h3
      have h4 := cutV_sum (v := q.1) (b := q.2) hv
      show 2 + p.1.size + q.1.t.size + q.2.size ≤ _
      omega
theorem fields_sum1 : ∀ (m : Nat) (t : ByteArray) (l : List Fld), t.size ≤ m → fields t = some l → (l.map (fun f => 2 + f.name.size + f.v.t.size)).sum ≤ t.size
  | 0, t, l, hm, h => by
    rw [fields_nil (by omega)] at h; injection h with h; subst h; simp
  | m + 1, t, l, hm, h => by
    by_cases hz : t.size = 0
    · rw [fields_nil hz] at h; injection h with h; subst h; simp
    · cases hc : cutF t with
      | none => rw [fields_none hz hc] at h; cases h
      | some p =>
        obtain ⟨f, r⟩ := p
        have hsum := cutF_sum hc
        have hsz := cutF_size hc
        rw [fields_cons hc] at h
        cases hr : fields r with
        | none => rw [hr] at h; cases h
        | some l2 =>
          rw [hr] at h; injection h with h; subst h
          have ih := fields_sum1 m r l2 (by omega) hr
          show ((f :: l2).map (fun f => 2 + f.name.size + f.v.t.size)).sum ≤ _
          rw [List.map_cons, List.sum_cons]; omega
theorem sum_take {α : Type} (g : α → Nat) : ∀ (l : List α) (k : Nat), ((l.take k).map g).sum ≤ (l.map g).sum
  | [], k => by simp
  | x :: r, 0 => by simp
  | x :: r, k + 1 => by
    have := sum_take g r k
    rw [List.take_succ_cons, List.map_cons, List.map_cons, List.sum_cons, List.sum_cons]; omega
abbrev Kept (w w' : World) : Prop := Lib.OthersKept 5 none w w'
theorem own_tag {w : World} {B n : Nat} {v : Value} {xs : List Value} (h : w.ownsRow B 5 1 v n xs) : ∀ g, v.ownBlock = some g → ∃ c fz, w.heap[g]? = some (.cells c 5 fz) := by
  intro g hg
  rcases h.2 with ⟨rfl, _⟩ | ⟨g', cap, cur, rfl, _, hh, _⟩
  · cases hg
  · simp [Value.ownBlock] at hg; subst hg; exact ⟨_, _, hh⟩
/-- One byte behind a row of the call's own. -/
theorem app_byte {ops : Array Oper} {rest : List Oper} {o : Oper} {a : Act} {Q : Exit → Act → World → Prop} {w : World} (hgd : o.guard = none) (s x : Operand)
    (ho : o.op = .call { callee := .builtin .append, args := #[s, x], argTypes := #[22, 22] }) (B n : Nat) (v : Value) (xs : List Value) (c : Int)
    (ad : Nat) (hs : a.eval s = v) (hx : a.eval x = .slice (some ⟨ad, 0, none⟩) 1 1) (had : ad = w.heap.size) (hown : w.ownsRow B 5 1 v n xs) (hB : B ≤ w.heap.size) (hlim : n ≤ 1000000)
    (h : ∀ v' w', w'.ownsRow B 5 1 v' (n + 1) (xs ++ [.int .u8 c]) → Below B w w' → Kept w w' → wpList Tryz.prog ops Q rest (a.put o.dst v') w') :
    wpList Tryz.prog ops Q (o :: rest) a (w.alloc (.cells #[.int .u8 c] 5)) := by
  subst had
  obtain ⟨i0, hi, hz0, hz1, hz2⟩ := info_parts infoB
  refine wpList_append_own _ hgd s x 22 ho B 5 i0 (.int .u8 0) 1 1 Tryz.underlying22 hi hz0 hz1 hz2 rfl (by decide) _ _ _ hs (hown.alloc _) ⟨w.heap.size, 0, none⟩ 1 1 [.int .u8 c] hx rfl (cell_one_new _ _ _) (by intro u hu; simp at hu; subst hu; rfl) (by unfold maxLen; omega) (by omega) (by simp; omega) ?_
  intro v' w' hown' hgrow _
  have ha : Below B w (w.alloc (.cells #[.int .u8 c] 5)) := (Below.refl _ _).alloc hB _
  refine h v' w' hown' (Below.grown ha hgrow (by simp; omega) (fun k hk => (hown.lt k hk).1)) ?_
  exact ((Lib.OthersKept.refl _ _ _).alloc _).grown hgrow (own_tag (hown.alloc _))
/-- A text behind a row of the call's own. -/
theorem app_str {ops : Array Oper} {rest : List Oper} {o : Oper} {a : Act} {Q : Exit → Act → World → Prop} {w : World} (hgd : o.guard = none) (s x : Operand)
    (ho : o.op = .call { callee := .builtin .append, args := #[s, x], argTypes := #[22, 9] }) (B n : Nat) (v : Value) (xs : List Value) (t : ByteArray)
    (hs : a.eval s = v) (hx : a.eval x = .string t) (hown : w.ownsRow B 5 1 v n xs) (hB : B ≤ w.heap.size) (hlim : n ≤ 1000000) (ht : t.size ≤ 1000000)
    (h : ∀ v' w', w'.ownsRow B 5 1 v' (n + t.size) (xs ++ Lib.byteCells t.data.toList) → Below B w w' → Kept w w' → wpList Tryz.prog ops Q rest (a.put o.dst v') w') :
    wpList Tryz.prog ops Q (o :: rest) a w := by
  obtain ⟨i0, hi, hz0, hz1, hz2⟩ := info_parts infoB
  refine Lib.wpList_append_own_string _ hgd s x 22 9 ho B 5 i0 Tryz.underlying22 Tryz.underlying9 hi hz0 hz1 hz2 _ _ _ hs hown t hx (by unfold maxLen; omega) (by omega) hB ?_
  intro v' w' hown' hgrow _
  refine h v' w' hown' (Below.grown (Below.refl _ _) hgrow hB (fun k hk => (hown.lt k hk).1)) ?_
  exact (Lib.OthersKept.refl _ _ _).grown hgrow (own_tag hown)
/-- A row of the call's own has grown by some bytes; all else lies as it did. -/
def GrewT (B n : Nat) (xs : List Value) (out : List UInt8) (w : World) (e : Ending) (w' : World) : Prop :=
  ∃ v', e = .returned v' ∧ w'.ownsRow B 5 1 v' (n + out.length) (xs ++ Lib.byteCells out) ∧ Below B w w' ∧ Kept w w'
theorem GrewT.mk {B n : Nat} {xs : List Value} {out : List UInt8} {w : World} {e : Ending} {w' : World} (v' : Value) (h : e = .returned v') (ho : w'.ownsRow B 5 1 v' (n + out.length) (xs ++ Lib.byteCells out)) (hb : Below B w w') (hk : Kept w w') : GrewT B n xs out w e w' := ⟨v', h, ho, hb, hk⟩
theorem kept_alloc (w : World) (o : Obj) : Kept w (w.alloc o) := (Lib.OthersKept.refl _ _ _).alloc _
theorem owns_kept {w w' : World} {base n : Nat} {e : TypeId} {size : Nat} {v : Value} {xs : List Value} (h : w.ownsRow base e size v n xs) (hk : Kept w w') (hne : e ≠ 5) : w'.ownsRow base e size v n xs := by
  obtain ⟨h1, h2⟩ := h
  refine ⟨h1, ?_⟩
  rcases h2 with h2 | ⟨g, cap, cur, hv, hg, hh, r⟩
  · exact .inl h2
  · exact .inr ⟨g, cap, cur, hv, hg, hk g _ hh (by simp) (fun c fz e' => by injection e' with _ e2; exact hne e2), r⟩
theorem grow_cat {B n : Nat} {xs : List Value} {w : World} {v : Value} {a b : List UInt8} (h : w.ownsRow B 5 1 v (n + a.length + b.length) (xs ++ Lib.byteCells a ++ Lib.byteCells b)) : w.ownsRow B 5 1 v (n + (a ++ b).length) (xs ++ Lib.byteCells (a ++ b)) := by
  have e : Lib.byteCells (a ++ b) = Lib.byteCells a ++ Lib.byteCells b := by simp [Lib.byteCells]
  rw [e, List.length_append, ← Nat.add_assoc, ← List.append_assoc]; exact h
theorem itemsIn_own (body : ByteArray) (l : List Val) (w : World) (hs : body.size ≤ 1048576) (hi : items body = some l) :
    Calls Tryz.prog 139 #[.string body] w fun e w' => (∃ p cap, e = .returned (.slice p l.length cap) ∧ w'.ownsRow w.heap.size 38 3 (.slice p l.length cap) l.length (flat l) ∧ (l ≠ [] → ∃ g, p = some ⟨g, 0, none⟩)) ∧ Below w.heap.size w w' := by
  by_cases hl : l = []
  · subst hl
    exact (itemsIn_nil body w hs hi).mono fun e w' ⟨he, hb⟩ => ⟨⟨none, 0, he, World.ownsRow_nil _ _ _ _, fun h => absurd rfl h⟩, hb⟩
  · exact (itemsIn_cons body l w hs hi hl).mono fun e w' ⟨⟨g, cap, he, ho⟩, hb⟩ => ⟨⟨some ⟨g, 0, none⟩, cap, he, ho, fun _ => ⟨g, rfl⟩⟩, hb⟩
theorem fieldsIn_own (body : ByteArray) (l : List Fld) (w : World) (hs : body.size ≤ 1048576) (hi : fields body = some l) :
    Calls Tryz.prog 140 #[.string body] w fun e w' => (∃ p cap, e = .returned (.slice p l.length cap) ∧ w'.ownsRow w.heap.size 98 4 (.slice p l.length cap) l.length (flatF l) ∧ (l ≠ [] → ∃ g, p = some ⟨g, 0, none⟩)) ∧ Below w.heap.size w w' := by
  by_cases hl : l = []
  · subst hl
    exact (fieldsIn_nil body w hs hi).mono fun e w' ⟨he, hb⟩ => ⟨⟨none, 0, he, World.ownsRow_nil _ _ _ _, fun h => absurd rfl h⟩, hb⟩
  · exact (fieldsIn_cons body l w hs hi hl).mono fun e w' ⟨⟨g, cap, he, ho⟩, hb⟩ => ⟨⟨some ⟨g, 0, none⟩, cap, he, ho, fun _ => ⟨g, rfl⟩⟩, hb⟩
theorem kept_below {w w1 w' : World} (h : Kept w w1) (hb : Below w1.heap.size w1 w') : Kept w w' := Lib.OthersKept.below h hb
/-- Bytes behind bytes. -/
theorem grow_more {B n : Nat} {xs : List Value} {w : World} {v : Value} {a b c : List UInt8} (hc : c = a ++ b) (h : w.ownsRow B 5 1 v (n + a.length + b.length) (xs ++ Lib.byteCells a ++ Lib.byteCells b)) : w.ownsRow B 5 1 v (n + c.length) (xs ++ Lib.byteCells c) := by
  subst hc; exact grow_cat h
theorem kept_new {w w' : World} {cs : Array Value} {e : TypeId} (h : Kept (w.alloc (.cells cs e)) w') (hne : e ≠ 5) (j : Nat) : w'.cell? ⟨w.heap.size, j, none⟩ = cs[j]? := by
  have := h w.heap.size _ (heap_alloc_new w _) (by simp) (fun c fz e' => by injection e' with _ e2; exact hne e2)
  simp [World.cell?, this]
theorem convT (w : World) (v : Value) (l : List UInt8) (B : Nat) (h : w.ownsRow B 5 1 v l.length (Lib.byteCells l)) : (convert 22 9 v).run Tryz.prog w = .ok (.string (mkB l)) w := by
  rcases h.2 with ⟨rfl, h0⟩ | ⟨g, cap, cur, rfl, _⟩
  · obtain rfl : l = [] := List.eq_nil_of_length_eq_zero h0
    exact run_convert_bytes_nil w 22 5 Tryz.underlying22 Tryz.underlying5 0 0 9 Tryz.underlying9
  · exact run_convert_bytes_back (P := Tryz.prog) w 22 9 5 ⟨g, 0, none⟩ cap l Tryz.underlying22 Tryz.underlying5 Tryz.underlying9 (fun j hj => h.cells (g := g) rfl j _ (by simp [Lib.byteCells, hj]))

end Go.Proofs.YtdchhjnmhnehiaaGreatDoor
