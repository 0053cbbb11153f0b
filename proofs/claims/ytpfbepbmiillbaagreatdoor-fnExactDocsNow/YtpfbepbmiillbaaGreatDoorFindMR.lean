/- A field by its name, said plainly; where it stands among fields that rise. Nothing of the program is used here. -/
import Derived.Test.YtpfbepbmiillbaaGreatDoorInQ
import Derived.Test.YtpfbepbmiillbaaGreatDoorOKAQ
import Derived.Test.YtpfbepbmiillbaaGreatDoorOKCQ
import Derived.Laws.BytesArg
import Derived.Laws.OwnMore
namespace Go.Proofs.YtpfbepbmiillbaaGreatDoor
open Go.RowKit
set_option linter.unusedVariables false

theorem less_trans : ∀ x y z : List UInt8, Op.bytesLess x y = true → Op.bytesLess y z = true → Op.bytesLess x z = true
  | x, [], z, h, _ => by cases x <;> simp [Op.bytesLess] at h
  | x, b :: y, [], _, h => by simp [Op.bytesLess] at h
  | [], b :: y, c :: z, _, _ => by simp [Op.bytesLess]
  | a :: x, b :: y, c :: z, h1, h2 => by
    have ih := less_trans x y z
    simp only [Op.bytesLess] at h1 h2 ⊢
    by_cases hab : a < b
    · by_cases hbc : b < c
      · have : a < c := by simp [UInt8.lt_iff_toNat_lt] at *; omega
        simp [this]
      · have hbc2 : b = c := by
          by_cases hcb : b = c
          · exact hcb
          · simp [hbc, hcb] at h2
        subst hbc2; simp [hab]
    · have hab2 : a = b := by
        by_cases e : a = b
        · exact e
        · simp [hab, e] at h1
      subst hab2
      by_cases hbc : a < c
      · simp [hbc]
      · have hbc2 : a = c := by
          by_cases e : a = c
          · exact e
          · simp [hbc, e] at h2
        subst hbc2
        simp at h1 h2 ⊢
        exact ih h1 h2
theorem less_irrefl : ∀ x : List UInt8, Op.bytesLess x x = false
  | [] => rfl
  | a :: x => by simp [Op.bytesLess, less_irrefl x]
theorem ltB_trans {a b c : ByteArray} (h1 : ltB a b = true) (h2 : ltB b c = true) : ltB a c = true := less_trans _ _ _ h1 h2
theorem ltB_irrefl (a : ByteArray) : ltB a a = false := less_irrefl _
theorem ltB_asym {a b : ByteArray} (h : ltB a b = true) : ltB b a = false := by
  cases h2 : ltB b a
  · rfl
  · have := ltB_trans h h2; rw [ltB_irrefl] at this; cases this
theorem cB_lt (a b : ByteArray) : decide (cB a b < 0) = ltB a b := by
  by_cases h : a = b
  · subst h; rw [ltB_irrefl, (cB_zero a a).mpr rfl]; rfl
  · rw [cB_ne a b h]
    cases h2 : ltB b a
    · have := less_total b.toList a.toList
      have e : (a.toList == b.toList) = false := beq_eq_false_iff_ne.mpr (fun e => h (ba_ext (by rw [← ByteArray.toList_eq, ← ByteArray.toList_eq]; exact e)))
      unfold ltB at h2 ⊢
      rw [e, h2] at this
      simpa using this.symm
    · rw [ltB_asym h2]; rfl
theorem eqL (a b : ByteArray) : (a.toList == b.toList) = true ↔ a = b := by
  rw [beq_iff_eq]
  exact ⟨fun e => ba_ext (by rw [← ByteArray.toList_eq, ← ByteArray.toList_eq]; exact e), fun e => by rw [e]⟩
theorem eqL_false (a b : ByteArray) (h : a ≠ b) : (a.toList == b.toList) = false := by
  cases h2 : (a.toList == b.toList)
  · rfl
  · exact absurd ((eqL a b).mp h2) h

/-- The value of the field of a name. -/
def fieldV (nm : ByteArray) : List Fld → Option Val
  | [] => none
  | f :: r => if cB f.name nm = 0 then some f.v else fieldV nm r
theorem fieldV_none (nm : ByteArray) : ∀ l : List Fld, (∀ f ∈ l, f.name ≠ nm) → fieldV nm l = none
  | [], _ => rfl
  | f :: r, h => by
    rw [fieldV, if_neg (fun e => h f (by simp) ((cB_zero _ _).mp e))]
    exact fieldV_none nm r (fun g hg => h g (by simp [hg]))
theorem fieldV_at (nm : ByteArray) : ∀ (l : List Fld) (i : Nat) (hi : i < l.length), (∀ q (h : q < l.length), q < i → l[q].name ≠ nm) → l[i].name = nm → fieldV nm l = some l[i].v
  | f :: r, 0, _, _, h => by
    have h' : f.name = nm := h
    rw [fieldV, if_pos ((cB_zero _ _).mpr h')]; rfl
  | f :: r, i + 1, hi, hno, h => by
    rw [fieldV, if_neg (fun e => hno 0 (by simp) (by omega) ((cB_zero _ _).mp e))]
    exact fieldV_at nm r i (by simpa using hi) (fun q hq hlt => by have := hno (q + 1) (by simpa using hq) (by omega); simpa using this) (by simpa using h)

/-- The names of fields rise. -/
def Rise (l : List Fld) : Prop := ∀ i j (hi : i < l.length) (hj : j < l.length), i < j → ltB l[i].name l[j].name = true
theorem riseAll_first (p : Val → Bool) : ∀ (l : List Fld) (last : ByteArray), riseAll p last l = true → ∀ f ∈ l, ltB last f.name = true
  | [], _, _, f, hf => by simp at hf
  | g :: r, last, h, f, hf => by
    simp only [riseAll, Bool.and_eq_true] at h
    rcases List.mem_cons.mp hf with rfl | hf
    · exact h.1.1.2
    · exact ltB_trans h.1.1.2 (riseAll_first p r g.name h.2 f hf)
theorem rise_of (p : Val → Bool) : ∀ (l : List Fld) (last : ByteArray), riseAll p last l = true → Rise l
  | [], _, _ => fun i j hi => by simp at hi
  | g :: r, last, h => by
    simp only [riseAll, Bool.and_eq_true] at h
    have ih := rise_of p r g.name h.2
    intro i j hi hj hij
    match i, j, hi, hj, hij with
    | 0, j + 1, _, hj, _ => exact riseAll_first p r g.name h.2 _ (List.getElem_mem _)
    | i + 1, j + 1, hi, hj, hij => exact ih i j (by simpa using hi) (by simpa using hj) (by omega)
theorem riseAll_all (p : Val → Bool) : ∀ (l : List Fld) (last : ByteArray), riseAll p last l = true → ∀ f ∈ l, p f.v = true ∧ shortB f.name = true
  | [], _, _, f, hf => by simp at hf
  | g :: r, last, h, f, hf => by
    simp only [riseAll, Bool.and_eq_true] at h
    rcases List.mem_cons.mp hf with rfl | hf
    · exact ⟨h.1.2, h.1.1.1⟩
    · exact riseAll_all p r g.name h.2 f hf

/-- Where a name stands, or would stand, among fields that rise, and whether it is there. -/
structure Place (l : List Fld) (nm : ByteArray) (i : Nat) (b : Bool) : Prop where
  le : i ≤ l.length
  lo : ∀ q (h : q < l.length), q < i → ltB l[q].name nm = true
  hi : ∀ q (h : q < l.length), i ≤ q → ltB l[q].name nm = false
  there : b = true ↔ ∃ h : i < l.length, l[i].name = nm
theorem Place.some {l : List Fld} {nm : ByteArray} {i : Nat} (h : Place l nm i true) : ∃ hi : i < l.length, l[i].name = nm ∧ fieldV nm l = some l[i].v := by
  obtain ⟨hi, he⟩ := h.there.mp rfl
  exact ⟨hi, he, fieldV_at nm l i hi (fun q hq hlt e => by have := h.lo q hq hlt; rw [e, ltB_irrefl] at this; cases this) he⟩
theorem Place.none {l : List Fld} {nm : ByteArray} {i : Nat} (hr : Rise l) (h : Place l nm i false) : fieldV nm l = none :=
  fieldV_none nm l (fun f hf e => by
    obtain ⟨q, hq, rfl⟩ := List.getElem_of_mem hf
    rcases Nat.lt_or_ge q i with hlt | hge
    · have := h.lo q hq hlt; rw [e, ltB_irrefl] at this; cases this
    · rcases Nat.lt_or_ge i q with hlt | hge2
      · have h1 := hr i q (by omega) hq hlt
        rw [e] at h1
        have := h.hi i (by omega) (Nat.le_refl _)
        rw [this] at h1; cases h1
      · obtain rfl : q = i := by omega
        have := h.there.mpr ⟨hq, e⟩; cases this)

end Go.Proofs.YtpfbepbmiillbaaGreatDoor

/- What a path comes to in a value, said plainly. Nothing of the program is used here. -/
namespace Go.Proofs.YtpfbepbmiillbaaGreatDoor
open Go.RowKit
set_option linter.unusedVariables false

def flds (v : Val) : List Fld := (fields v.t).getD []
theorem doc_parts (d : Nat) (v : Val) (h : fits d v = true) (hk : v.k = 5) : v.t.size ≤ 300 ∧ fields v.t = some (flds v) ∧ (flds v).length ≤ 300 ∧ Rise (flds v) ∧ ∃ d', d = d' + 1 ∧ (∀ f ∈ flds v, fits d' f.v = true ∧ f.v.t.size ≤ 300 ∧ f.name.size ≤ 300) ∧ riseAll (fits d') em (flds v) = true := by
  cases d with
  | zero => rw [fits, base_holder v (.inr hk)] at h; cases h
  | succ d =>
    rw [fits_doc d v hk, Bool.and_eq_true, decide_eq_true_eq] at h
    obtain ⟨⟨_, hs⟩, hi⟩ := h
    cases hc : fields v.t with
    | none => rw [hc] at hi; cases hi
    | some l =>
      have e : flds v = l := by unfold flds; rw [hc]; rfl
      rw [hc] at hi
      simp only [fieldsAll] at hi
      have hl := fields_len v.t.size v.t l (Nat.le_refl _) hc
      rw [e]
      exact ⟨hs, rfl, by omega, rise_of _ l em hi, d, rfl, fun f hf => ⟨(riseAll_all _ l em hi f hf).1, by have := hl.2 f hf; omega, by have := hl.2 f hf; omega⟩, hi⟩
/-- The values that a row holds, cell by cell. -/
theorem flat_at (l : List Val) (j : Nat) (u : Value) (h : (flat l)[j]? = some u) : ∃ i, ∃ hi : i < l.length, (j = i * 3 ∧ u = .int .i64 l[i].k) ∨ (j = i * 3 + 1 ∧ u = .int .i64 l[i].n) ∨ (j = i * 3 + 2 ∧ u = .string l[i].t) := by
  have hlen : (flat l).length = l.length * 3 := by
    clear h
    induction l with
    | nil => rfl
    | cons v l ih => unfold flat at ih ⊢; rw [List.flatMap_cons, List.length_append, ih, List.length_cons]; simp [row]; omega
  have hj : j < l.length * 3 := by
    rcases Nat.lt_or_ge j (l.length * 3) with h1 | h1
    · exact h1
    · rw [List.getElem?_eq_none (by omega)] at h; cases h
  have hi : j / 3 < l.length := by omega
  obtain ⟨f0, f1, f2⟩ := flat_get l (j / 3) hi
  refine ⟨j / 3, hi, ?_⟩
  rcases (show j = j / 3 * 3 ∨ j = j / 3 * 3 + 1 ∨ j = j / 3 * 3 + 2 by omega) with e | e | e
  · left; refine ⟨e, ?_⟩; rw [← e] at f0; rw [f0] at h; exact (Option.some.inj h).symm
  · right; left; refine ⟨e, ?_⟩; rw [← e] at f1; rw [f1] at h; exact (Option.some.inj h).symm
  · right; right; refine ⟨e, ?_⟩; rw [← e] at f2; rw [f2] at h; exact (Option.some.inj h).symm

end Go.Proofs.YtpfbepbmiillbaaGreatDoor

/- What the laws' own small helpers on values answer. -/
namespace Go.Proofs.YtpfbepbmiillbaaGreatDoor
open Go.RowKit
set_option linter.unusedVariables false

/-- Block number w.heap.size of W holds three cells, and all that lay in w lies in W as it did. -/
structure Boxed (w W : World) (a b c : Value) : Prop where
  bel : Below w.heap.size w W
  lt : w.heap.size < W.heap.size
  c0 : W.cell? ⟨w.heap.size, 0, none⟩ = some a
  c1 : W.cell? ⟨w.heap.size, 1, none⟩ = some b
  c2 : W.cell? ⟨w.heap.size, 2, none⟩ = some c
theorem Boxed.start (w : World) (a b c : Value) (T : TypeId) : Boxed w (w.alloc (.cells #[a, b, c] T)) a b c :=
  ⟨(Below.refl _ _).alloc (Nat.le_refl _) _, by simp, by simp [go_sem], by simp [go_sem], by simp [go_sem]⟩
theorem Boxed.step {w W W' : World} {a b c : Value} (h : Boxed w W a b c) (hb : Below W.heap.size W W') : Boxed w W' a b c :=
  ⟨h.bel.trans (hb.mono h.bel.size), Nat.lt_of_lt_of_le h.lt hb.size, (hb.cell h.lt).trans h.c0, (hb.cell h.lt).trans h.c1, (hb.cell h.lt).trans h.c2⟩

set_option maxHeartbeats 400000 in
theorem szValue_any (k n : Int) (t : ByteArray) (c : Int) (w : World) (hs : t.size ≤ maxLen) (hc : 0 ≤ c) (hc2 : c ≤ 1048576) :
    Calls Tryz.prog 164 #[.agg #[.int .i64 k, .int .i64 n, .string t], .int .i64 c] w fun e w' => e = .returned (.int .i64 (if c < t.size then -1 else c - t.size)) ∧ Below w.heap.size w w' := by
  unfold maxLen at hs
  by_cases h : c < t.size
  · rw [if_pos h]
    go_enter Tryz.func164, Tryz.ntmps164
    go_wp2
    go_ret
    exact ⟨rfl, (Below.refl _ _).alloc (Nat.le_refl _) _⟩
  · rw [if_neg h]
    go_enter Tryz.func164, Tryz.ntmps164
    go_wp2
    go_ret
    exact ⟨rfl, (Below.refl _ _).alloc (Nat.le_refl _) _⟩

set_option maxHeartbeats 400000 in
theorem toValue_any (k n : Int) (t : ByteArray) (w : World) :
    Calls Tryz.prog 172 #[.agg #[.int .i64 k, .int .i64 n, .string t]] w fun e w' => e = .returned (.agg #[.int .i64 k, .int .i64 n, .string t]) ∧ Below w.heap.size w w' := by
  go_enter Tryz.func172, Tryz.ntmps172
  go_wp2
  exact bodyPost_ret (v := .agg #[.int .i64 k, .int .i64 n, .string t]) (by simp [results, Tryz.results172, go_sem]) rfl ⟨rfl, by (repeat (first | (with_reducible exact Below.refl _ _) | (with_reducible assumption) | (with_reducible apply below_drewN) | (with_reducible apply Below.drew) | ((with_reducible refine Below.setCell ?_ ?_ _); rotate_left; focus (first | (simp; done) | (simp; omega) | omega)) | ((with_reducible refine Below.alloc ?_ ?_ _); rotate_left; focus (first | (simp; done) | (simp; omega) | omega))))⟩

end Go.Proofs.YtpfbepbmiillbaaGreatDoor

/- What the laws' own helpers on bytes answer. -/
namespace Go.Proofs.YtpfbepbmiillbaaGreatDoor
open Go.RowKit
set_option linter.unusedVariables false

theorem infoB : (Tryz.prog.info? 5).map (fun i => (i.zero, i.size, i.bytes)) = some (some (.int .u8 0), 1, 1) := by kernel_rfl
theorem gd (zs : List Int) (k : Nat) (h : k < zs.length) : zs.getD k 0 = zs[k] := by
  rw [List.getD_eq_getElem?_getD, List.getElem?_eq_getElem h]; rfl
set_option maxHeartbeats 1000000 in
theorem eqValue_same (k n : Int) (t : ByteArray) (w : World) :
    Calls Tryz.prog 54 #[.agg #[.int .i64 k, .int .i64 n, .string t], .agg #[.int .i64 k, .int .i64 n, .string t]] w fun e w' => e = .returned (.bool true) ∧ Below w.heap.size w w' := by
  go_enter Tryz.func54, Tryz.ntmps54
  go_wp2
  go_ret
  exact ⟨rfl, by (repeat (first | (with_reducible exact Below.refl _ _) | (with_reducible assumption) | (with_reducible apply below_drewN) | (with_reducible apply Below.drew) | ((with_reducible refine Below.setCell ?_ ?_ _); rotate_left; focus (first | (simp; done) | (simp; omega) | omega)) | ((with_reducible refine Below.alloc ?_ ?_ _); rotate_left; focus (first | (simp; done) | (simp; omega) | omega))))⟩

end Go.Proofs.YtpfbepbmiillbaaGreatDoor
