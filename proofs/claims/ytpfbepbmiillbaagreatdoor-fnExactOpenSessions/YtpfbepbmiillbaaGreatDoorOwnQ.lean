/- A copy of a text is the same text, in new memory; so is a value with it. -/
import Derived.Test.YtpfbepbmiillbaaGreatDoorRowVQ
import Derived.Test.YtpfbepbmiillbaaGreatDoorEncQ
import Derived.Lib.Walk
import Derived.Lib.BufferWrite
import Derived.Lib.UnsafeStr
import Derived.Laws.MakeOwn
import Derived.Test.YtpfbepbmiillbaaGreatDoorInQ
import Derived.Test.YtpfbepbmiillbaaGreatDoorFindMQ
namespace Go.Proofs.YtpfbepbmiillbaaGreatDoor
open Go.RowKit
set_option linter.unusedVariables false

end Go.Proofs.YtpfbepbmiillbaaGreatDoor

/- What the laws' marks on rows of values answer: a row that is marked holds its marks. -/
namespace Go.Proofs.YtpfbepbmiillbaaGreatDoor
open Go.RowKit
set_option linter.unusedVariables false

/-- The digits of a number ahead of a text. -/
def digs (k : Nat) (out : ByteArray) : ByteArray := if h : k = 0 then out else digs (k / 10) (txt [48 + (k : Int) % 10] ++ out)
  termination_by k
  decreasing_by omega
theorem digs_zero (out : ByteArray) : digs 0 out = out := by rw [digs]; simp
theorem digs_pos (k : Nat) (out : ByteArray) (h : 0 < k) : digs k out = digs (k / 10) (txt [48 + (k : Int) % 10] ++ out) := by
  rw [digs, dif_neg (by omega)]
/-- The text of a mark. -/
def mt (k : Nat) : ByteArray := (⟨#[109]⟩ : ByteArray) ++ digs k em
theorem conv1 (W : World) (z : Int) : (convert 145 9 (.slice (some ⟨W.heap.size, 0, none⟩) 1 1)).run Tryz.prog (W.alloc (.cells #[.int .u8 z] 5)) = .ok (.string (txt [z])) (W.alloc (.cells #[.int .u8 z] 5)) :=
  run_convert_bytes_arg _ 145 5 Tryz.underlying145 Tryz.underlying5 W.heap.size 0 1 1 [z] rfl (fun i hi => by
    have : i = 0 := by omega
    subst this
    simp [go_sem]) 9 Tryz.underlying9
set_option maxRecDepth 4000 in
set_option maxHeartbeats 1000000 in
theorem markText_any (k : Nat) (h1 : 1 ≤ k) (h2 : k ≤ 1000000) (w : World) :
    Calls Tryz.prog 55 #[.int .i64 k] w fun e w' => e = .returned (.string (mt k)) ∧ Below w.heap.size w w' := by
  have hp : ¬ ((k : Int) ≤ 0) := by omega
  go_enter Tryz.func55, Tryz.ntmps55
  go_wp2_with fail
  go_loopw [0, 3] (fun i u wr => ∃ (j : Nat) (out : ByteArray), i = .int .i64 j ∧ u = .string out ∧ digs j out = digs k em ∧ out.size + j ≤ k ∧ Below w.heap.size w wr) (fun i _ _ => (intOf i).toNat)
  case atStart => exact ⟨k, em, rfl, rfl, rfl, by simp [ByteArray.size], Below.refl _ _⟩
  case round =>
    obtain ⟨j, out, rfl, rfl, hd, hsz, hbel⟩ := hrel
    have HD : Hid _ := hd
    clear hd
    have hz := hbel.size
    by_cases hj : 0 < j
    · have hj' : (0 : Int) < (j : Int) := by omega
      have ht : (txt [48 + (j : Int) % 10]).size = 1 := txt_size _
      have hc := conv1 wr (48 + (j : Int) % 10)
      have hm : Int.tmod (j : Int) 10 = (j : Int) % 10 := Int.tmod_eq_emod_of_nonneg (by omega)
      have hq : Int.tdiv (j : Int) 10 = (j : Int) / 10 := Int.tdiv_eq_ediv_of_nonneg (by omega)
      go_wp2_with fail
      go_roundw
      case rel => exact ⟨j / 10, txt [48 + (j : Int) % 10] ++ out, by go_num, rfl, by rw [← digs_pos j out hj]; exact HD.out, by rw [ByteArray.size_append, ht]; omega, by (repeat (first | (with_reducible exact Below.refl _ _) | (with_reducible assumption) | (with_reducible apply below_drewN) | (with_reducible apply Below.drew) | ((with_reducible refine Below.setCell ?_ ?_ _); rotate_left; focus (first | (simp; done) | (simp; omega) | omega)) | ((with_reducible refine Below.alloc ?_ ?_ _); rotate_left; focus (first | (simp; done) | (simp; omega) | omega))))⟩
      case measure => simp [intOf]; omega
    · have hj0 : j = 0 := by omega
      subst hj0
      have e : out = digs k em := by rw [← HD.out, digs_zero]
      subst e
      clear HD
      go_wp2_with fail
      go_ret
      exact ⟨rfl, hbel⟩

/-- The value that marks place number i. -/
def markV (i : Nat) : Val := ⟨1 + 3 * (i : Int), 1 + 3 * (i : Int) + 1, mt (1 + 3 * (i : Int) + 1 + 1).toNat⟩
def marks (n : Nat) : List Val := (List.range n).map markV
end Go.Proofs.YtpfbepbmiillbaaGreatDoor

/- What the laws' own helpers on rows of fields answer. -/
namespace Go.Proofs.YtpfbepbmiillbaaGreatDoor
open Go.RowKit
set_option linter.unusedVariables false

/-- A row of fields that stands at a block's head. -/
structure ReadF (w : World) (g : Nat) (l : List Fld) : Prop where
  lt : g < w.heap.size
  cells : ∀ i (h : i < l.length), w.cell? ⟨g, i * 4, none⟩ = some (.string l[i].name) ∧ w.cell? ⟨g, i * 4 + 1, none⟩ = some (.int .i64 l[i].v.k) ∧ w.cell? ⟨g, i * 4 + 2, none⟩ = some (.int .i64 l[i].v.n) ∧ w.cell? ⟨g, i * 4 + 3, none⟩ = some (.string l[i].v.t)
theorem ReadF.step {w w' : World} {g base : Nat} {l : List Fld} (h : ReadF w g l) (hb : Below base w w') (hg : g < base) : ReadF w' g l :=
  ⟨Nat.lt_of_lt_of_le h.lt hb.size, fun i hi => ⟨(hb.cell hg).trans (h.cells i hi).1, (hb.cell hg).trans (h.cells i hi).2.1, (hb.cell hg).trans (h.cells i hi).2.2.1, (hb.cell hg).trans (h.cells i hi).2.2.2⟩⟩
theorem ReadF.next {w w' : World} {g : Nat} {l : List Fld} (h : ReadF w g l) (hb : Below w.heap.size w w') : ReadF w' g l := h.step hb h.lt
theorem ReadF.of_own {w : World} {base g cap : Nat} {l : List Fld} (h : w.ownsRow base 268 4 (.slice (some ⟨g, 0, none⟩) l.length cap) l.length (flatF l)) : ReadF w g l :=
  ⟨(h.lt g rfl).2, fun i hi => ⟨owns_cell h _ _ (flatF_get l i hi).1, owns_cell h _ _ (flatF_get l i hi).2.1, owns_cell h _ _ (flatF_get l i hi).2.2.1, owns_cell h _ _ (flatF_get l i hi).2.2.2⟩⟩
theorem own_there {w : World} {base g c n : Nat} {e : TypeId} {size : Nat} {xs : List Value} (h : w.ownsRow base e size (.slice (some ⟨g, 0, none⟩) n c) n xs) (j : Nat) (hj : j < n * size) : ∃ u, w.cell? ⟨g, j, none⟩ = some u := by
  have := World.ownsRow.cellAt h j hj
  rw [this]
  exact ⟨_, List.getElem?_eq_getElem (by have := h.1; omega)⟩

end Go.Proofs.YtpfbepbmiillbaaGreatDoor

/- What the specification's order of values answers, for every two right values. -/
namespace Go.Proofs.YtpfbepbmiillbaaGreatDoor
open Go.RowKit
set_option linter.unusedVariables false

theorem val_ext {a b : Val} (h1 : a.k = b.k) (h2 : a.n = b.n) (h3 : a.t = b.t) : a = b := by cases a; cases b; simp_all
end Go.Proofs.YtpfbepbmiillbaaGreatDoor

/- What a term lets in, said plainly. Nothing of the program is used here. -/
namespace Go.Proofs.YtpfbepbmiillbaaGreatDoor
open Go.RowKit
set_option linter.unusedVariables false

instance : DecidableEq Val := fun a b =>
  if h : a.k = b.k ∧ a.n = b.n ∧ a.t = b.t then isTrue (val_ext h.1 h.2.1 h.2.2) else isFalse (fun e => h (by subst e; exact ⟨rfl, rfl, rfl⟩))
/-- Is a value a right document. -/
def docB (v : Val) : Bool := decide (v.k = 5) && okB v
end Go.Proofs.YtpfbepbmiillbaaGreatDoor

/- What the specification's order of values answers, for every two right values. -/
namespace Go.Proofs.YtpfbepbmiillbaaGreatDoor
open Go.RowKit
set_option linter.unusedVariables false

end Go.Proofs.YtpfbepbmiillbaaGreatDoor
