/- What the laws' marks on rows of values answer: a row that is marked holds its marks. -/
import Derived.Test.YtejphhhmblpapaaDoorOwn
namespace Go.Proofs.YtejphhhmblpapaaDoor
open Go.RowKit
set_option linter.unusedVariables false

/-- The digits of a number ahead of a text. -/
def digs (k : Nat) (out : ByteArray) : ByteArray := if h : k = 0 then out else digs (k / 10) (txt [48 + (k : Int) % 10] ++ out)
  termination_by k
  decreasing_by omega
theorem digs_zero (out : ByteArray) : digs 0 out = out := by rw [digs]; simp
theorem digs_pos (k : Nat) (out : ByteArray) (h : 0 < k) : digs k out = digs (k / 10) (txt [48 + (k : Int) % 10] ++ out) := by
  rw [digs, dif_neg (by omega)]
/-- The text of a mark. -/
def mt (k : Nat) : ByteArray := (⟨#[109]⟩ : ByteArray) ++ digs k em
theorem conv1 (W : World) (z : Int) : (convert 22 9 (.slice (some ⟨W.heap.size, 0, none⟩) 1 1)).run Tryd.prog (W.alloc (.cells #[.int .u8 z] 5)) = .ok (.string (txt [z])) (W.alloc (.cells #[.int .u8 z] 5)) :=
  run_convert_bytes_arg _ 22 5 Tryd.underlying22 Tryd.underlying5 W.heap.size 0 1 1 [z] rfl (fun i hi => by
    have : i = 0 := by omega
    subst this
    simp [go_sem]) 9 Tryd.underlying9
/-- The value that marks place number i. -/
def markV (i : Nat) : Val := ⟨1 + 3 * (i : Int), 1 + 3 * (i : Int) + 1, mt (1 + 3 * (i : Int) + 1 + 1).toNat⟩
def marks (n : Nat) : List Val := (List.range n).map markV
theorem marks_len (n : Nat) : (marks n).length = n := by unfold marks; simp
theorem marks_get (n i : Nat) (h : i < (marks n).length) : (marks n)[i] = markV i := by simp [marks]
/-- The first k places marked. -/
def markMix (l : List Val) (k : Nat) : List Val := marks k ++ l.drop k
theorem markMix_len (l : List Val) (k : Nat) (h : k ≤ l.length) : (markMix l k).length = l.length := by unfold markMix; rw [List.length_append, marks_len, List.length_drop]; omega
theorem markMix_zero (l : List Val) : markMix l 0 = l := by unfold markMix marks; simp
theorem markMix_full (l : List Val) : markMix l l.length = marks l.length := by unfold markMix; simp
theorem markMix_set (l : List Val) (k : Nat) (h : k < l.length) : (markMix l k).set k (markV k) = markMix l (k + 1) := by
  unfold markMix
  rw [List.set_append_right _ _ (by rw [marks_len]; omega), marks_len, Nat.sub_self]
  have e : marks (k + 1) = marks k ++ [markV k] := by unfold marks; rw [List.range_succ, List.map_append]; rfl
  rw [e, List.append_assoc]
  congr 1
  rw [List.drop_eq_getElem_cons h]; rfl

end Go.Proofs.YtejphhhmblpapaaDoor
