/- What the two functions that ask whether a text is a name answer, for every text. -/
import Derived.Test.YtpfbepbmiillbaaNames
namespace Go.Proofs.Ytpfbepbmiillbaa
open Go.RowKit

def ldAll (l : List UInt8) : Bool := l.all fun c => ldB c.toNat
def nameL : List UInt8 → Bool
  | [] => false
  | c :: r => decide (r.length < 40) && letB c.toNat && ldAll r
def nameB (s : ByteArray) : Bool := nameL s.data.toList

theorem take_snoc (s : ByteArray) (k : Nat) (h : k < s.size) : s.data.toList.take (k + 1) = s.data.toList.take k ++ [s[k]] := by
  rw [List.take_succ_eq_append_getElem (by simpa using h)]; rfl
theorem ldAll_snoc (s : ByteArray) (k : Nat) (h : k < s.size) (hd : ldAll (s.data.toList.take k) = true) :
    ldAll (s.data.toList.take (k + 1)) = ldB s[k].toNat := by
  rw [take_snoc s k h]; unfold ldAll at *; rw [List.all_append, hd]; simp
theorem ldAll_bad (s : ByteArray) (k : Nat) (h : k < s.size) (hd : ldB s[k].toNat = false) : ldAll s.data.toList = false := by
  unfold ldAll; rw [List.all_eq_false]
  exact ⟨s[k], by have : s[k] = s.data.toList[k]'(by simpa using h) := rfl
                  rw [this]; exact List.getElem_mem _, by rw [hd]; simp⟩
theorem cons_of (s : ByteArray) (h : 0 < s.size) : ∃ r, s.data.toList = s[0] :: r ∧ r.length + 1 = s.size := by
  have e := take_snoc s 0 h
  refine ⟨s.data.toList.drop 1, ?_, ?_⟩
  · conv => lhs; rw [← List.take_append_drop 1 s.data.toList, e]
    simp
  · simp; have : s.data.size = s.size := rfl
    omega
theorem nameB_eq (s : ByteArray) (h : 0 < s.size) : nameB s = (decide (s.size ≤ 40) && letB s[0].toNat && ldAll s.data.toList) := by
  obtain ⟨r, e, hl⟩ := cons_of s h
  unfold nameB; rw [e]; unfold nameL ldAll
  have : decide (r.length < 40) = decide (s.size ≤ 40) := by rw [Bool.eq_iff_iff]; simp; omega
  show (decide (r.length < 40) && letB s[0].toNat && r.all fun c => ldB c.toNat) = _
  rw [this, List.all_cons]
  cases hh : letB s[0].toNat
  · simp
  · simp [ldB, hh]
theorem nameB_empty (s : ByteArray) (h : s.size = 0) : nameB s = false := by
  unfold nameB
  have : s.data.toList = [] := by apply List.eq_nil_of_length_eq_zero; simpa using h
  rw [this]; rfl

end Go.Proofs.Ytpfbepbmiillbaa
