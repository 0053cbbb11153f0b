/- Marks on rows of entries: what the laws' helpers answer, and which memory they change. -/
import Derived.Test.YtlefpbgnkebmdaaGreatChgB
import Derived.Test.YtlefpbgnkebmdaaGreatTrQ
namespace Go.Proofs.YtlefpbgnkebmdaaGreat.Tr
open Go.RowKit
set_option linter.unusedVariables false

theorem grown_below {w w' : World} {row : Option Nat} (h : Below w.heap.size w w') : w.grownBy w' row := ⟨h.os, h.tape, h.output, h.size, fun k hk _ => h.block k hk⟩
theorem grown_trans {a b c : World} {row : Option Nat} (h : a.grownBy b row) (k : b.grownBy c row) : a.grownBy c row :=
  ⟨k.os.trans h.os, k.tape.trans h.tape, k.output.trans h.output, Nat.le_trans h.size k.size, fun i hi hne => (k.block i (Nat.lt_of_lt_of_le hi h.size) hne).trans (h.block i hi hne)⟩
theorem grown_refl (a : World) (row : Option Nat) : a.grownBy a row := ⟨rfl, rfl, rfl, Nat.le_refl _, fun _ _ _ => rfl⟩

def txt (zs : List Int) : ByteArray := strOfNums zs
theorem txt_size (z : Int) : (txt [z]).size = 1 := by rfl
/-- The digits of a number ahead of a text. -/
def digs (k : Nat) (out : ByteArray) : ByteArray := if h : k = 0 then out else digs (k / 10) (txt [48 + (k : Int) % 10] ++ out)
  termination_by k
  decreasing_by omega
theorem digs_zero (out : ByteArray) : digs 0 out = out := by rw [digs]; simp
theorem digs_pos (k : Nat) (out : ByteArray) (h : 0 < k) : digs k out = digs (k / 10) (txt [48 + (k : Int) % 10] ++ out) := by
  rw [digs, dif_neg (by omega)]
/-- The text of a mark. -/
def mt (k : Nat) : ByteArray := (⟨#[109]⟩ : ByteArray) ++ digs k em
theorem conv1 (W : World) (z : Int) : (convert 119 9 (.slice (some ⟨W.heap.size, 0, none⟩) 1 1)).run Tryz.prog (W.alloc (.cells #[.int .u8 z] 5)) = .ok (.string (txt [z])) (W.alloc (.cells #[.int .u8 z] 5)) :=
  run_convert_bytes_arg _ 119 5 Tryz.underlying119 Tryz.underlying5 W.heap.size 0 1 1 [z] rfl (fun i hi => by
    have : i = 0 := by omega
    subst this
    simp [go_sem]) 9 Tryz.underlying9
set_option maxRecDepth 4000 in
set_option maxHeartbeats 1000000 in
theorem markText_any (k : Nat) (h1 : 1 ≤ k) (h2 : k ≤ 17592186044416) (w : World) :
    Calls Tryz.prog 51 #[.int .i64 k] w fun e w' => e = .returned (.string (mt k)) ∧ Below w.heap.size w w' := by
  have hp : ¬ ((k : Int) ≤ 0) := by omega
  go_enter Tryz.func51, Tryz.ntmps51
  go_wp2_with fail
  go_loopw [0, 3] (fun i u wr => ∃ (j : Nat) (out : ByteArray), i = .int .i64 j ∧ u = .string out ∧ digs j out = digs k em ∧ out.size + j ≤ k ∧ Below w.heap.size w wr) (fun i _ _ => (intOf i).toNat)
  case atStart => exact ⟨k, em, rfl, rfl, rfl, by simp [ByteArray.size], Below.refl _ _⟩
  case round =>
    obtain ⟨j, out, rfl, rfl, hd, hsz, hbel⟩ := hrel
    have HD : Hid _ := hd
    clear hd
    have hz := hbel.size
    by_cases hj : 0 < j
    · have hj' : (0 : Int) < (j : Int) := by omega
      have ht : (txt [48 + (j : Int) % 10]).size = 1 := txt_size _
      have hc := conv1 wr (48 + (j : Int) % 10)
      have hm : Int.tmod (j : Int) 10 = (j : Int) % 10 := Int.tmod_eq_emod_of_nonneg (by omega)
      have hq : Int.tdiv (j : Int) 10 = (j : Int) / 10 := Int.tdiv_eq_ediv_of_nonneg (by omega)
      go_wp2_with fail
      go_roundw
      case rel => exact ⟨j / 10, txt [48 + (j : Int) % 10] ++ out, by go_num, rfl, by rw [← digs_pos j out hj]; exact HD.out, by rw [ByteArray.size_append, ht]; omega, by (repeat (first | (with_reducible exact Below.refl _ _) | (with_reducible assumption) | (with_reducible apply below_drewN) | (with_reducible apply Below.drew) | ((with_reducible refine Below.setCell ?_ ?_ _); rotate_left; focus (first | (simp; done) | (simp; omega) | omega)) | ((with_reducible refine Below.alloc ?_ ?_ _); rotate_left; focus (first | (simp; done) | (simp; omega) | omega))))⟩
      case measure => simp [intOf]; omega
    · have hj0 : j = 0 := by omega
      subst hj0
      have e : out = digs k em := by rw [← HD.out, digs_zero]
      subst e
      clear HD
      go_wp2_with fail
      go_ret
      exact ⟨rfl, hbel⟩

/-- The entry that marks place number i, from number q on. -/
def markE (q i : Nat) : Ent := ⟨mt (q + 2 * i), (q : Int) + 2 * (i : Int) + 1⟩
def marksE (q n : Nat) : List Ent := (List.range n).map (markE q)
theorem marksE_len (q n : Nat) : (marksE q n).length = n := by unfold marksE; simp
theorem marksE_get (q n i : Nat) (h : i < (marksE q n).length) : (marksE q n)[i] = markE q i := by simp [marksE]
/-- The first k places marked. -/
def markMixE (q : Nat) (l : List Ent) (k : Nat) : List Ent := marksE q k ++ l.drop k
theorem markMixE_len (q : Nat) (l : List Ent) (k : Nat) (h : k ≤ l.length) : (markMixE q l k).length = l.length := by unfold markMixE; rw [List.length_append, marksE_len, List.length_drop]; omega
theorem markMixE_zero (q : Nat) (l : List Ent) : markMixE q l 0 = l := by unfold markMixE marksE; simp
theorem markMixE_full (q : Nat) (l : List Ent) : markMixE q l l.length = marksE q l.length := by unfold markMixE; simp
theorem markMixE_set (q : Nat) (l : List Ent) (k : Nat) (h : k < l.length) : (markMixE q l k).set k (markE q k) = markMixE q l (k + 1) := by
  unfold markMixE
  rw [List.set_append_right _ _ (by rw [marksE_len]; omega), marksE_len, Nat.sub_self]
  have e : marksE q (k + 1) = marksE q k ++ [markE q k] := by unfold marksE; rw [List.range_succ, List.map_append]; rfl
  rw [e, List.append_assoc]
  congr 1
  rw [List.drop_eq_getElem_cons h]; rfl

end Go.Proofs.YtlefpbgnkebmdaaGreat.Tr
