/- What the specification's parting of a text into keys answers. -/
import Derived.Test.YtmchpaccdnnilaaSplC
import Derived.Test.YtmchpaccdnnilaaSplS
import Derived.Test.YtmchpaccdnnilaaTrC
import Derived.Test.YtmchpaccdnnilaaStrM
import Derived.Test.YtmchpaccdnnilaaTrS
namespace Go.Proofs.Ytmchpaccdnnilaa.Tr
open Go.RowKit
set_option linter.unusedVariables false

theorem ne_list2 (s : ByteArray) (h : 0 < s.size) : ¬ s.toList = [] ∧ s.toList.isEmpty = false := by
  have h1 : s.toList.length = s.size := by rw [ByteArray.toList_eq, toList_length]
  have h2 : ¬ s.toList = [] := fun e => by rw [e] at h1; simp at h1; omega
  exact ⟨h2, by rw [← Bool.not_eq_true, List.isEmpty_iff]; exact h2⟩
/-- What both answer: the keys, and the code. -/
def splL (s : ByteArray) (n : Int) : List ByteArray := if 65536 < s.size then [] else if 0 ≤ n ∧ n ≤ 8 then (splB s n.toNat).getD [] else []
def splC (s : ByteArray) (n : Int) : Int := if 65536 < s.size then 2 else if 0 ≤ n ∧ n ≤ 8 then (if (splB s n.toNat).isSome then 0 else 3) else 4
structure SplR (s : ByteArray) (n : Int) (w : World) (e : Ending) (w' : World) : Prop where
  out : ∃ v, e = .returned (.tuple #[v, .int .i64 (splC s n)]) ∧ OwnS w' w.heap.size v (splL s n)
  bel : Below w.heap.size w w'
theorem SplR.long {s : ByteArray} {n : Int} {w w' : World} {v : Value} (h : 65536 < s.size) (ho : OwnS w' w.heap.size v []) (hb : Below w.heap.size w w') : SplR s n w (.returned (.tuple #[v, .int .i64 2])) w' :=
  ⟨⟨v, by unfold splC; rw [if_pos h], by unfold splL; rw [if_pos h]; exact ho⟩, hb⟩
theorem SplR.range {s : ByteArray} {n : Int} {w w' : World} {v : Value} (h : ¬ 65536 < s.size) (hn : ¬ (0 ≤ n ∧ n ≤ 8)) (ho : OwnS w' w.heap.size v []) (hb : Below w.heap.size w w') : SplR s n w (.returned (.tuple #[v, .int .i64 4])) w' :=
  ⟨⟨v, by unfold splC; rw [if_neg h, if_neg hn], by unfold splL; rw [if_neg h, if_neg hn]; exact ho⟩, hb⟩
theorem SplR.form {s : ByteArray} {n : Int} {w w' : World} {v : Value} (h : ¬ 65536 < s.size) (hn : 0 ≤ n ∧ n ≤ 8) (hk : splB s n.toNat = none) (ho : OwnS w' w.heap.size v []) (hb : Below w.heap.size w w') : SplR s n w (.returned (.tuple #[v, .int .i64 3])) w' :=
  ⟨⟨v, by unfold splC; rw [if_neg h, if_pos hn, hk]; rfl, by unfold splL; rw [if_neg h, if_pos hn, hk]; exact ho⟩, hb⟩
theorem SplR.good {s : ByteArray} {n : Int} {w w' : World} {v : Value} {l : List ByteArray} (h : ¬ 65536 < s.size) (hn : 0 ≤ n ∧ n ≤ 8) (hk : splB s n.toNat = some l) (ho : OwnS w' w.heap.size v l) (hb : Below w.heap.size w w') : SplR s n w (.returned (.tuple #[v, .int .i64 0])) w' :=
  ⟨⟨v, by unfold splC; rw [if_neg h, if_pos hn, hk]; rfl, by unfold splL; rw [if_neg h, if_pos hn, hk]; exact ho⟩, hb⟩

/-- k of N keys are read: those before, and what is left. -/
def Mid (s : ByteArray) (N k : Nat) (done : List ByteArray) (rest : ByteArray) : Prop :=
  done.length = k ∧ k ≤ N ∧ rest.size ≤ s.size ∧ splitK s.size N s = (splitK s.size (N - k) rest).map fun r => (done ++ r.1, r.2)
theorem Mid.start (s : ByteArray) (N : Nat) : Mid s N 0 [] s := ⟨rfl, Nat.zero_le _, Nat.le_refl _, by simp⟩
theorem Mid.bad {s : ByteArray} {N k : Nat} {done : List ByteArray} {rest : ByteArray} (h : Mid s N k done rest) (hk : k < N) (h0 : lenK s.size rest = 0) : splB s N = none := by
  obtain ⟨_, _, _, h4⟩ := h
  unfold splB
  rw [h4, show N - k = (N - k - 1) + 1 by omega, splitK, if_pos h0]; rfl
theorem Mid.next {s : ByteArray} {N k : Nat} {done : List ByteArray} {rest : ByteArray} (h : Mid s N k done rest) (hk : k < N) (L : Nat) (hL : lenK s.size rest = L) (h0 : L ≠ 0) : Mid s N (k + 1) (done ++ [rest.extract 0 L]) (from_ rest L) := by
  obtain ⟨h1, h2, h3, h4⟩ := h
  subst hL
  refine ⟨by simp [h1], by omega, by rw [from_size]; omega, ?_⟩
  rw [h4, show N - k = (N - (k + 1)) + 1 by omega, splitK, if_neg h0, Option.map_map]
  congr 1
  funext r
  simp
theorem Mid.left {s : ByteArray} {N : Nat} {done : List ByteArray} {rest : ByteArray} (h : Mid s N N done rest) (h0 : 0 < rest.size) : splB s N = none := by
  obtain ⟨_, _, _, h4⟩ := h
  unfold splB
  rw [h4, Nat.sub_self, splitK]
  show (if rest.size = 0 then some (done ++ []) else none) = none
  rw [if_neg (by omega)]
theorem Mid.fin {s : ByteArray} {N : Nat} {done : List ByteArray} {rest : ByteArray} (h : Mid s N N done rest) (h0 : rest.size = 0) : splB s N = some done := by
  obtain ⟨_, _, _, h4⟩ := h
  unfold splB
  rw [h4, Nat.sub_self, splitK]
  show (if rest.size = 0 then some (done ++ []) else none) = some done
  rw [if_pos h0, List.append_nil]
theorem own_made (w : World) (base : Nat) (h : base ≤ w.heap.size) : OwnS (w.alloc (.cells #[] 9)) base (.slice (some ⟨w.heap.size, 0, none⟩) 0 0) [] := World.ownsRow_made w #[] 0 h (by unfold maxLen; omega) rfl

end Go.Proofs.Ytmchpaccdnnilaa.Tr
