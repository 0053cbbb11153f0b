/- How a text is parted at points, said plainly; nothing of the program is used here. -/
import Derived.Test.YtcggkeleaepebaaGreatDoorFits
import Derived.Lib.IndexLaws
import Derived.Lib.Split
namespace Go.Proofs.YtcggkeleaepebaaGreatDoor
open Go.RowKit
set_option linter.unusedVariables false

/-- The pieces of a list of bytes between those that are c. -/
def splitL (c : UInt8) : List UInt8 → List (List UInt8)
  | [] => [[]]
  | x :: r => if x = c then [] :: splitL c r else match splitL c r with
      | [] => [[x]]
      | p :: ps => (x :: p) :: ps
theorem splitL_none (c : UInt8) : ∀ l : List UInt8, (∀ x ∈ l, x ≠ c) → splitL c l = [l]
  | [], _ => rfl
  | x :: r, h => by
    rw [splitL, if_neg (h x (by simp)), splitL_none c r (fun y hy => h y (by simp [hy]))]
theorem splitL_at (c : UInt8) (r : List UInt8) : ∀ a : List UInt8, (∀ x ∈ a, x ≠ c) → splitL c (a ++ c :: r) = a :: splitL c r
  | [], _ => by rw [List.nil_append, splitL, if_pos rfl]
  | x :: a, h => by
    rw [List.cons_append, splitL, if_neg (h x (by simp)), splitL_at c r a (fun y hy => h y (by simp [hy]))]
theorem splitL_len (c : UInt8) : ∀ l : List UInt8, (splitL c l).length = l.count c + 1
  | [] => rfl
  | x :: r => by
    have ih := splitL_len c r
    rw [splitL]
    by_cases h : x = c
    · subst h; rw [if_pos rfl, List.length_cons, ih, List.count_cons_self]
    · rw [if_neg h, List.count_cons_of_ne h]
      cases hs : splitL c r with
      | nil => rw [hs] at ih; simp at ih
      | cons p ps => rw [hs] at ih; simpa using ih

def mkB (l : List UInt8) : ByteArray := ⟨l.toArray⟩
theorem mkB_of (s : ByteArray) : mkB s.data.toList = s := by cases s; simp [mkB]
theorem mkB_data (l : List UInt8) : (mkB l).data.toList = l := by simp [mkB]
/-- The pieces of a text between its points. -/
def pieces (s : ByteArray) : List ByteArray := (splitL 46 s.data.toList).map mkB
theorem pieces_len (s : ByteArray) : (pieces s).length = s.data.toList.count 46 + 1 := by unfold pieces; rw [List.length_map, splitL_len]
theorem pieces_len_le (s : ByteArray) : (pieces s).length ≤ s.size + 1 := by
  rw [pieces_len]
  have := List.count_le_length (a := (46 : UInt8)) (l := s.data.toList)
  have h2 := toList_length s
  omega
theorem byte_get (s : ByteArray) (k : Nat) (h : k < s.size) : s.data.toList[k]? = some s[k] := by
  rw [List.getElem?_eq_getElem (by rw [toList_length]; exact h)]; rfl
theorem pieces_none (s : ByteArray) (h : ∀ k (hk : k < s.size), s[k] ≠ 46) : pieces s = [s] := by
  unfold pieces
  rw [splitL_none 46 s.data.toList (fun x hx => by
    obtain ⟨k, hk, rfl⟩ := List.getElem_of_mem hx
    exact h k (by rw [toList_length] at hk; exact hk))]
  rw [List.map_cons, mkB_of]; rfl
theorem pieces_at (s : ByteArray) (i : Nat) (hi : i < s.size) (hc : s[i] = 46) (h : ∀ k (hk : k < s.size), k < i → s[k] ≠ 46) :
    pieces s = s.extract 0 i :: pieces (s.extract (i + 1) s.size) := by
  have hl : i < s.data.toList.length := by rw [toList_length]; exact hi
  have e : s.data.toList = s.data.toList.take i ++ 46 :: s.data.toList.drop (i + 1) := by
    conv => lhs; rw [← List.take_append_drop i s.data.toList, List.drop_eq_getElem_cons hl]
    rw [show s.data.toList[i] = s[i] from rfl, hc]
  have e2 : (s.extract (i + 1) s.size).data.toList = s.data.toList.drop (i + 1) := by
    rw [extract_list, List.take_of_length_le (by rw [List.length_drop, toList_length]; exact Nat.le_refl _)]
  unfold pieces
  rw [e2]
  conv => lhs; rw [e]
  rw [splitL_at 46 _ _ (fun x hx => by
    obtain ⟨k, hk, rfl⟩ := List.getElem_of_mem hx
    rw [List.length_take] at hk
    rw [List.getElem_take]
    exact h k (by omega) (by omega))]
  rw [List.map_cons]
  congr 1
  have e3 : (s.extract 0 i).data.toList = s.data.toList.take i := by rw [extract_list]; simp
  rw [← e3, mkB_of]
theorem ext_get (s : ByteArray) (a k : Nat) (h : k < (s.extract a s.size).size) : (s.extract a s.size)[k] = s[a + k]'(by simp at h; omega) := by
  simp [ByteArray.getElem_extract]
/-- The same, of what stands behind the place a. -/
theorem pieces_from (s : ByteArray) (a i : Nat) (hai : a ≤ i) (hi : i < s.size) (hc : s[i] = 46) (h : ∀ k (hk : k < s.size), a ≤ k → k < i → s[k] ≠ 46) :
    pieces (s.extract a s.size) = s.extract a i :: pieces (s.extract (i + 1) s.size) := by
  have hz : (s.extract a s.size).size = s.size - a := by simp
  have e := pieces_at (s.extract a s.size) (i - a) (by omega) (by rw [ext_get]; simpa [show a + (i - a) = i by omega] using hc)
    (fun k hk hlt => by rw [ext_get]; exact h (a + k) (by omega) (by omega) (by omega))
  rw [e, ByteArray.extract_extract, ByteArray.extract_extract, hz, show a + 0 = a from rfl, show min (a + (i - a)) s.size = i by omega, show a + (i - a + 1) = i + 1 by omega, show min (a + (s.size - a)) s.size = s.size by omega]
theorem pieces_rest (s : ByteArray) (a : Nat) (h : ∀ k (hk : k < s.size), a ≤ k → s[k] ≠ 46) : pieces (s.extract a s.size) = [s.extract a s.size] :=
  pieces_none _ (fun k hk => by rw [ext_get]; exact h (a + k) (by simp at hk; omega) (by omega))
/-- In the words of the library's search for a byte. -/
theorem pieces_miss (s : ByteArray) (h : Lib.indexByte s.data.toList 46 = -1) : pieces s = [s] :=
  pieces_none s (fun k hk e => by
    have := Lib.indexByte_none h k
    rw [byte_get s k hk, e] at this
    exact this rfl)
theorem pieces_hit (s : ByteArray) (i : Nat) (h : Lib.indexByte s.data.toList 46 = i) : i < s.size ∧ pieces s = s.extract 0 i :: pieces (s.extract (i + 1) s.size) := by
  obtain ⟨h1, h2⟩ := Lib.indexByte_some h
  have hi : i < s.size := by
    rcases Nat.lt_or_ge i s.size with h | h
    · exact h
    · rw [List.getElem?_eq_none (by rw [toList_length]; exact h)] at h1; cases h1
  refine ⟨hi, pieces_at s i hi ?_ ?_⟩
  · rw [byte_get s i hi] at h1; exact Option.some.inj h1
  · intro k hk hlt e
    have := h2 k hlt
    rw [byte_get s k hk, e] at this
    exact this rfl
theorem pieces_size (s p : ByteArray) (h : p ∈ pieces s) : p.size ≤ s.size := by
  suffices H : ∀ (c : UInt8) (l q : List UInt8), q ∈ splitL c l → q.length ≤ l.length by
    unfold pieces at h
    obtain ⟨q, hq, rfl⟩ := List.mem_map.mp h
    have := H _ _ _ hq
    rw [toList_length] at this
    have e : (mkB q).size = q.length := by rw [← toList_length, mkB_data]
    omega
  intro c l
  induction l with
  | nil => intro q hq; simp [splitL] at hq; simp [hq]
  | cons x r ih =>
    intro q hq
    rw [splitL] at hq
    split at hq
    · rcases List.mem_cons.mp hq with rfl | hq
      · simp
      · have := ih q hq; simp; omega
    · cases hs : splitL c r with
      | nil => rw [hs] at hq; simp at hq; subst hq; simp
      | cons p ps =>
        rw [hs] at hq ih
        rcases List.mem_cons.mp hq with rfl | hq
        · have := ih p (by simp); simp; omega
        · have := ih q (by simp [hq]); simp; omega
/-- Is a text a path: of at most fifty bytes, one to four short names, points between. -/
def pathB (s : ByteArray) : Bool := decide (s.size ≤ 50) && decide ((pieces s).length ≤ 4) && (pieces s).all shortB

end Go.Proofs.YtcggkeleaepebaaGreatDoor
