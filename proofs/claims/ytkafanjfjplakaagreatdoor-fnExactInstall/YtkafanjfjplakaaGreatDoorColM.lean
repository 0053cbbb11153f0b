/- Whether a collection is right, said plainly. Nothing of the program is used here but the texts on documents and definitions. -/
import Derived.Test.YtkafanjfjplakaaGreatDoorColP
import Derived.Test.YtkafanjfjplakaaGreatDoorColD
import Derived.Test.YtkafanjfjplakaaGreatDoorIdxA
namespace Go.Proofs.YtkafanjfjplakaaGreatDoor.Co
open Go.RowKit Tr
set_option linter.unusedVariables false

/-- A collection. -/
structure Col where
  name : ByteArray
  chs : List Chn
  dfs : List Dfn
def zeroB (v : Val) : Bool := decide (v.k = 0) && (decide (v.n = 0) && decide (v.t.size = 0))
/-- What a version, or a write, says of an id. -/
def stateB (id : Int) (g : Bool) (v : Val) : Bool := if g then zeroB v else (docB v && decide (idP v = id))
def timeB (t : Int) : Bool := decide (1 ≤ t ∧ t ≤ 10000)
def topB (i : Int) : Bool := decide (0 ≤ i ∧ i ≤ 19)
def versB (id : Int) : Int → List Ver → Bool
  | _, [] => true
  | last, v :: r => decide (last < v.tm) && (timeB v.tm && (stateB id v.gone v.doc && versB id v.tm r))
def chnB (c : Chn) : Bool := decide (1 ≤ c.vs.length ∧ c.vs.length ≤ 12) && versB c.id 0 c.vs
def chsB : Int → List Chn → Bool
  | _, [] => true
  | last, c :: r => decide (last < c.id) && (topB c.id && (chnB c && chsB c.id r))
def namedP (n : ByteArray) (d : Dfn) : Bool := d.name.toList == n.toList
def defsB : List Dfn → List Dfn → Bool
  | _, [] => true
  | pre, d :: r => defB d.name d.ps && (!(pre.any (namedP d.name)) && defsB (pre ++ [d]) r)
def dfsB (l : List Dfn) : Bool := decide (l.length ≤ 3) && defsB [] l
def collB (c : Col) : Bool := shortB c.name && (dfsB c.dfs && chsB (-1) c.chs)
/-- What the version, or the chain, ahead of a place has. -/
def lastV (l : List Ver) : Nat → Int
  | 0 => 0
  | k + 1 => match l[k]? with | some v => v.tm | none => 0
def lastC (l : List Chn) : Nat → Int
  | 0 => -1
  | k + 1 => match l[k]? with | some v => v.id | none => -1
theorem lastV_succ (l : List Ver) (k : Nat) (h : k < l.length) : lastV l (k + 1) = l[k].tm := by show (match l[k]? with | some v => v.tm | none => 0) = _; rw [List.getElem?_eq_getElem h]
theorem lastC_succ (l : List Chn) (k : Nat) (h : k < l.length) : lastC l (k + 1) = l[k].id := by show (match l[k]? with | some v => v.id | none => -1) = _; rw [List.getElem?_eq_getElem h]
theorem versB_step (id : Int) (l : List Ver) (k : Nat) (h : k < l.length) : versB id (lastV l k) (l.drop k) = (decide (lastV l k < l[k].tm) && (timeB l[k].tm && (stateB id l[k].gone l[k].doc && versB id (lastV l (k + 1)) (l.drop (k + 1))))) := by
  rw [List.drop_eq_getElem_cons h, versB, lastV_succ l k h]
theorem versB_end (id : Int) (l : List Ver) (k : Nat) (h : l.length ≤ k) : versB id (lastV l k) (l.drop k) = true := by
  rw [List.drop_eq_nil_of_le h]; rfl
theorem chsB_step (l : List Chn) (k : Nat) (h : k < l.length) : chsB (lastC l k) (l.drop k) = (decide (lastC l k < l[k].id) && (topB l[k].id && (chnB l[k] && chsB (lastC l (k + 1)) (l.drop (k + 1))))) := by
  rw [List.drop_eq_getElem_cons h, chsB, lastC_succ l k h]
theorem chsB_end (l : List Chn) (k : Nat) (h : l.length ≤ k) : chsB (lastC l k) (l.drop k) = true := by
  rw [List.drop_eq_nil_of_le h]; rfl
theorem chsB_len : ∀ (l : List Chn) (last : Int), -1 ≤ last → last ≤ 19 → chsB last l = true → (l.length : Int) ≤ 19 - last
  | [], last, h0, h1, _ => by simp; omega
  | c :: r, last, h0, h1, h => by
    rw [chsB] at h
    simp only [Bool.and_eq_true, decide_eq_true_eq, topB] at h
    obtain ⟨a1, a2, a3, a4⟩ := h
    have := chsB_len r c.id (by omega) a2.2 a4
    simp only [List.length_cons]
    omega
theorem chsB_long (l : List Chn) (h : 20 < l.length) : chsB (-1) l = false := by
  rw [Bool.eq_false_iff]; intro hh
  have := chsB_len l (-1) (by omega) (by omega) hh
  omega
theorem defsB_step (l : List Dfn) (k : Nat) (h : k < l.length) : defsB (l.take k) (l.drop k) = (defB l[k].name l[k].ps && (!((l.take k).any (namedP l[k].name)) && defsB (l.take (k + 1)) (l.drop (k + 1)))) := by
  rw [List.drop_eq_getElem_cons h, defsB, List.take_succ_eq_append_getElem h]
theorem defsB_end (l : List Dfn) (k : Nat) (h : l.length ≤ k) : defsB (l.take k) (l.drop k) = true := by
  rw [List.drop_eq_nil_of_le h]; rfl
/-- A state that is read off IdOf's answer. -/
theorem state_id (id : Int) (v : Val) (h : 0 ≤ id) : (docB v && decide (idP v = id)) = (decide ((idR v).2 = 0) && decide ((idR v).1 = id)) := by
  unfold idR
  cases hd : docB v
  · simp
  · have hr := idP_range v
    by_cases hn : idP v < 0
    · simp only [if_true, if_pos hn]
      have : ¬ idP v = id := by omega
      simp [this]
    · simp only [if_true, if_neg hn]
      simp
theorem zeroB_true (v : Val) (h : zeroB v = true) : v = ⟨0, 0, em⟩ := by
  unfold zeroB at h
  simp only [Bool.and_eq_true, decide_eq_true_eq] at h
  obtain ⟨h0, h1, h2⟩ := h
  cases v
  simp only at h0 h1 h2
  rw [h0, h1, empty_of _ h2]

end Go.Proofs.YtkafanjfjplakaaGreatDoor.Co
