/- The documents that are seen at a time: what the program and the specification answer. -/
import Derived.Test.YtkafanjfjplakaaGreatDoorColF
import Derived.Test.YtkafanjfjplakaaGreatDoorRowV
import Derived.Test.YtkafanjfjplakaaGreatDoorListA
namespace Go.Proofs.YtkafanjfjplakaaGreatDoor.Co
open Go.RowKit Tr
set_option linter.unusedVariables false

/-- The documents of those chains whose version is not gone. -/
def seenG (V : Chn → Ver) (l : List Chn) : List Val := l.flatMap fun x => if (V x).gone then [] else [(V x).doc]
theorem seenG_gone (V : Chn → Ver) (l : List Chn) (k : Nat) (h : k < l.length) (hg : (V l[k]).gone = true) : seenG V (l.take (k + 1)) = seenG V (l.take k) := by
  unfold seenG; rw [List.take_succ_eq_append_getElem h, List.flatMap_append]; simp [hg]
theorem seenG_there (V : Chn → Ver) (l : List Chn) (k : Nat) (h : k < l.length) (hg : (V l[k]).gone = false) : seenG V (l.take (k + 1)) = seenG V (l.take k) ++ [(V l[k]).doc] := by
  unfold seenG; rw [List.take_succ_eq_append_getElem h, List.flatMap_append]; simp [hg]
theorem seenG_len (V : Chn → Ver) : ∀ l : List Chn, (seenG V l).length ≤ l.length
  | [] => by simp [seenG]
  | x :: r => by
    have := seenG_len V r
    unfold seenG at *
    rw [List.flatMap_cons, List.length_append, List.length_cons]
    split <;> simp only [List.length_nil, List.length_cons] <;> omega
theorem seenG_congr (V U : Chn → Ver) : ∀ l : List Chn, (∀ x ∈ l, V x = U x) → seenG V l = seenG U l
  | [], _ => rfl
  | x :: r, h => by
    unfold seenG
    rw [List.flatMap_cons, List.flatMap_cons, h x (by simp)]
    congr 1
    exact seenG_congr V U r (fun y hy => h y (by simp [hy]))
/-- The answer of SeenAt: the documents, and a code. -/
def seenR (c : Col) (snap : Int) : List Val × Int := if collB c = true then (seenG (fun x => (trP snap x.vs).1) c.chs, 0) else ([], 1)
theorem seenR_bad (c : Col) (snap : Int) (h : collB c = false) : seenR c snap = ([], 1) := by unfold seenR; rw [h]; rfl
theorem seenR_ok (c : Col) (snap : Int) (h : collB c = true) : seenR c snap = (seenG (fun x => (trP snap x.vs).1) c.chs, 0) := by unfold seenR; rw [if_pos h]
structure SeenA (L : List Val × Int) (w : World) (e : Ending) (w' : World) : Prop where
  out : ∃ v, e = .returned (.tuple #[v, .int .i64 L.2]) ∧ w'.ownsRow w.heap.size 43 3 v L.1.length (flat L.1)
  bel : Below w.heap.size w w'
theorem trP_sz {c : Col} (h : SzCol c) {x : Chn} (hx : x ∈ c.chs) (snap : Int) : (trP snap x.vs).1.doc.t.size ≤ 1048576 := by
  rcases (trk_mem snap x.vs zG).1 with e | e
  · show (trk snap zG x.vs).1.doc.t.size ≤ _
    rw [e]; show em.size ≤ _; simp [ByteArray.size]
  · exact szVr_of h hx e
theorem boxed_grown {w W W' : World} {a b c : Value} {row : Option Nat} (h : Boxed w W a b c) (hg : W.grownBy W' row) (hr : ∀ j, row = some j → w.heap.size < j) : Boxed w W' a b c :=
  have hb := hg.block w.heap.size h.lt (fun e => by have := hr _ e.symm; omega)
  ⟨Below.grown h.bel hg h.bel.size (fun j hj => Nat.le_of_lt (hr j hj)), Nat.lt_of_lt_of_le h.lt hg.size, (World.cell?_of_block hb).trans h.c0, (World.cell?_of_block hb).trans h.c1, (World.cell?_of_block hb).trans h.c2⟩
/-- A track in its block. -/
structure V6 (U : World) (b : Nat) (v : Ver) (s : Value) : Prop where
  lt : b < U.heap.size
  cb : U.heap[b]? = some (.cells #[.int .i64 v.tm, .bool v.gone, .int .i64 v.doc.k, .int .i64 v.doc.n, .string v.doc.t, s] 98)
theorem V6.new (U : World) (v : Ver) (s : Value) : V6 (U.alloc (.cells #[.int .i64 v.tm, .bool v.gone, .int .i64 v.doc.k, .int .i64 v.doc.n, .string v.doc.t, s] 98)) U.heap.size v s := ⟨by simp, heap_alloc_new _ _⟩

end Go.Proofs.YtkafanjfjplakaaGreatDoor.Co
