/- A term that comes in, opened: its five cells. -/
import Derived.Test.YtkafanjfjplakaaDoorTermL
import Derived.Deep.Slices
import Derived.Deep.Strs
import Derived.Lib.SmallJoins
import Derived.OpenShut
namespace Go.Proofs.YtkafanjfjplakaaDoor
open Go.RowKit Go.Joins Go.Deep Go.ChangeShapes Go.WideShapes Go.ChangeAt
set_option linter.unusedVariables false

theorem cellsTm : Tryd.prog.cellsOf 76 = 5 := by kernel_rfl
theorem cellsTmV : Tryd.prog.cellsOf 74 = 3 := by kernel_rfl
theorem cellsTmI : Tryd.prog.cellsOf 3 = 1 := by kernel_rfl
theorem cellsTmT : Tryd.prog.cellsOf 9 = 1 := by kernel_rfl
theorem arrayFive {α : Type} {cs : Array α} (h : cs.size = 5) : ∃ c0 c1 c2 c3 c4, cs = #[c0, c1, c2, c3, c4] := by
  obtain ⟨l⟩ := cs
  match l, h with
  | [c0, c1, c2, c3, c4], _ => exact ⟨c0, c1, c2, c3, c4, rfl⟩
set_option maxRecDepth 100000 in
theorem open_term_cells {H : Type} {enc : TypeId × Value → H} {w : World} {base : Nat} {spare : Nat → Bool} {held : Bool} {fuel : Nat} {c0 c1 c2 c3 c4 : Value} {x : DataW H × List MemPlace}
    (h : DataW.trod enc Tryd.prog w base spare held fuel 76 [c0, c1, c2, c3, c4] = some x) :
    ∃ (op : Int) (p : ByteArray) (k n : Int) (t : ByteArray), c0 = .int .i64 op ∧ c1 = .string p ∧ c2 = .int .i64 k ∧ c3 = .int .i64 n ∧ c4 = .string t ∧ p.size ≤ maxLen ∧ t.size ≤ maxLen := by
  obtain ⟨y0, y1, y2, m, _, _, t0, t1, t2⟩ := trod_struct3 Tryd.underlying76 h
  obtain ⟨z0, e0, _, _⟩ := DataW.trod_int Tryd.underlying3 t0
  obtain ⟨z1, e1, _, hp⟩ := DataW.trod_string Tryd.underlying9 t1
  obtain ⟨u0, u1, u2, m2, _, _, s0, s1, s2⟩ := trod_struct3 Tryd.underlying74 t2
  obtain ⟨z2, e2, _, _⟩ := DataW.trod_int Tryd.underlying3 s0
  obtain ⟨z3, e3, _, _⟩ := DataW.trod_int Tryd.underlying3 s1
  obtain ⟨z4, e4, _, ht⟩ := DataW.trod_string Tryd.underlying9 s2
  simp [cellsTmI, cellsTmT, cellsTmV] at e0 e1 e2 e3 e4
  exact ⟨z0, z1, z2, z3, z4, e0, e1, e2, e3, e4, hp, ht⟩
set_option maxRecDepth 100000 in
theorem open_term {H : Type} {enc : TypeId × Value → H} {w : World} {base b0 : Nat} {spare : Nat → Bool} {held : Bool} {r : Reach} {v : Value} {d : DataW H} {ps : List MemPlace}
    (hv : Value.okWide Tryd.prog w r b0 76 v) (h : DataW.Trod enc Tryd.prog w base spare held 76 v d ps) :
    ∃ (op : Int) (p : ByteArray) (k n : Int) (t : ByteArray), v = .agg #[.int .i64 op, .string p, .int .i64 k, .int .i64 n, .string t] ∧ p.size ≤ maxLen ∧ t.size ≤ maxLen := by
  obtain ⟨cs, rfl, hsz⟩ := okWide_struct Tryd.underlying76 hv
  obtain ⟨c0, c1, c2, c3, c4, rfl⟩ := arrayFive (hsz.trans cellsTm)
  obtain ⟨fuel, hf⟩ := h
  obtain ⟨op, p, k, n, t, rfl, rfl, rfl, rfl, rfl, hp, ht⟩ := open_term_cells (c0 := c0) (c1 := c1) (c2 := c2) (c3 := c3) (c4 := c4) (by simpa [Value.cells] using hf)
  exact ⟨op, p, k, n, t, rfl, hp, ht⟩

end Go.Proofs.YtkafanjfjplakaaDoor
