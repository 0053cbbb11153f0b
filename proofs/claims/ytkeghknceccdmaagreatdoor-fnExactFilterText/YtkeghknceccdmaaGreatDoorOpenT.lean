/- A term that comes in, opened: its five cells. -/
import Derived.Test.YtkeghknceccdmaaGreatDoorTermL
import Derived.Deep.Slices
import Derived.Deep.Strs
import Derived.Lib.SmallJoins
import Derived.OpenShut
namespace Go.Proofs.YtkeghknceccdmaaGreatDoor
open Go.RowKit Go.Joins Go.Deep Go.ChangeShapes Go.WideShapes Go.ChangeAt
set_option linter.unusedVariables false

theorem cellsTm : Tryz.prog.cellsOf 278 = 5 := by kernel_rfl
theorem cellsTmV : Tryz.prog.cellsOf 206 = 3 := by kernel_rfl
theorem cellsTmI : Tryz.prog.cellsOf 3 = 1 := by kernel_rfl
theorem cellsTmT : Tryz.prog.cellsOf 9 = 1 := by kernel_rfl
theorem arrayFive {α : Type} {cs : Array α} (h : cs.size = 5) : ∃ c0 c1 c2 c3 c4, cs = #[c0, c1, c2, c3, c4] := by
  obtain ⟨l⟩ := cs
  match l, h with
  | [c0, c1, c2, c3, c4], _ => exact ⟨c0, c1, c2, c3, c4, rfl⟩
set_option maxRecDepth 100000 in
theorem open_term_cells {H : Type} {enc : TypeId × Value → H} {w : World} {base : Nat} {spare : Nat → Bool} {held : Bool} {fuel : Nat} {c0 c1 c2 c3 c4 : Value} {x : DataW H × List MemPlace}
    (h : DataW.trod enc Tryz.prog w base spare held fuel 278 [c0, c1, c2, c3, c4] = some x) :
    ∃ (op : Int) (p : ByteArray) (k n : Int) (t : ByteArray), c0 = .int .i64 op ∧ c1 = .string p ∧ c2 = .int .i64 k ∧ c3 = .int .i64 n ∧ c4 = .string t ∧ p.size ≤ maxLen ∧ t.size ≤ maxLen := by
  obtain ⟨y0, y1, y2, m, _, _, t0, t1, t2⟩ := trod_struct3 Tryz.underlying278 h
  obtain ⟨z0, e0, _, _⟩ := DataW.trod_int Tryz.underlying3 t0
  obtain ⟨z1, e1, _, hp⟩ := DataW.trod_string Tryz.underlying9 t1
  obtain ⟨u0, u1, u2, m2, _, _, s0, s1, s2⟩ := trod_struct3 Tryz.underlying206 t2
  obtain ⟨z2, e2, _, _⟩ := DataW.trod_int Tryz.underlying3 s0
  obtain ⟨z3, e3, _, _⟩ := DataW.trod_int Tryz.underlying3 s1
  obtain ⟨z4, e4, _, ht⟩ := DataW.trod_string Tryz.underlying9 s2
  simp [cellsTmI, cellsTmT, cellsTmV] at e0 e1 e2 e3 e4
  exact ⟨z0, z1, z2, z3, z4, e0, e1, e2, e3, e4, hp, ht⟩
set_option maxRecDepth 100000 in
theorem open_term {H : Type} {enc : TypeId × Value → H} {w : World} {base b0 : Nat} {spare : Nat → Bool} {held : Bool} {r : Reach} {v : Value} {d : DataW H} {ps : List MemPlace}
    (hv : Value.okWide Tryz.prog w r b0 278 v) (h : DataW.Trod enc Tryz.prog w base spare held 278 v d ps) :
    ∃ (op : Int) (p : ByteArray) (k n : Int) (t : ByteArray), v = .agg #[.int .i64 op, .string p, .int .i64 k, .int .i64 n, .string t] ∧ p.size ≤ maxLen ∧ t.size ≤ maxLen := by
  obtain ⟨cs, rfl, hsz⟩ := okWide_struct Tryz.underlying278 hv
  obtain ⟨c0, c1, c2, c3, c4, rfl⟩ := arrayFive (hsz.trans cellsTm)
  obtain ⟨fuel, hf⟩ := h
  obtain ⟨op, p, k, n, t, rfl, rfl, rfl, rfl, rfl, hp, ht⟩ := open_term_cells (c0 := c0) (c1 := c1) (c2 := c2) (c3 := c3) (c4 := c4) (by simpa [Value.cells] using hf)
  exact ⟨op, p, k, n, t, rfl, hp, ht⟩

end Go.Proofs.YtkeghknceccdmaaGreatDoor
