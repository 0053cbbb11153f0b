/- A reply that comes in, opened. -/
import Derived.Test.YtpfbepbmiillbaaRplW
import Derived.Test.YtpfbepbmiillbaaOpenV
namespace Go.Proofs.Ytpfbepbmiillbaa.Rp
open Go.RowKit Go.ChangeShapes Go.WideShapes Go.ChangeAt Go.Joins Go.Deep
set_option linter.unusedVariables false

theorem cellsRpl : Try.prog.cellsOf 24 = 3 := by kernel_rfl
theorem cellsRpI : Try.prog.cellsOf 3 = 1 := by kernel_rfl
theorem cellsRpV : Try.prog.cellsOf 22 = 1 := by kernel_rfl
set_option maxRecDepth 100000 in
theorem open_reply {H : Type} {enc : TypeId × Value → H} {w : World} {base b0 : Nat} {spare : Nat → Bool} {held : Bool} {r : Reach} {v : Value} {d : DataW H} {ps : List MemPlace}
    (hv : Value.okWide Try.prog w r b0 24 v) (h : DataW.Trod enc Try.prog w base spare held 24 v d ps) :
    ∃ (x : Rpl) (p : Option Addr) (cp : Nat), v = .agg #[.int .i64 x.code, .slice p x.ds.length cp, .int .i64 x.n] ∧ (x.ds.length ≤ maxLen ∧ ∀ v ∈ x.ds, v.t.size ≤ maxLen) ∧ InV w p x.ds := by
  obtain ⟨cs, rfl, hsz⟩ := okWide_struct Try.underlying24 hv
  obtain ⟨fuel, hf⟩ := h
  rw [cellsRpl] at hsz
  obtain ⟨l⟩ := cs
  match l, hsz with
  | [c0, c1, c2], _ =>
    obtain ⟨y0, y1, y2, n, _, _, t0, t1, t2⟩ := trod_struct3 Try.underlying24 (show DataW.trod enc Try.prog w base spare held fuel 24 [c0, c1, c2] = some _ by simpa [Value.cells] using hf)
    obtain ⟨cd, e0, _⟩ := DataW.trod_int Try.underlying3 t0
    obtain ⟨p, ln, cp, ds, e1, hln, h1, h2, h3⟩ := open_vals t1
    obtain ⟨nn, e2, _⟩ := DataW.trod_int Try.underlying3 t2
    simp [cellsRpI, cellsRpV] at e0 e1 e2
    subst e0 e1 e2 hln
    exact ⟨⟨cd, ds, nn⟩, p, cp, rfl, ⟨h1, h2⟩, h3⟩

end Go.Proofs.Ytpfbepbmiillbaa.Rp
