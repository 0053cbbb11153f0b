/- A query that comes in, opened. -/
import Derived.Test.YtnmpfooegnmknaaDoorQryL
import Derived.Test.YtnmpfooegnmknaaDoorQryS
import Derived.Test.YtnmpfooegnmknaaDoorOpenF
import Derived.Test.YtnmpfooegnmknaaDoorDefO
import Derived.Deep.RegionHeld3
namespace Go.Proofs.YtnmpfooegnmknaaDoor.Qr
open Go.RowKit Go.ChangeShapes Go.WideShapes Go.ChangeAt Go.Joins
open Tr
set_option linter.unusedVariables false

theorem trod_struct6 {H : Type} {enc : TypeId × Value → H} {P : Program} {w : World} {base : Nat} {spare : Nat → Bool} {held : Bool} {t : TypeId} {f0 f1 f2 f3 f4 f5 : Field} {fuel : Nat} {cs : List Value} {x : DataW H × List MemPlace} (ht : P.underlying t = some (.struct #[f0, f1, f2, f3, f4, f5])) (h : DataW.trod enc P w base spare held fuel t cs = some x) :
    ∃ y0 y1 y2 y3 y4 y5 n, DataW.trod enc P w base spare held n f0.type ((cs.drop f0.offset).take (P.cellsOf f0.type)) = some y0 ∧
      DataW.trod enc P w base spare held n f1.type ((cs.drop f1.offset).take (P.cellsOf f1.type)) = some y1 ∧ DataW.trod enc P w base spare held n f2.type ((cs.drop f2.offset).take (P.cellsOf f2.type)) = some y2 ∧
      DataW.trod enc P w base spare held n f3.type ((cs.drop f3.offset).take (P.cellsOf f3.type)) = some y3 ∧ DataW.trod enc P w base spare held n f4.type ((cs.drop f4.offset).take (P.cellsOf f4.type)) = some y4 ∧
      DataW.trod enc P w base spare held n f5.type ((cs.drop f5.offset).take (P.cellsOf f5.type)) = some y5 := by
  obtain ⟨xs, n, _, rfl, hl, hlen, hf⟩ := DataW.trod_struct ht h
  match xs, hlen with
  | [y0, y1, y2, y3, y4, y5], _ => exact ⟨y0, y1, y2, y3, y4, y5, n, by simpa using hf 0 f0 rfl, by simpa using hf 1 f1 rfl, by simpa using hf 2 f2 rfl, by simpa using hf 3 f3 rfl, by simpa using hf 4 f4 rfl, by simpa using hf 5 f5 rfl⟩
theorem cellsQ : Tryd.prog.cellsOf 28 = 6 := by kernel_rfl
theorem cellsQF : Tryd.prog.cellsOf 24 = 1 := by kernel_rfl
theorem cellsQP : Tryd.prog.cellsOf 25 = 1 := by kernel_rfl
theorem cellsQI : Tryd.prog.cellsOf 3 = 1 := by kernel_rfl
theorem cellsQS : Tryd.prog.cellsOf 26 = 1 := by kernel_rfl
theorem cellsQT : Tryd.prog.cellsOf 9 = 1 := by kernel_rfl
theorem cellsQC : Tryd.prog.cellsOf 22 = 1 := by kernel_rfl
set_option maxRecDepth 100000 in
theorem open_query {H : Type} {enc : TypeId × Value → H} {w : World} {base b0 : Nat} {spare : Nat → Bool} {held : Bool} {r : Reach} {v : Value} {d : DataW H} {ps : List MemPlace}
    (hv : Value.okWide Tryd.prog w r b0 28 v) (h : DataW.Trod enc Tryd.prog w base spare held 28 v d ps) :
    ∃ (af as_ ak : Option Addr) (cf cs ck : Nat) (q : Qry), v = .agg #[.slice af q.f.length cf, .slice as_ q.so.length cs, .int .i64 q.skip, .int .i64 q.lim, .slice ak q.keep.length ck, .string q.hint] ∧ MaxQ q ∧ InQ w af as_ ak q := by
  obtain ⟨cs, rfl, hsz⟩ := okWide_struct Tryd.underlying28 hv
  obtain ⟨fuel, hf⟩ := h
  rw [cellsQ] at hsz
  obtain ⟨l⟩ := cs
  match l, hsz with
  | [c0, c1, c2, c3, c4, c5], _ =>
    obtain ⟨y0, y1, y2, y3, y4, y5, n, t0, t1, t2, t3, t4, t5⟩ := trod_struct6 Tryd.underlying28 (show DataW.trod enc Tryd.prog w base spare held fuel 28 [c0, c1, c2, c3, c4, c5] = some _ by simpa [Value.cells] using hf)
    obtain ⟨z0, n', _, _, u0⟩ := trod_struct1 Tryd.underlying24 t0
    obtain ⟨pf, ln, cf, f, e0, hln, hf1, hf2, hf3⟩ := open_clauses u0
    obtain ⟨pq, lq, cq, so, e1, hlq, hs1, hs3⟩ := open_parts t1
    obtain ⟨sk, e2, _⟩ := DataW.trod_int Tryd.underlying3 t2
    obtain ⟨li, e3, _⟩ := DataW.trod_int Tryd.underlying3 t3
    obtain ⟨hi, e5, _, hh⟩ := DataW.trod_string Tryd.underlying9 t5
    simp [cellsQF, cellsQP, cellsQI, cellsQS, cellsQT, cellsQC] at e0 e1 e2 e3 e5 t4
    obtain ⟨pk, lk, ck, z, e4, hz, hk0, hk1, hk2⟩ : ∃ (pk : Option Addr) (lk ck : Nat) (z : List ByteArray), c4 = .slice pk lk ck ∧ z.length = lk ∧ z.length ≤ maxLen ∧ (∀ s ∈ z, s.size ≤ maxLen) ∧ InS w pk z := by
      rcases Deep.open_strs Tryd.underlying26 Tryd.underlying9 (by kernel_rfl) t4 with ⟨hcs, _⟩ | ⟨x, l, c, m, Sx, hcs, _, hl, hm, hmm, _, hcell⟩
      · simp at hcs
        exact ⟨none, 0, 0, [], hcs, rfl, by simp, by simp, .inl rfl⟩
      · simp at hcs
        obtain ⟨z, h1, h2, h3, h4⟩ := ins_of hl hm hmm hcell
        exact ⟨_, _, _, z, hcs, h1, h2, h3, h4⟩
    subst e0 e1 e2 e3 e4 e5 hln hlq hz
    exact ⟨pf, pq, pk, cf, cq, ck, ⟨f, so, sk, li, z, hi⟩, rfl, ⟨hf1, hf2, hs1.1, hs1.2, hk0, hk1, hh⟩, ⟨hf3, hs3, hk2⟩⟩
theorem keepQ6 {w W w0 : World} {a0 a1 a2 a3 a4 a5 : Value} {bx : Nat} {b0 b1 b2 b3 b4 b5 : Value} (X : Bx6 w W a0 a1 a2 a3 a4 a5) (m : bx < W.heap.size) (x0 : W.cell? ⟨bx, 0, none⟩ = some b0) (x1 : W.cell? ⟨bx, 1, none⟩ = some b1) (x2 : W.cell? ⟨bx, 2, none⟩ = some b2) (x3 : W.cell? ⟨bx, 3, none⟩ = some b3) (x4 : W.cell? ⟨bx, 4, none⟩ = some b4) (x5 : W.cell? ⟨bx, 5, none⟩ = some b5) (hb : Below W.heap.size W w0) :
    w0.cell? ⟨w.heap.size, 0, none⟩ = some a0 ∧ w0.cell? ⟨w.heap.size, 1, none⟩ = some a1 ∧ w0.cell? ⟨w.heap.size, 2, none⟩ = some a2 ∧ w0.cell? ⟨w.heap.size, 3, none⟩ = some a3 ∧ w0.cell? ⟨w.heap.size, 4, none⟩ = some a4 ∧ w0.cell? ⟨w.heap.size, 5, none⟩ = some a5 ∧ w0.cell? ⟨bx, 0, none⟩ = some b0 ∧ w0.cell? ⟨bx, 1, none⟩ = some b1 ∧ w0.cell? ⟨bx, 2, none⟩ = some b2 ∧ w0.cell? ⟨bx, 3, none⟩ = some b3 ∧ w0.cell? ⟨bx, 4, none⟩ = some b4 ∧ w0.cell? ⟨bx, 5, none⟩ = some b5 :=
  have Y := X.step hb
  ⟨Y.c0, Y.c1, Y.c2, Y.c3, Y.c4, Y.c5, (hb.cell m).trans x0, (hb.cell m).trans x1, (hb.cell m).trans x2, (hb.cell m).trans x3, (hb.cell m).trans x4, (hb.cell m).trans x5⟩
theorem RdQ.inD {w : World} {pf : Option Addr} {gs gk : Nat} {q : Qry} (h : RdQ w pf (some ⟨gs, 0, none⟩) gk q) : InD w (some ⟨gs, 0, none⟩) q.so := by
  rcases h.s with h0 | ⟨g, e, hr⟩
  · exact .inl (by rw [h0]; rfl)
  · cases e; exact hr.inD
end Go.Proofs.YtnmpfooegnmknaaDoor.Qr
