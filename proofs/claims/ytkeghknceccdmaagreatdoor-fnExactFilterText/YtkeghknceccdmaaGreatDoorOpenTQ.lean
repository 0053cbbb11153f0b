/- A term that comes in, opened: its five cells. -/
import Derived.Test.YtkeghknceccdmaaGreatDoorSplitWQ
import Derived.Deep.Slices
import Derived.Deep.Strs
import Derived.Lib.SmallJoins
import Derived.OpenShut
import Derived.Test.YtkeghknceccdmaaGreatDoorRowTQ
import Derived.ChangeSame
namespace Go.Proofs.YtkeghknceccdmaaGreatDoor
open Go.RowKit Go.Joins Go.Deep Go.ChangeShapes Go.WideShapes Go.ChangeAt
set_option linter.unusedVariables false

theorem cellsTm : Tryz.prog.cellsOf 278 = 5 := by kernel_rfl
theorem cellsTmV : Tryz.prog.cellsOf 206 = 3 := by kernel_rfl
theorem cellsTmI : Tryz.prog.cellsOf 3 = 1 := by kernel_rfl
theorem cellsTmT : Tryz.prog.cellsOf 9 = 1 := by kernel_rfl
theorem arrayFive {α : Type} {cs : Array α} (h : cs.size = 5) : ∃ c0 c1 c2 c3 c4, cs = #[c0, c1, c2, c3, c4] := by
  obtain ⟨l⟩ := cs
  match l, h with
  | [c0, c1, c2, c3, c4], _ => exact ⟨c0, c1, c2, c3, c4, rfl⟩
set_option maxRecDepth 100000 in
theorem open_term_cells {H : Type} {enc : TypeId × Value → H} {w : World} {base : Nat} {spare : Nat → Bool} {held : Bool} {fuel : Nat} {c0 c1 c2 c3 c4 : Value} {x : DataW H × List MemPlace}
    (h : DataW.trod enc Tryz.prog w base spare held fuel 278 [c0, c1, c2, c3, c4] = some x) :
    ∃ (op : Int) (p : ByteArray) (k n : Int) (t : ByteArray), c0 = .int .i64 op ∧ c1 = .string p ∧ c2 = .int .i64 k ∧ c3 = .int .i64 n ∧ c4 = .string t ∧ p.size ≤ maxLen ∧ t.size ≤ maxLen := by
  obtain ⟨y0, y1, y2, m, _, _, t0, t1, t2⟩ := trod_struct3 Tryz.underlying278 h
  obtain ⟨z0, e0, _, _⟩ := DataW.trod_int Tryz.underlying3 t0
  obtain ⟨z1, e1, _, hp⟩ := DataW.trod_string Tryz.underlying9 t1
  obtain ⟨u0, u1, u2, m2, _, _, s0, s1, s2⟩ := trod_struct3 Tryz.underlying206 t2
  obtain ⟨z2, e2, _, _⟩ := DataW.trod_int Tryz.underlying3 s0
  obtain ⟨z3, e3, _, _⟩ := DataW.trod_int Tryz.underlying3 s1
  obtain ⟨z4, e4, _, ht⟩ := DataW.trod_string Tryz.underlying9 s2
  simp [cellsTmI, cellsTmT, cellsTmV] at e0 e1 e2 e3 e4
  exact ⟨z0, z1, z2, z3, z4, e0, e1, e2, e3, e4, hp, ht⟩
set_option maxRecDepth 100000 in
theorem open_term {H : Type} {enc : TypeId × Value → H} {w : World} {base b0 : Nat} {spare : Nat → Bool} {held : Bool} {r : Reach} {v : Value} {d : DataW H} {ps : List MemPlace}
    (hv : Value.okWide Tryz.prog w r b0 278 v) (h : DataW.Trod enc Tryz.prog w base spare held 278 v d ps) :
    ∃ (op : Int) (p : ByteArray) (k n : Int) (t : ByteArray), v = .agg #[.int .i64 op, .string p, .int .i64 k, .int .i64 n, .string t] ∧ p.size ≤ maxLen ∧ t.size ≤ maxLen := by
  obtain ⟨cs, rfl, hsz⟩ := okWide_struct Tryz.underlying278 hv
  obtain ⟨c0, c1, c2, c3, c4, rfl⟩ := arrayFive (hsz.trans cellsTm)
  obtain ⟨fuel, hf⟩ := h
  obtain ⟨op, p, k, n, t, rfl, rfl, rfl, rfl, rfl, hp, ht⟩ := open_term_cells (c0 := c0) (c1 := c1) (c2 := c2) (c3 := c3) (c4 := c4) (by simpa [Value.cells] using hf)
  exact ⟨op, p, k, n, t, rfl, hp, ht⟩

end Go.Proofs.YtkeghknceccdmaaGreatDoor

/- A filter that comes in, opened: its clauses, each with its terms, at their places. -/
namespace Go.Proofs.YtkeghknceccdmaaGreatDoor
open Go.RowKit Go.Joins Go.Deep Go.ChangeShapes Go.WideShapes Go.ChangeAt
set_option linter.unusedVariables false

instance : Inhabited Trm := ⟨zt⟩
theorem cellsFT : Tryz.prog.cellsOf 278 = 5 := by kernel_rfl
theorem cellsFC : Tryz.prog.cellsOf 181 = 1 := by kernel_rfl
theorem cellsFF : Tryz.prog.cellsOf 48 = 1 := by kernel_rfl
theorem cellsFS : Tryz.prog.cellsOf 179 = 1 := by kernel_rfl
theorem cellsFQ : Tryz.prog.cellsOf 46 = 1 := by kernel_rfl
theorem addF (b off i : Nat) : (⟨b, off, none⟩ : Addr).add i = ⟨b, off + i, none⟩ := by unfold Addr.add; split <;> simp_all
set_option maxRecDepth 100000 in
theorem open_terms {H : Type} {enc : TypeId × Value → H} {w : World} {base : Nat} {spare : Nat → Bool} {held : Bool} {fuel : Nat} {cs : List Value} {x : DataW H × List MemPlace}
    (h : DataW.trod enc Tryz.prog w base spare held fuel 179 cs = some x) :
    ∃ (a : Option Addr) (len cap : Nat) (l : List Trm), cs = [.slice a len cap] ∧ l.length = len ∧ maxC l ∧ InT w a l := by
  rcases open_slice Tryz.underlying179 h with ⟨rfl, _⟩ | ⟨a, len, cap, m, n, D, Pl, rfl, hb, hl, hm, hmm, _, hx⟩
  · exact ⟨none, 0, 0, [], rfl, rfl, ⟨Nat.zero_le _, (fun v hv => by simp at hv)⟩, .inl rfl⟩
  · have hlm : len ≤ m := by rw [hmm]; split <;> omega
    rw [cellsFT] at hx
    obtain ⟨f, hf⟩ := choose_lt (α := Trm) (n := len) (p := fun i t => w.cell? (a.add (i * 5)) = some (.int .i64 t.op) ∧ w.cell? ((a.add (i * 5)).add 1) = some (.string t.p) ∧ w.cell? ((a.add (i * 5)).add 2) = some (.int .i64 t.c.k) ∧ w.cell? ((a.add (i * 5)).add 3) = some (.int .i64 t.c.n) ∧ w.cell? ((a.add (i * 5)).add 4) = some (.string t.c.t) ∧ maxT t) (fun i hi => by
      obtain ⟨cs', h1, h2⟩ := hx i (by omega)
      obtain ⟨_, hlen, hc⟩ := World.cells?_some h1
      match cs', hlen with
      | [c0, c1, c2, c3, c4], _ =>
        obtain ⟨op, p, k, n, t, rfl, rfl, rfl, rfl, rfl, hp, ht⟩ := open_term_cells h2
        refine ⟨⟨op, p, ⟨k, n, t⟩⟩, ?_, ?_, ?_, ?_, ?_, hp, ht⟩
        · have := hc 0 (by omega); simpa [Addr.add] using this
        · exact hc 1 (by omega)
        · exact hc 2 (by omega)
        · exact hc 3 (by omega)
        · exact hc 4 (by omega))
    refine ⟨some a, len, cap, (List.range len).map f, rfl, by simp, ⟨by simp; omega, ?_⟩, ?_⟩
    · intro v hv
      obtain ⟨i, hi, rfl⟩ := List.mem_map.mp hv
      exact (hf i (by simpa using hi)).2.2.2.2.2
    · by_cases h0 : len = 0
      · exact .inl (by simp [h0])
      · obtain ⟨b, off, spot⟩ := a
        have hc0 := (hf 0 (by omega)).1
        have hspot : spot = none := by simpa [Addr.add] using World.cell?_spot hc0
        subst hspot
        have hlt : b < w.heap.size := by
          rcases Nat.lt_or_ge b w.heap.size with h | h
          · exact h
          · simp [World.cell?, Addr.add, Array.getElem?_eq_none h] at hc0
        refine .inr ⟨b, off, rfl, hlt, fun i hi => ?_⟩
        have hi2 : i < len := by simpa using hi
        have := hf i hi2
        simp only [addF] at this
        simp only [List.getElem_map, List.getElem_range]
        exact ⟨this.1, this.2.1, this.2.2.1, this.2.2.2.1, this.2.2.2.2.1⟩
set_option maxRecDepth 100000 in
theorem open_clauses {H : Type} {enc : TypeId × Value → H} {w : World} {base : Nat} {spare : Nat → Bool} {held : Bool} {fuel : Nat} {cs : List Value} {x : DataW H × List MemPlace}
    (h : DataW.trod enc Tryz.prog w base spare held fuel 46 cs = some x) :
    ∃ (a : Option Addr) (len cap : Nat) (f : List (List Trm)), cs = [.slice a len cap] ∧ f.length = len ∧ f.length ≤ maxLen ∧ (∀ l ∈ f, maxC l) ∧ InCl w a f := by
  rcases open_slice Tryz.underlying46 h with ⟨rfl, _⟩ | ⟨a, len, cap, m, n, D, Pl, rfl, hb, hl, hm, hmm, _, hx⟩
  · exact ⟨none, 0, 0, [], rfl, rfl, Nat.zero_le _, (fun v hv => by simp at hv), .inl rfl⟩
  · have hlm : len ≤ m := by rw [hmm]; split <;> omega
    rw [cellsFC] at hx
    obtain ⟨f, hf⟩ := choose_lt (α := List Trm) (n := len) (p := fun i l => ∃ p c, w.cell? (a.add (i * 1)) = some (.slice p l.length c) ∧ maxC l ∧ InT w p l) (fun i hi => by
      obtain ⟨cs', h1, h2⟩ := hx i (by omega)
      obtain ⟨_, hlen, hc⟩ := World.cells?_some h1
      match cs', hlen with
      | [c0], _ =>
        obtain ⟨y0, n', _, _, t0⟩ := trod_struct1 Tryz.underlying181 h2
        obtain ⟨p, ln, c, l, e, hln, hmx, hT⟩ := open_terms t0
        simp [cellsFS] at e
        subst e hln
        refine ⟨l, p, c, ?_, hmx, hT⟩
        have := hc 0 (by omega); simpa [Addr.add] using this)
    refine ⟨some a, len, cap, (List.range len).map f, rfl, by simp, by simp; omega, ?_, ?_⟩
    · intro v hv
      obtain ⟨i, hi, rfl⟩ := List.mem_map.mp hv
      obtain ⟨p, c, _, h2, _⟩ := hf i (by simpa using hi)
      exact h2
    · by_cases h0 : len = 0
      · exact .inl (by simp [h0])
      · obtain ⟨b, off, spot⟩ := a
        obtain ⟨p0, c0, hc0, _, _⟩ := hf 0 (by omega)
        have hspot : spot = none := by simpa [Addr.add] using World.cell?_spot hc0
        subst hspot
        have hlt : b < w.heap.size := by
          rcases Nat.lt_or_ge b w.heap.size with h | h
          · exact h
          · simp [World.cell?, Addr.add, Array.getElem?_eq_none h] at hc0
        refine .inr ⟨b, off, rfl, hlt, fun i hi => ?_⟩
        have hi2 : i < len := by simpa using hi
        obtain ⟨p, c, h1, h2, h3⟩ := hf i hi2
        simp only [addF, Nat.mul_one] at h1
        simp only [List.getElem_map, List.getElem_range]
        exact ⟨p, c, h1, h3⟩
set_option maxRecDepth 100000 in
theorem open_filter {H : Type} {enc : TypeId × Value → H} {w : World} {base b0 : Nat} {spare : Nat → Bool} {held : Bool} {r : Reach} {v : Value} {d : DataW H} {ps : List MemPlace}
    (hv : Value.okWide Tryz.prog w r b0 48 v) (h : DataW.Trod enc Tryz.prog w base spare held 48 v d ps) :
    ∃ (a : Option Addr) (cap : Nat) (f : List (List Trm)), v = .agg #[.slice a f.length cap] ∧ f.length ≤ maxLen ∧ (∀ l ∈ f, maxC l) ∧ InCl w a f := by
  obtain ⟨cs, rfl, hsz⟩ := okWide_struct Tryz.underlying48 hv
  obtain ⟨fuel, hf⟩ := h
  rw [cellsFF] at hsz
  obtain ⟨l⟩ := cs
  match l, hsz with
  | [c0], _ =>
    obtain ⟨y0, n', _, _, t0⟩ := trod_struct1 Tryz.underlying48 (show DataW.trod enc Tryz.prog w base spare held fuel 48 [c0] = some _ by simpa [Value.cells] using hf)
    obtain ⟨p, ln, c, f, e, hln, h1, h2, h3⟩ := open_clauses t0
    simp [cellsFQ] at e
    subst e hln
    exact ⟨p, c, f, rfl, h1, h2, h3⟩

end Go.Proofs.YtkeghknceccdmaaGreatDoor
