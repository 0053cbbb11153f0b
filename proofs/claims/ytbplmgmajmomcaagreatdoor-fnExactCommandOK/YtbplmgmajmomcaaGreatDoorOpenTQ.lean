/- A term that comes in, opened: its five cells. -/
import Derived.Test.YtbplmgmajmomcaaGreatDoorTermL
import Derived.Deep.Slices
import Derived.Deep.Strs
import Derived.Lib.SmallJoins
import Derived.OpenShut
import Derived.Test.YtbplmgmajmomcaaGreatDoorRowTQ
import Derived.ChangeSame
import Derived.Test.YtbplmgmajmomcaaGreatDoorChgB
import Derived.Test.YtbplmgmajmomcaaGreatDoorDefEQ
import Derived.Test.YtbplmgmajmomcaaGreatDoorQryLQ
import Derived.Test.YtbplmgmajmomcaaGreatDoorQryIQ
import Derived.Deep.RegionHeld3
import Derived.Test.YtbplmgmajmomcaaGreatDoorUpdLQ
namespace Go.Proofs.YtbplmgmajmomcaaGreatDoor
open Go.RowKit Go.Joins Go.Deep Go.ChangeShapes Go.WideShapes Go.ChangeAt
set_option linter.unusedVariables false

theorem cellsTm : Tryz.prog.cellsOf 332 = 5 := by kernel_rfl
theorem cellsTmV : Tryz.prog.cellsOf 38 = 3 := by kernel_rfl
theorem cellsTmI : Tryz.prog.cellsOf 3 = 1 := by kernel_rfl
theorem cellsTmT : Tryz.prog.cellsOf 9 = 1 := by kernel_rfl
theorem arrayFive {α : Type} {cs : Array α} (h : cs.size = 5) : ∃ c0 c1 c2 c3 c4, cs = #[c0, c1, c2, c3, c4] := by
  obtain ⟨l⟩ := cs
  match l, h with
  | [c0, c1, c2, c3, c4], _ => exact ⟨c0, c1, c2, c3, c4, rfl⟩
set_option maxRecDepth 100000 in
theorem open_term_cells {H : Type} {enc : TypeId × Value → H} {w : World} {base : Nat} {spare : Nat → Bool} {held : Bool} {fuel : Nat} {c0 c1 c2 c3 c4 : Value} {x : DataW H × List MemPlace}
    (h : DataW.trod enc Tryz.prog w base spare held fuel 332 [c0, c1, c2, c3, c4] = some x) :
    ∃ (op : Int) (p : ByteArray) (k n : Int) (t : ByteArray), c0 = .int .i64 op ∧ c1 = .string p ∧ c2 = .int .i64 k ∧ c3 = .int .i64 n ∧ c4 = .string t ∧ p.size ≤ maxLen ∧ t.size ≤ maxLen := by
  obtain ⟨y0, y1, y2, m, _, _, t0, t1, t2⟩ := trod_struct3 Tryz.underlying332 h
  obtain ⟨z0, e0, _, _⟩ := DataW.trod_int Tryz.underlying3 t0
  obtain ⟨z1, e1, _, hp⟩ := DataW.trod_string Tryz.underlying9 t1
  obtain ⟨u0, u1, u2, m2, _, _, s0, s1, s2⟩ := trod_struct3 Tryz.underlying38 t2
  obtain ⟨z2, e2, _, _⟩ := DataW.trod_int Tryz.underlying3 s0
  obtain ⟨z3, e3, _, _⟩ := DataW.trod_int Tryz.underlying3 s1
  obtain ⟨z4, e4, _, ht⟩ := DataW.trod_string Tryz.underlying9 s2
  simp [cellsTmI, cellsTmT, cellsTmV] at e0 e1 e2 e3 e4
  exact ⟨z0, z1, z2, z3, z4, e0, e1, e2, e3, e4, hp, ht⟩
set_option maxRecDepth 100000 in
theorem open_term {H : Type} {enc : TypeId × Value → H} {w : World} {base b0 : Nat} {spare : Nat → Bool} {held : Bool} {r : Reach} {v : Value} {d : DataW H} {ps : List MemPlace}
    (hv : Value.okWide Tryz.prog w r b0 332 v) (h : DataW.Trod enc Tryz.prog w base spare held 332 v d ps) :
    ∃ (op : Int) (p : ByteArray) (k n : Int) (t : ByteArray), v = .agg #[.int .i64 op, .string p, .int .i64 k, .int .i64 n, .string t] ∧ p.size ≤ maxLen ∧ t.size ≤ maxLen := by
  obtain ⟨cs, rfl, hsz⟩ := okWide_struct Tryz.underlying332 hv
  obtain ⟨c0, c1, c2, c3, c4, rfl⟩ := arrayFive (hsz.trans cellsTm)
  obtain ⟨fuel, hf⟩ := h
  obtain ⟨op, p, k, n, t, rfl, rfl, rfl, rfl, rfl, hp, ht⟩ := open_term_cells (c0 := c0) (c1 := c1) (c2 := c2) (c3 := c3) (c4 := c4) (by simpa [Value.cells] using hf)
  exact ⟨op, p, k, n, t, rfl, hp, ht⟩

end Go.Proofs.YtbplmgmajmomcaaGreatDoor

/- A filter that comes in, opened: its clauses, each with its terms, at their places. -/
namespace Go.Proofs.YtbplmgmajmomcaaGreatDoor
open Go.RowKit Go.Joins Go.Deep Go.ChangeShapes Go.WideShapes Go.ChangeAt
set_option linter.unusedVariables false

instance : Inhabited Trm := ⟨zt⟩
theorem cellsFT : Tryz.prog.cellsOf 332 = 5 := by kernel_rfl
theorem cellsFC : Tryz.prog.cellsOf 288 = 1 := by kernel_rfl
theorem cellsFF : Tryz.prog.cellsOf 41 = 1 := by kernel_rfl
theorem cellsFS : Tryz.prog.cellsOf 286 = 1 := by kernel_rfl
theorem cellsFQ : Tryz.prog.cellsOf 39 = 1 := by kernel_rfl
theorem addF (b off i : Nat) : (⟨b, off, none⟩ : Addr).add i = ⟨b, off + i, none⟩ := by unfold Addr.add; split <;> simp_all
set_option maxRecDepth 100000 in
theorem open_terms {H : Type} {enc : TypeId × Value → H} {w : World} {base : Nat} {spare : Nat → Bool} {held : Bool} {fuel : Nat} {cs : List Value} {x : DataW H × List MemPlace}
    (h : DataW.trod enc Tryz.prog w base spare held fuel 286 cs = some x) :
    ∃ (a : Option Addr) (len cap : Nat) (l : List Trm), cs = [.slice a len cap] ∧ l.length = len ∧ maxC l ∧ InT w a l := by
  rcases open_slice Tryz.underlying286 h with ⟨rfl, _⟩ | ⟨a, len, cap, m, n, D, Pl, rfl, hb, hl, hm, hmm, _, hx⟩
  · exact ⟨none, 0, 0, [], rfl, rfl, ⟨Nat.zero_le _, (fun v hv => by simp at hv)⟩, .inl rfl⟩
  · have hlm : len ≤ m := by rw [hmm]; split <;> omega
    rw [cellsFT] at hx
    obtain ⟨f, hf⟩ := choose_lt (α := Trm) (n := len) (p := fun i t => w.cell? (a.add (i * 5)) = some (.int .i64 t.op) ∧ w.cell? ((a.add (i * 5)).add 1) = some (.string t.p) ∧ w.cell? ((a.add (i * 5)).add 2) = some (.int .i64 t.c.k) ∧ w.cell? ((a.add (i * 5)).add 3) = some (.int .i64 t.c.n) ∧ w.cell? ((a.add (i * 5)).add 4) = some (.string t.c.t) ∧ maxT t) (fun i hi => by
      obtain ⟨cs', h1, h2⟩ := hx i (by omega)
      obtain ⟨_, hlen, hc⟩ := World.cells?_some h1
      match cs', hlen with
      | [c0, c1, c2, c3, c4], _ =>
        obtain ⟨op, p, k, n, t, rfl, rfl, rfl, rfl, rfl, hp, ht⟩ := open_term_cells h2
        refine ⟨⟨op, p, ⟨k, n, t⟩⟩, ?_, ?_, ?_, ?_, ?_, hp, ht⟩
        · have := hc 0 (by omega); simpa [Addr.add] using this
        · exact hc 1 (by omega)
        · exact hc 2 (by omega)
        · exact hc 3 (by omega)
        · exact hc 4 (by omega))
    refine ⟨some a, len, cap, (List.range len).map f, rfl, by simp, ⟨by simp; omega, ?_⟩, ?_⟩
    · intro v hv
      obtain ⟨i, hi, rfl⟩ := List.mem_map.mp hv
      exact (hf i (by simpa using hi)).2.2.2.2.2
    · by_cases h0 : len = 0
      · exact .inl (by simp [h0])
      · obtain ⟨b, off, spot⟩ := a
        have hc0 := (hf 0 (by omega)).1
        have hspot : spot = none := by simpa [Addr.add] using World.cell?_spot hc0
        subst hspot
        have hlt : b < w.heap.size := by
          rcases Nat.lt_or_ge b w.heap.size with h | h
          · exact h
          · simp [World.cell?, Addr.add, Array.getElem?_eq_none h] at hc0
        refine .inr ⟨b, off, rfl, hlt, fun i hi => ?_⟩
        have hi2 : i < len := by simpa using hi
        have := hf i hi2
        simp only [addF] at this
        simp only [List.getElem_map, List.getElem_range]
        exact ⟨this.1, this.2.1, this.2.2.1, this.2.2.2.1, this.2.2.2.2.1⟩
set_option maxRecDepth 100000 in
theorem open_clauses {H : Type} {enc : TypeId × Value → H} {w : World} {base : Nat} {spare : Nat → Bool} {held : Bool} {fuel : Nat} {cs : List Value} {x : DataW H × List MemPlace}
    (h : DataW.trod enc Tryz.prog w base spare held fuel 39 cs = some x) :
    ∃ (a : Option Addr) (len cap : Nat) (f : List (List Trm)), cs = [.slice a len cap] ∧ f.length = len ∧ f.length ≤ maxLen ∧ (∀ l ∈ f, maxC l) ∧ InCl w a f := by
  rcases open_slice Tryz.underlying39 h with ⟨rfl, _⟩ | ⟨a, len, cap, m, n, D, Pl, rfl, hb, hl, hm, hmm, _, hx⟩
  · exact ⟨none, 0, 0, [], rfl, rfl, Nat.zero_le _, (fun v hv => by simp at hv), .inl rfl⟩
  · have hlm : len ≤ m := by rw [hmm]; split <;> omega
    rw [cellsFC] at hx
    obtain ⟨f, hf⟩ := choose_lt (α := List Trm) (n := len) (p := fun i l => ∃ p c, w.cell? (a.add (i * 1)) = some (.slice p l.length c) ∧ maxC l ∧ InT w p l) (fun i hi => by
      obtain ⟨cs', h1, h2⟩ := hx i (by omega)
      obtain ⟨_, hlen, hc⟩ := World.cells?_some h1
      match cs', hlen with
      | [c0], _ =>
        obtain ⟨y0, n', _, _, t0⟩ := trod_struct1 Tryz.underlying288 h2
        obtain ⟨p, ln, c, l, e, hln, hmx, hT⟩ := open_terms t0
        simp [cellsFS] at e
        subst e hln
        refine ⟨l, p, c, ?_, hmx, hT⟩
        have := hc 0 (by omega); simpa [Addr.add] using this)
    refine ⟨some a, len, cap, (List.range len).map f, rfl, by simp, by simp; omega, ?_, ?_⟩
    · intro v hv
      obtain ⟨i, hi, rfl⟩ := List.mem_map.mp hv
      obtain ⟨p, c, _, h2, _⟩ := hf i (by simpa using hi)
      exact h2
    · by_cases h0 : len = 0
      · exact .inl (by simp [h0])
      · obtain ⟨b, off, spot⟩ := a
        obtain ⟨p0, c0, hc0, _, _⟩ := hf 0 (by omega)
        have hspot : spot = none := by simpa [Addr.add] using World.cell?_spot hc0
        subst hspot
        have hlt : b < w.heap.size := by
          rcases Nat.lt_or_ge b w.heap.size with h | h
          · exact h
          · simp [World.cell?, Addr.add, Array.getElem?_eq_none h] at hc0
        refine .inr ⟨b, off, rfl, hlt, fun i hi => ?_⟩
        have hi2 : i < len := by simpa using hi
        obtain ⟨p, c, h1, h2, h3⟩ := hf i hi2
        simp only [addF, Nat.mul_one] at h1
        simp only [List.getElem_map, List.getElem_range]
        exact ⟨p, c, h1, h3⟩
set_option maxRecDepth 100000 in
theorem open_filter {H : Type} {enc : TypeId × Value → H} {w : World} {base b0 : Nat} {spare : Nat → Bool} {held : Bool} {r : Reach} {v : Value} {d : DataW H} {ps : List MemPlace}
    (hv : Value.okWide Tryz.prog w r b0 41 v) (h : DataW.Trod enc Tryz.prog w base spare held 41 v d ps) :
    ∃ (a : Option Addr) (cap : Nat) (f : List (List Trm)), v = .agg #[.slice a f.length cap] ∧ f.length ≤ maxLen ∧ (∀ l ∈ f, maxC l) ∧ InCl w a f := by
  obtain ⟨cs, rfl, hsz⟩ := okWide_struct Tryz.underlying41 hv
  obtain ⟨fuel, hf⟩ := h
  rw [cellsFF] at hsz
  obtain ⟨l⟩ := cs
  match l, hsz with
  | [c0], _ =>
    obtain ⟨y0, n', _, _, t0⟩ := trod_struct1 Tryz.underlying41 (show DataW.trod enc Tryz.prog w base spare held fuel 41 [c0] = some _ by simpa [Value.cells] using hf)
    obtain ⟨p, ln, c, f, e, hln, h1, h2, h3⟩ := open_clauses t0
    simp [cellsFQ] at e
    subst e hln
    exact ⟨p, c, f, rfl, h1, h2, h3⟩

end Go.Proofs.YtbplmgmajmomcaaGreatDoor

/- A definition that comes in, opened. -/
namespace Go.Proofs.YtbplmgmajmomcaaGreatDoor.Tr
open Go.RowKit Go.Joins Go.Deep Go.ChangeShapes Go.WideShapes Go.ChangeAt
set_option linter.unusedVariables false

instance : Inhabited Prt := ⟨zpt⟩
theorem cellsODp : Tryz.prog.cellsOf 234 = 2 := by kernel_rfl
theorem cellsODd : Tryz.prog.cellsOf 48 = 2 := by kernel_rfl
theorem cellsOB : Tryz.prog.cellsOf 4 = 1 := by kernel_rfl
theorem cellsOS : Tryz.prog.cellsOf 9 = 1 := by kernel_rfl
theorem cellsODq : Tryz.prog.cellsOf 42 = 1 := by kernel_rfl
set_option maxRecDepth 100000 in
theorem open_part_cells {H : Type} {enc : TypeId × Value → H} {w : World} {base : Nat} {spare : Nat → Bool} {held : Bool} {fuel : Nat} {c0 c1 : Value} {x : DataW H × List MemPlace}
    (h : DataW.trod enc Tryz.prog w base spare held fuel 234 [c0, c1] = some x) :
    ∃ (k : ByteArray) (i : Bool), c0 = .string k ∧ c1 = .bool i ∧ k.size ≤ maxLen := by
  obtain ⟨y0, y1, m, _, _, t0, t1⟩ := trod_struct2 Tryz.underlying234 h
  obtain ⟨z0, e0, _, hk⟩ := DataW.trod_string Tryz.underlying9 t0
  obtain ⟨z1, e1, _⟩ := DataW.trod_bool Tryz.underlying4 t1
  simp [cellsOB, cellsOS] at e0 e1
  exact ⟨z0, z1, e0, e1, hk⟩
set_option maxRecDepth 100000 in
theorem open_parts {H : Type} {enc : TypeId × Value → H} {w : World} {base : Nat} {spare : Nat → Bool} {held : Bool} {fuel : Nat} {cs : List Value} {x : DataW H × List MemPlace}
    (h : DataW.trod enc Tryz.prog w base spare held fuel 42 cs = some x) :
    ∃ (a : Option Addr) (len cap : Nat) (l : List Prt), cs = [.slice a len cap] ∧ l.length = len ∧ (l.length ≤ maxLen ∧ ∀ v ∈ l, maxPt v) ∧ InD w a l := by
  rcases open_slice Tryz.underlying42 h with ⟨rfl, _⟩ | ⟨a, len, cap, m, n, D, Pl, rfl, hb, hl, hm, hmm, _, hx⟩
  · exact ⟨none, 0, 0, [], rfl, rfl, ⟨Nat.zero_le _, (fun v hv => by simp at hv)⟩, .inl rfl⟩
  · have hlm : len ≤ m := by rw [hmm]; split <;> omega
    rw [cellsODp] at hx
    obtain ⟨f, hf⟩ := choose_lt (α := Prt) (n := len) (p := fun i t => w.cell? (a.add (i * 2)) = some (.string t.path) ∧ w.cell? ((a.add (i * 2)).add 1) = some (.bool t.desc) ∧ maxPt t) (fun i hi => by
      obtain ⟨cs', h1, h2⟩ := hx i (by omega)
      obtain ⟨_, hlen, hc⟩ := World.cells?_some h1
      match cs', hlen with
      | [c0, c1], _ =>
        obtain ⟨k, id, rfl, rfl, hk⟩ := open_part_cells h2
        refine ⟨⟨k, id⟩, ?_, ?_, hk⟩
        · have := hc 0 (by omega); simpa [Addr.add] using this
        · exact hc 1 (by omega))
    refine ⟨some a, len, cap, (List.range len).map f, rfl, by simp, ⟨by simp; omega, ?_⟩, ?_⟩
    · intro v hv
      obtain ⟨i, hi, rfl⟩ := List.mem_map.mp hv
      exact (hf i (by simpa using hi)).2.2
    · by_cases h0 : len = 0
      · exact .inl (by simp [h0])
      · obtain ⟨b, off, spot⟩ := a
        have hc0 := (hf 0 (by omega)).1
        have hspot : spot = none := by simpa [Addr.add] using World.cell?_spot hc0
        subst hspot
        have hlt : b < w.heap.size := by
          rcases Nat.lt_or_ge b w.heap.size with h | h
          · exact h
          · simp [World.cell?, Addr.add, Array.getElem?_eq_none h] at hc0
        refine .inr ⟨b, off, rfl, hlt, fun i hi => ?_⟩
        have hi2 : i < len := by simpa using hi
        have := hf i hi2
        simp only [addO] at this
        simp only [List.getElem_map, List.getElem_range]
        exact ⟨this.1, this.2.1⟩
set_option maxRecDepth 100000 in
theorem open_def {H : Type} {enc : TypeId × Value → H} {w : World} {base b0 : Nat} {spare : Nat → Bool} {held : Bool} {r : Reach} {v : Value} {d : DataW H} {ps : List MemPlace}
    (hv : Value.okWide Tryz.prog w r b0 48 v) (h : DataW.Trod enc Tryz.prog w base spare held 48 v d ps) :
    ∃ (n : ByteArray) (a : Option Addr) (cap : Nat) (l : List Prt), v = .agg #[.string n, .slice a l.length cap] ∧ n.size ≤ maxLen ∧ l.length ≤ maxLen ∧ (∀ v ∈ l, maxPt v) ∧ InD w a l := by
  obtain ⟨cs, rfl, hsz⟩ := okWide_struct Tryz.underlying48 hv
  obtain ⟨fuel, hf⟩ := h
  rw [cellsODd] at hsz
  obtain ⟨l⟩ := cs
  match l, hsz with
  | [c0, c1], _ =>
    obtain ⟨y0, y1, n', _, _, t0, t1⟩ := trod_struct2 Tryz.underlying48 (show DataW.trod enc Tryz.prog w base spare held fuel 48 [c0, c1] = some _ by simpa [Value.cells] using hf)
    obtain ⟨z0, e0, _, hk⟩ := DataW.trod_string Tryz.underlying9 t0
    obtain ⟨p, ln, c, f, e, hln, h1, h3⟩ := open_parts t1
    simp [cellsODq, cellsOS] at e e0
    subst e e0 hln
    exact ⟨z0, p, c, f, rfl, hk, h1.1, h1.2, h3⟩

end Go.Proofs.YtbplmgmajmomcaaGreatDoor.Tr

/- A query that comes in, opened. -/
namespace Go.Proofs.YtbplmgmajmomcaaGreatDoor.Qr
open Go.RowKit Go.ChangeShapes Go.WideShapes Go.ChangeAt Go.Joins
open Tr
set_option linter.unusedVariables false

theorem trod_struct6 {H : Type} {enc : TypeId × Value → H} {P : Program} {w : World} {base : Nat} {spare : Nat → Bool} {held : Bool} {t : TypeId} {f0 f1 f2 f3 f4 f5 : Field} {fuel : Nat} {cs : List Value} {x : DataW H × List MemPlace} (ht : P.underlying t = some (.struct #[f0, f1, f2, f3, f4, f5])) (h : DataW.trod enc P w base spare held fuel t cs = some x) :
    ∃ y0 y1 y2 y3 y4 y5 n, DataW.trod enc P w base spare held n f0.type ((cs.drop f0.offset).take (P.cellsOf f0.type)) = some y0 ∧
      DataW.trod enc P w base spare held n f1.type ((cs.drop f1.offset).take (P.cellsOf f1.type)) = some y1 ∧ DataW.trod enc P w base spare held n f2.type ((cs.drop f2.offset).take (P.cellsOf f2.type)) = some y2 ∧
      DataW.trod enc P w base spare held n f3.type ((cs.drop f3.offset).take (P.cellsOf f3.type)) = some y3 ∧ DataW.trod enc P w base spare held n f4.type ((cs.drop f4.offset).take (P.cellsOf f4.type)) = some y4 ∧
      DataW.trod enc P w base spare held n f5.type ((cs.drop f5.offset).take (P.cellsOf f5.type)) = some y5 := by
  obtain ⟨xs, n, _, rfl, hl, hlen, hf⟩ := DataW.trod_struct ht h
  match xs, hlen with
  | [y0, y1, y2, y3, y4, y5], _ => exact ⟨y0, y1, y2, y3, y4, y5, n, by simpa using hf 0 f0 rfl, by simpa using hf 1 f1 rfl, by simpa using hf 2 f2 rfl, by simpa using hf 3 f3 rfl, by simpa using hf 4 f4 rfl, by simpa using hf 5 f5 rfl⟩
theorem cellsQ : Tryz.prog.cellsOf 45 = 6 := by kernel_rfl
theorem cellsQF : Tryz.prog.cellsOf 41 = 1 := by kernel_rfl
theorem cellsQP : Tryz.prog.cellsOf 42 = 1 := by kernel_rfl
theorem cellsQI : Tryz.prog.cellsOf 3 = 1 := by kernel_rfl
theorem cellsQS : Tryz.prog.cellsOf 43 = 1 := by kernel_rfl
theorem cellsQT : Tryz.prog.cellsOf 9 = 1 := by kernel_rfl
theorem cellsQC : Tryz.prog.cellsOf 39 = 1 := by kernel_rfl
set_option maxRecDepth 100000 in
theorem open_query {H : Type} {enc : TypeId × Value → H} {w : World} {base b0 : Nat} {spare : Nat → Bool} {held : Bool} {r : Reach} {v : Value} {d : DataW H} {ps : List MemPlace}
    (hv : Value.okWide Tryz.prog w r b0 45 v) (h : DataW.Trod enc Tryz.prog w base spare held 45 v d ps) :
    ∃ (af as_ ak : Option Addr) (cf cs ck : Nat) (q : Qry), v = .agg #[.slice af q.f.length cf, .slice as_ q.so.length cs, .int .i64 q.skip, .int .i64 q.lim, .slice ak q.keep.length ck, .string q.hint] ∧ MaxQ q ∧ InQ w af as_ ak q := by
  obtain ⟨cs, rfl, hsz⟩ := okWide_struct Tryz.underlying45 hv
  obtain ⟨fuel, hf⟩ := h
  rw [cellsQ] at hsz
  obtain ⟨l⟩ := cs
  match l, hsz with
  | [c0, c1, c2, c3, c4, c5], _ =>
    obtain ⟨y0, y1, y2, y3, y4, y5, n, t0, t1, t2, t3, t4, t5⟩ := trod_struct6 Tryz.underlying45 (show DataW.trod enc Tryz.prog w base spare held fuel 45 [c0, c1, c2, c3, c4, c5] = some _ by simpa [Value.cells] using hf)
    obtain ⟨z0, n', _, _, u0⟩ := trod_struct1 Tryz.underlying41 t0
    obtain ⟨pf, ln, cf, f, e0, hln, hf1, hf2, hf3⟩ := open_clauses u0
    obtain ⟨pq, lq, cq, so, e1, hlq, hs1, hs3⟩ := open_parts t1
    obtain ⟨sk, e2, _⟩ := DataW.trod_int Tryz.underlying3 t2
    obtain ⟨li, e3, _⟩ := DataW.trod_int Tryz.underlying3 t3
    obtain ⟨hi, e5, _, hh⟩ := DataW.trod_string Tryz.underlying9 t5
    simp [cellsQF, cellsQP, cellsQI, cellsQS, cellsQT, cellsQC] at e0 e1 e2 e3 e5 t4
    obtain ⟨pk, lk, ck, z, e4, hz, hk0, hk1, hk2⟩ : ∃ (pk : Option Addr) (lk ck : Nat) (z : List ByteArray), c4 = .slice pk lk ck ∧ z.length = lk ∧ z.length ≤ maxLen ∧ (∀ s ∈ z, s.size ≤ maxLen) ∧ InS w pk z := by
      rcases Deep.open_strs Tryz.underlying43 Tryz.underlying9 (by kernel_rfl) t4 with ⟨hcs, _⟩ | ⟨x, l, c, m, Sx, hcs, _, hl, hm, hmm, _, hcell⟩
      · simp at hcs
        exact ⟨none, 0, 0, [], hcs, rfl, by simp, by simp, .inl rfl⟩
      · simp at hcs
        obtain ⟨z, h1, h2, h3, h4⟩ := ins_of hl hm hmm hcell
        exact ⟨_, _, _, z, hcs, h1, h2, h3, h4⟩
    subst e0 e1 e2 e3 e4 e5 hln hlq hz
    exact ⟨pf, pq, pk, cf, cq, ck, ⟨f, so, sk, li, z, hi⟩, rfl, ⟨hf1, hf2, hs1.1, hs1.2, hk0, hk1, hh⟩, ⟨hf3, hs3, hk2⟩⟩
theorem keepQ6 {w W w0 : World} {a0 a1 a2 a3 a4 a5 : Value} {bx : Nat} {b0 b1 b2 b3 b4 b5 : Value} (X : Bx6 w W a0 a1 a2 a3 a4 a5) (m : bx < W.heap.size) (x0 : W.cell? ⟨bx, 0, none⟩ = some b0) (x1 : W.cell? ⟨bx, 1, none⟩ = some b1) (x2 : W.cell? ⟨bx, 2, none⟩ = some b2) (x3 : W.cell? ⟨bx, 3, none⟩ = some b3) (x4 : W.cell? ⟨bx, 4, none⟩ = some b4) (x5 : W.cell? ⟨bx, 5, none⟩ = some b5) (hb : Below W.heap.size W w0) :
    w0.cell? ⟨w.heap.size, 0, none⟩ = some a0 ∧ w0.cell? ⟨w.heap.size, 1, none⟩ = some a1 ∧ w0.cell? ⟨w.heap.size, 2, none⟩ = some a2 ∧ w0.cell? ⟨w.heap.size, 3, none⟩ = some a3 ∧ w0.cell? ⟨w.heap.size, 4, none⟩ = some a4 ∧ w0.cell? ⟨w.heap.size, 5, none⟩ = some a5 ∧ w0.cell? ⟨bx, 0, none⟩ = some b0 ∧ w0.cell? ⟨bx, 1, none⟩ = some b1 ∧ w0.cell? ⟨bx, 2, none⟩ = some b2 ∧ w0.cell? ⟨bx, 3, none⟩ = some b3 ∧ w0.cell? ⟨bx, 4, none⟩ = some b4 ∧ w0.cell? ⟨bx, 5, none⟩ = some b5 :=
  have Y := X.step hb
  ⟨Y.c0, Y.c1, Y.c2, Y.c3, Y.c4, Y.c5, (hb.cell m).trans x0, (hb.cell m).trans x1, (hb.cell m).trans x2, (hb.cell m).trans x3, (hb.cell m).trans x4, (hb.cell m).trans x5⟩
theorem RdQ.inD {w : World} {pf : Option Addr} {gs gk : Nat} {q : Qry} (h : RdQ w pf (some ⟨gs, 0, none⟩) gk q) : InD w (some ⟨gs, 0, none⟩) q.so := by
  rcases h.s with h0 | ⟨g, e, hr⟩
  · exact .inl (by rw [h0]; rfl)
  · cases e; exact hr.inD
end Go.Proofs.YtbplmgmajmomcaaGreatDoor.Qr

/- An operation that comes in, opened: its five cells. -/
namespace Go.Proofs.YtbplmgmajmomcaaGreatDoor
open Go.RowKit Go.Joins Go.Deep Go.ChangeShapes Go.WideShapes Go.ChangeAt
set_option linter.unusedVariables false

theorem cellsU : Tryz.prog.cellsOf 179 = 5 := by kernel_rfl
theorem cellsUV : Tryz.prog.cellsOf 38 = 3 := by kernel_rfl
theorem cellsUI : Tryz.prog.cellsOf 3 = 1 := by kernel_rfl
theorem cellsUT : Tryz.prog.cellsOf 9 = 1 := by kernel_rfl
theorem array5 {α : Type} {cs : Array α} (h : cs.size = 5) : ∃ c0 c1 c2 c3 c4, cs = #[c0, c1, c2, c3, c4] := by
  obtain ⟨l⟩ := cs
  match l, h with
  | [c0, c1, c2, c3, c4], _ => exact ⟨c0, c1, c2, c3, c4, rfl⟩
set_option maxRecDepth 100000 in
theorem open_upd_cells {H : Type} {enc : TypeId × Value → H} {w : World} {base : Nat} {spare : Nat → Bool} {held : Bool} {fuel : Nat} {c0 c1 c2 c3 c4 : Value} {x : DataW H × List MemPlace}
    (h : DataW.trod enc Tryz.prog w base spare held fuel 179 [c0, c1, c2, c3, c4] = some x) :
    ∃ (op : Int) (p : ByteArray) (k n : Int) (t : ByteArray), c0 = .int .i64 op ∧ c1 = .string p ∧ c2 = .int .i64 k ∧ c3 = .int .i64 n ∧ c4 = .string t ∧ p.size ≤ maxLen ∧ t.size ≤ maxLen := by
  obtain ⟨y0, y1, y2, m, _, _, t0, t1, t2⟩ := trod_struct3 Tryz.underlying179 h
  obtain ⟨z0, e0, _, _⟩ := DataW.trod_int Tryz.underlying3 t0
  obtain ⟨z1, e1, _, hp⟩ := DataW.trod_string Tryz.underlying9 t1
  obtain ⟨u0, u1, u2, m2, _, _, s0, s1, s2⟩ := trod_struct3 Tryz.underlying38 t2
  obtain ⟨z2, e2, _, _⟩ := DataW.trod_int Tryz.underlying3 s0
  obtain ⟨z3, e3, _, _⟩ := DataW.trod_int Tryz.underlying3 s1
  obtain ⟨z4, e4, _, ht⟩ := DataW.trod_string Tryz.underlying9 s2
  simp [cellsUI, cellsUT, cellsUV] at e0 e1 e2 e3 e4
  exact ⟨z0, z1, z2, z3, z4, e0, e1, e2, e3, e4, hp, ht⟩
set_option maxRecDepth 100000 in
theorem open_upd {H : Type} {enc : TypeId × Value → H} {w : World} {base b0 : Nat} {spare : Nat → Bool} {held : Bool} {r : Reach} {v : Value} {d : DataW H} {ps : List MemPlace}
    (hv : Value.okWide Tryz.prog w r b0 179 v) (h : DataW.Trod enc Tryz.prog w base spare held 179 v d ps) :
    ∃ (op : Int) (p : ByteArray) (k n : Int) (t : ByteArray), v = .agg #[.int .i64 op, .string p, .int .i64 k, .int .i64 n, .string t] ∧ p.size ≤ maxLen ∧ t.size ≤ maxLen := by
  obtain ⟨cs, rfl, hsz⟩ := okWide_struct Tryz.underlying179 hv
  obtain ⟨c0, c1, c2, c3, c4, rfl⟩ := array5 (hsz.trans cellsU)
  obtain ⟨fuel, hf⟩ := h
  obtain ⟨op, p, k, n, t, rfl, rfl, rfl, rfl, rfl, hp, ht⟩ := open_upd_cells (c0 := c0) (c1 := c1) (c2 := c2) (c3 := c3) (c4 := c4) (by simpa [Value.cells] using hf)
  exact ⟨op, p, k, n, t, rfl, hp, ht⟩

end Go.Proofs.YtbplmgmajmomcaaGreatDoor
