/- A definition that comes in, opened. -/
import Derived.Test.YtpfbepbmiillbaaGreatDoorChgBQ
import Derived.Test.YtpfbepbmiillbaaGreatDoorDefIR
import Derived.Deep.Slices
import Derived.Deep.Strs
import Derived.ChangeSame
import Derived.Lib.SmallJoins
import Derived.OpenShut
import Derived.Test.YtpfbepbmiillbaaGreatDoorDocBR
import Derived.Test.YtpfbepbmiillbaaGreatDoorColCR
import Derived.Deep.RegionHeld3
namespace Go.Proofs.YtpfbepbmiillbaaGreatDoor.Tr
open Go.RowKit Go.Joins Go.Deep Go.ChangeShapes Go.WideShapes Go.ChangeAt
set_option linter.unusedVariables false

instance : Inhabited Prt := ⟨zpt⟩
theorem cellsODp : Tryz.prog.cellsOf 261 = 2 := by kernel_rfl
theorem cellsOB : Tryz.prog.cellsOf 4 = 1 := by kernel_rfl
theorem cellsOS : Tryz.prog.cellsOf 9 = 1 := by kernel_rfl
set_option maxRecDepth 100000 in
theorem open_part_cells {H : Type} {enc : TypeId × Value → H} {w : World} {base : Nat} {spare : Nat → Bool} {held : Bool} {fuel : Nat} {c0 c1 : Value} {x : DataW H × List MemPlace}
    (h : DataW.trod enc Tryz.prog w base spare held fuel 261 [c0, c1] = some x) :
    ∃ (k : ByteArray) (i : Bool), c0 = .string k ∧ c1 = .bool i ∧ k.size ≤ maxLen := by
  obtain ⟨y0, y1, m, _, _, t0, t1⟩ := trod_struct2 Tryz.underlying261 h
  obtain ⟨z0, e0, _, hk⟩ := DataW.trod_string Tryz.underlying9 t0
  obtain ⟨z1, e1, _⟩ := DataW.trod_bool Tryz.underlying4 t1
  simp [cellsOB, cellsOS] at e0 e1
  exact ⟨z0, z1, e0, e1, hk⟩
set_option maxRecDepth 100000 in
theorem open_parts {H : Type} {enc : TypeId × Value → H} {w : World} {base : Nat} {spare : Nat → Bool} {held : Bool} {fuel : Nat} {cs : List Value} {x : DataW H × List MemPlace}
    (h : DataW.trod enc Tryz.prog w base spare held fuel 187 cs = some x) :
    ∃ (a : Option Addr) (len cap : Nat) (l : List Prt), cs = [.slice a len cap] ∧ l.length = len ∧ (l.length ≤ maxLen ∧ ∀ v ∈ l, maxPt v) ∧ InD w a l := by
  rcases open_slice Tryz.underlying187 h with ⟨rfl, _⟩ | ⟨a, len, cap, m, n, D, Pl, rfl, hb, hl, hm, hmm, _, hx⟩
  · exact ⟨none, 0, 0, [], rfl, rfl, ⟨Nat.zero_le _, (fun v hv => by simp at hv)⟩, .inl rfl⟩
  · have hlm : len ≤ m := by rw [hmm]; split <;> omega
    rw [cellsODp] at hx
    obtain ⟨f, hf⟩ := choose_lt (α := Prt) (n := len) (p := fun i t => w.cell? (a.add (i * 2)) = some (.string t.path) ∧ w.cell? ((a.add (i * 2)).add 1) = some (.bool t.desc) ∧ maxPt t) (fun i hi => by
      obtain ⟨cs', h1, h2⟩ := hx i (by omega)
      obtain ⟨_, hlen, hc⟩ := World.cells?_some h1
      match cs', hlen with
      | [c0, c1], _ =>
        obtain ⟨k, id, rfl, rfl, hk⟩ := open_part_cells h2
        refine ⟨⟨k, id⟩, ?_, ?_, hk⟩
        · have := hc 0 (by omega); simpa [Addr.add] using this
        · exact hc 1 (by omega))
    refine ⟨some a, len, cap, (List.range len).map f, rfl, by simp, ⟨by simp; omega, ?_⟩, ?_⟩
    · intro v hv
      obtain ⟨i, hi, rfl⟩ := List.mem_map.mp hv
      exact (hf i (by simpa using hi)).2.2
    · by_cases h0 : len = 0
      · exact .inl (by simp [h0])
      · obtain ⟨b, off, spot⟩ := a
        have hc0 := (hf 0 (by omega)).1
        have hspot : spot = none := by simpa [Addr.add] using World.cell?_spot hc0
        subst hspot
        have hlt : b < w.heap.size := by
          rcases Nat.lt_or_ge b w.heap.size with h | h
          · exact h
          · simp [World.cell?, Addr.add, Array.getElem?_eq_none h] at hc0
        refine .inr ⟨b, off, rfl, hlt, fun i hi => ?_⟩
        have hi2 : i < len := by simpa using hi
        have := hf i hi2
        simp only [addO] at this
        simp only [List.getElem_map, List.getElem_range]
        exact ⟨this.1, this.2.1⟩
end Go.Proofs.YtpfbepbmiillbaaGreatDoor.Tr

/- A collection that comes in, opened: chains, each with its versions, and definitions, each with its parts, at their places. -/
namespace Go.Proofs.YtpfbepbmiillbaaGreatDoor.Co
open Go.RowKit Go.Joins Go.Deep Go.ChangeShapes Go.WideShapes Go.ChangeAt Tr
set_option linter.unusedVariables false

instance : Inhabited Ver := ⟨zVr⟩
instance : Inhabited Chn := ⟨⟨0, []⟩⟩
instance : Inhabited Dfn := ⟨⟨em, []⟩⟩
theorem cellsVr : Tryz.prog.cellsOf 259 = 5 := by kernel_rfl
theorem cellsCh : Tryz.prog.cellsOf 185 = 2 := by kernel_rfl
theorem cellsDf : Tryz.prog.cellsOf 189 = 2 := by kernel_rfl
theorem cellsCo : Tryz.prog.cellsOf 104 = 3 := by kernel_rfl
theorem cellsVs : Tryz.prog.cellsOf 183 = 1 := by kernel_rfl
theorem cellsPs : Tryz.prog.cellsOf 187 = 1 := by kernel_rfl
theorem cellsCs : Tryz.prog.cellsOf 101 = 1 := by kernel_rfl
theorem cellsDs : Tryz.prog.cellsOf 102 = 1 := by kernel_rfl

set_option maxRecDepth 100000 in
theorem open_version_cells {H : Type} {enc : TypeId × Value → H} {w : World} {base : Nat} {spare : Nat → Bool} {held : Bool} {fuel : Nat} {c0 c1 c2 c3 c4 : Value} {x : DataW H × List MemPlace}
    (h : DataW.trod enc Tryz.prog w base spare held fuel 259 [c0, c1, c2, c3, c4] = some x) :
    ∃ (op : Int) (p : Bool) (k n : Int) (t : ByteArray), c0 = .int .i64 op ∧ c1 = .bool p ∧ c2 = .int .i64 k ∧ c3 = .int .i64 n ∧ c4 = .string t ∧ t.size ≤ maxLen := by
  obtain ⟨y0, y1, y2, m, _, _, t0, t1, t2⟩ := trod_struct3 Tryz.underlying259 h
  obtain ⟨z0, e0, _, _⟩ := DataW.trod_int Tryz.underlying3 t0
  obtain ⟨z1, e1, _⟩ := DataW.trod_bool Tryz.underlying4 t1
  obtain ⟨u0, u1, u2, m2, _, _, s0, s1, s2⟩ := trod_struct3 Tryz.underlying197 t2
  obtain ⟨z2, e2, _, _⟩ := DataW.trod_int Tryz.underlying3 s0
  obtain ⟨z3, e3, _, _⟩ := DataW.trod_int Tryz.underlying3 s1
  obtain ⟨z4, e4, _, ht⟩ := DataW.trod_string Tryz.underlying9 s2
  simp [cellsI1, cellsS1, cellsVv, cellsB1] at e0 e1 e2 e3 e4
  exact ⟨z0, z1, z2, z3, z4, e0, e1, e2, e3, e4, ht⟩

set_option maxRecDepth 100000 in
theorem open_versions {H : Type} {enc : TypeId × Value → H} {w : World} {base : Nat} {spare : Nat → Bool} {held : Bool} {fuel : Nat} {cs : List Value} {x : DataW H × List MemPlace}
    (h : DataW.trod enc Tryz.prog w base spare held fuel 183 cs = some x) :
    ∃ (a : Option Addr) (len cap : Nat) (l : List Ver), cs = [.slice a len cap] ∧ l.length = len ∧ (l.length ≤ maxLen ∧ ∀ v ∈ l, maxVr v) ∧ InVr w a l := by
  rcases open_slice Tryz.underlying183 h with ⟨rfl, _⟩ | ⟨a, len, cap, m, n, D, Pl, rfl, hb, hl, hm, hmm, _, hx⟩
  · exact ⟨none, 0, 0, [], rfl, rfl, ⟨Nat.zero_le _, (fun v hv => by simp at hv)⟩, .inl rfl⟩
  · have hlm : len ≤ m := by rw [hmm]; split <;> omega
    rw [cellsVr] at hx
    obtain ⟨f, hf⟩ := choose_lt (α := Ver) (n := len) (p := fun i t => w.cell? (a.add (i * 5)) = some (.int .i64 t.tm) ∧ w.cell? ((a.add (i * 5)).add 1) = some (.bool t.gone) ∧ w.cell? ((a.add (i * 5)).add 2) = some (.int .i64 t.doc.k) ∧ w.cell? ((a.add (i * 5)).add 3) = some (.int .i64 t.doc.n) ∧ w.cell? ((a.add (i * 5)).add 4) = some (.string t.doc.t) ∧ maxVr t) (fun i hi => by
      obtain ⟨cs', h1, h2⟩ := hx i (by omega)
      obtain ⟨_, hlen, hc⟩ := World.cells?_some h1
      match cs', hlen with
      | [c0, c1, c2, c3, c4], _ =>
        obtain ⟨op, p, k, n, t, rfl, rfl, rfl, rfl, rfl, ht⟩ := open_version_cells h2
        refine ⟨⟨op, p, ⟨k, n, t⟩⟩, ?_, ?_, ?_, ?_, ?_, ht⟩
        · have := hc 0 (by omega); simpa [Addr.add] using this
        · exact hc 1 (by omega)
        · exact hc 2 (by omega)
        · exact hc 3 (by omega)
        · exact hc 4 (by omega))
    refine ⟨some a, len, cap, (List.range len).map f, rfl, by simp, ⟨by simp; omega, ?_⟩, ?_⟩
    · intro v hv
      obtain ⟨i, hi, rfl⟩ := List.mem_map.mp hv
      exact (hf i (by simpa using hi)).2.2.2.2.2
    · by_cases h0 : len = 0
      · exact .inl (by simp [h0])
      · obtain ⟨b, off, spot⟩ := a
        have hc0 := (hf 0 (by omega)).1
        have hspot : spot = none := by simpa [Addr.add] using World.cell?_spot hc0
        subst hspot
        have hlt : b < w.heap.size := by
          rcases Nat.lt_or_ge b w.heap.size with h | h
          · exact h
          · simp [World.cell?, Addr.add, Array.getElem?_eq_none h] at hc0
        refine .inr ⟨b, off, rfl, hlt, fun i hi => ?_⟩
        have hi2 : i < len := by simpa using hi
        have := hf i hi2
        simp only [addO] at this
        simp only [List.getElem_map, List.getElem_range]
        exact ⟨this.1, this.2.1, this.2.2.1, this.2.2.2.1, this.2.2.2.2.1⟩

set_option maxRecDepth 100000 in
theorem open_chains {H : Type} {enc : TypeId × Value → H} {w : World} {base : Nat} {spare : Nat → Bool} {held : Bool} {fuel : Nat} {cs : List Value} {x : DataW H × List MemPlace}
    (h : DataW.trod enc Tryz.prog w base spare held fuel 101 cs = some x) :
    ∃ (a : Option Addr) (len cap : Nat) (f : List Chn), cs = [.slice a len cap] ∧ f.length = len ∧ f.length ≤ maxLen ∧ (∀ l ∈ f, maxCh l) ∧ InCh w a f := by
  rcases open_slice Tryz.underlying101 h with ⟨rfl, _⟩ | ⟨a, len, cap, m, n, D, Pl, rfl, hb, hl, hm, hmm, _, hx⟩
  · exact ⟨none, 0, 0, [], rfl, rfl, Nat.zero_le _, (fun v hv => by simp at hv), .inl rfl⟩
  · have hlm : len ≤ m := by rw [hmm]; split <;> omega
    rw [cellsCh] at hx
    obtain ⟨f, hf⟩ := choose_lt (α := Chn) (n := len) (p := fun i l => w.cell? (a.add (i * 2)) = some (.int .i64 l.id) ∧ ∃ p c, w.cell? ((a.add (i * 2)).add 1) = some (.slice p l.vs.length c) ∧ maxCh l ∧ InVr w p l.vs) (fun i hi => by
      obtain ⟨cs', h1, h2⟩ := hx i (by omega)
      obtain ⟨_, hlen, hc⟩ := World.cells?_some h1
      match cs', hlen with
      | [c0, c1], _ =>
        obtain ⟨y0, y1, n', _, _, t0, t1⟩ := trod_struct2 Tryz.underlying185 h2
        obtain ⟨z0, e0, _, _⟩ := DataW.trod_int Tryz.underlying3 t0
        obtain ⟨p, ln, c, l, e, hln, hmx, hT⟩ := open_versions t1
        simp [cellsVs, cellsI1] at e e0
        subst e e0 hln
        refine ⟨⟨z0, l⟩, ?_, p, c, ?_, hmx, hT⟩
        · have := hc 0 (by omega); simpa [Addr.add] using this
        · exact hc 1 (by omega))
    refine ⟨some a, len, cap, (List.range len).map f, rfl, by simp, by simp; omega, ?_, ?_⟩
    · intro v hv
      obtain ⟨i, hi, rfl⟩ := List.mem_map.mp hv
      obtain ⟨_, p, c, _, h2, _⟩ := hf i (by simpa using hi)
      exact h2
    · by_cases h0 : len = 0
      · exact .inl (by simp [h0])
      · obtain ⟨b, off, spot⟩ := a
        obtain ⟨hc0, _⟩ := hf 0 (by omega)
        have hspot : spot = none := by simpa [Addr.add] using World.cell?_spot hc0
        subst hspot
        have hlt : b < w.heap.size := by
          rcases Nat.lt_or_ge b w.heap.size with h | h
          · exact h
          · simp [World.cell?, Addr.add, Array.getElem?_eq_none h] at hc0
        refine .inr ⟨b, off, rfl, hlt, fun i hi => ?_⟩
        have hi2 : i < len := by simpa using hi
        obtain ⟨h0, p, c, h1, h2, h3⟩ := hf i hi2
        simp only [addO] at h0 h1
        simp only [List.getElem_map, List.getElem_range]
        exact ⟨h0, p, c, h1, h3⟩

set_option maxRecDepth 100000 in
theorem open_defs {H : Type} {enc : TypeId × Value → H} {w : World} {base : Nat} {spare : Nat → Bool} {held : Bool} {fuel : Nat} {cs : List Value} {x : DataW H × List MemPlace}
    (h : DataW.trod enc Tryz.prog w base spare held fuel 102 cs = some x) :
    ∃ (a : Option Addr) (len cap : Nat) (f : List Dfn), cs = [.slice a len cap] ∧ f.length = len ∧ f.length ≤ maxLen ∧ (∀ l ∈ f, maxDf l) ∧ InDf w a f := by
  rcases open_slice Tryz.underlying102 h with ⟨rfl, _⟩ | ⟨a, len, cap, m, n, D, Pl, rfl, hb, hl, hm, hmm, _, hx⟩
  · exact ⟨none, 0, 0, [], rfl, rfl, Nat.zero_le _, (fun v hv => by simp at hv), .inl rfl⟩
  · have hlm : len ≤ m := by rw [hmm]; split <;> omega
    rw [cellsDf] at hx
    obtain ⟨f, hf⟩ := choose_lt (α := Dfn) (n := len) (p := fun i l => w.cell? (a.add (i * 2)) = some (.string l.name) ∧ ∃ p c, w.cell? ((a.add (i * 2)).add 1) = some (.slice p l.ps.length c) ∧ maxDf l ∧ InD w p l.ps) (fun i hi => by
      obtain ⟨cs', h1, h2⟩ := hx i (by omega)
      obtain ⟨_, hlen, hc⟩ := World.cells?_some h1
      match cs', hlen with
      | [c0, c1], _ =>
        obtain ⟨y0, y1, n', _, _, t0, t1⟩ := trod_struct2 Tryz.underlying189 h2
        obtain ⟨z0, e0, _, hz0⟩ := DataW.trod_string Tryz.underlying9 t0
        obtain ⟨p, ln, c, l, e, hln, hmx, hT⟩ := open_parts t1
        simp [cellsPs, cellsS1] at e e0
        subst e e0 hln
        refine ⟨⟨z0, l⟩, ?_, p, c, ?_, ⟨hz0, hmx⟩, hT⟩
        · have := hc 0 (by omega); simpa [Addr.add] using this
        · exact hc 1 (by omega))
    refine ⟨some a, len, cap, (List.range len).map f, rfl, by simp, by simp; omega, ?_, ?_⟩
    · intro v hv
      obtain ⟨i, hi, rfl⟩ := List.mem_map.mp hv
      obtain ⟨_, p, c, _, h2, _⟩ := hf i (by simpa using hi)
      exact h2
    · by_cases h0 : len = 0
      · exact .inl (by simp [h0])
      · obtain ⟨b, off, spot⟩ := a
        obtain ⟨hc0, _⟩ := hf 0 (by omega)
        have hspot : spot = none := by simpa [Addr.add] using World.cell?_spot hc0
        subst hspot
        have hlt : b < w.heap.size := by
          rcases Nat.lt_or_ge b w.heap.size with h | h
          · exact h
          · simp [World.cell?, Addr.add, Array.getElem?_eq_none h] at hc0
        refine .inr ⟨b, off, rfl, hlt, fun i hi => ?_⟩
        have hi2 : i < len := by simpa using hi
        obtain ⟨h0, p, c, h1, h2, h3⟩ := hf i hi2
        simp only [addO] at h0 h1
        simp only [List.getElem_map, List.getElem_range]
        exact ⟨h0, p, c, h1, h3⟩

end Go.Proofs.YtpfbepbmiillbaaGreatDoor.Co

/- What the laws on collections lean on, together. -/
namespace Go.Proofs.YtpfbepbmiillbaaGreatDoor.Co
open Go.RowKit Tr
set_option linter.unusedVariables false

theorem SzCol.vs {c : Col} (h : SzCol c) : ∀ l ∈ c.chs, l.vs.length ≤ 1048576 := fun l hl => (h.chs l hl).1
theorem SzCol.ps {c : Col} (h : SzCol c) : ∀ l ∈ c.dfs, l.ps.length ≤ 1048576 := fun l hl => (h.dfs l hl).2.1
end Go.Proofs.YtpfbepbmiillbaaGreatDoor.Co
