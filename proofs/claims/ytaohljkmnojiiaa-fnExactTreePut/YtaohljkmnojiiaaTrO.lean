/- A tree and an entry that come in, opened: pages, each with its entries, at their places. -/
import Derived.Test.YtaohljkmnojiiaaTrP
import Derived.Deep.Slices
import Derived.Deep.Strs
import Derived.ChangeSame
import Derived.Lib.SmallJoins
import Derived.OpenShut
namespace Go.Proofs.Ytaohljkmnojiiaa.Tr
open Go.RowKit Go.Joins Go.Deep Go.ChangeShapes Go.WideShapes Go.ChangeAt
set_option linter.unusedVariables false

instance : Inhabited Ent := ⟨ze⟩
instance : Inhabited Pg := ⟨⟨0, []⟩⟩
theorem cellsOE : Try.prog.cellsOf 66 = 2 := by kernel_rfl
theorem cellsOP : Try.prog.cellsOf 170 = 2 := by kernel_rfl
theorem cellsOT : Try.prog.cellsOf 65 = 2 := by kernel_rfl
theorem cellsOI : Try.prog.cellsOf 3 = 1 := by kernel_rfl
theorem cellsOS : Try.prog.cellsOf 9 = 1 := by kernel_rfl
theorem cellsOQ : Try.prog.cellsOf 168 = 1 := by kernel_rfl
theorem cellsOR : Try.prog.cellsOf 63 = 1 := by kernel_rfl
theorem addO (b off i : Nat) : (⟨b, off, none⟩ : Addr).add i = ⟨b, off + i, none⟩ := by unfold Addr.add; split <;> simp_all
set_option maxRecDepth 100000 in
theorem open_entry_cells {H : Type} {enc : TypeId × Value → H} {w : World} {base : Nat} {spare : Nat → Bool} {held : Bool} {fuel : Nat} {c0 c1 : Value} {x : DataW H × List MemPlace}
    (h : DataW.trod enc Try.prog w base spare held fuel 66 [c0, c1] = some x) :
    ∃ (k : ByteArray) (i : Int), c0 = .string k ∧ c1 = .int .i64 i ∧ k.size ≤ maxLen := by
  obtain ⟨y0, y1, m, _, _, t0, t1⟩ := trod_struct2 Try.underlying66 h
  obtain ⟨z0, e0, _, hk⟩ := DataW.trod_string Try.underlying9 t0
  obtain ⟨z1, e1, _, _⟩ := DataW.trod_int Try.underlying3 t1
  simp [cellsOI, cellsOS] at e0 e1
  exact ⟨z0, z1, e0, e1, hk⟩
set_option maxRecDepth 100000 in
theorem open_entry {H : Type} {enc : TypeId × Value → H} {w : World} {base b0 : Nat} {spare : Nat → Bool} {held : Bool} {r : Reach} {v : Value} {d : DataW H} {ps : List MemPlace}
    (hv : Value.okWide Try.prog w r b0 66 v) (h : DataW.Trod enc Try.prog w base spare held 66 v d ps) :
    ∃ (k : ByteArray) (i : Int), v = .agg #[.string k, .int .i64 i] ∧ k.size ≤ maxLen := by
  obtain ⟨cs, rfl, hsz⟩ := okWide_struct Try.underlying66 hv
  obtain ⟨fuel, hf⟩ := h
  rw [cellsOE] at hsz
  obtain ⟨l⟩ := cs
  match l, hsz with
  | [c0, c1], _ =>
    obtain ⟨k, i, rfl, rfl, hk⟩ := open_entry_cells (c0 := c0) (c1 := c1) (by simpa [Value.cells] using hf)
    exact ⟨k, i, rfl, hk⟩
set_option maxRecDepth 100000 in
theorem open_entries {H : Type} {enc : TypeId × Value → H} {w : World} {base : Nat} {spare : Nat → Bool} {held : Bool} {fuel : Nat} {cs : List Value} {x : DataW H × List MemPlace}
    (h : DataW.trod enc Try.prog w base spare held fuel 168 cs = some x) :
    ∃ (a : Option Addr) (len cap : Nat) (l : List Ent), cs = [.slice a len cap] ∧ l.length = len ∧ (l.length ≤ maxLen ∧ ∀ v ∈ l, maxE v) ∧ InE w a l := by
  rcases open_slice Try.underlying168 h with ⟨rfl, _⟩ | ⟨a, len, cap, m, n, D, Pl, rfl, hb, hl, hm, hmm, _, hx⟩
  · exact ⟨none, 0, 0, [], rfl, rfl, ⟨Nat.zero_le _, (fun v hv => by simp at hv)⟩, .inl rfl⟩
  · have hlm : len ≤ m := by rw [hmm]; split <;> omega
    rw [cellsOE] at hx
    obtain ⟨f, hf⟩ := choose_lt (α := Ent) (n := len) (p := fun i t => w.cell? (a.add (i * 2)) = some (.string t.key) ∧ w.cell? ((a.add (i * 2)).add 1) = some (.int .i64 t.id) ∧ maxE t) (fun i hi => by
      obtain ⟨cs', h1, h2⟩ := hx i (by omega)
      obtain ⟨_, hlen, hc⟩ := World.cells?_some h1
      match cs', hlen with
      | [c0, c1], _ =>
        obtain ⟨k, id, rfl, rfl, hk⟩ := open_entry_cells h2
        refine ⟨⟨k, id⟩, ?_, ?_, hk⟩
        · have := hc 0 (by omega); simpa [Addr.add] using this
        · exact hc 1 (by omega))
    refine ⟨some a, len, cap, (List.range len).map f, rfl, by simp, ⟨by simp; omega, ?_⟩, ?_⟩
    · intro v hv
      obtain ⟨i, hi, rfl⟩ := List.mem_map.mp hv
      exact (hf i (by simpa using hi)).2.2
    · by_cases h0 : len = 0
      · exact .inl (by simp [h0])
      · obtain ⟨b, off, spot⟩ := a
        have hc0 := (hf 0 (by omega)).1
        have hspot : spot = none := by simpa [Addr.add] using World.cell?_spot hc0
        subst hspot
        have hlt : b < w.heap.size := by
          rcases Nat.lt_or_ge b w.heap.size with h | h
          · exact h
          · simp [World.cell?, Addr.add, Array.getElem?_eq_none h] at hc0
        refine .inr ⟨b, off, rfl, hlt, fun i hi => ?_⟩
        have hi2 : i < len := by simpa using hi
        have := hf i hi2
        simp only [addO] at this
        simp only [List.getElem_map, List.getElem_range]
        exact ⟨this.1, this.2.1⟩
set_option maxRecDepth 100000 in
theorem open_pages {H : Type} {enc : TypeId × Value → H} {w : World} {base : Nat} {spare : Nat → Bool} {held : Bool} {fuel : Nat} {cs : List Value} {x : DataW H × List MemPlace}
    (h : DataW.trod enc Try.prog w base spare held fuel 63 cs = some x) :
    ∃ (a : Option Addr) (len cap : Nat) (f : List Pg), cs = [.slice a len cap] ∧ f.length = len ∧ f.length ≤ maxLen ∧ (∀ l ∈ f, maxP l) ∧ InP w a f := by
  rcases open_slice Try.underlying63 h with ⟨rfl, _⟩ | ⟨a, len, cap, m, n, D, Pl, rfl, hb, hl, hm, hmm, _, hx⟩
  · exact ⟨none, 0, 0, [], rfl, rfl, Nat.zero_le _, (fun v hv => by simp at hv), .inl rfl⟩
  · have hlm : len ≤ m := by rw [hmm]; split <;> omega
    rw [cellsOP] at hx
    obtain ⟨f, hf⟩ := choose_lt (α := Pg) (n := len) (p := fun i l => w.cell? (a.add (i * 2)) = some (.int .i64 l.num) ∧ ∃ p c, w.cell? ((a.add (i * 2)).add 1) = some (.slice p l.es.length c) ∧ maxP l ∧ InE w p l.es) (fun i hi => by
      obtain ⟨cs', h1, h2⟩ := hx i (by omega)
      obtain ⟨_, hlen, hc⟩ := World.cells?_some h1
      match cs', hlen with
      | [c0, c1], _ =>
        obtain ⟨y0, y1, n', _, _, t0, t1⟩ := trod_struct2 Try.underlying170 h2
        obtain ⟨z0, e0, _, _⟩ := DataW.trod_int Try.underlying3 t0
        obtain ⟨p, ln, c, l, e, hln, hmx, hT⟩ := open_entries t1
        simp [cellsOQ, cellsOI] at e e0
        subst e e0 hln
        refine ⟨⟨z0, l⟩, ?_, p, c, ?_, hmx, hT⟩
        · have := hc 0 (by omega); simpa [Addr.add] using this
        · exact hc 1 (by omega))
    refine ⟨some a, len, cap, (List.range len).map f, rfl, by simp, by simp; omega, ?_, ?_⟩
    · intro v hv
      obtain ⟨i, hi, rfl⟩ := List.mem_map.mp hv
      obtain ⟨_, p, c, _, h2, _⟩ := hf i (by simpa using hi)
      exact h2
    · by_cases h0 : len = 0
      · exact .inl (by simp [h0])
      · obtain ⟨b, off, spot⟩ := a
        obtain ⟨hc0, _⟩ := hf 0 (by omega)
        have hspot : spot = none := by simpa [Addr.add] using World.cell?_spot hc0
        subst hspot
        have hlt : b < w.heap.size := by
          rcases Nat.lt_or_ge b w.heap.size with h | h
          · exact h
          · simp [World.cell?, Addr.add, Array.getElem?_eq_none h] at hc0
        refine .inr ⟨b, off, rfl, hlt, fun i hi => ?_⟩
        have hi2 : i < len := by simpa using hi
        obtain ⟨h0, p, c, h1, h2, h3⟩ := hf i hi2
        simp only [addO] at h0 h1
        simp only [List.getElem_map, List.getElem_range]
        exact ⟨h0, p, c, h1, h3⟩
set_option maxRecDepth 100000 in
theorem open_tree {H : Type} {enc : TypeId × Value → H} {w : World} {base b0 : Nat} {spare : Nat → Bool} {held : Bool} {r : Reach} {v : Value} {d : DataW H} {ps : List MemPlace}
    (hv : Value.okWide Try.prog w r b0 65 v) (h : DataW.Trod enc Try.prog w base spare held 65 v d ps) :
    ∃ (a : Option Addr) (cap : Nat) (f : List Pg) (next : Int), v = .agg #[.slice a f.length cap, .int .i64 next] ∧ f.length ≤ maxLen ∧ (∀ l ∈ f, maxP l) ∧ InP w a f := by
  obtain ⟨cs, rfl, hsz⟩ := okWide_struct Try.underlying65 hv
  obtain ⟨fuel, hf⟩ := h
  rw [cellsOT] at hsz
  obtain ⟨l⟩ := cs
  match l, hsz with
  | [c0, c1], _ =>
    obtain ⟨y0, y1, n', _, _, t0, t1⟩ := trod_struct2 Try.underlying65 (show DataW.trod enc Try.prog w base spare held fuel 65 [c0, c1] = some _ by simpa [Value.cells] using hf)
    obtain ⟨p, ln, c, f, e, hln, h1, h2, h3⟩ := open_pages t0
    obtain ⟨z1, e1, _, _⟩ := DataW.trod_int Try.underlying3 t1
    simp [cellsOR, cellsOI] at e e1
    subst e e1 hln
    exact ⟨p, c, f, z1, rfl, h1, h2, h3⟩

end Go.Proofs.Ytaohljkmnojiiaa.Tr
