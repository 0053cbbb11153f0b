/- A definition that comes in, opened. -/
import Derived.Test.YtdchhjnmhnehiaaGreatDoorChgB
import Derived.Test.YtdchhjnmhnehiaaGreatDoorDefI
import Derived.Deep.Slices
import Derived.Deep.Strs
import Derived.ChangeSame
import Derived.Lib.SmallJoins
import Derived.OpenShut
namespace Go.Proofs.YtdchhjnmhnehiaaGreatDoor.Tr
open Go.RowKit Go.Joins Go.Deep Go.ChangeShapes Go.WideShapes Go.ChangeAt
set_option linter.unusedVariables false

instance : Inhabited Prt := ⟨zpt⟩
theorem cellsODp : Tryz.prog.cellsOf 106 = 2 := by kernel_rfl
theorem cellsODd : Tryz.prog.cellsOf 49 = 2 := by kernel_rfl
theorem cellsOB : Tryz.prog.cellsOf 4 = 1 := by kernel_rfl
theorem cellsOS : Tryz.prog.cellsOf 9 = 1 := by kernel_rfl
theorem cellsODq : Tryz.prog.cellsOf 47 = 1 := by kernel_rfl
set_option maxRecDepth 100000 in
theorem open_part_cells {H : Type} {enc : TypeId × Value → H} {w : World} {base : Nat} {spare : Nat → Bool} {held : Bool} {fuel : Nat} {c0 c1 : Value} {x : DataW H × List MemPlace}
    (h : DataW.trod enc Tryz.prog w base spare held fuel 106 [c0, c1] = some x) :
    ∃ (k : ByteArray) (i : Bool), c0 = .string k ∧ c1 = .bool i ∧ k.size ≤ maxLen := by
  obtain ⟨y0, y1, m, _, _, t0, t1⟩ := trod_struct2 Tryz.underlying106 h
  obtain ⟨z0, e0, _, hk⟩ := DataW.trod_string Tryz.underlying9 t0
  obtain ⟨z1, e1, _⟩ := DataW.trod_bool Tryz.underlying4 t1
  simp [cellsOB, cellsOS] at e0 e1
  exact ⟨z0, z1, e0, e1, hk⟩
set_option maxRecDepth 100000 in
theorem open_parts {H : Type} {enc : TypeId × Value → H} {w : World} {base : Nat} {spare : Nat → Bool} {held : Bool} {fuel : Nat} {cs : List Value} {x : DataW H × List MemPlace}
    (h : DataW.trod enc Tryz.prog w base spare held fuel 47 cs = some x) :
    ∃ (a : Option Addr) (len cap : Nat) (l : List Prt), cs = [.slice a len cap] ∧ l.length = len ∧ (l.length ≤ maxLen ∧ ∀ v ∈ l, maxPt v) ∧ InD w a l := by
  rcases open_slice Tryz.underlying47 h with ⟨rfl, _⟩ | ⟨a, len, cap, m, n, D, Pl, rfl, hb, hl, hm, hmm, _, hx⟩
  · exact ⟨none, 0, 0, [], rfl, rfl, ⟨Nat.zero_le _, (fun v hv => by simp at hv)⟩, .inl rfl⟩
  · have hlm : len ≤ m := by rw [hmm]; split <;> omega
    rw [cellsODp] at hx
    obtain ⟨f, hf⟩ := choose_lt (α := Prt) (n := len) (p := fun i t => w.cell? (a.add (i * 2)) = some (.string t.path) ∧ w.cell? ((a.add (i * 2)).add 1) = some (.bool t.desc) ∧ maxPt t) (fun i hi => by
      obtain ⟨cs', h1, h2⟩ := hx i (by omega)
      obtain ⟨_, hlen, hc⟩ := World.cells?_some h1
      match cs', hlen with
      | [c0, c1], _ =>
        obtain ⟨k, id, rfl, rfl, hk⟩ := open_part_cells h2
        refine ⟨⟨k, id⟩, ?_, ?_, hk⟩
        · have := hc 0 (by omega); simpa [Addr.add] using this
        · exact hc 1 (by omega))
    refine ⟨some a, len, cap, (List.range len).map f, rfl, by simp, ⟨by simp; omega, ?_⟩, ?_⟩
    · intro v hv
      obtain ⟨i, hi, rfl⟩ := List.mem_map.mp hv
      exact (hf i (by simpa using hi)).2.2
    · by_cases h0 : len = 0
      · exact .inl (by simp [h0])
      · obtain ⟨b, off, spot⟩ := a
        have hc0 := (hf 0 (by omega)).1
        have hspot : spot = none := by simpa [Addr.add] using World.cell?_spot hc0
        subst hspot
        have hlt : b < w.heap.size := by
          rcases Nat.lt_or_ge b w.heap.size with h | h
          · exact h
          · simp [World.cell?, Addr.add, Array.getElem?_eq_none h] at hc0
        refine .inr ⟨b, off, rfl, hlt, fun i hi => ?_⟩
        have hi2 : i < len := by simpa using hi
        have := hf i hi2
        simp only [addO] at this
        simp only [List.getElem_map, List.getElem_range]
        exact ⟨this.1, this.2.1⟩
set_option maxRecDepth 100000 in
theorem open_def {H : Type} {enc : TypeId × Value → H} {w : World} {base b0 : Nat} {spare : Nat → Bool} {held : Bool} {r : Reach} {v : Value} {d : DataW H} {ps : List MemPlace}
    (hv : Value.okWide Tryz.prog w r b0 49 v) (h : DataW.Trod enc Tryz.prog w base spare held 49 v d ps) :
    ∃ (n : ByteArray) (a : Option Addr) (cap : Nat) (l : List Prt), v = .agg #[.string n, .slice a l.length cap] ∧ n.size ≤ maxLen ∧ l.length ≤ maxLen ∧ (∀ v ∈ l, maxPt v) ∧ InD w a l := by
  obtain ⟨cs, rfl, hsz⟩ := okWide_struct Tryz.underlying49 hv
  obtain ⟨fuel, hf⟩ := h
  rw [cellsODd] at hsz
  obtain ⟨l⟩ := cs
  match l, hsz with
  | [c0, c1], _ =>
    obtain ⟨y0, y1, n', _, _, t0, t1⟩ := trod_struct2 Tryz.underlying49 (show DataW.trod enc Tryz.prog w base spare held fuel 49 [c0, c1] = some _ by simpa [Value.cells] using hf)
    obtain ⟨z0, e0, _, hk⟩ := DataW.trod_string Tryz.underlying9 t0
    obtain ⟨p, ln, c, f, e, hln, h1, h3⟩ := open_parts t1
    simp [cellsODq, cellsOS] at e e0
    subst e e0 hln
    exact ⟨z0, p, c, f, rfl, hk, h1.1, h1.2, h3⟩

end Go.Proofs.YtdchhjnmhnehiaaGreatDoor.Tr
