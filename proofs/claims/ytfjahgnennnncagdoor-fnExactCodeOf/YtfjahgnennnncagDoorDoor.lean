/- The program's table of words as it is laid: from the condition to the cells, and a world that meets it. -/
import Derived.Test.YtfjahgnennnncagDoorCodeW
import Derived.Test.YtfjahgnennnncagDoorTie
import Derived.Test.YtfjahgnennnncagDoorCards
import Derived.ProofKit
import Derived.LaidMore
import Derived.OpenShut
import Derived.ShutString
import Derived.Stop.Joined
import Derived.ChangeVars
import Derived.WalkSmall
import Derived.SevenTiedAt
namespace Go.Proofs.YtfjahgnennnncagDoor
open Go.ChangeShapes Go.WideShapes Go.ChangeAt Go.RowKit
open Go.ChangeMaps (open_string shut_string)
set_option linter.unusedVariables false

theorem own : ownKnob Tryd.prog.godebug = none := by kernel_rfl
theorem laidOut : laidOutB Tryd.prog = true := by kernel_rfl
theorem gWords : Tryd.prog.globalNamed "loop.example/g00380/impl.codeWords" = some 0 := by kernel_rfl
theorem tWords : (Tryd.prog.globals[0]?).map (·.type) = some 27 := by kernel_rfl
theorem cellsArr : Tryd.prog.cellsOf 27 = 20 := by kernel_rfl
theorem cellsStr : Tryd.prog.cellsOf 9 = 1 := by kernel_rfl
def wordLists : List (List UInt8) := [[111, 107], [98, 97, 100], [108, 111, 110, 103], [102, 111, 114, 109], [114, 97, 110, 103, 101], [110, 111, 110, 101], [109, 97, 110, 121], [102, 117, 108, 108], [116, 121, 112, 101], [100, 101, 101, 112], [115, 105, 122, 101], [110, 97, 109, 101], [116, 119, 105, 99, 101], [112, 108, 97, 99, 101], [112, 97, 116, 104], [99, 111, 110, 102, 108, 105, 99, 116], [112, 105, 118, 111, 116], [115, 116, 97, 116, 101], [98, 117, 115, 121], [111, 114, 100, 101, 114]]
def cells20 : Array Value := (wordLists.map fun l => Value.string ⟨l.toArray⟩).toArray
abbrev laidList : List (String × DataW Unit) := [("loop.example/g00380/impl.codeWords", Rows.laid_loop_example_g00380_impl_codeWords)]

theorem strs_of {H : Type} {enc : TypeId × Value → H} {W : World} {sp : Nat → Bool} {held : Bool} {fuel : Nat} {cs : List Value} {x : DataW H × List MemPlace} (L : List (List UInt8))
    (hx : x.1 = .agg (L.map fun l => .lit (.string l))) (h : DataW.trod enc Tryd.prog W 0 sp held fuel 27 cs = some x) : cs = L.map (fun l => Value.string ⟨l.toArray⟩) := by
  obtain ⟨xs, m, _, hxe, hlen, hn, hel⟩ := DataW.trod_array Tryd.underlying27 h
  rw [hxe] at hx
  have hxs : xs.map (fun x => x.fst) = L.map fun l => .lit (.string l) := by simpa using hx
  have hL : L.length = 20 := by have := congrArg List.length hxs; simpa [hn] using this.symm
  rw [cellsArr] at hlen
  apply List.ext_getElem
  · simp [hlen, hL]
  · intro i h1 h2
    have hi : i < 20 := by omega
    have e := hel i hi
    rw [cellsStr, Nat.mul_one] at e
    have e2 : List.take 1 (List.drop i cs) = [cs[i]] := by rw [List.drop_eq_getElem_cons h1]; rfl
    rw [e2, List.getElem?_eq_getElem (by omega)] at e
    obtain ⟨s, es, ex, _⟩ := DataW.trod_string Tryd.underlying9 e
    have e3 : (xs.map (fun x => x.fst))[i]'(by simp; omega) = (L.map fun l => (DataW.lit (.string l) : DataW H))[i]'(by simp; omega) := by simp only [hxs]
    simp only [List.getElem_map] at e3
    rw [ex] at e3
    simp at e3 es
    simp only [List.getElem_map]
    rw [es, ← e3]

theorem cells_of_laid {W : World} (h : laidMetH Tryd.prog laidList W) : W.var? Tryd.prog "loop.example/g00380/impl.codeWords" = some cells20 := by
  rw [MakeChecks.laidMetH_plain _ _ _ (by kernel_rfl)] at h
  obtain ⟨ps, ⟨g, t, cs, fuel, p, q, hg, ht, hvar, hd, _, _⟩, _⟩ := h
  obtain rfl := Option.some.inj (gWords.symm.trans hg)
  obtain rfl := Option.some.inj (tWords.symm.trans ht)
  rw [hvar]
  congr 1
  have := strs_of wordLists rfl hd
  obtain ⟨l⟩ := cs
  simp at this
  rw [this]; rfl

theorem door_met (os : Os) (args : Array Value) : laidMetH Tryd.prog laidList ((World.doorLaid Tryd.prog 400 os).forCall (fun _ _ => 0) ⟨#[], args, []⟩).memory :=
  laidMetH_of_parts3 (fuel := 8) (laidMet_of_run' 8 (by kernel_rfl) (by kernel_rfl)) (by kernel_rfl) (by kernel_rfl)

abbrev tableH {H : Type} : DataW H := .agg (wordLists.map fun l => .lit (.string l))
theorem reads_table {H : Type} (enc : TypeId × Value → H) (W : World) (sp : Nat → Bool) : DataW.trod enc Tryd.prog W 0 sp true 3 27 cells20.toList = some (tableH, []) := by kernel_rfl
theorem word_at (k : Nat) (hk : k < 20) : cells20[k]? = some (.string (word k)) := by
  rcases (show k = 0 ∨ k = 1 ∨ k = 2 ∨ k = 3 ∨ k = 4 ∨ k = 5 ∨ k = 6 ∨ k = 7 ∨ k = 8 ∨ k = 9 ∨ k = 10 ∨ k = 11 ∨ k = 12 ∨ k = 13 ∨ k = 14 ∨ k = 15 ∨ k = 16 ∨ k = 17 ∨ k = 18 ∨ k = 19 by omega) with rfl | rfl | rfl | rfl | rfl | rfl | rfl | rfl | rfl | rfl | rfl | rfl | rfl | rfl | rfl | rfl | rfl | rfl | rfl | rfl <;> rfl
theorem laid_of {W : World} (h : laidMetH Tryd.prog laidList W) : Laid W := by
  have hv := cells_of_laid h
  have hc : ∀ k, k < 20 → W.cell? ⟨0, k, none⟩ = some (.string (word k)) := fun k hk => (World.var?_cell gWords hv k).trans (word_at k hk)
  refine ⟨?_, hc⟩
  rcases Nat.lt_or_ge 0 W.heap.size with h' | h'
  · exact h'
  · have := hc 0 (by omega)
    simp [World.cell?, Array.getElem?_eq_none h'] at this

end Go.Proofs.YtfjahgnennnncagDoor
