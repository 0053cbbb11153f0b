/- The program's table of a term's words as it is laid: from the condition to the cells. -/
import Derived.Test.YtkeghknceccdmaaGreatDoorFtxL
import Derived.Test.YtkeghknceccdmaaGreatDoorRows
import Derived.ProofKit
import Derived.LaidMore
import Derived.OpenShut
import Derived.ShutString
import Derived.Stop.Joined
import Derived.ChangeVars
import Derived.WalkSmall
import Derived.Lib.LaidTab
import Derived.Stop.LaidErr
namespace Go.Proofs.YtkeghknceccdmaaGreatDoor
open Go.ChangeShapes Go.WideShapes Go.ChangeAt Go.RowKit
open Go.ChangeMaps (open_string shut_string)
set_option linter.unusedVariables false

theorem gWordsT : Tryz.prog.globalNamed "loop.example/g00380/impl.termWords" = some 0 := by kernel_rfl
theorem tWordsT : (Tryz.prog.globals[(0 : Nat)]?).map (·.type) = some 187 := by kernel_rfl
theorem cellsArrT : Tryz.prog.cellsOf 187 = 11 := by kernel_rfl
theorem cellsStrT : Tryz.prog.cellsOf 9 = 1 := by kernel_rfl
def wordListsT : List (List UInt8) := [[], [101, 113], [110, 101], [108, 116], [108, 116, 101], [103, 116], [103, 116, 101], [105, 110], [101, 120, 105, 115, 116, 115], [116, 121, 112, 101], [115, 105, 122, 101]]
def cells11 : Array Value := (wordListsT.map fun l => Value.string ⟨l.toArray⟩).toArray
theorem strs_ofT {H : Type} {enc : TypeId × Value → H} {W : World} {sp : Nat → Bool} {held : Bool} {fuel : Nat} {cs : List Value} {x : DataW H × List MemPlace} (L : List (List UInt8))
    (hx : x.1 = .agg (L.map fun l => .lit (.string l))) (h : DataW.trod enc Tryz.prog W 0 sp held fuel 187 cs = some x) : cs = L.map (fun l => Value.string ⟨l.toArray⟩) := by
  obtain ⟨xs, m, _, hxe, hlen, hn, hel⟩ := DataW.trod_array Tryz.underlying187 h
  rw [hxe] at hx
  have hxs : xs.map (fun x => x.fst) = L.map fun l => .lit (.string l) := by simpa using hx
  have hL : L.length = 11 := by have := congrArg List.length hxs; simpa [hn] using this.symm
  rw [cellsArrT] at hlen
  apply List.ext_getElem
  · simp [hlen, hL]
  · intro i h1 h2
    have hi : i < 11 := by omega
    have e := hel i hi
    rw [cellsStrT, Nat.mul_one] at e
    have e2 : List.take 1 (List.drop i cs) = [cs[i]] := by rw [List.drop_eq_getElem_cons h1]; rfl
    rw [e2, List.getElem?_eq_getElem (by omega)] at e
    obtain ⟨s, es, ex, _⟩ := DataW.trod_string Tryz.underlying9 e
    have e3 : (xs.map (fun x => x.fst))[i]'(by simp; omega) = (L.map fun l => (DataW.lit (.string l) : DataW H))[i]'(by simp; omega) := by simp only [hxs]
    simp only [List.getElem_map] at e3
    rw [ex] at e3
    simp at e3 es
    simp only [List.getElem_map]
    rw [es, ← e3]
theorem cells_of_laidT {W : World} (h : laidMetH Tryz.prog Rows.fnExactFilterTextRow.laid W) : W.var? Tryz.prog "loop.example/g00380/impl.termWords" = some cells11 := by
  rw [MakeChecks.laidMetH_plain _ _ _ (by kernel_rfl)] at h
  obtain ⟨ps, ⟨g, t, cs, fuel, p, q, hg, ht, hvar, hd, _, _⟩, _⟩ := laidMet.tail (laidMet.tail (laidMet.tail (laidMet.tail h)))
  obtain rfl := Option.some.inj (gWordsT.symm.trans hg)
  obtain rfl := Option.some.inj (tWordsT.symm.trans ht)
  rw [hvar]
  congr 1
  have := strs_ofT wordListsT rfl hd
  obtain ⟨l⟩ := cs
  simp at this
  rw [this]; rfl
abbrev tableT {H : Type} : DataW H := .agg (wordListsT.map fun l => .lit (.string l))
theorem reads_tableT {H : Type} (enc : TypeId × Value → H) (W : World) (sp : Nat → Bool) : DataW.trod enc Tryz.prog W 0 sp true 3 187 cells11.toList = some (tableT, []) := by kernel_rfl
theorem word_atT (k : Nat) (hk : k < 11) : cells11[k]? = some (.string (words.getD k em)) := by
  rcases (show k = 0 ∨ k = 1 ∨ k = 2 ∨ k = 3 ∨ k = 4 ∨ k = 5 ∨ k = 6 ∨ k = 7 ∨ k = 8 ∨ k = 9 ∨ k = 10 by omega) with rfl | rfl | rfl | rfl | rfl | rfl | rfl | rfl | rfl | rfl | rfl <;> rfl
theorem wds_of {W : World} (h : laidMetH Tryz.prog Rows.fnExactFilterTextRow.laid W) : Wds W.heap.size W := by
  have hv := cells_of_laidT h
  have hc : ∀ k, k < 11 → W.cell? ⟨0, k, none⟩ = some (.string (words.getD k em)) := fun k hk => (World.var?_cell gWordsT hv k).trans (word_atT k hk)
  refine ⟨?_, hc⟩
  rcases Nat.lt_or_ge 0 W.heap.size with h' | h'
  · exact h'
  · have := hc 0 (by omega)
    simp [World.cell?, Array.getElem?_eq_none h'] at this
theorem tabT_of_laid {W : World} (h : laidMetH Tryz.prog Rows.fnExactFilterTextRow.laid W) : Lib.TabIs Tryz.prog W "internal/strconv.uint64pow10" .u64 Lib.pow10Tab := by
  rw [MakeChecks.laidMetH_plain _ _ _ (by kernel_rfl)] at h
  exact Lib.tabIs_of_head (g := 2) (t := 316) (e := 301) (n := 20) (by kernel_rfl) (by kernel_rfl) Tryz.underlying316 Tryz.underlying301 (by kernel_rfl) (by kernel_rfl) (laidMet.tail (laidMet.tail h))

end Go.Proofs.YtkeghknceccdmaaGreatDoor
