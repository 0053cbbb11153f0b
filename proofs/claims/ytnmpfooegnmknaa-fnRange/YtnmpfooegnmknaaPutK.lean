/- Rows of pointers to pages, one of them exchanged or taken out. -/
import Derived.Test.YtnmpfooegnmknaaPutI
import Derived.Lib.OwnBridge
namespace Go.Proofs.Ytnmpfooegnmknaa.Tr
open Go.RowKit
set_option linter.unusedVariables false

theorem PtrP.swap {w w6 : World} {base g gp cp k b6 g' o' c' : Nat} {f : List Pg} {es : List Ent} (ho : w6.ownsRow base 91 1 (.slice (some ⟨gp, 0, none⟩) f.length cp) f.length (ptrsOf g f.length)) (hr : ReadP w g f) (hB : Below w.heap.size w w6) (hgp : w.heap.size ≤ gp) (hk : k < f.length)
    (hb6 : b6 < w6.heap.size) (c0 : w6.cell? ⟨b6, 0, none⟩ = some (.int .i64 f[k].num)) (c1 : w6.cell? ⟨b6, 1, none⟩ = some (.slice (some ⟨g', o', none⟩) es.length c')) (hin : InE w6 (some ⟨g', o', none⟩) es) (h1 : b6 ≠ gp) (h2 : g' ≠ gp) :
    PtrP (w6.setCell ⟨gp, k, none⟩ (.pointer (some ⟨b6, 0, none⟩))) gp (f.set k ⟨f[k].num, es⟩) := by
  have own7 := (World.ownsRow.stored ho k (.pointer (some ⟨b6, 0, none⟩))).1
  have hB7 : Below w.heap.size w (w6.setCell ⟨gp, k, none⟩ (.pointer (some ⟨b6, 0, none⟩))) := hB.setCell hgp _
  have hlp : (ptrsOf g f.length).length = f.length := ptrsOf_len g f.length
  have hg : w6.grownBy (w6.setCell ⟨gp, k, none⟩ (.pointer (some ⟨b6, 0, none⟩))) (some gp) := grown_set
  have hcell : ∀ o, (w6.setCell ⟨gp, k, none⟩ (.pointer (some ⟨b6, 0, none⟩))).cell? ⟨b6, o, none⟩ = w6.cell? ⟨b6, o, none⟩ := fun o => World.cell?_of_block (hg.block b6 hb6 (fun e => h1 (Option.some.inj e)))
  refine ⟨(own7.lt gp rfl).2, fun j hj => ?_⟩
  rw [List.length_set] at hj
  by_cases e : j = k
  · subst e
    rw [List.getElem_set_self]
    exact ⟨b6, 0, owns_cell own7 j _ (List.getElem?_set_self (by omega)), by simpa using hb6, (hcell 0).trans c0, some ⟨g', o', none⟩, c', (hcell 1).trans c1, hin.grown hg (fun b off e => by cases e; exact fun e => h2 (Option.some.inj e))⟩
  · rw [List.getElem_set_ne (fun x => e x.symm)]
    exact ⟨g, j * 2, owns_cell own7 j _ ((List.getElem?_set_ne (fun x => e x.symm)).trans (ptrsOf_get g f.length j hj)), (hr.next hB7).pageAt j hj⟩
/-- The pointers as Delete takes them. -/
def ptrsD (g n k b6 : Nat) : Array (Option Addr) := ((List.range n).map fun j => if j = k then some ⟨b6, 0, none⟩ else some ⟨g, j * 2, none⟩).toArray
theorem ptrsD_size (g n k b6 : Nat) : (ptrsD g n k b6).size = n := by unfold ptrsD; simp
theorem ptrsD_get (g n k b6 j : Nat) (h : j < n) : (ptrsD g n k b6)[j]! = if j = k then some ⟨b6, 0, none⟩ else some ⟨g, j * 2, none⟩ := by
  unfold ptrsD
  rw [getElem!_pos _ j (by simpa using h)]
  simp
theorem ptrsD_holds {w6 : World} {base g gp cp k b6 n : Nat} (ho : w6.ownsRow base 91 1 (.slice (some ⟨gp, 0, none⟩) n cp) n (ptrsOf g n)) (hk : k < n) : Sort.Holds Value.pointer (w6.setCell ⟨gp, k, none⟩ (.pointer (some ⟨b6, 0, none⟩))) gp 0 (ptrsD g n k b6) := by
  have own7 := (World.ownsRow.stored ho k (.pointer (some ⟨b6, 0, none⟩))).1
  have hlp : (ptrsOf g n).length = n := ptrsOf_len g n
  intro j hj
  rw [ptrsD_size] at hj
  rw [Nat.zero_add, ptrsD_get g n k b6 j hj]
  refine ⟨?_, own_soft own7 j⟩
  by_cases e : j = k
  · subst e; rw [if_pos rfl]; exact owns_cell own7 j _ (List.getElem?_set_self (by omega))
  · rw [if_neg e]; exact owns_cell own7 j _ ((List.getElem?_set_ne (fun x => e x.symm)).trans (ptrsOf_get g n j hj))
theorem PtrP.cut {w W7 W8 : World} {g gp k b6 q : Nat} {f : List Pg} (hH : Sort.Holds Value.pointer W7 gp 0 (ptrsD g f.length k b6)) (hr : ReadP w g f) (hB : Below w.heap.size w W8) (hk : k < f.length) (hgp : gp < W8.heap.size)
    (hW : W8 = Sort.putRow Value.pointer (Sort.ahead W7 q) gp 0 ((ptrsD g f.length k b6).toList.take k ++ (ptrsD g f.length k b6).toList.drop (k + 1) ++ List.replicate (k + 1 - k) none).toArray) : PtrP W8 gp (f.eraseIdx k) := by
  have hl : (f.eraseIdx k).length = f.length - 1 := List.length_eraseIdx_of_lt hk
  have hsz := ptrsD_size g f.length k b6
  have hlen : (ptrsD g f.length k b6).toList.length = f.length := by rw [Array.length_toList]; exact hsz
  have hds : ((ptrsD g f.length k b6).toList.take k ++ (ptrsD g f.length k b6).toList.drop (k + 1) ++ List.replicate (k + 1 - k) (none : Option Addr)).toArray.size = (ptrsD g f.length k b6).size := by
    rw [List.size_toArray, hsz]; simp only [List.length_append, List.length_take, List.length_drop, List.length_replicate, hlen]; omega
  have hH' : Sort.Holds Value.pointer (Sort.ahead W7 q) gp 0 (ptrsD g f.length k b6) := hH
  have hc := fun j hj => Sort.cell?_putRow Value.pointer (Sort.ahead W7 q) gp 0 (ptrsD g f.length k b6) _ hH' hds j hj
  rw [← hW] at hc
  have hgetL : ∀ j (h : j < f.length), (ptrsD g f.length k b6).toList[j]'(by omega) = if j = k then some ⟨b6, 0, none⟩ else some ⟨g, j * 2, none⟩ := fun j h => by
    rw [← ptrsD_get g f.length k b6 j h, Array.getElem_toList, getElem!_pos _ j (by omega)]
  refine ⟨hgp, fun j hj => ?_⟩
  have hj' : j < ((ptrsD g f.length k b6).toList.take k ++ (ptrsD g f.length k b6).toList.drop (k + 1) ++ List.replicate (k + 1 - k) (none : Option Addr)).toArray.size := by rw [hds, hsz]; omega
  have hcj := hc j hj'
  rw [Nat.zero_add] at hcj
  have hx : ((ptrsD g f.length k b6).toList.take k ++ (ptrsD g f.length k b6).toList.drop (k + 1) ++ List.replicate (k + 1 - k) (none : Option Addr)).toArray[j]! = if j < k then some ⟨g, j * 2, none⟩ else some ⟨g, (j + 1) * 2, none⟩ := by
    rw [getElem!_pos _ j hj', List.getElem_toArray, List.getElem_append_left (by simp only [List.length_append, List.length_take, List.length_drop, hlen]; omega)]
    by_cases hjk : j < k
    · rw [if_pos hjk, List.getElem_append_left (by simp only [List.length_take, hlen]; omega), List.getElem_take, hgetL j (by omega), if_neg (by omega)]
    · rw [if_neg hjk, List.getElem_append_right (by simp only [List.length_take, hlen]; omega), List.getElem_drop]
      have e1 : k + 1 + (j - (List.take k (ptrsD g f.length k b6).toList).length) = j + 1 := by simp only [List.length_take, hlen]; omega
      simp only [e1]
      rw [hgetL (j + 1) (by omega), if_neg (by omega)]
  rw [hx] at hcj
  by_cases hjk : j < k
  · rw [if_pos hjk] at hcj
    rw [List.getElem_eraseIdx_of_lt _ hjk]
    exact ⟨g, j * 2, hcj, (hr.next hB).pageAt j (by omega)⟩
  · rw [if_neg hjk] at hcj
    rw [List.getElem_eraseIdx_of_ge _ (by omega)]
    exact ⟨g, (j + 1) * 2, hcj, (hr.next hB).pageAt (j + 1) (by omega)⟩

end Go.Proofs.Ytnmpfooegnmknaa.Tr
