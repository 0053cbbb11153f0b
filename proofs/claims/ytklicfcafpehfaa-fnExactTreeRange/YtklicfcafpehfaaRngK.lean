/- What the law on ranges leans on: rows by their owners, a tree and an interval that are kept. -/
import Derived.Test.YtklicfcafpehfaaTrA
import Derived.Test.YtklicfcafpehfaaTrH
import Derived.Test.YtklicfcafpehfaaTrO
namespace Go.Proofs.Ytklicfcafpehfaa.Tr
open Go.RowKit
set_option linter.unusedVariables false

theorem eqEntryS_own {w : World} {b1 b2 : Nat} {v1 v2 : Value} {l : List Ent} (h1 : OwnE w b1 v1 l) (h2 : OwnE w b2 v2 l) (hlen : l.length ≤ 1048576) :
    Calls Try.prog 62 #[v1, v2] w fun e w' => e = .returned (.bool true) ∧ Below w.heap.size w w' := by
  obtain ⟨p1, c1, rfl, i1⟩ := h1.inE
  obtain ⟨p2, c2, rfl, i2⟩ := h2.inE
  exact eqEntryS_same p1 p2 c1 c2 l w i1 i2 hlen
theorem eqIntS_own {w : World} {b1 b2 : Nat} {v1 v2 : Value} {l : List Int} (h1 : OwnI w b1 v1 l) (h2 : OwnI w b2 v2 l) (hlen : l.length ≤ 1048576) :
    Calls Try.prog 63 #[v1, v2] w fun e w' => e = .returned (.bool true) ∧ Below w.heap.size w w' := by
  obtain ⟨p1, c1, rfl, i1⟩ := h1.inN
  obtain ⟨p2, c2, rfl, i2⟩ := h2.inN
  exact eqIntS_same p1 p2 c1 c2 l w i1 i2 hlen
theorem heldEntryS_own {w : World} {b : Nat} {v : Value} {q n : Nat} (h : OwnE w b v (marksE q n)) (h1 : 1 ≤ q) (h2 : q + 2 * n ≤ 17592186044416) (hl : n ≤ 1048576) :
    Calls Try.prog 66 #[v, .int .i64 q] w fun e w' => e = .returned (.int .i64 ((q + 2 * n : Nat) : Int)) ∧ Below w.heap.size w w' := by
  obtain ⟨p1, c1, rfl, i1⟩ := h.inE
  rw [marksE_len]
  exact heldEntryS_any p1 c1 n q w i1 h1 h2 hl
theorem heldIntS_own {w : World} {b : Nat} {v : Value} {q n : Nat} (h : OwnI w b v (marksN q n)) (hq : q ≤ 1048576) (hl : n ≤ 1048576) :
    Calls Try.prog 67 #[v, .int .i64 q] w fun e w' => e = .returned (.int .i64 ((q + n : Nat) : Int)) ∧ Below w.heap.size w w' := by
  obtain ⟨p1, c1, rfl, i1⟩ := h.inN
  rw [marksN_len]
  exact heldIntS_any p1 c1 n q w i1 hq hl
theorem owns_lower {B : Nat} {w w' : World} (hb : Below B w w') {base : Nat} {e : TypeId} {size : Nat} {v : Value} {n : Nat} {xs : List Value} (ho : w.ownsRow base e size v n xs) (hout : ∀ g, v.ownBlock = some g → g < B) : w'.ownsRow base e size v n xs := by
  obtain ⟨h1, h2⟩ := ho
  refine ⟨h1, ?_⟩
  rcases h2 with h2 | ⟨g, cap, cur, hv, hg, hh, r⟩
  · exact .inl h2
  · exact .inr ⟨g, cap, cur, hv, hg, by rw [hb.block g (hout g (by rw [hv]; rfl))]; exact hh, r⟩
theorem over_len (f : List Pg) (iv : Ivl) : (overP f iv).length ≤ f.length := by
  unfold overP
  rw [List.length_append, List.length_take, List.length_drop]
  have h1 : ((f.drop (loP f iv + 1)).takeWhile (goB iv)).length ≤ f.length - (loP f iv + 1) := by
    rw [← List.length_drop]; exact (List.takeWhile_prefix _).length_le
  omega
theorem over_mem (f : List Pg) (iv : Ivl) : ∀ q ∈ overP f iv, q ∈ f := by
  intro q hq
  unfold overP at hq
  rcases List.mem_append.mp hq with h | h
  · exact List.mem_of_mem_drop (List.mem_of_mem_take h)
  · exact List.mem_of_mem_drop ((List.takeWhile_prefix _).subset h)
theorem rangeE_len (f : List Pg) (next : Int) (iv : Ivl) : (rangeE f next iv).length ≤ 240 := by
  unfold rangeE
  cases hT : treeB f next
  · simp
  · rw [if_pos rfl]
    obtain ⟨⟨h1, h2, h3, h4⟩, h5, _, _⟩ := tree_parts hT
    have := entsOf_len iv (overP f iv) (fun q hq => (h5 q (over_mem f iv q hq)).1)
    have := over_len f iv
    omega
theorem rangeN_len (f : List Pg) (next : Int) (iv : Ivl) : (rangeN f next iv).length ≤ 60 := by
  unfold rangeN
  cases hT : treeB f next
  · simp
  · rw [if_pos rfl, numsOf_len]
    obtain ⟨⟨h1, h2, h3, h4⟩, h5, _, _⟩ := tree_parts hT
    have := over_len f iv
    omega
theorem keepT {w W w0 : World} {v : Value} {next : Int} {iv : Ivl} (X : BoxTI w W v next iv) (hb : Below W.heap.size W w0) :
    w0.cell? ⟨w.heap.size, 0, none⟩ = some v ∧ w0.cell? ⟨w.heap.size, 1, none⟩ = some (.int .i64 next) ∧ w0.cell? ⟨w.heap.size + 1, 0, none⟩ = some (.string iv.lo) ∧ w0.cell? ⟨w.heap.size + 1, 1, none⟩ = some (.string iv.hi) ∧ w0.cell? ⟨w.heap.size + 1, 2, none⟩ = some (.bool iv.op) :=
  ⟨(X.step hb).c0, (X.step hb).c1, (X.step hb).d0, (X.step hb).d1, (X.step hb).d2⟩
theorem keepU {w W w0 : World} {v : Value} {next : Int} {iv : Ivl} {bx : Nat} {a b : Value} (X : BoxTI w W v next iv) (m : bx < W.heap.size) (x : W.cell? ⟨bx, 0, none⟩ = some a) (y : W.cell? ⟨bx, 1, none⟩ = some b) (hb : Below W.heap.size W w0) :
    w0.cell? ⟨w.heap.size, 0, none⟩ = some v ∧ w0.cell? ⟨w.heap.size, 1, none⟩ = some (.int .i64 next) ∧ w0.cell? ⟨w.heap.size + 1, 0, none⟩ = some (.string iv.lo) ∧ w0.cell? ⟨w.heap.size + 1, 1, none⟩ = some (.string iv.hi) ∧ w0.cell? ⟨w.heap.size + 1, 2, none⟩ = some (.bool iv.op) ∧ w0.cell? ⟨bx, 0, none⟩ = some a ∧ w0.cell? ⟨bx, 1, none⟩ = some b :=
  ⟨(X.step hb).c0, (X.step hb).c1, (X.step hb).d0, (X.step hb).d1, (X.step hb).d2, (hb.cell m).trans x, (hb.cell m).trans y⟩

end Go.Proofs.Ytklicfcafpehfaa.Tr
