/- A new tree: what the program and the specification answer. -/
import Derived.Test.YtnmpfooegnmknaaTrR
namespace Go.Proofs.Ytnmpfooegnmknaa.Tr
open Go.RowKit
set_option linter.unusedVariables false

def newT : List Pg := [⟨1, []⟩]
theorem owns_new (W : World) (cur : Array Value) (e : TypeId) (size n base b : Nat) (hw : W.heap.size = b) (hb : base ≤ b) (hm : n ≤ maxLen) (hs : cur.size = n * size) : (W.alloc (.cells cur e)).ownsRow base e size (.slice (some ⟨b, 0, none⟩) n n) n cur.toList := by
  subst hw
  exact ⟨by simpa using hs, .inr ⟨W.heap.size, n, cur, rfl, hb, heap_alloc_new W _, Nat.le_refl _, hm, hs, by rw [← hs, ← Array.length_toList, List.take_length]⟩⟩
/-- One page without entries, in a row of its own. -/
theorem own_newT {w : World} {base b : Nat} {u : Value} (hr : w.ownsRow base 86 2 (.slice (some ⟨b, 0, none⟩) 1 1) 1 [.int .i64 1, u]) (he : OwnE w base u []) (hu : u.ownBlock = none ∨ u.ownBlock ≠ some b) : OwnT w base (.slice (some ⟨b, 0, none⟩) 1 1) newT := by
  refine ⟨fun _ => u, [.int .i64 1, u], hr, ?_, ?_, ?_, ?_⟩
  · intro i hi _
    have : i = 0 := by simp [newT] at hi; omega
    subst this; exact ⟨rfl, rfl⟩
  · intro i hi _
    have : i = 0 := by simp [newT] at hi; omega
    subst this; exact he
  · intro i j hi hj _ _ hne
    simp [newT] at hi hj; omega
  · intro i _ _; exact hu
set_option maxRecDepth 4000 in
set_option maxHeartbeats 1000000 in
theorem specNewTree_any (w : World) :
    Calls Try.prog 91 #[] w fun e w' => (∃ b, e = .returned (.agg #[.slice (some ⟨b, 0, none⟩) 1 1, .int .i64 2]) ∧ OwnT w' w.heap.size (.slice (some ⟨b, 0, none⟩) 1 1) newT) ∧ Below w.heap.size w w' := by
  go_enter Try.func91, Try.ntmps91
  go_wp2_with fail
  refine bodyPost_ret (v := .agg #[.slice (some ⟨w.heap.size + 1 + 1, 0, none⟩) 1 1, .int .i64 2]) (by simp [results, Try.results91, go_sem]) rfl ⟨⟨_, rfl, own_newT (u := .slice (some ⟨w.heap.size + 1, 0, none⟩) 0 0) ?_ ?_ (.inr (by simp [Value.ownBlock]))⟩, by (repeat (first | (with_reducible exact Below.refl _ _) | (with_reducible assumption) | (with_reducible apply below_drewN) | (with_reducible apply Below.drew) | ((with_reducible refine Below.setCell ?_ ?_ _); rotate_left; focus (first | (simp; done) | (simp; omega) | omega)) | ((with_reducible refine Below.alloc ?_ ?_ _); rotate_left; focus (first | (simp; done) | (simp; omega) | omega))))⟩
  · exact owns_new _ #[.int .i64 1, .slice (some ⟨w.heap.size + 1, 0, none⟩) 0 0] _ 2 1 _ _ (by simp) (by omega) (by unfold maxLen; omega) rfl
  · exact (owns_new _ #[] 40 2 0 _ _ (by simp) (by omega) (by unfold maxLen; omega) rfl).alloc _

end Go.Proofs.Ytnmpfooegnmknaa.Tr
