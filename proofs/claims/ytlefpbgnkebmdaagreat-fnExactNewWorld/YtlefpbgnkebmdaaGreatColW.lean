/- A new collection: what the program and the specification answer, and what the laws' helpers answer of one that is empty. -/
import Derived.Test.YtlefpbgnkebmdaaGreatOwn
import Derived.Test.YtlefpbgnkebmdaaGreatLawVal
import Derived.Test.YtlefpbgnkebmdaaGreatSpec
import Derived.Test.YtlefpbgnkebmdaaGreatFitsW
namespace Go.Proofs.YtlefpbgnkebmdaaGreat.Co
open Go.RowKit
set_option linter.unusedVariables false

set_option maxRecDepth 4000 in
set_option maxHeartbeats 1000000 in
theorem markChainS_zero (p : Option Addr) (c : Nat) (k : Int) (w : World) : Calls Tryz.prog 52 #[.slice p 0 c, .int .i64 k] w fun e w' => e = .returned (.int .i64 k) ∧ w' = w := by
  go_enter Tryz.func52, Tryz.ntmps52
  go_wp2_with fail
  go_loopw [1, 5] (fun u i wr => u = .int .i64 k ∧ i = .int .i64 0 ∧ wr = w) (fun _ _ _ => 0)
  case atStart => exact ⟨rfl, rfl, rfl⟩
  case round =>
    obtain ⟨rfl, rfl, rfl⟩ := hrel
    go_wp2_with fail
    go_ret
    exact ⟨rfl, rfl⟩
set_option maxRecDepth 4000 in
set_option maxHeartbeats 1000000 in
theorem markDefS_zero (p : Option Addr) (c : Nat) (k : Int) (w : World) : Calls Tryz.prog 53 #[.slice p 0 c, .int .i64 k] w fun e w' => e = .returned (.int .i64 k) ∧ w' = w := by
  go_enter Tryz.func53, Tryz.ntmps53
  go_wp2_with fail
  go_loopw [1, 5] (fun u i wr => u = .int .i64 k ∧ i = .int .i64 0 ∧ wr = w) (fun _ _ _ => 0)
  case atStart => exact ⟨rfl, rfl, rfl⟩
  case round =>
    obtain ⟨rfl, rfl, rfl⟩ := hrel
    go_wp2_with fail
    go_ret
    exact ⟨rfl, rfl⟩
set_option maxRecDepth 4000 in
set_option maxHeartbeats 1000000 in
theorem heldChainS_zero (p : Option Addr) (c : Nat) (k : Int) (w : World) : Calls Tryz.prog 60 #[.slice p 0 c, .int .i64 k] w fun e w' => e = .returned (.int .i64 k) ∧ w' = w := by
  go_enter Tryz.func60, Tryz.ntmps60
  go_wp2_with fail
  go_loopw [1, 5] (fun u i wr => u = .int .i64 k ∧ i = .int .i64 0 ∧ wr = w) (fun _ _ _ => 0)
  case atStart => exact ⟨rfl, rfl, rfl⟩
  case round =>
    obtain ⟨rfl, rfl, rfl⟩ := hrel
    go_wp2_with fail
    go_ret
    exact ⟨rfl, rfl⟩
set_option maxRecDepth 4000 in
set_option maxHeartbeats 1000000 in
theorem heldDefS_zero (p : Option Addr) (c : Nat) (k : Int) (w : World) : Calls Tryz.prog 61 #[.slice p 0 c, .int .i64 k] w fun e w' => e = .returned (.int .i64 k) ∧ w' = w := by
  go_enter Tryz.func61, Tryz.ntmps61
  go_wp2_with fail
  go_loopw [1, 5] (fun u i wr => u = .int .i64 k ∧ i = .int .i64 0 ∧ wr = w) (fun _ _ _ => 0)
  case atStart => exact ⟨rfl, rfl, rfl⟩
  case round =>
    obtain ⟨rfl, rfl, rfl⟩ := hrel
    go_wp2_with fail
    go_ret
    exact ⟨rfl, rfl⟩
set_option maxRecDepth 4000 in
set_option maxHeartbeats 1000000 in
theorem eqChainS_zero (p1 p2 : Option Addr) (c1 c2 : Nat) (w : World) : Calls Tryz.prog 71 #[.slice p1 0 c1, .slice p2 0 c2] w fun e w' => e = .returned (.bool true) ∧ w' = w := by
  go_enter Tryz.func71, Tryz.ntmps71
  go_wp2_with fail
  go_loopw [5] (fun i wr => i = .int .i64 0 ∧ wr = w) (fun _ _ => 0)
  case atStart => exact ⟨rfl, rfl⟩
  case round =>
    obtain ⟨rfl, rfl⟩ := hrel
    go_wp2_with fail
    go_ret
    exact ⟨rfl, rfl⟩
set_option maxRecDepth 4000 in
set_option maxHeartbeats 1000000 in
theorem eqDefS_zero (p1 p2 : Option Addr) (c1 c2 : Nat) (w : World) : Calls Tryz.prog 72 #[.slice p1 0 c1, .slice p2 0 c2] w fun e w' => e = .returned (.bool true) ∧ w' = w := by
  go_enter Tryz.func72, Tryz.ntmps72
  go_wp2_with fail
  go_loopw [5] (fun i wr => i = .int .i64 0 ∧ wr = w) (fun _ _ => 0)
  case atStart => exact ⟨rfl, rfl⟩
  case round =>
    obtain ⟨rfl, rfl⟩ := hrel
    go_wp2_with fail
    go_ret
    exact ⟨rfl, rfl⟩
set_option maxRecDepth 4000 in
set_option maxHeartbeats 1000000 in
theorem eqColl_zero (n : ByteArray) (p1 p2 q1 q2 : Option Addr) (c1 c2 d1 d2 : Nat) (w : World) :
    Calls Tryz.prog 47 #[.agg #[.string n, .slice p1 0 c1, .slice q1 0 d1], .agg #[.string n, .slice p2 0 c2, .slice q2 0 d2]] w fun e w' => e = .returned (.bool true) ∧ Below w.heap.size w w' := by
  have HC : Hid (∀ W : World, Calls _ _ _ W _) := fun W => eqChainS_zero p1 p2 c1 c2 W
  have HD : Hid (∀ W : World, Calls _ _ _ W _) := fun W => eqDefS_zero q1 q2 d1 d2 W
  go_enter Tryz.func47, Tryz.ntmps47
  go_wp2_with fail
  refine (HC.out _).mono ?_
  rintro e w1 ⟨rfl, rfl⟩
  go_wp2_with fail
  refine (HD.out _).mono ?_
  rintro e w2 ⟨rfl, rfl⟩
  go_wp2_with fail
  go_ret
  exact ⟨rfl, by (repeat (first | (with_reducible exact Below.refl _ _) | (with_reducible assumption) | (with_reducible apply below_drewN) | (with_reducible apply Below.drew) | ((with_reducible refine Below.setCell ?_ ?_ _); rotate_left; focus (first | (simp; done) | (simp; omega) | omega)) | ((with_reducible refine Below.alloc ?_ ?_ _); rotate_left; focus (first | (simp; done) | (simp; omega) | omega))))⟩
/-- A new collection's name, and a code. -/
def newR (n : ByteArray) : ByteArray × Int := if 65536 < n.size then (em, 2) else if shortB n = true then (n, 0) else (em, 11)
/-- An empty collection of a name, and a code. -/
structure NewA (n : ByteArray) (e : Ending) : Prop where
  out : ∃ p c q d, e = .returned (.tuple #[.agg #[.string (newR n).1, .slice p 0 c, .slice q 0 d], .int .i64 (newR n).2])
structure Blk3 (W : World) (B : Nat) : Prop where
  lt : B < W.heap.size
  cb : W.heap[B]? = some (.cells #[.string em, .slice none 0 0, .slice none 0 0] 56)
theorem Blk3.new (w : World) : Blk3 (w.alloc (.cells #[.string em, .slice none 0 0, .slice none 0 0] 56)) w.heap.size := ⟨by simp, heap_alloc_new _ _⟩
theorem Blk3.step {W W' : World} {B : Nat} (h : Blk3 W B) (hb : Below W.heap.size W W') : Blk3 W' B := ⟨Nat.lt_of_lt_of_le h.lt hb.size, (hb.block _ h.lt).trans h.cb⟩
theorem Blk3.facts {W : World} {B : Nat} (h : Blk3 W B) : (W.cell? ⟨B, 0, none⟩ = some (.string em) ∧ W.cell? ⟨B, 1, none⟩ = some (.slice none 0 0) ∧ W.cell? ⟨B, 2, none⟩ = some (.slice none 0 0)) ∧ ∀ o, W.frozen? ⟨B, o, none⟩ = false := by
  refine ⟨⟨?_, ?_, ?_⟩, fun o => ?_⟩
  · simp [World.cell?, h.cb]
  · simp [World.cell?, h.cb]
  · simp [World.cell?, h.cb]
  · simp [World.frozen?, h.cb]

set_option maxRecDepth 4000 in
set_option maxHeartbeats 1000000 in
theorem l08New_any (n : ByteArray) (w : World) :
    Calls Tryz.prog 22 #[.string n] w fun e w' => (∃ p c q d, e = .returned (.agg #[.string n, .slice p 0 c, .slice q 0 d])) ∧ Below w.heap.size w w' := by
  go_enter Tryz.func22, Tryz.ntmps22
  go_wp2_with fail
  exact bodyPost_ret (v := .agg #[.string n, .slice (some ⟨w.heap.size + 1, 0, none⟩) 0 0, .slice (some ⟨w.heap.size + 2, 0, none⟩) 0 0]) (by simp [results, Tryz.results22, go_sem]) rfl ⟨⟨_, _, _, _, rfl⟩, by (repeat (first | (with_reducible exact Below.refl _ _) | (with_reducible assumption) | (with_reducible apply below_drewN) | (with_reducible apply Below.drew) | ((with_reducible refine Below.setCell ?_ ?_ _); rotate_left; focus (first | (simp; done) | (simp; omega) | omega)) | ((with_reducible refine Below.alloc ?_ ?_ _); rotate_left; focus (first | (simp; done) | (simp; omega) | omega))))⟩

/-- An empty collection in its block. -/
structure C3 (U : World) (b : Nat) (m : ByteArray) (p q : Option Addr) (c d : Nat) : Prop where
  lt : b < U.heap.size
  cb : U.heap[b]? = some (.cells #[.string m, .slice p 0 c, .slice q 0 d] 56)
theorem C3.new (U : World) (m : ByteArray) (p q : Option Addr) (c d : Nat) : C3 (U.alloc (.cells #[.string m, .slice p 0 c, .slice q 0 d] 56)) U.heap.size m p q c d := ⟨by simp, heap_alloc_new _ _⟩
theorem C3.step {U U' : World} {b : Nat} {m : ByteArray} {p q : Option Addr} {c d : Nat} (h : C3 U b m p q c d) (hb : Below U.heap.size U U') : C3 U' b m p q c d := ⟨Nat.lt_of_lt_of_le h.lt hb.size, (hb.block _ h.lt).trans h.cb⟩
theorem C3.cells {U : World} {b : Nat} {m : ByteArray} {p q : Option Addr} {c d : Nat} (h : C3 U b m p q c d) : U.cell? ⟨b, 0, none⟩ = some (.string m) ∧ U.cell? ⟨b, 1, none⟩ = some (.slice p 0 c) ∧ U.cell? ⟨b, 2, none⟩ = some (.slice q 0 d) := by
  refine ⟨?_, ?_, ?_⟩ <;> simp [World.cell?, h.cb]

end Go.Proofs.YtlefpbgnkebmdaaGreat.Co
