/- A new collection: what the program and the specification answer, and what the laws' helpers answer of one that is empty. -/
import Derived.Test.YtmchpaccdnnilaaOwn
import Derived.Test.YtmchpaccdnnilaaLawVal
import Derived.Test.YtmchpaccdnnilaaSpec
import Derived.Test.YtmchpaccdnnilaaFitsW
namespace Go.Proofs.Ytmchpaccdnnilaa.Co
open Go.RowKit
set_option linter.unusedVariables false

set_option maxRecDepth 4000 in
set_option maxHeartbeats 1000000 in
theorem markChainS_zero (p : Option Addr) (c : Nat) (k : Int) (w : World) : Calls Try.prog 33 #[.slice p 0 c, .int .i64 k] w fun e w' => e = .returned (.int .i64 k) ∧ w' = w := by
  go_enter Try.func33, Try.ntmps33
  go_wp2_with fail
  go_loopw [1, 5] (fun u i wr => u = .int .i64 k ∧ i = .int .i64 0 ∧ wr = w) (fun _ _ _ => 0)
  case atStart => exact ⟨rfl, rfl, rfl⟩
  case round =>
    obtain ⟨rfl, rfl, rfl⟩ := hrel
    go_wp2_with fail
    go_ret
    exact ⟨rfl, rfl⟩
set_option maxRecDepth 4000 in
set_option maxHeartbeats 1000000 in
theorem markDefS_zero (p : Option Addr) (c : Nat) (k : Int) (w : World) : Calls Try.prog 34 #[.slice p 0 c, .int .i64 k] w fun e w' => e = .returned (.int .i64 k) ∧ w' = w := by
  go_enter Try.func34, Try.ntmps34
  go_wp2_with fail
  go_loopw [1, 5] (fun u i wr => u = .int .i64 k ∧ i = .int .i64 0 ∧ wr = w) (fun _ _ _ => 0)
  case atStart => exact ⟨rfl, rfl, rfl⟩
  case round =>
    obtain ⟨rfl, rfl, rfl⟩ := hrel
    go_wp2_with fail
    go_ret
    exact ⟨rfl, rfl⟩
set_option maxRecDepth 4000 in
set_option maxHeartbeats 1000000 in
theorem heldChainS_zero (p : Option Addr) (c : Nat) (k : Int) (w : World) : Calls Try.prog 35 #[.slice p 0 c, .int .i64 k] w fun e w' => e = .returned (.int .i64 k) ∧ w' = w := by
  go_enter Try.func35, Try.ntmps35
  go_wp2_with fail
  go_loopw [1, 5] (fun u i wr => u = .int .i64 k ∧ i = .int .i64 0 ∧ wr = w) (fun _ _ _ => 0)
  case atStart => exact ⟨rfl, rfl, rfl⟩
  case round =>
    obtain ⟨rfl, rfl, rfl⟩ := hrel
    go_wp2_with fail
    go_ret
    exact ⟨rfl, rfl⟩
set_option maxRecDepth 4000 in
set_option maxHeartbeats 1000000 in
theorem heldDefS_zero (p : Option Addr) (c : Nat) (k : Int) (w : World) : Calls Try.prog 36 #[.slice p 0 c, .int .i64 k] w fun e w' => e = .returned (.int .i64 k) ∧ w' = w := by
  go_enter Try.func36, Try.ntmps36
  go_wp2_with fail
  go_loopw [1, 5] (fun u i wr => u = .int .i64 k ∧ i = .int .i64 0 ∧ wr = w) (fun _ _ _ => 0)
  case atStart => exact ⟨rfl, rfl, rfl⟩
  case round =>
    obtain ⟨rfl, rfl, rfl⟩ := hrel
    go_wp2_with fail
    go_ret
    exact ⟨rfl, rfl⟩
set_option maxRecDepth 4000 in
set_option maxHeartbeats 1000000 in
theorem eqChainS_zero (p1 p2 : Option Addr) (c1 c2 : Nat) (w : World) : Calls Try.prog 31 #[.slice p1 0 c1, .slice p2 0 c2] w fun e w' => e = .returned (.bool true) ∧ w' = w := by
  go_enter Try.func31, Try.ntmps31
  go_wp2_with fail
  go_loopw [5] (fun i wr => i = .int .i64 0 ∧ wr = w) (fun _ _ => 0)
  case atStart => exact ⟨rfl, rfl⟩
  case round =>
    obtain ⟨rfl, rfl⟩ := hrel
    go_wp2_with fail
    go_ret
    exact ⟨rfl, rfl⟩
set_option maxRecDepth 4000 in
set_option maxHeartbeats 1000000 in
theorem eqDefS_zero (p1 p2 : Option Addr) (c1 c2 : Nat) (w : World) : Calls Try.prog 32 #[.slice p1 0 c1, .slice p2 0 c2] w fun e w' => e = .returned (.bool true) ∧ w' = w := by
  go_enter Try.func32, Try.ntmps32
  go_wp2_with fail
  go_loopw [5] (fun i wr => i = .int .i64 0 ∧ wr = w) (fun _ _ => 0)
  case atStart => exact ⟨rfl, rfl⟩
  case round =>
    obtain ⟨rfl, rfl⟩ := hrel
    go_wp2_with fail
    go_ret
    exact ⟨rfl, rfl⟩
set_option maxRecDepth 4000 in
set_option maxHeartbeats 1000000 in
theorem eqColl_zero (n : ByteArray) (p1 p2 q1 q2 : Option Addr) (c1 c2 d1 d2 : Nat) (w : World) :
    Calls Try.prog 13 #[.agg #[.string n, .slice p1 0 c1, .slice q1 0 d1], .agg #[.string n, .slice p2 0 c2, .slice q2 0 d2]] w fun e w' => e = .returned (.bool true) ∧ Below w.heap.size w w' := by
  have HC : Hid (∀ W : World, Calls _ _ _ W _) := fun W => eqChainS_zero p1 p2 c1 c2 W
  have HD : Hid (∀ W : World, Calls _ _ _ W _) := fun W => eqDefS_zero q1 q2 d1 d2 W
  go_enter Try.func13, Try.ntmps13
  go_wp2_with fail
  refine (HC.out _).mono ?_
  rintro e w1 ⟨rfl, rfl⟩
  go_wp2_with fail
  refine (HD.out _).mono ?_
  rintro e w2 ⟨rfl, rfl⟩
  go_wp2_with fail
  go_ret
  exact ⟨rfl, by (repeat (first | (with_reducible exact Below.refl _ _) | (with_reducible assumption) | (with_reducible apply below_drewN) | (with_reducible apply Below.drew) | ((with_reducible refine Below.setCell ?_ ?_ _); rotate_left; focus (first | (simp; done) | (simp; omega) | omega)) | ((with_reducible refine Below.alloc ?_ ?_ _); rotate_left; focus (first | (simp; done) | (simp; omega) | omega))))⟩
set_option maxRecDepth 4000 in
set_option maxHeartbeats 1000000 in
theorem markColl_zero (n : ByteArray) (p q : Option Addr) (c d : Nat) (w : World) :
    Calls Try.prog 14 #[.agg #[.string n, .slice p 0 c, .slice q 0 d], .int .i64 1] w fun e w' => e = .returned (.int .i64 1) ∧ Below w.heap.size w w' := by
  have HC : Hid (∀ W : World, Calls _ _ _ W _) := fun W => markChainS_zero p c 1 W
  have HD : Hid (∀ W : World, Calls _ _ _ W _) := fun W => markDefS_zero q d 1 W
  go_enter Try.func14, Try.ntmps14
  go_wp2_with fail
  refine (HC.out _).mono ?_
  rintro e w1 ⟨rfl, rfl⟩
  go_wp2_with fail
  refine (HD.out _).mono ?_
  rintro e w2 ⟨rfl, rfl⟩
  go_wp2_with fail
  go_ret
  exact ⟨rfl, by (repeat (first | (with_reducible exact Below.refl _ _) | (with_reducible assumption) | (with_reducible apply below_drewN) | (with_reducible apply Below.drew) | ((with_reducible refine Below.setCell ?_ ?_ _); rotate_left; focus (first | (simp; done) | (simp; omega) | omega)) | ((with_reducible refine Below.alloc ?_ ?_ _); rotate_left; focus (first | (simp; done) | (simp; omega) | omega))))⟩
set_option maxRecDepth 4000 in
set_option maxHeartbeats 1000000 in
theorem heldColl_zero (n : ByteArray) (p q : Option Addr) (c d : Nat) (w : World) :
    Calls Try.prog 15 #[.agg #[.string n, .slice p 0 c, .slice q 0 d], .int .i64 1] w fun e w' => e = .returned (.int .i64 1) ∧ Below w.heap.size w w' := by
  have HC : Hid (∀ W : World, Calls _ _ _ W _) := fun W => heldChainS_zero p c 1 W
  have HD : Hid (∀ W : World, Calls _ _ _ W _) := fun W => heldDefS_zero q d 1 W
  go_enter Try.func15, Try.ntmps15
  go_wp2_with fail
  refine (HC.out _).mono ?_
  rintro e w1 ⟨rfl, rfl⟩
  go_wp2_with fail
  refine (HD.out _).mono ?_
  rintro e w2 ⟨rfl, rfl⟩
  go_wp2_with fail
  go_ret
  exact ⟨rfl, by (repeat (first | (with_reducible exact Below.refl _ _) | (with_reducible assumption) | (with_reducible apply below_drewN) | (with_reducible apply Below.drew) | ((with_reducible refine Below.setCell ?_ ?_ _); rotate_left; focus (first | (simp; done) | (simp; omega) | omega)) | ((with_reducible refine Below.alloc ?_ ?_ _); rotate_left; focus (first | (simp; done) | (simp; omega) | omega))))⟩
/-- A new collection's name, and a code. -/
def newR (n : ByteArray) : ByteArray × Int := if 65536 < n.size then (em, 2) else if shortB n = true then (n, 0) else (em, 11)
/-- An empty collection of a name, and a code. -/
structure NewA (n : ByteArray) (e : Ending) : Prop where
  out : ∃ p c q d, e = .returned (.tuple #[.agg #[.string (newR n).1, .slice p 0 c, .slice q 0 d], .int .i64 (newR n).2])
structure Blk3 (W : World) (B : Nat) : Prop where
  lt : B < W.heap.size
  cb : W.heap[B]? = some (.cells #[.string em, .slice none 0 0, .slice none 0 0] 38)
theorem Blk3.new (w : World) : Blk3 (w.alloc (.cells #[.string em, .slice none 0 0, .slice none 0 0] 38)) w.heap.size := ⟨by simp, heap_alloc_new _ _⟩
theorem Blk3.step {W W' : World} {B : Nat} (h : Blk3 W B) (hb : Below W.heap.size W W') : Blk3 W' B := ⟨Nat.lt_of_lt_of_le h.lt hb.size, (hb.block _ h.lt).trans h.cb⟩
theorem Blk3.facts {W : World} {B : Nat} (h : Blk3 W B) : (W.cell? ⟨B, 0, none⟩ = some (.string em) ∧ W.cell? ⟨B, 1, none⟩ = some (.slice none 0 0) ∧ W.cell? ⟨B, 2, none⟩ = some (.slice none 0 0)) ∧ ∀ o, W.frozen? ⟨B, o, none⟩ = false := by
  refine ⟨⟨?_, ?_, ?_⟩, fun o => ?_⟩
  · simp [World.cell?, h.cb]
  · simp [World.cell?, h.cb]
  · simp [World.cell?, h.cb]
  · simp [World.frozen?, h.cb]

set_option maxRecDepth 4000 in
set_option maxHeartbeats 1000000 in
theorem implNew_any (n : ByteArray) (w : World) (hs : n.size ≤ 1048576) :
    Calls Try.prog 12 #[.string n] w fun e w' => NewA n e ∧ Below w.heap.size w w' := by
  have hb0 : Below w.heap.size w (w.alloc (.cells #[.string em, .slice none 0 0, .slice none 0 0] 38)) := (Below.refl _ _).alloc (Nat.le_refl _) _
  have K0 := Blk3.new w
  have HN : Hid (∀ W : World, Calls _ _ _ W _) := fun W => shortNameOK_any n W (by unfold maxLen; omega)
  by_cases hl : 65536 < n.size
  · have HRR : Hid (newR n = (em, 2)) := by unfold newR; rw [if_pos hl]; rfl
    have hl' : (65536 : Int) < (n.size : Int) := by omega
    clear hl
    go_enter Try.func12, Try.ntmps12
    go_wp2_with fail
    refine bodyPost_ret (v := .tuple #[.agg #[.string em, .slice none 0 0, .slice none 0 0], .int .i64 2]) (by simp [results, Try.results12, go_sem, *]) rfl ⟨⟨none, 0, none, 0, by rw [HRR.out]⟩, ?_⟩
    (repeat (first | (with_reducible exact Below.refl _ _) | (with_reducible assumption) | (with_reducible apply below_drewN) | (with_reducible apply Below.drew) | ((with_reducible refine Below.setCell ?_ ?_ _); rotate_left; focus (first | (simp; done) | (simp; omega) | omega)) | ((with_reducible refine Below.alloc ?_ ?_ _); rotate_left; focus (first | (simp; done) | (simp; omega) | omega))))
  have hl' : ¬ (65536 : Int) < (n.size : Int) := by omega
  cases hS : shortB n
  · have HRR : Hid (newR n = (em, 11)) := by unfold newR; rw [if_neg hl, hS]; rfl
    rw [hS] at HN
    clear hS hl
    go_enter Try.func12, Try.ntmps12
    go_wp2_with fail
    refine (HN.out _).mono ?_
    rintro e w1 ⟨rfl, rfl⟩
    go_wp2_with fail
    refine bodyPost_ret (v := .tuple #[.agg #[.string em, .slice none 0 0, .slice none 0 0], .int .i64 11]) (by simp [results, Try.results12, go_sem, *]) rfl ⟨⟨none, 0, none, 0, by rw [HRR.out]⟩, ?_⟩
    (repeat (first | (with_reducible exact Below.refl _ _) | (with_reducible assumption) | (with_reducible apply below_drewN) | (with_reducible apply Below.drew) | ((with_reducible refine Below.setCell ?_ ?_ _); rotate_left; focus (first | (simp; done) | (simp; omega) | omega)) | ((with_reducible refine Below.alloc ?_ ?_ _); rotate_left; focus (first | (simp; done) | (simp; omega) | omega))))
  · have HRR : Hid (newR n = (n, 0)) := by unfold newR; rw [if_neg hl, if_pos hS]; rfl
    rw [hS] at HN
    clear hS hl
    go_enter Try.func12, Try.ntmps12
    go_wp2_with fail
    refine (HN.out _).mono ?_
    rintro e w1 ⟨rfl, rfl⟩
    go_wp2_with fail
    refine (strClone_any n _ (by omega)).mono ?_
    rintro e w2 ⟨rfl, hb⟩
    have K2 := K0.step hb
    obtain ⟨⟨q0, q1, q2⟩, hq⟩ := K2.facts
    have hbw := hb0.trans (hb.mono hb0.size)
    clear hb
    go_wp2_with fail
    refine bodyPost_ret (v := .tuple #[.agg #[.string n, .slice none 0 0, .slice none 0 0], .int .i64 0]) (by simp [results, Try.results12, go_sem, *]) rfl ⟨⟨none, 0, none, 0, by rw [HRR.out]⟩, ?_⟩
    (repeat (first | (with_reducible exact Below.refl _ _) | (with_reducible assumption) | (with_reducible apply below_drewN) | (with_reducible apply Below.drew) | ((with_reducible refine Below.setCell ?_ ?_ _); rotate_left; focus (first | (simp; done) | (simp; omega) | omega)) | ((with_reducible refine Below.alloc ?_ ?_ _); rotate_left; focus (first | (simp; done) | (simp; omega) | omega))))

set_option maxRecDepth 4000 in
set_option maxHeartbeats 1000000 in
theorem l08New_any (n : ByteArray) (w : World) :
    Calls Try.prog 28 #[.string n] w fun e w' => (∃ p c q d, e = .returned (.agg #[.string n, .slice p 0 c, .slice q 0 d])) ∧ Below w.heap.size w w' := by
  go_enter Try.func28, Try.ntmps28
  go_wp2_with fail
  exact bodyPost_ret (v := .agg #[.string n, .slice (some ⟨w.heap.size + 1, 0, none⟩) 0 0, .slice (some ⟨w.heap.size + 2, 0, none⟩) 0 0]) (by simp [results, Try.results28, go_sem]) rfl ⟨⟨_, _, _, _, rfl⟩, by (repeat (first | (with_reducible exact Below.refl _ _) | (with_reducible assumption) | (with_reducible apply below_drewN) | (with_reducible apply Below.drew) | ((with_reducible refine Below.setCell ?_ ?_ _); rotate_left; focus (first | (simp; done) | (simp; omega) | omega)) | ((with_reducible refine Below.alloc ?_ ?_ _); rotate_left; focus (first | (simp; done) | (simp; omega) | omega))))⟩

set_option maxRecDepth 4000 in
set_option maxHeartbeats 1000000 in
theorem specNew_any (n : ByteArray) (w : World) (hs : n.size ≤ 1048576) :
    Calls Try.prog 11 #[.string n] w fun e w' => NewA n e ∧ Below w.heap.size w w' := by
  have hb0 : Below w.heap.size w (w.alloc (.cells #[.string em, .slice none 0 0, .slice none 0 0] 38)) := (Below.refl _ _).alloc (Nat.le_refl _) _
  have K0 := Blk3.new w
  have HN : Hid (∀ W : World, Calls _ _ _ W _) := fun W => l01Name_any n W (by unfold maxLen; omega)
  by_cases hl : 65536 < n.size
  · have HRR : Hid (newR n = (em, 2)) := by unfold newR; rw [if_pos hl]; rfl
    have hl' : (65536 : Int) < (n.size : Int) := by omega
    clear hl
    go_enter Try.func11, Try.ntmps11
    go_wp2_with fail
    refine bodyPost_ret (v := .tuple #[.agg #[.string em, .slice none 0 0, .slice none 0 0], .int .i64 2]) (by simp [results, Try.results11, go_sem, *]) rfl ⟨⟨none, 0, none, 0, by rw [HRR.out]⟩, ?_⟩
    (repeat (first | (with_reducible exact Below.refl _ _) | (with_reducible assumption) | (with_reducible apply below_drewN) | (with_reducible apply Below.drew) | ((with_reducible refine Below.setCell ?_ ?_ _); rotate_left; focus (first | (simp; done) | (simp; omega) | omega)) | ((with_reducible refine Below.alloc ?_ ?_ _); rotate_left; focus (first | (simp; done) | (simp; omega) | omega))))
  have hl' : ¬ (65536 : Int) < (n.size : Int) := by omega
  cases hS : shortB n
  · have HRR : Hid (newR n = (em, 11)) := by unfold newR; rw [if_neg hl, hS]; rfl
    rw [hS] at HN
    clear hS hl
    go_enter Try.func11, Try.ntmps11
    go_wp2_with fail
    refine (HN.out _).mono ?_
    rintro e w1 ⟨rfl, rfl⟩
    go_wp2_with fail
    refine bodyPost_ret (v := .tuple #[.agg #[.string em, .slice none 0 0, .slice none 0 0], .int .i64 11]) (by simp [results, Try.results11, go_sem, *]) rfl ⟨⟨none, 0, none, 0, by rw [HRR.out]⟩, ?_⟩
    (repeat (first | (with_reducible exact Below.refl _ _) | (with_reducible assumption) | (with_reducible apply below_drewN) | (with_reducible apply Below.drew) | ((with_reducible refine Below.setCell ?_ ?_ _); rotate_left; focus (first | (simp; done) | (simp; omega) | omega)) | ((with_reducible refine Below.alloc ?_ ?_ _); rotate_left; focus (first | (simp; done) | (simp; omega) | omega))))
  · have HRR : Hid (newR n = (n, 0)) := by unfold newR; rw [if_neg hl, if_pos hS]; rfl
    rw [hS] at HN
    clear hS hl
    go_enter Try.func11, Try.ntmps11
    go_wp2_with fail
    refine (HN.out _).mono ?_
    rintro e w1 ⟨rfl, rfl⟩
    go_wp2_with fail
    refine (l08New_any n _).mono ?_
    rintro e w2 ⟨⟨p, c, q, d, rfl⟩, hb⟩
    have K2 := K0.step hb
    obtain ⟨⟨q0, q1, q2⟩, hq⟩ := K2.facts
    have hbw := hb0.trans (hb.mono hb0.size)
    clear hb
    go_wp2_with fail
    refine bodyPost_ret (v := .tuple #[.agg #[.string n, .slice p 0 c, .slice q 0 d], .int .i64 0]) (by simp [results, Try.results11, go_sem, *]) rfl ⟨⟨p, c, q, d, by rw [HRR.out]⟩, ?_⟩
    (repeat (first | (with_reducible exact Below.refl _ _) | (with_reducible assumption) | (with_reducible apply below_drewN) | (with_reducible apply Below.drew) | ((with_reducible refine Below.setCell ?_ ?_ _); rotate_left; focus (first | (simp; done) | (simp; omega) | omega)) | ((with_reducible refine Below.alloc ?_ ?_ _); rotate_left; focus (first | (simp; done) | (simp; omega) | omega))))

/-- An empty collection in its block. -/
structure C3 (U : World) (b : Nat) (m : ByteArray) (p q : Option Addr) (c d : Nat) : Prop where
  lt : b < U.heap.size
  cb : U.heap[b]? = some (.cells #[.string m, .slice p 0 c, .slice q 0 d] 38)
theorem C3.new (U : World) (m : ByteArray) (p q : Option Addr) (c d : Nat) : C3 (U.alloc (.cells #[.string m, .slice p 0 c, .slice q 0 d] 38)) U.heap.size m p q c d := ⟨by simp, heap_alloc_new _ _⟩
theorem C3.step {U U' : World} {b : Nat} {m : ByteArray} {p q : Option Addr} {c d : Nat} (h : C3 U b m p q c d) (hb : Below U.heap.size U U') : C3 U' b m p q c d := ⟨Nat.lt_of_lt_of_le h.lt hb.size, (hb.block _ h.lt).trans h.cb⟩
theorem C3.cells {U : World} {b : Nat} {m : ByteArray} {p q : Option Addr} {c d : Nat} (h : C3 U b m p q c d) : U.cell? ⟨b, 0, none⟩ = some (.string m) ∧ U.cell? ⟨b, 1, none⟩ = some (.slice p 0 c) ∧ U.cell? ⟨b, 2, none⟩ = some (.slice q 0 d) := by
  refine ⟨?_, ?_, ?_⟩ <;> simp [World.cell?, h.cb]

end Go.Proofs.Ytmchpaccdnnilaa.Co
