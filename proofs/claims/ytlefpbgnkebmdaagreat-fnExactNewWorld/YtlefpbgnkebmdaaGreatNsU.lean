/- Stores of new collections: what the laws' helpers answer. -/
import Derived.Test.YtlefpbgnkebmdaaGreatNsR
import Derived.Test.YtlefpbgnkebmdaaGreatRowS
namespace Go.Proofs.YtlefpbgnkebmdaaGreat.Ns
open Go.RowKit Tr Co
set_option linter.unusedVariables false

/-- A store in its block. -/
structure S4 (U : World) (b : Nat) (a0 a1 a2 a3 : Value) : Prop where
  lt : b < U.heap.size
  cb : U.heap[b]? = some (.cells #[a0, a1, a2, a3] 26)
theorem S4.new (U : World) (a0 a1 a2 a3 : Value) : S4 (U.alloc (.cells #[a0, a1, a2, a3] 26)) U.heap.size a0 a1 a2 a3 := ⟨by simp, heap_alloc_new _ _⟩
theorem S4.step {U U' : World} {b : Nat} {a0 a1 a2 a3 : Value} (h : S4 U b a0 a1 a2 a3) (hb : Below U.heap.size U U') : S4 U' b a0 a1 a2 a3 := ⟨Nat.lt_of_lt_of_le h.lt hb.size, (hb.block _ h.lt).trans h.cb⟩
theorem S4.cells {U : World} {b : Nat} {a0 a1 a2 a3 : Value} (h : S4 U b a0 a1 a2 a3) : U.cell? ⟨b, 0, none⟩ = some a0 ∧ U.cell? ⟨b, 1, none⟩ = some a1 ∧ U.cell? ⟨b, 2, none⟩ = some a2 ∧ U.cell? ⟨b, 3, none⟩ = some a3 := by
  refine ⟨?_, ?_, ?_, ?_⟩ <;> simp [World.cell?, h.cb]
theorem S4.soft {U : World} {b : Nat} {a0 a1 a2 a3 : Value} (h : S4 U b a0 a1 a2 a3) (o : Nat) : U.frozen? ⟨b, o, none⟩ = false := by simp [World.frozen?, h.cb]
theorem S4.out {U U' : World} {b : Nat} {a0 a1 a2 a3 : Value} {row : Option Nat} (h : S4 U b a0 a1 a2 a3) (hg : U.grownBy U' row) (hne : some b ≠ row) : S4 U' b a0 a1 a2 a3 := ⟨Nat.lt_of_lt_of_le h.lt hg.size, (hg.block _ h.lt hne).trans h.cb⟩
theorem S4.put {U : World} {b : Nat} {a0 a1 a2 a3 : Value} (h : S4 U b a0 a1 a2 a3) (v : Value) : S4 (U.setCell ⟨b, 0, none⟩ v) b v a1 a2 a3 := ⟨by simpa [World.setCell] using h.lt, by simp [World.setCell, Array.getElem?_modify, h.cb]⟩
theorem S4.off {U : World} {b c k : Nat} {a0 a1 a2 a3 : Value} (h : S4 U b a0 a1 a2 a3) (v : Value) (hne : b ≠ c) : S4 (U.setCell ⟨c, k, none⟩ v) b a0 a1 a2 a3 := ⟨by simpa [World.setCell] using h.lt, by simp [World.setCell, Array.getElem?_modify, h.cb, Ne.symm hne]⟩

set_option maxRecDepth 4000 in
set_option maxHeartbeats 1000000 in
theorem eqStore_new (p1 p2 t1 t2 d1 d2 : Option Addr) (c1 c2 x1 x2 y1 y2 : Nat) (l1 l2 : List NC) (w : World) (h1 : InN3 w p1 l1) (h2 : InN3 w p2 l2) (hn : l1.map NC.n = l2.map NC.n) (hlen : l1.length ≤ 1048576) :
    Calls Tryz.prog 14 #[.agg #[.slice p1 l1.length c1, .slice t1 0 x1, .slice d1 0 y1, .int .i64 0], .agg #[.slice p2 l2.length c2, .slice t2 0 x2, .slice d2 0 y2, .int .i64 0]] w fun e w' => e = .returned (.bool true) ∧ Below w.heap.size w w' := by
  have X0 := S4.new w (.slice p1 l1.length c1) (.slice t1 0 x1) (.slice d1 0 y1) (.int .i64 0)
  have hA : Below w.heap.size w (w.alloc (.cells #[.slice p1 l1.length c1, .slice t1 0 x1, .slice d1 0 y1, .int .i64 0] 26)) := (Below.refl _ _).alloc (Nat.le_refl _) _
  have hsz : (w.alloc (.cells #[.slice p1 l1.length c1, .slice t1 0 x1, .slice d1 0 y1, .int .i64 0] 26)).heap.size = w.heap.size + 1 := by simp
  have Y0 := S4.new (w.alloc (.cells #[.slice p1 l1.length c1, .slice t1 0 x1, .slice d1 0 y1, .int .i64 0] 26)) (.slice p2 l2.length c2) (.slice t2 0 x2) (.slice d2 0 y2) (.int .i64 0)
  have hB : Below (w.heap.size + 1) (w.alloc (.cells #[.slice p1 l1.length c1, .slice t1 0 x1, .slice d1 0 y1, .int .i64 0] 26)) ((w.alloc (.cells #[.slice p1 l1.length c1, .slice t1 0 x1, .slice d1 0 y1, .int .i64 0] 26)).alloc (.cells #[.slice p2 l2.length c2, .slice t2 0 x2, .slice d2 0 y2, .int .i64 0] 26)) := (Below.refl _ _).alloc (by simp) _
  have X1 := X0.step (hsz ▸ hB)
  have hAB := hA.trans (hB.mono (by omega))
  rw [hsz] at Y0
  have HC : Hid (∀ W : World, Below w.heap.size w W → Calls _ _ _ W _) := fun W hW => eqCollS_new p1 p2 c1 c2 l1 l2 W (h1.step hW) (h2.step hW) hn hlen
  have HT : Hid (∀ W : World, Calls _ _ _ W _) := fun W => eqTxnS_none t1 t2 x1 x2 W
  have HD : Hid (∀ W : World, Calls _ _ _ W _) := fun W => eqDoneS_none d1 d2 y1 y2 W
  clear hA hB hsz X0 h1 h2 hn
  go_enter Tryz.func14, Tryz.ntmps14
  go_wp2_with fail
  refine (HC.out _ hAB).mono ?_
  rintro e w1 ⟨rfl, hb⟩
  have X2 := X1.step hb
  have Y2 := Y0.step hb
  have hbw := hAB.trans (hb.mono hAB.size)
  obtain ⟨k0, k1, k2, k3⟩ := X2.cells
  obtain ⟨m0, m1, m2, m3⟩ := Y2.cells
  have el := X2.lt
  have ml := Y2.lt
  clear hb X1 Y0 hAB HC
  go_wp2_with fail
  refine (HT.out _).mono ?_
  rintro e w2 ⟨rfl, rfl⟩
  go_wp2_with fail
  refine (HD.out _).mono ?_
  rintro e w3 ⟨rfl, rfl⟩
  go_wp2_with fail
  go_ret
  exact ⟨rfl, hbw⟩
set_option maxRecDepth 4000 in
set_option maxHeartbeats 1000000 in
theorem markStore_new (base : Nat) (p t d : Option Addr) (c x y : Nat) (l : List NC) (w : World) (hown : OwnN w base (.slice p l.length c) l) (hbase : base ≤ w.heap.size) (hl : l.length ≤ 1000) :
    Calls Tryz.prog 16 #[.agg #[.slice p l.length c, .slice t 0 x, .slice d 0 y, .int .i64 0], .int .i64 1] w fun e w' => e = .returned (.int .i64 ((1 + l.length : Nat) : Int)) ∧ OwnN w' base (.slice p l.length c) (markMixC 1 l l.length) ∧ w.grownBy w' (Value.slice p l.length c).ownBlock := by
  have hA : Below w.heap.size w (w.alloc (.cells #[.slice p l.length c, .slice t 0 x, .slice d 0 y, .int .i64 0] 26)) := (Below.refl _ _).alloc (Nat.le_refl _) _
  have X0 := S4.new w (.slice p l.length c) (.slice t 0 x) (.slice d 0 y) (.int .i64 0)
  have hlt := fun g h => (World.ownsRow.lt hown g h).2
  have HC : Hid (Calls _ _ _ _ _) := markCollS_new base (.slice p l.length c) l 1 (w.alloc (.cells #[.slice p l.length c, .slice t 0 x, .slice d 0 y, .int .i64 0] 26)) (owns_below hown hA) (by omega) (by omega) (by omega)
  have HT : Hid (∀ (k : Int) (W : World), Calls _ _ _ W _) := fun k W => markTxnS_none t x k W
  have HD : Hid (∀ (k : Int) (W : World), Calls _ _ _ W _) := fun k W => markDoneS_none d y k W
  have HL : Hid (∀ g, (Value.slice p l.length c).ownBlock = some g → g < w.heap.size) := hlt
  have HA : Hid (World.grownBy _ _ (Value.slice p l.length c).ownBlock) := grown_below hA
  clear hown hlt hA
  go_enter Tryz.func16, Tryz.ntmps16
  go_wp2_with fail
  refine HC.out.mono ?_
  rintro e w1 ⟨rfl, O1, hg⟩
  have X1 := X0.out hg (fun e => by have := HL.out _ e.symm; omega)
  obtain ⟨k0, k1, k2, k3⟩ := X1.cells
  have el := X1.lt
  have HO : Hid (OwnN _ _ _ _) := O1
  have HG : Hid (World.grownBy _ _ _) := grown_trans HA.out hg
  clear O1 hg X0 HC HA
  go_wp2_with fail
  refine (HT.out _ _).mono ?_
  rintro e w2 ⟨rfl, rfl⟩
  go_wp2_with fail
  refine (HD.out _ _).mono ?_
  rintro e w3 ⟨rfl, rfl⟩
  go_wp2_with fail
  go_ret
  exact ⟨rfl, HO.out, HG.out⟩
set_option maxRecDepth 4000 in
set_option maxHeartbeats 1000000 in
theorem heldStore_new (p t d : Option Addr) (c x y : Nat) (l : List NC) (w : World) (hr : InN3 w p (markMixC 1 l l.length)) (hl : l.length ≤ 1000) :
    Calls Tryz.prog 18 #[.agg #[.slice p l.length c, .slice t 0 x, .slice d 0 y, .int .i64 0], .int .i64 1] w fun e w' => e = .returned (.int .i64 ((1 + l.length : Nat) : Int)) ∧ Below w.heap.size w w' := by
  have hA : Below w.heap.size w (w.alloc (.cells #[.slice p l.length c, .slice t 0 x, .slice d 0 y, .int .i64 0] 26)) := (Below.refl _ _).alloc (Nat.le_refl _) _
  have X0 := S4.new w (.slice p l.length c) (.slice t 0 x) (.slice d 0 y) (.int .i64 0)
  have HC : Hid (∀ W : World, Below w.heap.size w W → Calls _ _ _ W _) := fun W hW => heldCollS_new p c l 1 W (hr.step hW) (by omega) (by omega) (by omega)
  have HT : Hid (∀ (k : Int) (W : World), Calls _ _ _ W _) := fun k W => heldTxnS_none t x k W
  have HD : Hid (∀ (k : Int) (W : World), Calls _ _ _ W _) := fun k W => heldDoneS_none d y k W
  have hn : ¬ (((1 + l.length : Nat) : Int) < 0) := by omega
  have hn2 : ¬ (1 + (l.length : Int) < 0) := by omega
  clear hr
  go_enter Tryz.func18, Tryz.ntmps18
  go_wp2_with fail
  refine (HC.out _ hA).mono ?_
  rintro e w1 ⟨rfl, hb⟩
  have X1 := X0.step hb
  obtain ⟨k0, k1, k2, k3⟩ := X1.cells
  have el := X1.lt
  have hbw := hA.trans (hb.mono hA.size)
  clear hb X0 HC hA
  go_wp2_with fail
  refine (HT.out _ _).mono ?_
  rintro e w2 ⟨rfl, rfl⟩
  go_wp2_with fail
  refine (HD.out _ _).mono ?_
  rintro e w3 ⟨rfl, rfl⟩
  go_wp2_with fail
  go_ret
  exact ⟨rfl, hbw⟩

end Go.Proofs.YtlefpbgnkebmdaaGreat.Ns
