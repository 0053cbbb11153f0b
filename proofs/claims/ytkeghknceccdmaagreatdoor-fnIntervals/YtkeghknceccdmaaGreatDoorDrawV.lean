/- What the specification's drawn values are: right ones; of what lay there, the source alone has changed. -/
import Derived.Test.YtkeghknceccdmaaGreatDoorDrawB
import Derived.Test.YtkeghknceccdmaaGreatDoorListS
import Derived.Test.YtkeghknceccdmaaGreatDoorRowF
import Derived.Maps.Range
namespace Go.Proofs.YtkeghknceccdmaaGreatDoor
open Go.RowKit
set_option linter.unusedVariables false

theorem ok_null : okB ⟨0, 0, em⟩ = true := by unfold okB; rw [fits_base 5 _ (by show (0 : Int) ≠ 4; decide) (by show (0 : Int) ≠ 5; decide)]; rfl
theorem ok_bool (n : Int) (h : n = 0 ∨ n = 1) : okB ⟨1, n, em⟩ = true := by
  unfold okB; rw [fits_base 5 _ (by show (1 : Int) ≠ 4; decide) (by show (1 : Int) ≠ 5; decide)]
  rcases h with rfl | rfl <;> rfl
theorem ok_int (n : Int) (h0 : -1000000000000 ≤ n) (h1 : n ≤ 1000000000000) : okB ⟨2, n, em⟩ = true := by
  unfold okB; rw [fits_base 5 _ (by show (2 : Int) ≠ 4; decide) (by show (2 : Int) ≠ 5; decide)]
  have e : base ⟨2, n, em⟩ = decide (-1000000000000 ≤ n ∧ n ≤ 1000000000000 ∧ em.size = 0) := rfl
  rw [e, decide_eq_true_eq]
  exact ⟨h0, h1, rfl⟩
theorem ok_text (t : ByteArray) (h : t.size ≤ 300) : okB ⟨3, 0, t⟩ = true := by
  unfold okB; rw [fits_base 5 _ (by show (3 : Int) ≠ 4; decide) (by show (3 : Int) ≠ 5; decide)]
  have e : base ⟨3, 0, t⟩ = decide ((0 : Int) = 0 ∧ t.size ≤ 300) := rfl
  rw [e, decide_eq_true_eq]
  exact ⟨rfl, h⟩

set_option maxRecDepth 4000 in
set_option maxHeartbeats 1000000 in
theorem l01Int_any (n : Int) (w : World) : Calls Tryz.prog 106 #[.int .i64 n] w fun e w' => e = .returned (.agg #[.int .i64 2, .int .i64 n, .string em]) ∧ Below w.heap.size w w' := by
  go_enter Tryz.func106, Tryz.ntmps106
  go_wp2_with fail
  refine bodyPost_ret (v := .agg #[.int .i64 2, .int .i64 n, .string em]) (by simp [results, Tryz.results106, go_sem, *]) rfl ⟨rfl, ?_⟩
  (repeat (first | (with_reducible exact Below.refl _ _) | (with_reducible assumption) | (with_reducible apply below_drewN) | (with_reducible apply Below.drew) | ((with_reducible refine Below.setCell ?_ ?_ _); rotate_left; focus (first | (simp; done) | (simp; omega) | omega)) | ((with_reducible refine Below.alloc ?_ ?_ _); rotate_left; focus (first | (simp; done) | (simp; omega) | omega))))
set_option maxRecDepth 4000 in
set_option maxHeartbeats 1000000 in
theorem l01Text_any (t : ByteArray) (w : World) : Calls Tryz.prog 107 #[.string t] w fun e w' => e = .returned (.agg #[.int .i64 3, .int .i64 0, .string t]) ∧ Below w.heap.size w w' := by
  go_enter Tryz.func107, Tryz.ntmps107
  go_wp2_with fail
  refine bodyPost_ret (v := .agg #[.int .i64 3, .int .i64 0, .string t]) (by simp [results, Tryz.results107, go_sem, *]) rfl ⟨rfl, ?_⟩
  (repeat (first | (with_reducible exact Below.refl _ _) | (with_reducible assumption) | (with_reducible apply below_drewN) | (with_reducible apply Below.drew) | ((with_reducible refine Below.setCell ?_ ?_ _); rotate_left; focus (first | (simp; done) | (simp; omega) | omega)) | ((with_reducible refine Below.alloc ?_ ?_ _); rotate_left; focus (first | (simp; done) | (simp; omega) | omega))))

theorem grown_below {W W' : World} (hb : Below W.heap.size W W') : W.grownBy W' none := ⟨hb.os, hb.tape, hb.output, hb.size, fun k hk _ => hb.block k hk⟩
theorem grown_up {w W W' : World} {g : Nat} {row : Option Nat} (h : w.grownBy W (some g)) (k : W.grownBy W' row) (hr : ∀ j, row = some j → w.heap.size ≤ j) : w.grownBy W' (some g) := h.andThen k (fun j hj => .inl (hr j hj))
/-- A call that draws: the source, and the cells of the answer, which lie ahead of all that the call has made besides. -/
structure DrawX (w W : World) (g : Nat) (x : Option Addr) (cap : Nat) (zs : List Int) (a : Nat) : Prop where
  drew : Drew w g x cap zs a W
  blk : W.heap[w.heap.size]? = some (.cells #[.int .i64 0, .int .i64 0, .string em] 28)
section
variable {w W W' : World} {g : Nat} {x : Option Addr} {cap : Nat} {zs : List Int} {a b : Nat}
theorem DrawX.lt (X : DrawX w W g x cap zs a) : w.heap.size < W.heap.size := (Array.getElem?_eq_some_iff.1 X.blk).1
theorem DrawX.cells (X : DrawX w W g x cap zs a) : W.cell? ⟨w.heap.size, 0, none⟩ = some (.int .i64 0) ∧ W.cell? ⟨w.heap.size, 1, none⟩ = some (.int .i64 0) ∧ W.cell? ⟨w.heap.size, 2, none⟩ = some (.string em) ∧ W.frozen? ⟨w.heap.size, 0, none⟩ = false ∧ W.frozen? ⟨w.heap.size, 1, none⟩ = false ∧ W.frozen? ⟨w.heap.size, 2, none⟩ = false := by
  have h := X.blk
  refine ⟨?_, ?_, ?_, ?_, ?_, ?_⟩ <;> simp [World.cell?, World.frozen?, h]
theorem DrawX.start (h : SrcAt w g x cap zs a) : DrawX w (w.alloc (.cells #[.int .i64 0, .int .i64 0, .string em] 28)) g x cap zs a := by
  have hb : Below w.heap.size w (w.alloc (.cells #[.int .i64 0, .int .i64 0, .string em] 28)) := (Below.refl _ _).alloc (Nat.le_refl _) _
  have hg : w.grownBy (w.alloc (.cells #[.int .i64 0, .int .i64 0, .string em] 28)) (some g) := (grown_below hb).but _
  obtain ⟨k, s, h1, h2, h3⟩ := h.block
  exact ⟨⟨hg, ⟨⟨k, s, h1, h2, (hb.block g h.lt).trans h3⟩, h.code.next hg⟩⟩, heap_alloc_new w _⟩
theorem DrawX.grown (X : DrawX w W g x cap zs a) (hc : CodeAt w g x zs) (hg : g < w.heap.size) {row : Option Nat} (k : W.grownBy W' row) (hr : ∀ j, row = some j → w.heap.size < j) : DrawX w W' g x cap zs a := by
  have h1 : w.grownBy W' (some g) := grown_up X.drew.1 k (fun j hj => Nat.le_of_lt (hr j hj))
  obtain ⟨p, s, e1, e2, e3⟩ := X.drew.2.block
  have hl := X.lt
  refine ⟨⟨h1, ⟨⟨p, s, e1, e2, (k.block g (by omega) (fun e => by have := hr g e.symm; omega)).trans e3⟩, hc.next h1⟩⟩, (k.block _ hl (fun e => by have := hr _ e.symm; omega)).trans X.blk⟩
theorem DrawX.below (X : DrawX w W g x cap zs a) (hc : CodeAt w g x zs) (hg : g < w.heap.size) (hb : Below W.heap.size W W') : DrawX w W' g x cap zs a := X.grown hc hg (grown_below hb) (fun _ h => by cases h)
theorem DrawX.step (X : DrawX w W g x cap zs a) (hg : g < w.heap.size) (d : Drew W g x cap zs b W') : DrawX w W' g x cap zs b :=
  ⟨X.drew.trans d, (d.1.block _ X.lt (fun e => by injection e with e; omega)).trans X.blk⟩
theorem Drew.setR (hc : CodeAt w g x zs) (hg : g < w.heap.size) (h : Drew w g x cap zs a W) (o : Nat) (v : Value) : Drew w g x cap zs a (W.setCell ⟨w.heap.size, o, none⟩ v) := by
  have h1 : w.grownBy (W.setCell ⟨w.heap.size, o, none⟩ v) (some g) := grown_up h.1 grown_set (fun j hj => by injection hj with hj; omega)
  obtain ⟨p, s, e1, e2, e3⟩ := h.2.block
  exact ⟨h1, ⟨⟨p, s, e1, e2, (grown_set.block g h.2.lt (fun e => by injection e with e; omega)).trans e3⟩, hc.next h1⟩⟩
theorem DrawX.fin (X : DrawX w W g x cap zs a) (hc : CodeAt w g x zs) (hg : g < w.heap.size) (hab : a ≤ b) (v0 v1 v2 : Value) : Drew w g x cap zs b (((W.setCell ⟨w.heap.size, 0, none⟩ v0).setCell ⟨w.heap.size, 1, none⟩ v1).setCell ⟨w.heap.size, 2, none⟩ v2) := by
  have h := Drew.setR hc hg (Drew.setR hc hg (Drew.setR hc hg X.drew 0 v0) 1 v1) 2 v2
  exact ⟨h.1, h.2.mono hab⟩
theorem Drew.more (h : Drew w g x cap zs a W) (hab : a ≤ b) : Drew w g x cap zs b W := ⟨h.1, h.2.mono hab⟩
end

def costV : Nat → Nat
  | 0 => 10
  | d + 1 => 30 + 5 * costV d
def ValAt (d : Nat) : Prop := ∀ (g : Nat) (x : Option Addr) (cap : Nat) (zs : List Int) (a : Nat) (w : World), SrcAt w g x cap zs a → a + costV d ≤ 100000 →
    Calls Tryz.prog 48 #[.pointer (some ⟨g, 0, none⟩), .int .i64 d] w fun e w' => (∃ v : Val, e = .returned (.agg #[.int .i64 v.k, .int .i64 v.n, .string v.t]) ∧ okB v = true) ∧ Drew w g x cap zs (a + costV d) w'
def DocAt (d : Nat) : Prop := ∀ (g : Nat) (x : Option Addr) (cap : Nat) (zs : List Int) (a : Nat) (w : World), SrcAt w g x cap zs a → a + 4 * (1 + costV d) ≤ 100000 →
    Calls Tryz.prog 110 #[.pointer (some ⟨g, 0, none⟩), .int .i64 d] w fun e w' => (∃ v : Val, e = .returned (.agg #[.int .i64 v.k, .int .i64 v.n, .string v.t]) ∧ okB v = true ∧ v.k = 5) ∧ Drew w g x cap zs (a + 4 * (1 + costV d)) w'

set_option maxRecDepth 4000 in
set_option maxHeartbeats 2000000 in
theorem val_zero : ValAt 0 := by
  intro g x cap zs a w h ha
  have hg := h.lt
  have HC : Hid (CodeAt _ _ _ _) := h.code
  have ha' : a + 10 ≤ 100000 := ha
  show Calls _ _ _ _ fun e w' => _ ∧ Drew w g x cap zs (a + 10) w'
  have X0 := DrawX.start h
  have HX0 : Hid _ := X0
  clear h X0 ha
  go_enter Tryz.func48, Tryz.ntmps48
  go_wp2_with fail
  refine (next_any g x cap zs a 8 _ HX0.out.drew.2 (by omega) (by omega) (by omega)).mono ?_
  rintro e w1 ⟨⟨z, rfl, hz⟩, d1⟩
  have HX1 : Hid _ := HX0.out.step hg d1
  clear d1 HX0
  go_wp2_with fail
  refine (next_any g x cap zs (a + 1) 6 _ HX1.out.drew.2 (by omega) (by omega) (by omega)).mono ?_
  rintro e w2 ⟨⟨z2, rfl, hz2⟩, d2⟩
  have HX2 : Hid _ := HX1.out.step hg d2
  clear d2 HX1 hz
  rcases (show z2 = 0 ∨ z2 = 1 ∨ z2 = 2 ∨ z2 = 3 ∨ z2 = 4 ∨ z2 = 5 by omega) with rfl | rfl | rfl | rfl | rfl | rfl
  case inl =>
    obtain ⟨c0, c1, c2, f0, f1, f2⟩ := HX2.out.cells
    go_wp2_with fail
    refine bodyPost_ret (v := .agg #[.int .i64 0, .int .i64 0, .string em]) (by simp [results, Tryz.results48, go_sem, *]) rfl ⟨⟨⟨0, 0, em⟩, rfl, ok_null⟩, ?_⟩
    exact HX2.out.fin HC.out hg (by omega) _ _ _
  case inr.inl =>
    go_wp2_with fail
    refine (next_any g x cap zs (a + 1 + 1) 2 _ HX2.out.drew.2 (by omega) (by omega) (by omega)).mono ?_
    rintro e w3 ⟨⟨z3, rfl, hz3⟩, d3⟩
    have HX3 : Hid _ := HX2.out.step hg d3
    obtain ⟨c0, c1, c2, f0, f1, f2⟩ := HX3.out.cells
    clear d3
    go_wp2_with fail
    refine bodyPost_ret (v := .agg #[.int .i64 1, .int .i64 z3, .string em]) (by simp [results, Tryz.results48, go_sem, *]) rfl ⟨⟨⟨1, z3, em⟩, rfl, ok_bool _ (by omega)⟩, ?_⟩
    exact HX3.out.fin HC.out hg (by omega) _ _ _
  case inr.inr.inl =>
    go_wp2_with fail
    refine (next_any g x cap zs (a + 1 + 1) 9 _ HX2.out.drew.2 (by omega) (by omega) (by omega)).mono ?_
    rintro e w3 ⟨⟨z3, rfl, hz3⟩, d3⟩
    have HX3 : Hid _ := HX2.out.step hg d3
    clear d3
    go_wp2_with fail
    refine (l01Int_any ((z3 : Int) - 3) _).mono ?_
    rintro e w4 ⟨rfl, hb⟩
    have HX4 : Hid _ := HX3.out.below HC.out hg hb
    obtain ⟨c0, c1, c2, f0, f1, f2⟩ := HX4.out.cells
    clear hb
    go_wp2_with fail
    refine bodyPost_ret (v := .agg #[.int .i64 2, .int .i64 ((z3 : Int) - 3), .string em]) (by simp [results, Tryz.results48, go_sem, *]) rfl ⟨⟨⟨2, ((z3 : Int) - 3), em⟩, rfl, ok_int _ (by omega) (by omega)⟩, ?_⟩
    exact HX4.out.fin HC.out hg (by omega) _ _ _
  case inr.inr.inr.inl =>
    go_wp2_with fail
    refine (next_any g x cap zs (a + 1 + 1) 9 _ HX2.out.drew.2 (by omega) (by omega) (by omega)).mono ?_
    rintro e w3 ⟨⟨z3, rfl, hz3⟩, d3⟩
    have HX3 : Hid _ := HX2.out.step hg d3
    clear d3
    go_wp2_with fail
    refine (l01Int_any ((z3 : Int) - 3) _).mono ?_
    rintro e w4 ⟨rfl, hb⟩
    have HX4 : Hid _ := HX3.out.below HC.out hg hb
    obtain ⟨c0, c1, c2, f0, f1, f2⟩ := HX4.out.cells
    clear hb
    go_wp2_with fail
    refine bodyPost_ret (v := .agg #[.int .i64 2, .int .i64 ((z3 : Int) - 3), .string em]) (by simp [results, Tryz.results48, go_sem, *]) rfl ⟨⟨⟨2, ((z3 : Int) - 3), em⟩, rfl, ok_int _ (by omega) (by omega)⟩, ?_⟩
    exact HX4.out.fin HC.out hg (by omega) _ _ _
  case inr.inr.inr.inr.inl =>
    have HX3 : Hid _ := HX2.out.below HC.out hg ((Below.refl _ _).alloc (Nat.le_refl _) (.cells #[.string ⟨#[]⟩, .string ⟨#[97]⟩, .string ⟨#[97, 98]⟩, .string ⟨#[98]⟩, .string ⟨#[0]⟩] 9))
    have hgl : g < w2.heap.size := by have := HX2.out.lt; omega
    go_wp2_with fail
    refine (pick_any g x cap zs (a + 1 + 1) w2.heap.size 5 [⟨#[]⟩, ⟨#[97]⟩, ⟨#[97, 98]⟩, ⟨#[98]⟩, ⟨#[0]⟩] _ HX3.out.drew.2 (by omega) (by decide) (by decide) (by omega) (by
      intro i hi
      rcases (show i = 0 ∨ i = 1 ∨ i = 2 ∨ i = 3 ∨ i = 4 by simp at hi; omega) with rfl | rfl | rfl | rfl | rfl <;> simp [go_sem])).mono ?_
    rintro e w3 ⟨⟨t, ht, rfl⟩, d3⟩
    have hts : t.size ≤ 300 := by simp at ht; rcases ht with rfl | rfl | rfl | rfl | rfl <;> decide
    have HX4 : Hid _ := HX3.out.step hg d3
    clear d3 ht
    go_wp2_with fail
    refine (l01Text_any t _).mono ?_
    rintro e w4 ⟨rfl, hb⟩
    have HX5 : Hid _ := HX4.out.below HC.out hg hb
    obtain ⟨c0, c1, c2, f0, f1, f2⟩ := HX5.out.cells
    clear hb
    go_wp2_with fail
    refine bodyPost_ret (v := .agg #[.int .i64 3, .int .i64 0, .string t]) (by simp [results, Tryz.results48, go_sem, *]) rfl ⟨⟨⟨3, 0, t⟩, rfl, ok_text _ hts⟩, ?_⟩
    exact HX5.out.fin HC.out hg (by omega) _ _ _
  case inr.inr.inr.inr.inr =>
    have HX3 : Hid _ := HX2.out.below HC.out hg ((Below.refl _ _).alloc (Nat.le_refl _) (.cells #[.int .i64 1000000000000, .int .i64 (-1000000000000), .int .i64 300] 3))
    have hgl : g < w2.heap.size := by have := HX2.out.lt; omega
    go_wp2_with fail
    refine (next_any g x cap zs (a + 1 + 1) 3 _ HX3.out.drew.2 (by omega) (by omega) (by omega)).mono ?_
    rintro e w3 ⟨⟨z3, rfl, hz3⟩, d3⟩
    have HX4 : Hid _ := HX3.out.step hg d3
    obtain ⟨N, hN0, hN1, hN⟩ : ∃ N : Int, -1000000000000 ≤ N ∧ N ≤ 1000000000000 ∧ w3.cell? ⟨w2.heap.size, z3, none⟩ = some (.int .i64 N) := by
      rcases (show z3 = 0 ∨ z3 = 1 ∨ z3 = 2 by omega) with rfl | rfl | rfl
      · exact ⟨1000000000000, by omega, by omega, d3.1.cell (by simp [go_sem]) (by intro e; injection e with e; simp at e; omega)⟩
      · exact ⟨-1000000000000, by omega, by omega, d3.1.cell (by simp [go_sem]) (by intro e; injection e with e; simp at e; omega)⟩
      · exact ⟨300, by omega, by omega, d3.1.cell (by simp [go_sem]) (by intro e; injection e with e; simp at e; omega)⟩
    clear d3
    go_wp2_with fail
    refine (l01Int_any N _).mono ?_
    rintro e w4 ⟨rfl, hb⟩
    have HX5 : Hid _ := HX4.out.below HC.out hg hb
    obtain ⟨c0, c1, c2, f0, f1, f2⟩ := HX5.out.cells
    clear hb
    go_wp2_with fail
    refine bodyPost_ret (v := .agg #[.int .i64 2, .int .i64 N, .string em]) (by simp [results, Tryz.results48, go_sem, *]) rfl ⟨⟨⟨2, N, em⟩, rfl, ok_int _ hN0 hN1⟩, ?_⟩
    exact HX5.out.fin HC.out hg (by omega) _ _ _

end Go.Proofs.YtkeghknceccdmaaGreatDoor
