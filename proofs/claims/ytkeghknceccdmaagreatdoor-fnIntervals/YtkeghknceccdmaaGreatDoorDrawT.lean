/- What the specification's drawn term is: a right one; all that lay there is as it was. -/
import Derived.Test.YtkeghknceccdmaaGreatDoorDrawS
import Derived.Test.YtkeghknceccdmaaGreatDoorRowT
import Derived.Test.YtkeghknceccdmaaGreatDoorTermW
import Derived.Test.YtkeghknceccdmaaGreatDoorListS
namespace Go.Proofs.YtkeghknceccdmaaGreatDoor
open Go.RowKit
set_option linter.unusedVariables false

set_option maxRecDepth 4000 in
set_option maxHeartbeats 2000000 in
theorem val_plain (g : Nat) (x : Option Addr) (cap : Nat) (zs : List Int) (a : Nat) (w : World) (h : SrcAt w g x cap zs a) (ha : a + 10 ≤ 100000) :
    Calls Tryz.prog 48 #[.pointer (some ⟨g, 0, none⟩), .int .i64 0] w fun e w' => (∃ v : Val, e = .returned (.agg #[.int .i64 v.k, .int .i64 v.n, .string v.t]) ∧ okB v = true ∧ v.k < 4 ∧ v.t.size ≤ 2) ∧ Drew w g x cap zs (a + 10) w' := by
  have hg := h.lt
  have HC : Hid (CodeAt _ _ _ _) := h.code
  have ha' := ha
  have X0 := DrawX.start h
  have HX0 : Hid _ := X0
  clear h X0 ha
  go_enter Tryz.func48, Tryz.ntmps48
  go_wp2_with fail
  refine (next_any g x cap zs a 8 _ HX0.out.drew.2 (by omega) (by omega) (by omega)).mono ?_
  rintro e w1 ⟨⟨z, rfl, hz⟩, d1⟩
  have HX1 : Hid _ := HX0.out.step hg d1
  clear d1 HX0
  go_wp2_with fail
  refine (next_any g x cap zs (a + 1) 6 _ HX1.out.drew.2 (by omega) (by omega) (by omega)).mono ?_
  rintro e w2 ⟨⟨z2, rfl, hz2⟩, d2⟩
  have HX2 : Hid _ := HX1.out.step hg d2
  clear d2 HX1 hz
  rcases (show z2 = 0 ∨ z2 = 1 ∨ z2 = 2 ∨ z2 = 3 ∨ z2 = 4 ∨ z2 = 5 by omega) with rfl | rfl | rfl | rfl | rfl | rfl
  case inl =>
    obtain ⟨c0, c1, c2, f0, f1, f2⟩ := HX2.out.cells
    go_wp2_with fail
    refine bodyPost_ret (v := .agg #[.int .i64 0, .int .i64 0, .string em]) (by simp [results, Tryz.results48, go_sem, *]) rfl ⟨⟨⟨0, 0, em⟩, rfl, ok_null, by decide, by decide⟩, ?_⟩
    exact HX2.out.fin HC.out hg (by omega) _ _ _
  case inr.inl =>
    go_wp2_with fail
    refine (next_any g x cap zs (a + 1 + 1) 2 _ HX2.out.drew.2 (by omega) (by omega) (by omega)).mono ?_
    rintro e w3 ⟨⟨z3, rfl, hz3⟩, d3⟩
    have HX3 : Hid _ := HX2.out.step hg d3
    obtain ⟨c0, c1, c2, f0, f1, f2⟩ := HX3.out.cells
    clear d3
    go_wp2_with fail
    refine bodyPost_ret (v := .agg #[.int .i64 1, .int .i64 z3, .string em]) (by simp [results, Tryz.results48, go_sem, *]) rfl ⟨⟨⟨1, z3, em⟩, rfl, ok_bool _ (by omega), (show (1 : Int) < 4 by decide), (show em.size ≤ 2 by decide)⟩, ?_⟩
    exact HX3.out.fin HC.out hg (by omega) _ _ _
  case inr.inr.inl =>
    go_wp2_with fail
    refine (next_any g x cap zs (a + 1 + 1) 9 _ HX2.out.drew.2 (by omega) (by omega) (by omega)).mono ?_
    rintro e w3 ⟨⟨z3, rfl, hz3⟩, d3⟩
    have HX3 : Hid _ := HX2.out.step hg d3
    clear d3
    go_wp2_with fail
    refine (l01Int_any ((z3 : Int) - 3) _).mono ?_
    rintro e w4 ⟨rfl, hb⟩
    have HX4 : Hid _ := HX3.out.below HC.out hg hb
    obtain ⟨c0, c1, c2, f0, f1, f2⟩ := HX4.out.cells
    clear hb
    go_wp2_with fail
    refine bodyPost_ret (v := .agg #[.int .i64 2, .int .i64 ((z3 : Int) - 3), .string em]) (by simp [results, Tryz.results48, go_sem, *]) rfl ⟨⟨⟨2, ((z3 : Int) - 3), em⟩, rfl, ok_int _ (by omega) (by omega), (show (2 : Int) < 4 by decide), (show em.size ≤ 2 by decide)⟩, ?_⟩
    exact HX4.out.fin HC.out hg (by omega) _ _ _
  case inr.inr.inr.inl =>
    go_wp2_with fail
    refine (next_any g x cap zs (a + 1 + 1) 9 _ HX2.out.drew.2 (by omega) (by omega) (by omega)).mono ?_
    rintro e w3 ⟨⟨z3, rfl, hz3⟩, d3⟩
    have HX3 : Hid _ := HX2.out.step hg d3
    clear d3
    go_wp2_with fail
    refine (l01Int_any ((z3 : Int) - 3) _).mono ?_
    rintro e w4 ⟨rfl, hb⟩
    have HX4 : Hid _ := HX3.out.below HC.out hg hb
    obtain ⟨c0, c1, c2, f0, f1, f2⟩ := HX4.out.cells
    clear hb
    go_wp2_with fail
    refine bodyPost_ret (v := .agg #[.int .i64 2, .int .i64 ((z3 : Int) - 3), .string em]) (by simp [results, Tryz.results48, go_sem, *]) rfl ⟨⟨⟨2, ((z3 : Int) - 3), em⟩, rfl, ok_int _ (by omega) (by omega), (show (2 : Int) < 4 by decide), (show em.size ≤ 2 by decide)⟩, ?_⟩
    exact HX4.out.fin HC.out hg (by omega) _ _ _
  case inr.inr.inr.inr.inl =>
    have HX3 : Hid _ := HX2.out.below HC.out hg ((Below.refl _ _).alloc (Nat.le_refl _) (.cells #[.string ⟨#[]⟩, .string ⟨#[97]⟩, .string ⟨#[97, 98]⟩, .string ⟨#[98]⟩, .string ⟨#[0]⟩] 9))
    have hgl : g < w2.heap.size := by have := HX2.out.lt; omega
    go_wp2_with fail
    refine (pick_any g x cap zs (a + 1 + 1) w2.heap.size 5 [⟨#[]⟩, ⟨#[97]⟩, ⟨#[97, 98]⟩, ⟨#[98]⟩, ⟨#[0]⟩] _ HX3.out.drew.2 (by omega) (by decide) (by decide) (by omega) (by
      intro i hi
      rcases (show i = 0 ∨ i = 1 ∨ i = 2 ∨ i = 3 ∨ i = 4 by simp at hi; omega) with rfl | rfl | rfl | rfl | rfl <;> simp [go_sem])).mono ?_
    rintro e w3 ⟨⟨t, ht, rfl⟩, d3⟩
    have ht2 : t.size ≤ 2 := by simp at ht; rcases ht with rfl | rfl | rfl | rfl | rfl <;> decide
    have hts : t.size ≤ 300 := by omega
    have HT2 : Hid (t.size ≤ 2) := ht2
    clear ht2
    have HX4 : Hid _ := HX3.out.step hg d3
    clear d3 ht
    go_wp2_with fail
    refine (l01Text_any t _).mono ?_
    rintro e w4 ⟨rfl, hb⟩
    have HX5 : Hid _ := HX4.out.below HC.out hg hb
    obtain ⟨c0, c1, c2, f0, f1, f2⟩ := HX5.out.cells
    clear hb
    go_wp2_with fail
    refine bodyPost_ret (v := .agg #[.int .i64 3, .int .i64 0, .string t]) (by simp [results, Tryz.results48, go_sem, *]) rfl ⟨⟨⟨3, 0, t⟩, rfl, ok_text _ hts, (show (3 : Int) < 4 by decide), HT2.out⟩, ?_⟩
    exact HX5.out.fin HC.out hg (by omega) _ _ _
  case inr.inr.inr.inr.inr =>
    have HX3 : Hid _ := HX2.out.below HC.out hg ((Below.refl _ _).alloc (Nat.le_refl _) (.cells #[.int .i64 1000000000000, .int .i64 (-1000000000000), .int .i64 300] 3))
    have hgl : g < w2.heap.size := by have := HX2.out.lt; omega
    go_wp2_with fail
    refine (next_any g x cap zs (a + 1 + 1) 3 _ HX3.out.drew.2 (by omega) (by omega) (by omega)).mono ?_
    rintro e w3 ⟨⟨z3, rfl, hz3⟩, d3⟩
    have HX4 : Hid _ := HX3.out.step hg d3
    obtain ⟨N, hN0, hN1, hN⟩ : ∃ N : Int, -1000000000000 ≤ N ∧ N ≤ 1000000000000 ∧ w3.cell? ⟨w2.heap.size, z3, none⟩ = some (.int .i64 N) := by
      rcases (show z3 = 0 ∨ z3 = 1 ∨ z3 = 2 by omega) with rfl | rfl | rfl
      · exact ⟨1000000000000, by omega, by omega, d3.1.cell (by simp [go_sem]) (by intro e; injection e with e; simp at e; omega)⟩
      · exact ⟨-1000000000000, by omega, by omega, d3.1.cell (by simp [go_sem]) (by intro e; injection e with e; simp at e; omega)⟩
      · exact ⟨300, by omega, by omega, d3.1.cell (by simp [go_sem]) (by intro e; injection e with e; simp at e; omega)⟩
    clear d3
    go_wp2_with fail
    refine (l01Int_any N _).mono ?_
    rintro e w4 ⟨rfl, hb⟩
    have HX5 : Hid _ := HX4.out.below HC.out hg hb
    obtain ⟨c0, c1, c2, f0, f1, f2⟩ := HX5.out.cells
    clear hb
    go_wp2_with fail
    refine bodyPost_ret (v := .agg #[.int .i64 2, .int .i64 N, .string em]) (by simp [results, Tryz.results48, go_sem, *]) rfl ⟨⟨⟨2, N, em⟩, rfl, ok_int _ hN0 hN1, (show (2 : Int) < 4 by decide), (show em.size ≤ 2 by decide)⟩, ?_⟩
    exact HX5.out.fin HC.out hg (by omega) _ _ _


theorem paths_ok : ∀ p ∈ ([⟨#[97]⟩, ⟨#[98]⟩, ⟨#[99]⟩, ⟨#[116, 97, 103, 115]⟩, ⟨#[97, 46, 98]⟩, ⟨#[116, 97, 103, 115, 46, 97]⟩, ⟨#[105, 100]⟩] : List ByteArray), pathB p = true := by decide +kernel
theorem in_ok (u v : Val) (hu : okB u = true) (hv : okB v = true) (h1 : u.k < 4) (h2 : v.k < 4) (s1 : u.t.size ≤ 2) (s2 : v.t.size ≤ 2) : okB ⟨4, 0, txt (encL [u, v])⟩ = true := by
  have hall : ∀ x ∈ [u, v], okB x = true := by intro x hx; simp at hx; rcases hx with rfl | rfl <;> assumption
  have hlen : ∀ x : Val, okB x = true → x.t.size ≤ 2 → (encB x).length ≤ 20 := by
    intro x hx hs
    obtain ⟨k, n, t⟩ := x
    rcases ok_kinds _ hx with h | h | ⟨h, _⟩ | ⟨h, _⟩
    · simp at h; subst h; unfold encB; simp [numB_len]
    · simp at h; subst h; unfold encB; simp [numB_len]
    · simp at h; subst h; unfold encB; simp [numB_len]
    · simp at h hs
      rcases h with rfl | rfl | rfl <;> (unfold encB; simp [numB_len, bytesI_len]; omega)
  have e1 := hlen u hu s1
  have e2 := hlen v hv s2
  have hl : ¬ 300 < (encL [u, v]).length := by unfold encL; simp; omega
  rw [made_ok [u, v] hall hl, decide_eq_true_eq]
  rw [dmax_le _ _ _ (by decide)]
  intro x hx
  have hk : x.k < 4 := by simp at hx; rcases hx with rfl | rfl <;> assumption
  rw [depthV_plain 5 x (by omega) (by omega)]; decide
/-- A call that draws a term: the source, and the cells of the answer, which lie ahead of all that the call has made besides. -/
structure DrawY (w W : World) (g : Nat) (x : Option Addr) (cap : Nat) (zs : List Int) (a : Nat) : Prop where
  drew : Drew w g x cap zs a W
  blk : W.heap[w.heap.size]? = some (.cells #[.int .i64 0, .string em, .int .i64 0, .int .i64 0, .string em] 34)
section
variable {w W W' : World} {g : Nat} {x : Option Addr} {cap : Nat} {zs : List Int} {a b : Nat}
theorem DrawY.lt (X : DrawY w W g x cap zs a) : w.heap.size < W.heap.size := (Array.getElem?_eq_some_iff.1 X.blk).1
theorem DrawY.cells (X : DrawY w W g x cap zs a) : W.cell? ⟨w.heap.size, 0, none⟩ = some (.int .i64 0) ∧ W.cell? ⟨w.heap.size, 1, none⟩ = some (.string em) ∧ W.cell? ⟨w.heap.size, 2, none⟩ = some (.int .i64 0) ∧ W.cell? ⟨w.heap.size, 3, none⟩ = some (.int .i64 0) ∧ W.cell? ⟨w.heap.size, 4, none⟩ = some (.string em) ∧ W.frozen? ⟨w.heap.size, 0, none⟩ = false ∧ W.frozen? ⟨w.heap.size, 1, none⟩ = false ∧ W.frozen? ⟨w.heap.size, 2, none⟩ = false ∧ W.frozen? ⟨w.heap.size, 3, none⟩ = false ∧ W.frozen? ⟨w.heap.size, 4, none⟩ = false := by
  have h := X.blk
  refine ⟨?_, ?_, ?_, ?_, ?_, ?_, ?_, ?_, ?_, ?_⟩ <;> simp [World.cell?, World.frozen?, h]
theorem DrawY.start (h : SrcAt w g x cap zs a) : DrawY w (w.alloc (.cells #[.int .i64 0, .string em, .int .i64 0, .int .i64 0, .string em] 34)) g x cap zs a := by
  have hb : Below w.heap.size w (w.alloc (.cells #[.int .i64 0, .string em, .int .i64 0, .int .i64 0, .string em] 34)) := (Below.refl _ _).alloc (Nat.le_refl _) _
  have hg : w.grownBy (w.alloc (.cells #[.int .i64 0, .string em, .int .i64 0, .int .i64 0, .string em] 34)) (some g) := (grown_below hb).but _
  obtain ⟨k, s, h1, h2, h3⟩ := h.block
  exact ⟨⟨hg, ⟨⟨k, s, h1, h2, (hb.block g h.lt).trans h3⟩, h.code.next hg⟩⟩, heap_alloc_new w _⟩
theorem DrawY.grown (X : DrawY w W g x cap zs a) (hc : CodeAt w g x zs) (hg : g < w.heap.size) {row : Option Nat} (k : W.grownBy W' row) (hr : ∀ j, row = some j → w.heap.size < j) : DrawY w W' g x cap zs a := by
  have h1 : w.grownBy W' (some g) := grown_up X.drew.1 k (fun j hj => Nat.le_of_lt (hr j hj))
  obtain ⟨p, s, e1, e2, e3⟩ := X.drew.2.block
  have hl := X.lt
  refine ⟨⟨h1, ⟨⟨p, s, e1, e2, (k.block g (by omega) (fun e => by have := hr g e.symm; omega)).trans e3⟩, hc.next h1⟩⟩, (k.block _ hl (fun e => by have := hr _ e.symm; omega)).trans X.blk⟩
theorem DrawY.below (X : DrawY w W g x cap zs a) (hc : CodeAt w g x zs) (hg : g < w.heap.size) (hb : Below W.heap.size W W') : DrawY w W' g x cap zs a := X.grown hc hg (grown_below hb) (fun _ h => by cases h)
theorem DrawY.step (X : DrawY w W g x cap zs a) (hg : g < w.heap.size) (d : Drew W g x cap zs b W') : DrawY w W' g x cap zs b :=
  ⟨X.drew.trans d, (d.1.block _ X.lt (fun e => by injection e with e; omega)).trans X.blk⟩
theorem Drew.allocd (hc : CodeAt w g x zs) (h : Drew w g x cap zs a W) (o : Obj) : Drew w g x cap zs a (W.alloc o) := by
  have k : W.grownBy (W.alloc o) none := grown_below ((Below.refl _ _).alloc (Nat.le_refl _) o)
  have h1 : w.grownBy (W.alloc o) (some g) := grown_up h.1 k (fun j hj => by cases hj)
  obtain ⟨p, s, e1, e2, e3⟩ := h.2.block
  exact ⟨h1, ⟨⟨p, s, e1, e2, (k.block g h.2.lt (fun e => by cases e)).trans e3⟩, hc.next h1⟩⟩
theorem Drew.setR5 (hc : CodeAt w g x zs) (hg : g < w.heap.size) (h : Drew w g x cap zs a W) (o : Nat) (v : Value) : Drew w g x cap zs a (W.setCell ⟨w.heap.size, o, none⟩ v) := Drew.setR hc hg h o v
theorem DrawY.fin (X : DrawY w W g x cap zs a) (hc : CodeAt w g x zs) (hg : g < w.heap.size) (hab : a ≤ b) (v0 v1 v2 v3 v4 : Value) : Drew w g x cap zs b (((((W.setCell ⟨w.heap.size, 0, none⟩ v0).setCell ⟨w.heap.size, 1, none⟩ v1).setCell ⟨w.heap.size, 2, none⟩ v2).setCell ⟨w.heap.size, 3, none⟩ v3).setCell ⟨w.heap.size, 4, none⟩ v4) := by
  have h := Drew.setR hc hg (Drew.setR hc hg (Drew.setR hc hg (Drew.setR hc hg (Drew.setR hc hg X.drew 0 v0) 1 v1) 2 v2) 3 v3) 4 v4
  exact ⟨h.1, h.2.mono hab⟩
end
/-- A block of a term that may be written. -/
structure T5 (W : World) (b : Nat) (v0 v1 v2 v3 v4 : Value) : Prop where
  blk : W.heap[b]? = some (.cells #[v0, v1, v2, v3, v4] 34)
theorem T5.lt {W : World} {b : Nat} {v0 v1 v2 v3 v4 : Value} (X : T5 W b v0 v1 v2 v3 v4) : b < W.heap.size := (Array.getElem?_eq_some_iff.1 X.blk).1
theorem T5.cells {W : World} {b : Nat} {v0 v1 v2 v3 v4 : Value} (X : T5 W b v0 v1 v2 v3 v4) : W.cell? ⟨b, 0, none⟩ = some v0 ∧ W.cell? ⟨b, 1, none⟩ = some v1 ∧ W.cell? ⟨b, 2, none⟩ = some v2 ∧ W.cell? ⟨b, 3, none⟩ = some v3 ∧ W.cell? ⟨b, 4, none⟩ = some v4 ∧ W.frozen? ⟨b, 2, none⟩ = false ∧ W.frozen? ⟨b, 3, none⟩ = false ∧ W.frozen? ⟨b, 4, none⟩ = false := by
  have h := X.blk
  refine ⟨?_, ?_, ?_, ?_, ?_, ?_, ?_, ?_⟩ <;> simp [World.cell?, World.frozen?, h]
theorem T5.new (W : World) (v0 v1 v2 v3 v4 : Value) : T5 (W.alloc (.cells #[v0, v1, v2, v3, v4] 34)) W.heap.size v0 v1 v2 v3 v4 := ⟨heap_alloc_new W _⟩
theorem T5.grown {W W' : World} {b : Nat} {v0 v1 v2 v3 v4 : Value} (X : T5 W b v0 v1 v2 v3 v4) {row : Option Nat} (k : W.grownBy W' row) (hne : some b ≠ row) : T5 W' b v0 v1 v2 v3 v4 := ⟨(k.block b X.lt hne).trans X.blk⟩
theorem T5.set {W : World} {b : Nat} {v0 v1 v2 v3 v4 u2 u3 u4 : Value} (X : T5 W b v0 v1 v2 v3 v4) : T5 (((W.setCell ⟨b, 2, none⟩ u2).setCell ⟨b, 3, none⟩ u3).setCell ⟨b, 4, none⟩ u4) b v0 v1 u2 u3 u4 :=
  ⟨by rw [set_block (set_block (set_block X.blk))]; rfl⟩

set_option maxRecDepth 4000 in
set_option maxHeartbeats 40000000 in
theorem term_at (g : Nat) (x : Option Addr) (cap : Nat) (zs : List Int) (a : Nat) (w : World) (h : SrcAt w g x cap zs a) (ha : a + 300 ≤ 100000) :
    Calls Tryz.prog 54 #[.pointer (some ⟨g, 0, none⟩)] w fun e w' => (∃ t : Trm, e = .returned (.agg #[.int .i64 t.op, .string t.p, .int .i64 t.c.k, .int .i64 t.c.n, .string t.c.t]) ∧ termB t.op t.p t.c = true) ∧ Drew w g x cap zs (a + 300) w' := by
  have hg := h.lt
  have HC : Hid (CodeAt _ _ _ _) := h.code
  have HX0 : Hid (DrawY _ _ _ _ _ _ _) := DrawY.start h
  clear h
  go_enter Tryz.func54, Tryz.ntmps54
  go_wp2_with fail
  refine (next_any g x cap zs a 10 _ HX0.out.drew.2 (by omega) (by omega) (by omega)).mono ?_
  rintro e w1 ⟨⟨z, rfl, hz⟩, d1⟩
  have HX1 : Hid (DrawY _ _ _ _ _ _ _) := HX0.out.step hg d1
  have HX2 : Hid (DrawY _ _ _ _ _ _ _) := HX1.out.below HC.out hg ((Below.refl _ _).alloc (Nat.le_refl _) (.cells #[.string ⟨#[97]⟩, .string ⟨#[98]⟩, .string ⟨#[99]⟩, .string ⟨#[116, 97, 103, 115]⟩, .string ⟨#[97, 46, 98]⟩, .string ⟨#[116, 97, 103, 115, 46, 97]⟩, .string ⟨#[105, 100]⟩] 9))
  have hgl : g < w1.heap.size := by have := HX1.out.lt; omega
  clear d1 HX0
  go_wp2_with fail
  refine (pick_any g x cap zs (a + 1) w1.heap.size 7 [⟨#[97]⟩, ⟨#[98]⟩, ⟨#[99]⟩, ⟨#[116, 97, 103, 115]⟩, ⟨#[97, 46, 98]⟩, ⟨#[116, 97, 103, 115, 46, 97]⟩, ⟨#[105, 100]⟩] _ HX2.out.drew.2 (by omega) (by decide) (by decide) (by omega) (by
    intro i hi
    rcases (show i = 0 ∨ i = 1 ∨ i = 2 ∨ i = 3 ∨ i = 4 ∨ i = 5 ∨ i = 6 by simp at hi; omega) with rfl | rfl | rfl | rfl | rfl | rfl | rfl <;> simp [go_sem])).mono ?_
  rintro e w2 ⟨⟨p, hp, rfl⟩, d2⟩
  have HPB : Hid (pathB p = true) := paths_ok p hp
  have HX3 : Hid (DrawY _ _ _ _ _ _ _) := HX2.out.step hg d2
  clear d2 HX2 HX1 hp
  go_wp2_with fail
  refine (val_at 1 g x cap zs (a + 1 + 1) _ HX3.out.drew.2 (by have : costV 1 = 80 := rfl; omega)).mono ?_
  rintro e w3 ⟨⟨v, rfl, hv⟩, d3⟩
  have HX4 : Hid (DrawY _ _ _ _ _ _ _) := HX3.out.step hg d3
  have HV : Hid (okB v = true) := hv
  have hgl3 : w.heap.size < w3.heap.size := HX4.out.lt
  have HT4 : Hid (T5 _ _ _ _ _ _ _) := T5.new w3 (.int .i64 (1 + (z : Int))) (.string p) (.int .i64 v.k) (.int .i64 v.n) (.string v.t)
  have HX5 : Hid (DrawY _ _ _ _ _ _ _) := HX4.out.below HC.out hg ((Below.refl _ _).alloc (Nat.le_refl _) (.cells #[.int .i64 (1 + (z : Int)), .string p, .int .i64 v.k, .int .i64 v.n, .string v.t] 34))
  have hcost : costV 1 = 80 := rfl
  have hgw : w.heap.size < w3.heap.size := hgl3
  clear d3 HX3 hv
  rcases (show z = 0 ∨ z = 1 ∨ z = 2 ∨ z = 3 ∨ z = 4 ∨ z = 5 ∨ z = 6 ∨ z = 7 ∨ z = 8 ∨ z = 9 by omega) with rfl | rfl | rfl | rfl | rfl | rfl | rfl | rfl | rfl | rfl
  · replace HX5 : Hid (DrawY w (w3.alloc (.cells #[.int .i64 1, .string p, .int .i64 v.k, .int .i64 v.n, .string v.t] 34)) g x cap zs (a + 1 + 1 + costV 1)) := HX5
    replace HT4 : Hid (T5 (w3.alloc (.cells #[.int .i64 1, .string p, .int .i64 v.k, .int .i64 v.n, .string v.t] 34)) w3.heap.size (.int .i64 1) (.string p) (.int .i64 v.k) (.int .i64 v.n) (.string v.t)) := HT4
    obtain ⟨c0, c1, c2, c3, c4, f0, f1, f2, f3, f4⟩ := HX4.out.cells
    go_wp2_with fail
    refine bodyPost_ret (v := .agg #[.int .i64 1, .string p, .int .i64 v.k, .int .i64 v.n, .string v.t]) (by simp [results, Tryz.results54, go_sem, *]) rfl ⟨⟨⟨1, p, v⟩, rfl, (show termB 1 p v = true from by unfold termB; rw [HPB.out]; show (true && (okB v && takesT 1 _ _)) = true; rw [HV.out]; simp [takesT])⟩, ?_⟩
    exact Drew.allocd HC.out (HX4.out.fin (b := a + 300) HC.out hg (by omega) _ _ _ _ _) _
  · replace HX5 : Hid (DrawY w (w3.alloc (.cells #[.int .i64 2, .string p, .int .i64 v.k, .int .i64 v.n, .string v.t] 34)) g x cap zs (a + 1 + 1 + costV 1)) := HX5
    replace HT4 : Hid (T5 (w3.alloc (.cells #[.int .i64 2, .string p, .int .i64 v.k, .int .i64 v.n, .string v.t] 34)) w3.heap.size (.int .i64 2) (.string p) (.int .i64 v.k) (.int .i64 v.n) (.string v.t)) := HT4
    obtain ⟨c0, c1, c2, c3, c4, f0, f1, f2, f3, f4⟩ := HX4.out.cells
    go_wp2_with fail
    refine bodyPost_ret (v := .agg #[.int .i64 2, .string p, .int .i64 v.k, .int .i64 v.n, .string v.t]) (by simp [results, Tryz.results54, go_sem, *]) rfl ⟨⟨⟨2, p, v⟩, rfl, (show termB 2 p v = true from by unfold termB; rw [HPB.out]; show (true && (okB v && takesT 2 _ _)) = true; rw [HV.out]; simp [takesT])⟩, ?_⟩
    exact Drew.allocd HC.out (HX4.out.fin (b := a + 300) HC.out hg (by omega) _ _ _ _ _) _
  · replace HX5 : Hid (DrawY w (w3.alloc (.cells #[.int .i64 3, .string p, .int .i64 v.k, .int .i64 v.n, .string v.t] 34)) g x cap zs (a + 1 + 1 + costV 1)) := HX5
    replace HT4 : Hid (T5 (w3.alloc (.cells #[.int .i64 3, .string p, .int .i64 v.k, .int .i64 v.n, .string v.t] 34)) w3.heap.size (.int .i64 3) (.string p) (.int .i64 v.k) (.int .i64 v.n) (.string v.t)) := HT4
    obtain ⟨c0, c1, c2, c3, c4, f0, f1, f2, f3, f4⟩ := HX4.out.cells
    go_wp2_with fail
    refine bodyPost_ret (v := .agg #[.int .i64 3, .string p, .int .i64 v.k, .int .i64 v.n, .string v.t]) (by simp [results, Tryz.results54, go_sem, *]) rfl ⟨⟨⟨3, p, v⟩, rfl, (show termB 3 p v = true from by unfold termB; rw [HPB.out]; show (true && (okB v && takesT 3 _ _)) = true; rw [HV.out]; simp [takesT])⟩, ?_⟩
    exact Drew.allocd HC.out (HX4.out.fin (b := a + 300) HC.out hg (by omega) _ _ _ _ _) _
  · replace HX5 : Hid (DrawY w (w3.alloc (.cells #[.int .i64 4, .string p, .int .i64 v.k, .int .i64 v.n, .string v.t] 34)) g x cap zs (a + 1 + 1 + costV 1)) := HX5
    replace HT4 : Hid (T5 (w3.alloc (.cells #[.int .i64 4, .string p, .int .i64 v.k, .int .i64 v.n, .string v.t] 34)) w3.heap.size (.int .i64 4) (.string p) (.int .i64 v.k) (.int .i64 v.n) (.string v.t)) := HT4
    obtain ⟨c0, c1, c2, c3, c4, f0, f1, f2, f3, f4⟩ := HX4.out.cells
    go_wp2_with fail
    refine bodyPost_ret (v := .agg #[.int .i64 4, .string p, .int .i64 v.k, .int .i64 v.n, .string v.t]) (by simp [results, Tryz.results54, go_sem, *]) rfl ⟨⟨⟨4, p, v⟩, rfl, (show termB 4 p v = true from by unfold termB; rw [HPB.out]; show (true && (okB v && takesT 4 _ _)) = true; rw [HV.out]; simp [takesT])⟩, ?_⟩
    exact Drew.allocd HC.out (HX4.out.fin (b := a + 300) HC.out hg (by omega) _ _ _ _ _) _
  · replace HX5 : Hid (DrawY w (w3.alloc (.cells #[.int .i64 5, .string p, .int .i64 v.k, .int .i64 v.n, .string v.t] 34)) g x cap zs (a + 1 + 1 + costV 1)) := HX5
    replace HT4 : Hid (T5 (w3.alloc (.cells #[.int .i64 5, .string p, .int .i64 v.k, .int .i64 v.n, .string v.t] 34)) w3.heap.size (.int .i64 5) (.string p) (.int .i64 v.k) (.int .i64 v.n) (.string v.t)) := HT4
    obtain ⟨c0, c1, c2, c3, c4, f0, f1, f2, f3, f4⟩ := HX4.out.cells
    go_wp2_with fail
    refine bodyPost_ret (v := .agg #[.int .i64 5, .string p, .int .i64 v.k, .int .i64 v.n, .string v.t]) (by simp [results, Tryz.results54, go_sem, *]) rfl ⟨⟨⟨5, p, v⟩, rfl, (show termB 5 p v = true from by unfold termB; rw [HPB.out]; show (true && (okB v && takesT 5 _ _)) = true; rw [HV.out]; simp [takesT])⟩, ?_⟩
    exact Drew.allocd HC.out (HX4.out.fin (b := a + 300) HC.out hg (by omega) _ _ _ _ _) _
  · replace HX5 : Hid (DrawY w (w3.alloc (.cells #[.int .i64 6, .string p, .int .i64 v.k, .int .i64 v.n, .string v.t] 34)) g x cap zs (a + 1 + 1 + costV 1)) := HX5
    replace HT4 : Hid (T5 (w3.alloc (.cells #[.int .i64 6, .string p, .int .i64 v.k, .int .i64 v.n, .string v.t] 34)) w3.heap.size (.int .i64 6) (.string p) (.int .i64 v.k) (.int .i64 v.n) (.string v.t)) := HT4
    obtain ⟨c0, c1, c2, c3, c4, f0, f1, f2, f3, f4⟩ := HX4.out.cells
    go_wp2_with fail
    refine bodyPost_ret (v := .agg #[.int .i64 6, .string p, .int .i64 v.k, .int .i64 v.n, .string v.t]) (by simp [results, Tryz.results54, go_sem, *]) rfl ⟨⟨⟨6, p, v⟩, rfl, (show termB 6 p v = true from by unfold termB; rw [HPB.out]; show (true && (okB v && takesT 6 _ _)) = true; rw [HV.out]; simp [takesT])⟩, ?_⟩
    exact Drew.allocd HC.out (HX4.out.fin (b := a + 300) HC.out hg (by omega) _ _ _ _ _) _
  · replace HX5 : Hid (DrawY w (w3.alloc (.cells #[.int .i64 7, .string p, .int .i64 v.k, .int .i64 v.n, .string v.t] 34)) g x cap zs (a + 1 + 1 + costV 1)) := HX5
    replace HT4 : Hid (T5 (w3.alloc (.cells #[.int .i64 7, .string p, .int .i64 v.k, .int .i64 v.n, .string v.t] 34)) w3.heap.size (.int .i64 7) (.string p) (.int .i64 v.k) (.int .i64 v.n) (.string v.t)) := HT4
    go_wp2_with fail
    refine (val_plain g x cap zs (a + 1 + 1 + costV 1) _ HX5.out.drew.2 (by omega)).mono ?_
    rintro e w4 ⟨⟨y1, rfl, hy1, hk1, hs1⟩, d4⟩
    have HX6 : Hid (DrawY _ _ _ _ _ _ _) := HX5.out.step hg d4
    have HT6 : Hid (T5 _ _ _ _ _ _ _) := HT4.out.grown d4.1 (fun e => by injection e; omega)
    have HY1 : Hid (okB y1 = true ∧ y1.k < 4 ∧ y1.t.size ≤ 2) := ⟨hy1, hk1, hs1⟩
    clear d4 hy1 hk1 hs1
    go_wp2_with fail
    refine (val_plain g x cap zs (a + 1 + 1 + costV 1 + 10) _ HX6.out.drew.2 (by omega)).mono ?_
    rintro e w5 ⟨⟨y2, rfl, hy2, hk2, hs2⟩, d5⟩
    have HX7 : Hid (DrawY _ _ _ _ _ _ _) := HX6.out.step hg d5
    have HT7 : Hid (T5 _ _ _ _ _ _ _) := HT6.out.grown d5.1 (fun e => by injection e; omega)
    have HIN : Hid _ := in_ok y1 y2 HY1.out.1 hy2 HY1.out.2.1 hk2 HY1.out.2.2 hs2
    have hb6 : Below w5.heap.size w5 (w5.alloc (.cells #[.int .i64 y1.k, .int .i64 y1.n, .string y1.t, .int .i64 y2.k, .int .i64 y2.n, .string y2.t] 28)) := (Below.refl _ _).alloc (Nat.le_refl _) _
    have HRV : Hid (ReadV (w5.alloc (.cells #[.int .i64 y1.k, .int .i64 y1.n, .string y1.t, .int .i64 y2.k, .int .i64 y2.n, .string y2.t] 28)) w5.heap.size [y1, y2]) := by
      refine ⟨by simp, fun i hi => ?_⟩
      rcases (show i = 0 ∨ i = 1 by simp at hi; omega) with rfl | rfl <;> exact ⟨by simp [go_sem], by simp [go_sem], by simp [go_sem]⟩
    have hall : ∀ u ∈ [y1, y2], okB u = true := by intro u hu; simp at hu; rcases hu with rfl | rfl; exact HY1.out.1; exact hy2
    have HX8 : Hid (DrawY _ _ _ _ _ _ _) := HX7.out.below HC.out hg hb6
    have HT8 : Hid (T5 _ _ _ _ _ _ _) := HT7.out.grown (grown_below hb6) (fun e => by cases e)
    have HLC : Hid (∀ W : World, ReadV W w5.heap.size [y1, y2] → Calls _ _ _ W _) := fun W hW => l01List_any w5.heap.size 2 [y1, y2] W hW (by simp) hall
    clear d5 hy2 hk2 hs2 hb6 hall HX6 HT6 HX7 HT7
    go_wp2_with fail
    refine (HLC.out _ HRV.out).mono ?_
    rintro e w6 ⟨rfl, hb⟩
    have HXF : Hid (DrawY _ _ _ _ _ _ _) := HX8.out.below HC.out hg hb
    have HTF : Hid (T5 _ _ _ _ _ _ _) := HT8.out.grown (grown_below hb) (fun e => by cases e)
    clear hb
    obtain ⟨c0, c1, c2, c3, c4, f0, f1, f2, f3, f4⟩ := HXF.out.cells
    obtain ⟨t0, t1, t2, t3, t4, s2, s3, s4⟩ := HTF.out.cells
    have hne1 : ¬ w3.heap.size = w.heap.size := by omega
    have hne2 : ¬ w.heap.size = w3.heap.size := by omega
    have hlF := HTF.out.lt
    go_wp2_with fail
    refine bodyPost_ret (v := .agg #[.int .i64 7, .string p, .int .i64 4, .int .i64 0, .string (txt (encL [y1, y2]))]) (by simp [results, Tryz.results54, go_sem, *]) rfl ⟨⟨⟨7, p, ⟨4, 0, txt (encL [y1, y2])⟩⟩, rfl, (show termB 7 p ⟨4, 0, txt (encL [y1, y2])⟩ = true from by unfold termB; rw [HPB.out]; show (true && (okB ⟨4, 0, txt (encL [y1, y2])⟩ && takesT 7 _ _)) = true; rw [HIN.out]; simp [takesT])⟩, ?_⟩
    exact (HXF.out.grown HC.out hg ((grown_set.trans grown_set).trans grown_set) (fun j hj => by injection hj with hj; omega)).fin (b := a + 300) HC.out hg (by omega) _ _ _ _ _
  · replace HX5 : Hid (DrawY w (w3.alloc (.cells #[.int .i64 8, .string p, .int .i64 v.k, .int .i64 v.n, .string v.t] 34)) g x cap zs (a + 1 + 1 + costV 1)) := HX5
    replace HT4 : Hid (T5 (w3.alloc (.cells #[.int .i64 8, .string p, .int .i64 v.k, .int .i64 v.n, .string v.t] 34)) w3.heap.size (.int .i64 8) (.string p) (.int .i64 v.k) (.int .i64 v.n) (.string v.t)) := HT4
    go_wp2_with fail
    refine (next_any g x cap zs (a + 1 + 1 + costV 1) 2 _ HX5.out.drew.2 (by omega) (by omega) (by omega)).mono ?_
    rintro e w4 ⟨⟨y, rfl, hy⟩, d4⟩
    have HXF : Hid (DrawY _ _ _ _ _ _ _) := HX5.out.step hg d4
    have HTF : Hid (T5 _ _ _ _ _ _ _) := HT4.out.grown d4.1 (fun e => by injection e; omega)
    clear d4
    obtain ⟨c0, c1, c2, c3, c4, f0, f1, f2, f3, f4⟩ := HXF.out.cells
    obtain ⟨t0, t1, t2, t3, t4, s2, s3, s4⟩ := HTF.out.cells
    have hne1 : ¬ w3.heap.size = w.heap.size := by omega
    have hne2 : ¬ w.heap.size = w3.heap.size := by omega
    have hlF := HTF.out.lt
    go_wp2_with fail
    refine bodyPost_ret (v := .agg #[.int .i64 8, .string p, .int .i64 1, .int .i64 y, .string em]) (by simp [results, Tryz.results54, go_sem, *]) rfl ⟨⟨⟨8, p, ⟨1, (y : Int), em⟩⟩, rfl, (show termB 8 p ⟨1, (y : Int), em⟩ = true from by unfold termB; rw [HPB.out]; show (true && (okB ⟨1, (y : Int), em⟩ && takesT 8 _ _)) = true; rw [ok_bool _ (by omega)]; simp [takesT])⟩, ?_⟩
    exact (HXF.out.grown HC.out hg ((grown_set.trans grown_set).trans grown_set) (fun j hj => by injection hj with hj; omega)).fin (b := a + 300) HC.out hg (by omega) _ _ _ _ _
  · replace HX5 : Hid (DrawY w (w3.alloc (.cells #[.int .i64 9, .string p, .int .i64 v.k, .int .i64 v.n, .string v.t] 34)) g x cap zs (a + 1 + 1 + costV 1)) := HX5
    replace HT4 : Hid (T5 (w3.alloc (.cells #[.int .i64 9, .string p, .int .i64 v.k, .int .i64 v.n, .string v.t] 34)) w3.heap.size (.int .i64 9) (.string p) (.int .i64 v.k) (.int .i64 v.n) (.string v.t)) := HT4
    go_wp2_with fail
    refine (next_any g x cap zs (a + 1 + 1 + costV 1) 6 _ HX5.out.drew.2 (by omega) (by omega) (by omega)).mono ?_
    rintro e w4 ⟨⟨y, rfl, hy⟩, d4⟩
    have HX6 : Hid (DrawY _ _ _ _ _ _ _) := HX5.out.step hg d4
    have HT6 : Hid (T5 _ _ _ _ _ _ _) := HT4.out.grown d4.1 (fun e => by injection e; omega)
    clear d4
    go_wp2_with fail
    refine (l01Int_any (y : Int) _).mono ?_
    rintro e w5 ⟨rfl, hb⟩
    have HXF : Hid (DrawY _ _ _ _ _ _ _) := HX6.out.below HC.out hg hb
    have HTF : Hid (T5 _ _ _ _ _ _ _) := HT6.out.grown (grown_below hb) (fun e => by cases e)
    clear hb
    obtain ⟨c0, c1, c2, c3, c4, f0, f1, f2, f3, f4⟩ := HXF.out.cells
    obtain ⟨t0, t1, t2, t3, t4, s2, s3, s4⟩ := HTF.out.cells
    have hne1 : ¬ w3.heap.size = w.heap.size := by omega
    have hne2 : ¬ w.heap.size = w3.heap.size := by omega
    have hlF := HTF.out.lt
    go_wp2_with fail
    refine bodyPost_ret (v := .agg #[.int .i64 9, .string p, .int .i64 2, .int .i64 y, .string em]) (by simp [results, Tryz.results54, go_sem, *]) rfl ⟨⟨⟨9, p, ⟨2, (y : Int), em⟩⟩, rfl, (show termB 9 p ⟨2, (y : Int), em⟩ = true from by unfold termB; rw [HPB.out]; show (true && (okB ⟨2, (y : Int), em⟩ && takesT 9 _ _)) = true; rw [ok_int _ (by omega) (by omega)]; simp [takesT]; try omega)⟩, ?_⟩
    exact (HXF.out.grown HC.out hg ((grown_set.trans grown_set).trans grown_set) (fun j hj => by injection hj with hj; omega)).fin (b := a + 300) HC.out hg (by omega) _ _ _ _ _
  · replace HX5 : Hid (DrawY w (w3.alloc (.cells #[.int .i64 10, .string p, .int .i64 v.k, .int .i64 v.n, .string v.t] 34)) g x cap zs (a + 1 + 1 + costV 1)) := HX5
    replace HT4 : Hid (T5 (w3.alloc (.cells #[.int .i64 10, .string p, .int .i64 v.k, .int .i64 v.n, .string v.t] 34)) w3.heap.size (.int .i64 10) (.string p) (.int .i64 v.k) (.int .i64 v.n) (.string v.t)) := HT4
    go_wp2_with fail
    refine (next_any g x cap zs (a + 1 + 1 + costV 1) 3 _ HX5.out.drew.2 (by omega) (by omega) (by omega)).mono ?_
    rintro e w4 ⟨⟨y, rfl, hy⟩, d4⟩
    have HX6 : Hid (DrawY _ _ _ _ _ _ _) := HX5.out.step hg d4
    have HT6 : Hid (T5 _ _ _ _ _ _ _) := HT4.out.grown d4.1 (fun e => by injection e; omega)
    clear d4
    go_wp2_with fail
    refine (l01Int_any (y : Int) _).mono ?_
    rintro e w5 ⟨rfl, hb⟩
    have HXF : Hid (DrawY _ _ _ _ _ _ _) := HX6.out.below HC.out hg hb
    have HTF : Hid (T5 _ _ _ _ _ _ _) := HT6.out.grown (grown_below hb) (fun e => by cases e)
    clear hb
    obtain ⟨c0, c1, c2, c3, c4, f0, f1, f2, f3, f4⟩ := HXF.out.cells
    obtain ⟨t0, t1, t2, t3, t4, s2, s3, s4⟩ := HTF.out.cells
    have hne1 : ¬ w3.heap.size = w.heap.size := by omega
    have hne2 : ¬ w.heap.size = w3.heap.size := by omega
    have hlF := HTF.out.lt
    go_wp2_with fail
    refine bodyPost_ret (v := .agg #[.int .i64 10, .string p, .int .i64 2, .int .i64 y, .string em]) (by simp [results, Tryz.results54, go_sem, *]) rfl ⟨⟨⟨10, p, ⟨2, (y : Int), em⟩⟩, rfl, (show termB 10 p ⟨2, (y : Int), em⟩ = true from by unfold termB; rw [HPB.out]; show (true && (okB ⟨2, (y : Int), em⟩ && takesT 10 _ _)) = true; rw [ok_int _ (by omega) (by omega)]; simp [takesT]; try omega)⟩, ?_⟩
    exact (HXF.out.grown HC.out hg ((grown_set.trans grown_set).trans grown_set) (fun j hj => by injection hj with hj; omega)).fin (b := a + 300) HC.out hg (by omega) _ _ _ _ _

end Go.Proofs.YtkeghknceccdmaaGreatDoor
