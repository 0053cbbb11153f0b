/- What the specification draws out of a code: a value, a document, a term. -/
import Derived.Test.YtkeghknceccdmaaGreatDoorDrawT
import Derived.Test.YtkeghknceccdmaaGreatDoorTermV
import Derived.Test.YtkeghknceccdmaaGreatDoorTermsM
import Derived.BigQuiet
namespace Go.Proofs.YtkeghknceccdmaaGreatDoor
open Go.RowKit
set_option linter.unusedVariables false

theorem Res3.grown {w W W' : World} {a b c : Value} (h : Res3 w W a b c) (hg : W.grownBy W' (some (w.heap.size + 1))) : Res3 w W' a b c :=
  have e := hg.block w.heap.size h.lt (fun e => by injection e; omega)
  ⟨Below.grown h.bel hg h.bel.size (fun j hj => by injection hj with hj; omega), Nat.lt_of_lt_of_le h.lt hg.size, (World.cell?_of_block e).trans h.c0, (World.cell?_of_block e).trans h.c1, (World.cell?_of_block e).trans h.c2, (World.frozen?_of_block e).trans h.z0, (World.frozen?_of_block e).trans h.z1, (World.frozen?_of_block e).trans h.z2⟩
set_option maxRecDepth 4000 in
set_option maxHeartbeats 1000000 in
theorem valueT_any (x : Option Addr) (cap : Nat) (zs : List Int) (w : World) (h : InC w x zs) :
    Calls Tryz.prog 11 #[.slice x zs.length cap] w fun e w' => (∃ v : Val, e = .returned (.agg #[.int .i64 v.k, .int .i64 v.n, .string v.t]) ∧ okB v = true) ∧ Below w.heap.size w w' := by
  have K0 := Res3.start w (.int .i64 0) (.int .i64 0) (.string em) 28
  have HS : Hid (Calls _ _ _ _ _) := l00Source_any x cap zs (w.alloc (.cells #[.int .i64 0, .int .i64 0, .string em] 28)) (h.step K0.bel)
  clear h
  go_enter Tryz.func11, Tryz.ntmps11
  go_wp2_with fail
  refine HS.out.mono ?_
  rintro e w1 ⟨rfl, s1, b1⟩
  have K1 := K0.step b1
  simp only [heap_size_alloc] at s1
  have HSR : Hid (SrcAt _ _ _ _ _ _) := s1
  clear s1 b1 K0 HS
  go_wp2_with fail
  refine (val_at 3 (w.heap.size + 1) x cap zs 0 _ HSR.out (by decide)).mono ?_
  rintro e w2 ⟨⟨v, rfl, hv⟩, d2⟩
  have K2 := K1.grown d2.1
  have HV : Hid (okB v = true) := hv
  have a0 := K2.c0
  have a1 := K2.c1
  have a2 := K2.c2
  have z0 := K2.z0
  have z1 := K2.z1
  have z2 := K2.z2
  have hlt := K2.lt
  have B2 := K2.bel
  clear d2 K1 HSR
  go_wp2_with fail
  refine bodyPost_ret (v := .agg #[.int .i64 v.k, .int .i64 v.n, .string v.t]) (by simp [results, Tryz.results11, go_sem, *]) rfl ⟨⟨v, rfl, HV.out⟩, ?_⟩
  (repeat (first | (with_reducible exact Below.refl _ _) | (with_reducible assumption) | (with_reducible apply below_drewN) | (with_reducible apply Below.drew) | ((with_reducible refine Below.setCell ?_ ?_ _); rotate_left; focus (first | (simp; done) | (simp; omega) | omega)) | ((with_reducible refine Below.alloc ?_ ?_ _); rotate_left; focus (first | (simp; done) | (simp; omega) | omega))))

/-- Five cells of the answer. -/
structure Res5 (w W : World) : Prop where
  bel : Below w.heap.size w W
  blk : W.heap[w.heap.size]? = some (.cells #[.int .i64 0, .string em, .int .i64 0, .int .i64 0, .string em] 34)
theorem Res5.lt {w W : World} (X : Res5 w W) : w.heap.size < W.heap.size := (Array.getElem?_eq_some_iff.1 X.blk).1
theorem Res5.start (w : World) : Res5 w (w.alloc (.cells #[.int .i64 0, .string em, .int .i64 0, .int .i64 0, .string em] 34)) := ⟨(Below.refl _ _).alloc (Nat.le_refl _) _, heap_alloc_new w _⟩
theorem Res5.step {w W W' : World} (X : Res5 w W) (hb : Below W.heap.size W W') : Res5 w W' := ⟨X.bel.trans (hb.mono X.bel.size), (hb.block _ X.lt).trans X.blk⟩
theorem Res5.grown {w W W' : World} (X : Res5 w W) (hg : W.grownBy W' (some (w.heap.size + 1))) : Res5 w W' :=
  ⟨Below.grown X.bel hg X.bel.size (fun j hj => by injection hj with hj; omega), (hg.block _ X.lt (fun e => by injection e; omega)).trans X.blk⟩
theorem Res5.cells {w W : World} (X : Res5 w W) : W.cell? ⟨w.heap.size, 0, none⟩ = some (.int .i64 0) ∧ W.cell? ⟨w.heap.size, 1, none⟩ = some (.string em) ∧ W.cell? ⟨w.heap.size, 2, none⟩ = some (.int .i64 0) ∧ W.cell? ⟨w.heap.size, 3, none⟩ = some (.int .i64 0) ∧ W.cell? ⟨w.heap.size, 4, none⟩ = some (.string em) ∧ W.frozen? ⟨w.heap.size, 0, none⟩ = false ∧ W.frozen? ⟨w.heap.size, 1, none⟩ = false ∧ W.frozen? ⟨w.heap.size, 2, none⟩ = false ∧ W.frozen? ⟨w.heap.size, 3, none⟩ = false ∧ W.frozen? ⟨w.heap.size, 4, none⟩ = false := by
  have h := X.blk
  refine ⟨?_, ?_, ?_, ?_, ?_, ?_, ?_, ?_, ?_, ?_⟩ <;> simp [World.cell?, World.frozen?, h]
set_option maxRecDepth 4000 in
set_option maxHeartbeats 1000000 in
theorem termT_any (x : Option Addr) (cap : Nat) (zs : List Int) (w : World) (h : InC w x zs) :
    Calls Tryz.prog 16 #[.slice x zs.length cap] w fun e w' => (∃ t : Trm, e = .returned (.agg #[.int .i64 t.op, .string t.p, .int .i64 t.c.k, .int .i64 t.c.n, .string t.c.t]) ∧ termB t.op t.p t.c = true) ∧ Below w.heap.size w w' := by
  have K0 := Res5.start w
  have HS : Hid (Calls _ _ _ _ _) := l00Source_any x cap zs (w.alloc (.cells #[.int .i64 0, .string em, .int .i64 0, .int .i64 0, .string em] 34)) (h.step K0.bel)
  clear h
  go_enter Tryz.func16, Tryz.ntmps16
  go_wp2_with fail
  refine HS.out.mono ?_
  rintro e w1 ⟨rfl, s1, b1⟩
  have K1 := K0.step b1
  simp only [heap_size_alloc] at s1
  have HSR : Hid (SrcAt _ _ _ _ _ _) := s1
  clear s1 b1 K0 HS
  go_wp2_with fail
  refine (term_at (w.heap.size + 1) x cap zs 0 _ HSR.out (by decide)).mono ?_
  rintro e w2 ⟨⟨t, rfl, ht⟩, d2⟩
  have K2 := K1.grown d2.1
  have HV : Hid (termB t.op t.p t.c = true) := ht
  obtain ⟨c0, c1, c2, c3, c4, f0, f1, f2, f3, f4⟩ := K2.cells
  have hlt := K2.lt
  have B2 := K2.bel
  clear d2 K1 HSR ht
  go_wp2_with fail
  refine bodyPost_ret (v := .agg #[.int .i64 t.op, .string t.p, .int .i64 t.c.k, .int .i64 t.c.n, .string t.c.t]) (by simp [results, Tryz.results16, go_sem, *]) rfl ⟨⟨t, rfl, HV.out⟩, ?_⟩
  (repeat (first | (with_reducible exact Below.refl _ _) | (with_reducible assumption) | (with_reducible apply below_drewN) | (with_reducible apply Below.drew) | ((with_reducible refine Below.setCell ?_ ?_ _); rotate_left; focus (first | (simp; done) | (simp; omega) | omega)) | ((with_reducible refine Below.alloc ?_ ?_ _); rotate_left; focus (first | (simp; done) | (simp; omega) | omega))))

end Go.Proofs.YtkeghknceccdmaaGreatDoor
