/- What the specification's drawn value is. -/
import Derived.Test.YtmchpaccdnnilaaDrawS
import Derived.Test.YtmchpaccdnnilaaListA
namespace Go.Proofs.Ytmchpaccdnnilaa
open Go.RowKit
set_option linter.unusedVariables false

/-- A block of three cells that may be written. -/
structure BlkV (W : World) (B : Nat) (a b c : Value) : Prop where
  lt : B < W.heap.size
  c0 : W.cell? ⟨B, 0, none⟩ = some a
  c1 : W.cell? ⟨B, 1, none⟩ = some b
  c2 : W.cell? ⟨B, 2, none⟩ = some c
  z0 : W.frozen? ⟨B, 0, none⟩ = false
  z1 : W.frozen? ⟨B, 1, none⟩ = false
  z2 : W.frozen? ⟨B, 2, none⟩ = false
theorem BlkV.new (w : World) (a b c : Value) (T : TypeId) : BlkV (w.alloc (.cells #[a, b, c] T)) w.heap.size a b c :=
  ⟨by simp, by simp [go_sem], by simp [go_sem], by simp [go_sem], by simp [go_sem], by simp [go_sem], by simp [go_sem]⟩
theorem BlkV.step {W W' : World} {B : Nat} {a b c : Value} (h : BlkV W B a b c) (hb : Below W.heap.size W W') : BlkV W' B a b c :=
  ⟨Nat.lt_of_lt_of_le h.lt hb.size, (hb.cell h.lt).trans h.c0, (hb.cell h.lt).trans h.c1, (hb.cell h.lt).trans h.c2, (hb.frozen h.lt).trans h.z0, (hb.frozen h.lt).trans h.z1, (hb.frozen h.lt).trans h.z2⟩
/-- A value in its box. -/
structure VBx (U : World) (b : Nat) (v : Val) : Prop where
  lt : b < U.heap.size
  c0 : U.cell? ⟨b, 0, none⟩ = some (.int .i64 v.k)
  c1 : U.cell? ⟨b, 1, none⟩ = some (.int .i64 v.n)
  c2 : U.cell? ⟨b, 2, none⟩ = some (.string v.t)
theorem VBx.step {U U' : World} {b : Nat} {v : Val} (h : VBx U b v) (hb : Below U.heap.size U U') : VBx U' b v :=
  ⟨Nat.lt_of_lt_of_le h.lt hb.size, (hb.cell h.lt).trans h.c0, (hb.cell h.lt).trans h.c1, (hb.cell h.lt).trans h.c2⟩
theorem VBx.stepB {U U' : World} {b B : Nat} {v : Val} (h : VBx U b v) (hb : Below B U U') (hlt : b < B) : VBx U' b v :=
  ⟨Nat.lt_of_lt_of_le h.lt hb.size, (hb.cell hlt).trans h.c0, (hb.cell hlt).trans h.c1, (hb.cell hlt).trans h.c2⟩
theorem VBx.new (U : World) (v : Val) (T : TypeId) : VBx (U.alloc (.cells #[.int .i64 v.k, .int .i64 v.n, .string v.t] T)) U.heap.size v :=
  ⟨by simp, by simp [go_sem], by simp [go_sem], by simp [go_sem]⟩
theorem BlkV.grown {W W' : World} {B g : Nat} {a b c : Value} (h : BlkV W B a b c) (hg : W.grownBy W' (some g)) (hne : B ≠ g) : BlkV W' B a b c :=
  have e := hg.block B h.lt (fun e => hne (by injection e))
  ⟨Nat.lt_of_lt_of_le h.lt hg.size, (World.cell?_of_block e).trans h.c0, (World.cell?_of_block e).trans h.c1, (World.cell?_of_block e).trans h.c2, (World.frozen?_of_block e).trans h.z0, (World.frozen?_of_block e).trans h.z1, (World.frozen?_of_block e).trans h.z2⟩
set_option maxRecDepth 4000 in
set_option maxHeartbeats 1000000 in
theorem drawnValue_any (x : Option Addr) (cap : Nat) (zs : List Int) (w : World) (h : InC w x zs) :
    Calls Try.prog 5 #[.slice x zs.length cap] w fun e w' => (∃ v : Val, e = .returned (.agg #[.int .i64 v.k, .int .i64 v.n, .string v.t]) ∧ okB v = true) ∧ Below w.heap.size w w' := by
  have K0 := BlkV.new w (.int .i64 0) (.int .i64 0) (.string em) 24
  have hb0 : Below w.heap.size w (w.alloc (.cells #[.int .i64 0, .int .i64 0, .string em] 24)) := (Below.refl _ _).alloc (Nat.le_refl _) _
  have HS : Hid (Calls _ _ _ _ _) := l00Source_any x cap zs (w.alloc (.cells #[.int .i64 0, .int .i64 0, .string em] 24)) (h.step hb0)
  clear h
  go_enter Try.func5, Try.ntmps5
  go_wp2_with fail
  refine HS.out.mono ?_
  rintro e w1 ⟨rfl, s1, b1⟩
  have K1 := K0.step b1
  have B1 : Below w.heap.size w w1 := hb0.trans (b1.mono hb0.size)
  simp only [heap_size_alloc] at s1
  have HSR : Hid (SrcAt _ _ _ _ _ _) := s1
  clear s1 b1 K0 HS
  go_wp2_with fail
  refine (val_at 3 (w.heap.size + 1) x cap zs 0 _ HSR.out (by decide)).mono ?_
  rintro e w2 ⟨⟨v, rfl, hv⟩, d2⟩
  have K2 := K1.grown d2.1 (by omega)
  have B2 : Below w.heap.size w w2 := Below.grown B1 d2.1 B1.size (fun j hj => by injection hj with hj; omega)
  have HV : Hid _ := hv
  have a0 := K2.c0
  have a1 := K2.c1
  have a2 := K2.c2
  have z0 := K2.z0
  have z1 := K2.z1
  have z2 := K2.z2
  have hlt := K2.lt
  clear hv d2 K1 HSR
  go_wp2_with fail
  refine bodyPost_ret (v := .agg #[.int .i64 v.k, .int .i64 v.n, .string v.t]) (by simp [results, Try.results5, go_sem, *]) rfl ⟨⟨v, rfl, HV.out⟩, ?_⟩
  (repeat (first | (with_reducible exact Below.refl _ _) | (with_reducible assumption) | (with_reducible apply below_drewN) | (with_reducible apply Below.drew) | ((with_reducible refine Below.setCell ?_ ?_ _); rotate_left; focus (first | (simp; done) | (simp; omega) | omega)) | ((with_reducible refine Below.alloc ?_ ?_ _); rotate_left; focus (first | (simp; done) | (simp; omega) | omega))))

end Go.Proofs.Ytmchpaccdnnilaa
