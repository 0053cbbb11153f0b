/- What the law of dropping leans on. -/
import Derived.Test.YtnmpfooegnmknaaDraD
import Derived.Test.YtnmpfooegnmknaaTrR
import Derived.Test.YtnmpfooegnmknaaTrY
import Derived.Deep.DeepCutAuto
namespace Go.Proofs.Ytnmpfooegnmknaa.Tr
open Go.RowKit
set_option linter.unusedVariables false

theorem OwnT.shape {w : World} {base : Nat} {v : Value} {f : List Pg} (h : OwnT w base v f) : ∃ p c, v = .slice p f.length c := by
  rcases h.form with ⟨rfl, rfl⟩ | ⟨g, c, rfl, _⟩
  · exact ⟨_, _, rfl⟩
  · exact ⟨_, _, rfl⟩
theorem OwnT.rowQ {w : World} {base n c : Nat} {p : Option Addr} {f : List Pg} (h : OwnT w base (.slice p n c) f) : RowP w p f := by
  rcases h.form with ⟨e, rfl⟩ | ⟨g, c, e, hg, hR⟩
  · exact .inl rfl
  · injection e with e1; exact .inr ⟨g, e1, hR⟩
theorem OwnH.rowQ {w : World} {lo hi n c : Nat} {p : Option Addr} {f : List Pg} (h : OwnH w lo hi (.slice p n c) f) : RowP w p f := h.ownT.rowQ
theorem OwnH.rowQm {w : World} {lo hi n c : Nat} {p : Option Addr} {f : List Pg} (h : OwnH w lo hi (.slice p n c) (marksP 1 f)) : RowP w p (marksP 1 f) := h.ownT.rowQ
theorem BoxTE.step' {w W W' : World} {v : Value} {next : Int} {e : Ent} {B : Nat} (h : BoxTE w W v next e) (hb : Below B W W') (hB : w.heap.size + 2 ≤ B) : BoxTE w W' v next e :=
  ⟨h.bel.trans (hb.mono (by omega)), Nat.lt_of_lt_of_le h.lt hb.size, (hb.cell (by show w.heap.size < B; omega)).trans h.c0, (hb.cell (by show w.heap.size < B; omega)).trans h.c1, (hb.cell (by show w.heap.size + 1 < B; omega)).trans h.d0, (hb.cell (by show w.heap.size + 1 < B; omega)).trans h.d1⟩
/-- Two cells of a tree's zero value. -/
structure Z2 (U : World) (b : Nat) : Prop where
  lt : b < U.heap.size
  c0 : U.cell? ⟨b, 0, none⟩ = some (.slice none 0 0)
  c1 : U.cell? ⟨b, 1, none⟩ = some (.int .i64 0)
  z0 : U.frozen? ⟨b, 0, none⟩ = false
  z1 : U.frozen? ⟨b, 1, none⟩ = false
theorem Z2.next {U U' : World} {b : Nat} (h : Z2 U b) (hb : Below U.heap.size U U') : Z2 U' b :=
  ⟨Nat.lt_of_lt_of_le h.lt hb.size, (hb.cell h.lt).trans h.c0, (hb.cell h.lt).trans h.c1, (hb.frozen (p := ⟨b, 0, none⟩) h.lt).trans h.z0, (hb.frozen (p := ⟨b, 1, none⟩) h.lt).trans h.z1⟩
theorem z2a {W w1 : World} {T : TypeId} (h : Below (W.alloc (.cells #[.slice none 0 0, .int .i64 0] T)).heap.size (W.alloc (.cells #[.slice none 0 0, .int .i64 0] T)) w1) : Z2 w1 W.heap.size :=
  Z2.next ⟨by simp, by simp [go_sem], by simp [go_sem], by simp [go_sem], by simp [go_sem]⟩ h
theorem z2d {W w1 : World} {T : TypeId} (h : Below (W.drew.alloc (.cells #[.slice none 0 0, .int .i64 0] T)).heap.size (W.drew.alloc (.cells #[.slice none 0 0, .int .i64 0] T)) w1) : Z2 w1 W.heap.size := z2a (W := W.drew) h
theorem z2e {W w1 : World} {T : TypeId} (h : Below (W.alloc (.cells #[.slice none 0 0, .int .i64 0] T)).drew.heap.size (W.alloc (.cells #[.slice none 0 0, .int .i64 0] T)).drew w1) : Z2 w1 W.heap.size :=
  Z2.next (U := (W.alloc (.cells #[.slice none 0 0, .int .i64 0] T)).drew) ⟨by simp, by simp [go_sem], by simp [go_sem], by simp [go_sem], by simp [go_sem]⟩ h
/-- A tree that an answer brought, boxed. -/
structure ResT (w2 wx : World) (bs : Nat) (s : Option Addr) (c : Nat) (F : List Pg) (nx : Int) (lo hi : Nat) : Prop where
  bel : Below w2.heap.size w2 wx
  ge : w2.heap.size ≤ bs
  lt : bs < wx.heap.size
  c0 : wx.cell? ⟨bs, 0, none⟩ = some (.slice s F.length c)
  c1 : wx.cell? ⟨bs, 1, none⟩ = some (.int .i64 nx)
  own : OwnH wx lo hi (.slice s F.length c) F
  lo_ : w2.heap.size ≤ lo
  hi_ : hi ≤ wx.heap.size
  out : bs < lo ∨ hi ≤ bs
theorem ResT.late {w2 w5 : World} {s : Option Addr} {c lo : Nat} {F : List Pg} {nx : Int} {T : TypeId} (hB : Below w2.heap.size w2 w5) (hO : OwnT w5 lo (.slice s F.length c) F) (hlo : w2.heap.size ≤ lo) : ResT w2 (w5.alloc (.cells #[.slice s F.length c, .int .i64 nx] T)) w5.heap.size s c F nx lo w5.heap.size :=
  ⟨hB.alloc hB.size _, hB.size, by simp, by simp [go_sem], by simp [go_sem], hO.ownH.next ((Below.refl _ _).alloc (Nat.le_refl _) _), hlo, by simp, .inr (Nat.le_refl _)⟩
theorem ResT.early {w2 w5 : World} {s : Option Addr} {c lo bs : Nat} {F : List Pg} {nx : Int} (Z : Z2 w5 bs) (hB : Below w2.heap.size w2 w5) (hO : OwnT w5 lo (.slice s F.length c) F) (h1 : w2.heap.size ≤ bs) (h2 : bs < lo) (hlo : w2.heap.size ≤ lo) : ResT w2 ((w5.setCell ⟨bs, 0, none⟩ (.slice s F.length c)).setCell ⟨bs, 1, none⟩ (.int .i64 nx)) bs s c F nx lo w5.heap.size := by
  obtain ⟨z1, z2, z3, z4, z5⟩ := Z
  have hO2 := (hO.grown (grown_set (g := bs) (o := 0) (v := .slice s F.length c)) h2).grown (grown_set (g := bs) (o := 1) (v := .int .i64 nx)) h2
  have hs : ((w5.setCell ⟨bs, 0, none⟩ (.slice s F.length c)).setCell ⟨bs, 1, none⟩ (.int .i64 nx)).heap.size = w5.heap.size := by simp
  have hH := hO2.ownH
  rw [hs] at hH
  exact ⟨(hB.setCell h1 _).setCell h1 _, h1, by rw [hs]; exact z1, by simp [go_sem, *], by simp [go_sem, *], hH, hlo, by rw [hs]; exact Nat.le_refl _, .inl h2⟩
theorem ResT.lateE {w2 w5 : World} {s : Option Addr} {c lo : Nat} {F : List Pg} {nx : Int} {T : TypeId} (hB : Below w2.heap.size w2 w5) (hO : OwnT w5 lo (.slice s F.length c) F) (hlo : w2.heap.size ≤ lo) : ∃ l h, ResT w2 (w5.alloc (.cells #[.slice s F.length c, .int .i64 nx] T)) w5.heap.size s c F nx l h := ⟨_, _, ResT.late hB hO hlo⟩
theorem ResT.earlyE {w2 w5 : World} {s : Option Addr} {c lo bs : Nat} {F : List Pg} {nx : Int} (Z : Z2 w5 bs) (hB : Below w2.heap.size w2 w5) (hO : OwnT w5 lo (.slice s F.length c) F) (h1 : w2.heap.size ≤ bs) (h2 : bs < lo) (hlo : w2.heap.size ≤ lo) : ∃ l h, ResT w2 ((w5.setCell ⟨bs, 0, none⟩ (.slice s F.length c)).setCell ⟨bs, 1, none⟩ (.int .i64 nx)) bs s c F nx l h := ⟨_, _, ResT.early Z hB hO h1 h2 hlo⟩
theorem tree_sizes {f : List Pg} {next : Int} (h : treeB f next = true) : f.length ≤ 1048576 ∧ ∀ l ∈ f, l.es.length ≤ 1048576 := by
  have h60 := ((treeB_iff f next).1 h).1
  exact ⟨by omega, fun l hl => Nat.le_trans (tree_small h l hl) (by omega)⟩
theorem DropR.small {f : List Pg} {next : Int} {e : Ent} {f' : List Pg} {n code : Int} (h : DropR f next e f' n code) : f'.length ≤ 1048576 ∧ ∀ l ∈ f', l.es.length ≤ 1048576 := by
  by_cases hT : treeB f next = true ∧ entB e = true
  · exact tree_sizes (h.right hT).1
  · unfold DropR at h; rw [if_neg hT] at h; rw [h.1]; simp
end Go.Proofs.Ytnmpfooegnmknaa.Tr
