/- What the program's order of values answers, for every two right values. -/
import Derived.Test.YtpfbepbmiillbaaGreatDoorDocBQ
import Derived.Test.YtpfbepbmiillbaaGreatDoorOwnQ
import Derived.Deep.RegionWith
import Derived.Test.YtpfbepbmiillbaaGreatDoorOKAQ
import Derived.BigQuiet
import Derived.Test.YtpfbepbmiillbaaGreatDoorTermWQ
import Derived.Test.YtpfbepbmiillbaaGreatDoorGetTQ
import Derived.Deep.DeepCutAuto
import Derived.Deep.RegionHeld3
namespace Go.Proofs.YtpfbepbmiillbaaGreatDoor
open Go.RowKit
set_option linter.unusedVariables false

end Go.Proofs.YtpfbepbmiillbaaGreatDoor

/- What the program's single trials of a value answer, for every right value. -/
namespace Go.Proofs.YtpfbepbmiillbaaGreatDoor
open Go.RowKit
set_option linter.unusedVariables false

/-- Four cells in the first new block, three in the second. -/
structure B43 (w W : World) (a b c d x y z : Value) : Prop where
  bel : Below w.heap.size w W
  lt : w.heap.size + 1 < W.heap.size
  c0 : W.cell? ⟨w.heap.size, 0, none⟩ = some a
  c1 : W.cell? ⟨w.heap.size, 1, none⟩ = some b
  c2 : W.cell? ⟨w.heap.size, 2, none⟩ = some c
  c3 : W.cell? ⟨w.heap.size, 3, none⟩ = some d
  d0 : W.cell? ⟨w.heap.size + 1, 0, none⟩ = some x
  d1 : W.cell? ⟨w.heap.size + 1, 1, none⟩ = some y
  d2 : W.cell? ⟨w.heap.size + 1, 2, none⟩ = some z
theorem B43.start (w : World) (a b c d x y z : Value) (T U : TypeId) : B43 w ((w.alloc (.cells #[a, b, c, d] T)).alloc (.cells #[x, y, z] U)) a b c d x y z :=
  ⟨((Below.refl _ _).alloc (Nat.le_refl _) _).alloc (by simp) _, by simp, by simp [go_sem], by simp [go_sem], by simp [go_sem], by simp [go_sem], by simp [go_sem], by simp [go_sem], by simp [go_sem]⟩
theorem B43.step {w W W' : World} {a b c d x y z : Value} (h : B43 w W a b c d x y z) (hb : Below W.heap.size W W') : B43 w W' a b c d x y z :=
  have hl : w.heap.size < W.heap.size := Nat.lt_of_succ_lt h.lt
  ⟨h.bel.trans (hb.mono h.bel.size), Nat.lt_of_lt_of_le h.lt hb.size, (hb.cell hl).trans h.c0, (hb.cell hl).trans h.c1, (hb.cell hl).trans h.c2, (hb.cell hl).trans h.c3, (hb.cell h.lt).trans h.d0, (hb.cell h.lt).trans h.d1, (hb.cell h.lt).trans h.d2⟩
theorem val_eq (a b : Val) : (a.k == b.k && (a.n == b.n && a.t.toList == b.t.toList)) = decide (a = b) := by
  by_cases h : a = b
  · subst h; simp
  · rw [decide_eq_false h]
    by_cases h1 : a.k = b.k
    · by_cases h2 : a.n = b.n
      · have h3 : a.t ≠ b.t := fun e => h (val_ext h1 h2 e)
        rw [toList_ne h3]; simp
      · rw [beq_eq_false_iff_ne.mpr h2]; simp
    · rw [beq_eq_false_iff_ne.mpr h1]; simp

theorem val_ne (a b : Val) (h : a ≠ b) : ((a.k == b.k) = false) ∨ ((a.k == b.k) = true ∧ (a.n == b.n) = false) ∨ ((a.k == b.k) = true ∧ (a.n == b.n) = true ∧ (a.t.toList == b.t.toList) = false) := by
  by_cases h1 : a.k = b.k
  · by_cases h2 : a.n = b.n
    · exact .inr (.inr ⟨by simp [h1], by simp [h2], toList_ne (fun e => h (val_ext h1 h2 e))⟩)
    · exact .inr (.inl ⟨by simp [h1], beq_eq_false_iff_ne.mpr h2⟩)
  · exact .inl (beq_eq_false_iff_ne.mpr h1)

end Go.Proofs.YtpfbepbmiillbaaGreatDoor

/- What the library's search among values by one of the program's trials answers. -/
namespace Go.Proofs.YtpfbepbmiillbaaGreatDoor
open Go.RowKit
set_option linter.unusedVariables false

end Go.Proofs.YtpfbepbmiillbaaGreatDoor

/- What the specification's trial of one value, and of a whole document, by a term answers. -/
namespace Go.Proofs.YtpfbepbmiillbaaGreatDoor
open Go.RowKit
set_option linter.unusedVariables false

/-- Five cells in the first new block, three in the second. -/
structure B53 (w W : World) (a b c d e x y z : Value) : Prop where
  bel : Below w.heap.size w W
  lt : w.heap.size + 1 < W.heap.size
  c0 : W.cell? ⟨w.heap.size, 0, none⟩ = some a
  c1 : W.cell? ⟨w.heap.size, 1, none⟩ = some b
  c2 : W.cell? ⟨w.heap.size, 2, none⟩ = some c
  c3 : W.cell? ⟨w.heap.size, 3, none⟩ = some d
  c4 : W.cell? ⟨w.heap.size, 4, none⟩ = some e
  d0 : W.cell? ⟨w.heap.size + 1, 0, none⟩ = some x
  d1 : W.cell? ⟨w.heap.size + 1, 1, none⟩ = some y
  d2 : W.cell? ⟨w.heap.size + 1, 2, none⟩ = some z
theorem B53.start (w : World) (a b c d e x y z : Value) (T U : TypeId) : B53 w ((w.alloc (.cells #[a, b, c, d, e] T)).alloc (.cells #[x, y, z] U)) a b c d e x y z :=
  ⟨((Below.refl _ _).alloc (Nat.le_refl _) _).alloc (by simp) _, by simp, by simp [go_sem], by simp [go_sem], by simp [go_sem], by simp [go_sem], by simp [go_sem], by simp [go_sem], by simp [go_sem], by simp [go_sem]⟩
theorem B53.step {w W W' : World} {a b c d e x y z : Value} (h : B53 w W a b c d e x y z) (hb : Below W.heap.size W W') : B53 w W' a b c d e x y z :=
  have hl : w.heap.size < W.heap.size := Nat.lt_of_succ_lt h.lt
  ⟨h.bel.trans (hb.mono h.bel.size), Nat.lt_of_lt_of_le h.lt hb.size, (hb.cell hl).trans h.c0, (hb.cell hl).trans h.c1, (hb.cell hl).trans h.c2, (hb.cell hl).trans h.c3, (hb.cell hl).trans h.c4, (hb.cell h.lt).trans h.d0, (hb.cell h.lt).trans h.d1, (hb.cell h.lt).trans h.d2⟩

theorem oneT_eq (c v : Val) (op : Int) (h : op = 1 ∨ op = 2) : oneT op c v = (v.k == c.k && (v.n == c.n && v.t.toList == c.t.toList)) := by unfold oneT; rw [if_pos h, val_eq]
theorem kind_eq (c v : Val) : (v.k == c.k) = decide (v.k = c.k) := by rw [Bool.eq_iff_iff]; simp

end Go.Proofs.YtpfbepbmiillbaaGreatDoor

/- What the program's trials by a term's operation answer. -/
namespace Go.Proofs.YtpfbepbmiillbaaGreatDoor
open Go.RowKit
set_option linter.unusedVariables false

/-- Four cells in the first new block. -/
structure Box4 (w W : World) (a b c d : Value) : Prop where
  bel : Below w.heap.size w W
  lt : w.heap.size < W.heap.size
  c0 : W.cell? ⟨w.heap.size, 0, none⟩ = some a
  c1 : W.cell? ⟨w.heap.size, 1, none⟩ = some b
  c2 : W.cell? ⟨w.heap.size, 2, none⟩ = some c
  c3 : W.cell? ⟨w.heap.size, 3, none⟩ = some d
theorem Box4.start (w : World) (a b c d : Value) (T : TypeId) : Box4 w (w.alloc (.cells #[a, b, c, d] T)) a b c d :=
  ⟨(Below.refl _ _).alloc (Nat.le_refl _) _, by simp, by simp [go_sem], by simp [go_sem], by simp [go_sem], by simp [go_sem]⟩
theorem Box4.step {w W W' : World} {a b c d : Value} (h : Box4 w W a b c d) (hb : Below W.heap.size W W') : Box4 w W' a b c d :=
  ⟨h.bel.trans (hb.mono h.bel.size), Nat.lt_of_lt_of_le h.lt hb.size, (hb.cell h.lt).trans h.c0, (hb.cell h.lt).trans h.c1, (hb.cell h.lt).trans h.c2, (hb.cell h.lt).trans h.c3⟩
theorem mk_func (fn : Fn) (first cap : Array Value) (w : World) : (Instr.makeFunc fn first cap).run Tryz.prog w = .ok (.func fn first cap) w := rfl

/-- What is held against a term that asks of values. -/
def withZ (l : List Val) : List Val := if l = [] then [⟨0, 0, em⟩] else l
theorem heldT_Z (op : Int) (l : List Val) (h : op ≠ 9) : heldT op l = withZ l := by unfold heldT withZ; rw [if_neg h]
end Go.Proofs.YtpfbepbmiillbaaGreatDoor

/- What the program's trial of a document by a term answers, for every right term and document. -/
namespace Go.Proofs.YtpfbepbmiillbaaGreatDoor
open Go.RowKit
set_option linter.unusedVariables false

/-- Some block holds four cells. -/
structure Lies4 (U : World) (b : Nat) (x y z t : Value) : Prop where
  lt : b < U.heap.size
  c0 : U.cell? ⟨b, 0, none⟩ = some x
  c1 : U.cell? ⟨b, 1, none⟩ = some y
  c2 : U.cell? ⟨b, 2, none⟩ = some z
  c3 : U.cell? ⟨b, 3, none⟩ = some t
theorem alloc_lt (w : World) (o : Obj) : w.heap.size < (w.alloc o).heap.size := by simp
theorem blk4 {W w1 : World} {a b c d : Value} {T : TypeId} (h : Below (W.alloc (.cells #[a, b, c, d] T)).heap.size (W.alloc (.cells #[a, b, c, d] T)) w1) :
    w1.cell? ⟨W.heap.size, 0, none⟩ = some a ∧ w1.cell? ⟨W.heap.size, 1, none⟩ = some b ∧ w1.cell? ⟨W.heap.size, 2, none⟩ = some c ∧ w1.cell? ⟨W.heap.size, 3, none⟩ = some d ∧ w1.frozen? ⟨W.heap.size, 0, none⟩ = false ∧ w1.frozen? ⟨W.heap.size, 1, none⟩ = false ∧ w1.frozen? ⟨W.heap.size, 2, none⟩ = false ∧ w1.frozen? ⟨W.heap.size, 3, none⟩ = false ∧ W.heap.size < w1.heap.size :=
  have hl := alloc_lt W (.cells #[a, b, c, d] T)
  ⟨(h.cell hl).trans (by simp [go_sem]), (h.cell hl).trans (by simp [go_sem]), (h.cell hl).trans (by simp [go_sem]), (h.cell hl).trans (by simp [go_sem]), (h.frozen hl).trans (by simp [go_sem]), (h.frozen hl).trans (by simp [go_sem]), (h.frozen hl).trans (by simp [go_sem]), (h.frozen hl).trans (by simp [go_sem]), Nat.lt_of_lt_of_le hl h.size⟩
theorem blk4d {W w1 : World} {a b c d : Value} {T : TypeId} (h : Below (W.drew.alloc (.cells #[a, b, c, d] T)).heap.size (W.drew.alloc (.cells #[a, b, c, d] T)) w1) :
    w1.cell? ⟨W.heap.size, 0, none⟩ = some a ∧ w1.cell? ⟨W.heap.size, 1, none⟩ = some b ∧ w1.cell? ⟨W.heap.size, 2, none⟩ = some c ∧ w1.cell? ⟨W.heap.size, 3, none⟩ = some d ∧ w1.frozen? ⟨W.heap.size, 0, none⟩ = false ∧ w1.frozen? ⟨W.heap.size, 1, none⟩ = false ∧ w1.frozen? ⟨W.heap.size, 2, none⟩ = false ∧ w1.frozen? ⟨W.heap.size, 3, none⟩ = false ∧ W.heap.size < w1.heap.size := blk4 (W := W.drew) h
theorem keepT {w W0 U : World} {a b c d e x y z : Value} (X : B53 w W0 a b c d e x y z) (hb : Below W0.heap.size W0 U) :
    U.cell? ⟨w.heap.size, 1, none⟩ = some b ∧ U.cell? ⟨w.heap.size, 2, none⟩ = some c ∧ U.cell? ⟨w.heap.size, 3, none⟩ = some d ∧ U.cell? ⟨w.heap.size, 4, none⟩ = some e ∧ U.cell? ⟨w.heap.size + 1, 0, none⟩ = some x ∧ U.cell? ⟨w.heap.size + 1, 1, none⟩ = some y ∧ U.cell? ⟨w.heap.size + 1, 2, none⟩ = some z :=
  have Y := X.step hb
  ⟨Y.c1, Y.c2, Y.c3, Y.c4, Y.d0, Y.d1, Y.d2⟩
theorem grown_setT {w : World} {g o : Nat} {v : Value} : w.grownBy (w.setCell ⟨g, o, none⟩ v) (some g) := by
  refine ⟨rfl, rfl, rfl, by simp [World.setCell], ?_⟩
  intro k hk hne
  have : g ≠ k := fun e => hne (by rw [e])
  simp [World.setCell, Array.getElem?_modify, this]
theorem grown_set4 {w : World} {g : Nat} {a b c d : Value} : w.grownBy ((((w.setCell ⟨g, 0, none⟩ a).setCell ⟨g, 1, none⟩ b).setCell ⟨g, 2, none⟩ c).setCell ⟨g, 3, none⟩ d) (some g) :=
  ((grown_setT.trans grown_setT).trans grown_setT).trans grown_setT
theorem RowV.far {w U : World} {q s : Option Addr} {l : List Val} {tb n c : Nat} (h : RowV w q l) (ht : w.cell? ⟨tb, 0, none⟩ = some (.slice s n c)) (hg : w.grownBy U (some tb)) : RowV U q l := by
  rcases h with h | ⟨g, hp, R⟩
  · exact .inl h
  · cases l with
    | nil => exact .inl rfl
    | cons v l =>
      refine .inr ⟨g, hp, R.grown hg (fun e => ?_)⟩
      injection e with e
      have := (R.cells 0 (by simp)).1
      rw [Nat.zero_mul, e, ht] at this
      cases this
theorem keepR {U V : World} {b a0 : Nat} {x y z t o : Value} (Y : Lies4 U b x y z t) (hl : a0 < U.heap.size) (h0 : U.cell? ⟨a0, 0, none⟩ = some o) (hb : Below U.heap.size U V) :
    V.cell? ⟨b, 0, none⟩ = some x ∧ V.cell? ⟨b, 1, none⟩ = some y ∧ V.cell? ⟨b, 2, none⟩ = some z ∧ V.cell? ⟨b, 3, none⟩ = some t ∧ V.cell? ⟨a0, 0, none⟩ = some o :=
  ⟨(hb.cell Y.lt).trans Y.c0, (hb.cell Y.lt).trans Y.c1, (hb.cell Y.lt).trans Y.c2, (hb.cell Y.lt).trans Y.c3, (hb.cell hl).trans h0⟩
theorem RowV.below {w w' : World} {p : Option Addr} {l : List Val} (h : RowV w p l) (hb : Below w.heap.size w w') : RowV w' p l := h.next hb

end Go.Proofs.YtpfbepbmiillbaaGreatDoor

/- What the specification's trial of a document by a term answers. -/
namespace Go.Proofs.YtpfbepbmiillbaaGreatDoor
open Go.RowKit
set_option linter.unusedVariables false

theorem lets_exists (c : Val) (L : List Val) : letsT 8 c L = (decide (0 < (L.length : Int)) == (c.n == 1)) := by
  unfold letsT; rw [if_pos rfl]; congr 1
theorem op_two (op : Int) : (op == 2) = decide (op = 2) := by rw [Bool.eq_iff_iff]; simp

end Go.Proofs.YtpfbepbmiillbaaGreatDoor

/- What the two functions that hold a document to a term answer, for every term and every value. -/
namespace Go.Proofs.YtpfbepbmiillbaaGreatDoor
open Go.RowKit
set_option linter.unusedVariables false

/-- What holding a document to a term comes to. -/
def matchP (op : Int) (p : ByteArray) (c doc : Val) : Bool × Int := if termB op p c = true ∧ docB doc = true then (termL op p c doc, 0) else (false, 1)
theorem termB_parts (op : Int) (p : ByteArray) (c : Val) (h : termB op p c = true) : p.size ≤ 50 ∧ okB c = true ∧ (1 ≤ op ∧ op ≤ 10) ∧ (op = 7 → c.k = 4) := by
  unfold termB at h
  rw [Bool.and_eq_true, Bool.and_eq_true] at h
  obtain ⟨hp, hc, ht⟩ := h
  refine ⟨?_, hc, ?_, ?_⟩
  · rcases Nat.lt_or_ge 50 p.size with h' | h'
    · rw [pathB_long p h'] at hp; cases hp
    · exact h'
  · unfold takesT at ht
    by_cases h1 : 1 ≤ op ∧ op ≤ 10
    · exact h1
    · rw [if_neg (by omega), if_neg (by omega), if_neg (by omega), if_neg (by omega), if_neg (by omega)] at ht; cases ht
  · intro h7
    subst h7
    unfold takesT at ht
    simpa using ht

end Go.Proofs.YtpfbepbmiillbaaGreatDoor
