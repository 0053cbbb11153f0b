import Derived.Test.YtejphhhmblpapaaDoorDepthMQ
import Derived.Test.YtejphhhmblpapaaDoorSplitS
import Derived.Test.YtejphhhmblpapaaDoorOwnQ
import Derived.Test.YtejphhhmblpapaaDoorLawBQ
import Derived.Deep.RegionWith
import Derived.Laws.AppendOwnNone
import Derived.Deep.DeepCutAuto
import Derived.Maps.AppendAt
/- What the specification's way along a path answers, for every right value. -/
namespace Go.Proofs.YtejphhhmblpapaaDoor
open Go.RowKit
set_option linter.unusedVariables false

/-- A value, and whether it is there. -/
def fieldR (nm : ByteArray) (l : List Fld) : Val × Bool := match fieldV nm l with | none => (zv, false) | some x => (x, true)
theorem fieldR_none (nm : ByteArray) (l : List Fld) (h : fieldV nm l = none) : fieldR nm l = (zv, false) := by unfold fieldR; rw [h]
theorem fieldR_some (nm : ByteArray) (l : List Fld) (x : Val) (h : fieldV nm l = some x) : fieldR nm l = (x, true) := by unfold fieldR; rw [h]

end Go.Proofs.YtejphhhmblpapaaDoor

/- What the specification's way along a path answers, for every right value: the whole of it. -/
namespace Go.Proofs.YtejphhhmblpapaaDoor
open Go.RowKit
set_option linter.unusedVariables false

/-- A row of values in new memory is answered. -/
def OutV (l : List Val) (w' : World) (e : Ending) : Prop := ∃ g cap, e = .returned (.slice (some ⟨g, 0, none⟩) l.length cap) ∧ ReadV w' g l
theorem OutV.mk {l : List Val} {w' : World} {e : Ending} (g cap : Nat) (h : e = .returned (.slice (some ⟨g, 0, none⟩) l.length cap)) (hr : ReadV w' g l) : OutV l w' e := ⟨g, cap, h, hr⟩
theorem owns_one (w : World) (v : Val) {base : Nat} (hb : base ≤ w.heap.size) : (w.alloc (.cells #[.int .i64 v.k, .int .i64 v.n, .string v.t] 26)).ownsRow base 26 3 (.slice (some ⟨w.heap.size, 0, none⟩) 1 1) 1 (flat [v]) :=
  ⟨rfl, .inr ⟨w.heap.size, 1, _, rfl, hb, heap_alloc_new w _, Nat.le_refl _, by unfold maxLen; omega, rfl, rfl⟩⟩
theorem flat_one (l : List Val) : ∀ u ∈ flat l, u.oneCell' = true := by
  intro u hu
  unfold flat at hu
  obtain ⟨v, _, hv⟩ := List.mem_flatMap.mp hu
  simp [row] at hv
  rcases hv with rfl | rfl | rfl <;> rfl
theorem addr0 (g j : Nat) : (⟨g, 0, none⟩ : Addr).add j = ⟨g, j, none⟩ := by unfold Addr.add; split <;> simp_all
theorem ReadV.flat {w : World} {g : Nat} {l : List Val} (h : ReadV w g l) : ∀ j u, (flat l)[j]? = some u → w.cell? ((⟨g, 0, none⟩ : Addr).add j) = some u := by
  intro j u hu
  rw [addr0]
  obtain ⟨i, hi, hc⟩ := flat_at l j u hu
  have hx := h.cells i hi
  rcases hc with ⟨rfl, rfl⟩ | ⟨rfl, rfl⟩ | ⟨rfl, rfl⟩
  · exact hx.1
  · exact hx.2.1
  · exact hx.2.2
theorem flat_app (a b : List Val) : flat (a ++ b) = flat a ++ flat b := by unfold flat; simp

/-- Some block of U holds three cells, and all that lay in w lies in U as it did. -/
structure Lies3 (w U : World) (b : Nat) (x y z : Value) : Prop where
  bel : Below w.heap.size w U
  lt : b < U.heap.size
  c0 : U.cell? ⟨b, 0, none⟩ = some x
  c1 : U.cell? ⟨b, 1, none⟩ = some y
  c2 : U.cell? ⟨b, 2, none⟩ = some z

theorem tailS {w : World} {g off : Nat} {x : ByteArray} {l : List ByteArray} (h : ReadS w g off (x :: l)) (cap : Nat) (hcap : l.length + 1 ≤ cap) : ReadS w g (if cap - 1 = 0 then off else off + 1) l := by
  by_cases hc : cap - 1 = 0
  · rw [if_pos hc]
    have : l = [] := List.eq_nil_of_length_eq_zero (by omega)
    subst this
    exact ⟨h.lt, fun i hi => absurd hi (by simp)⟩
  · rw [if_neg hc]; exact h.tail
end Go.Proofs.YtejphhhmblpapaaDoor

/- What the specification's way along a path answers, for every right value and all names. -/
namespace Go.Proofs.YtejphhhmblpapaaDoor
open Go.RowKit
set_option linter.unusedVariables false

theorem ReadV.grown {w w' : World} {g : Nat} {l : List Val} {row : Option Nat} (h : ReadV w g l) (hg : w.grownBy w' row) (hne : some g ≠ row) : ReadV w' g l :=
  ⟨Nat.lt_of_lt_of_le h.lt hg.size, fun i hi => ⟨(World.cell?_of_block (hg.block g h.lt hne)).trans (h.cells i hi).1, (World.cell?_of_block (hg.block g h.lt hne)).trans (h.cells i hi).2.1, (World.cell?_of_block (hg.block g h.lt hne)).trans (h.cells i hi).2.2⟩⟩
/-- What comes behind a name of the first items. -/
def accP (r : Val → List Val) (nm : ByteArray) (l : List Val) (k : Nat) : List Val := (l.take k).flatMap (fun it => if it.k = 5 then docP r nm it else [])
theorem accP_succ (r : Val → List Val) (nm : ByteArray) (l : List Val) (k : Nat) (h : k < l.length) : accP r nm l (k + 1) = accP r nm l k ++ (if l[k].k = 5 then docP r nm l[k] else []) := by
  unfold accP; rw [List.take_succ_eq_append_getElem h, List.flatMap_append, List.flatMap_singleton]
theorem accP_full (r : Val → List Val) (nm : ByteArray) (l : List Val) (k : Nat) (h : l.length ≤ k) : accP r nm l k = l.flatMap (fun it => if it.k = 5 then docP r nm it else []) := by
  unfold accP; rw [List.take_of_length_le h]
theorem accP_len (ws : List ByteArray) (nm : ByteArray) (l : List Val) (k : Nat) : (accP (getP ws) nm l k).length ≤ (l.map (fun u => u.t.size)).sum := by
  have h1 := flat_len_le (f := fun it => if it.k = 5 then docP (getP ws) nm it else []) (l.take k) (fun u => by
    show (if u.k = 5 then docP (getP ws) nm u else []).length ≤ _
    split
    · exact docP_len (getP ws) (getP_len ws) nm u
    · simp)
  have h2 : ∀ (l : List Val) (k : Nat), ((l.take k).map (fun u => u.t.size)).sum ≤ (l.map (fun u => u.t.size)).sum := by
    intro l
    induction l with
    | nil => intro k; simp
    | cons u l ih =>
      intro k
      cases k with
      | zero => simp
      | succ k => rw [List.take_succ_cons, List.map_cons, List.map_cons, List.sum_cons, List.sum_cons]; have := ih k; omega
  unfold accP
  have := h2 l k
  omega

end Go.Proofs.YtejphhhmblpapaaDoor
