/- The interval of a filter, said plainly; the blocks that the functions on clauses keep. -/
import Derived.Test.YtdchhjnmhnehiaaGreatDoorTintIQ
import Derived.Test.YtdchhjnmhnehiaaGreatDoorRowTQ
import Derived.Test.YtdchhjnmhnehiaaGreatDoorTrMQ
import Derived.Laws.StructEq
import Derived.Test.YtdchhjnmhnehiaaGreatDoorTrialAQ
import Derived.Deep.DeepCutAuto
import Derived.Deep.RegionHeld3
namespace Go.Proofs.YtdchhjnmhnehiaaGreatDoor.Fi
open Go.RowKit
open Tr
set_option linter.unusedVariables false

/-- Does a term say something of a path. -/
def sayI (p : Prt) (t : Trm) : Bool := (t.p.toList == p.path.toList) && !(tintI t.op t.c p.desc).op
/-- A clause's interval: that of the first term that says something. -/
def clI (p : Prt) : List Trm → Ivl
  | [] => ⟨em, em, true⟩
  | t :: r => if sayI p t = true then tintI t.op t.c p.desc else clI p r
theorem clI_say (p : Prt) (t : Trm) (r : List Trm) (h : sayI p t = true) : clI p (t :: r) = tintI t.op t.c p.desc := by rw [clI, if_pos h]
theorem clI_not (p : Prt) (t : Trm) (r : List Trm) (h : sayI p t = false) : clI p (t :: r) = clI p r := by rw [clI, if_neg (by rw [h]; simp)]
def spanI (a b : Ivl) : Ivl := ⟨Lib.minS a.lo b.lo, if a.op || b.op then em else Lib.maxS a.hi b.hi, a.op || b.op⟩
def fiI (p : Prt) : List (List Trm) → Ivl
  | [] => ⟨em, em, true⟩
  | c :: r => r.foldl (fun acc c => spanI acc (clI p c)) (clI p c)
theorem fiI_eq (p : Prt) : ∀ (f : List (List Trm)) (h : 0 < f.length), fiI p f = (f.drop 1).foldl (fun acc c => spanI acc (clI p c)) (clI p f[0])
  | c :: r, _ => rfl
theorem tint_all (t : Trm) (d : Bool) (h : okT t = true) : tintI t.op t.c d = ⟨em, em, true⟩ ∨ (tintI t.op t.c d).op = false := by
  obtain ⟨h1, h2, h3⟩ := term_parts t.op t.p t.c h
  unfold tintI
  split
  · obtain ⟨c, r, s, _, _, e, _⟩ := one_begin t.c d h1
    right; rw [e]
  · split
    · rename_i h9
      obtain ⟨c, _, e⟩ := kind_begin t.c.n d (h3 h9).1 (h3 h9).2
      right; rw [e]
    · split
      · right; unfold ordT; split <;> rfl
      · exact .inl rfl
theorem fi_drop {α : Type} (l : List α) (k : Nat) (h : k < l.length) : l.drop k = l[k] :: l.drop (k + 1) := by rw [List.drop_eq_getElem_cons h]
def filtI (p : Prt) (f : List (List Trm)) : Ivl × Int := if (filtB f && pathB p.path) = true then (fiI p f, 0) else (⟨em, em, false⟩, 1)

theorem eqIvl (a b a' b' : ByteArray) (c c' : Bool) (w : World) : (Op.equalIn 10000 34 (.agg #[.string a, .string b, .bool c]) (.agg #[.string a', .string b', .bool c'])).run Tryz.prog w = .ok (a.toList == a'.toList && (b.toList == b'.toList && c == c')) w := by
  have u3 := Tryz.underlying4
  have u4 := Tryz.underlying9
  have a3 := Tryz.isAgg4
  have z3 := Tryz.sizeOf4
  have a4 := Tryz.isAgg9
  have z4 := Tryz.sizeOf9
  have hS : Tryz.prog.underlying 34 = some (.struct (Tryz.prog.fieldsOf 34)) := by kernel_rfl
  have hp : Tryz.prog.stoodInHeld 34 = false := by kernel_rfl
  rw [show (10000 : Nat) = 9999 + 1 from rfl, run_equalIn_agg w 9999 34 _ _ hS hp]
  simp only [Program.fieldsOf, Tryz.underlying34]
  go_simp
  by_cases h1 : a.toList = a'.toList <;> by_cases h2 : b.toList = b'.toList <;> cases c <;> cases c' <;> simp [h1, h2]
theorem neqIvl (a b a' b' : ByteArray) (c c' : Bool) (w : World) : (binOp .neq 34 (.agg #[.string a, .string b, .bool c]) (.agg #[.string a', .string b', .bool c'])).run Tryz.prog w = .ok (.bool (!(a.toList == a'.toList && (b.toList == b'.toList && c == c')))) w := by
  rw [run_neq_struct, eqIvl]; rfl

theorem neqIvl_ft (a b a' b' : ByteArray) (w : World) : (binOp .neq 34 (.agg #[.string a, .string b, .bool false]) (.agg #[.string a', .string b', .bool true])).run Tryz.prog w = .ok (.bool true) w := by
  rw [neqIvl]; simp
theorem neqIvl_same (a b : ByteArray) (c : Bool) (w : World) : (binOp .neq 34 (.agg #[.string a, .string b, .bool c]) (.agg #[.string a, .string b, .bool c])).run Tryz.prog w = .ok (.bool false) w := by
  rw [neqIvl]; simp

/-- The first four new blocks: a clause's or a filter's cell, a part, the answer, an interval. -/
structure CI (w W : World) (v : Value) (p : Prt) (x y z : Value) : Prop where
  bel : Below w.heap.size w W
  c0 : W.cell? ⟨w.heap.size, 0, none⟩ = some v
  p0 : W.cell? ⟨w.heap.size + 1, 0, none⟩ = some (.string p.path)
  p1 : W.cell? ⟨w.heap.size + 1, 1, none⟩ = some (.bool p.desc)
  r : I3 W (w.heap.size + 2) (.string em) (.string em) (.bool false)
  a : I3 W (w.heap.size + 3) x y z
theorem CI.step {w W W' : World} {v : Value} {p : Prt} {x y z : Value} (h : CI w W v p x y z) (hb : Below W.heap.size W W') : CI w W' v p x y z := by
  have hl := h.a.lt
  exact ⟨h.bel.trans (hb.mono h.bel.size), (hb.cell (p := ⟨w.heap.size, 0, none⟩) (by show w.heap.size < W.heap.size; omega)).trans h.c0, (hb.cell (p := ⟨w.heap.size + 1, 0, none⟩) (by show w.heap.size + 1 < W.heap.size; omega)).trans h.p0, (hb.cell (p := ⟨w.heap.size + 1, 1, none⟩) (by show w.heap.size + 1 < W.heap.size; omega)).trans h.p1, h.r.step hb, h.a.step hb⟩
/-- The first three of these. -/
structure CJ (w W : World) (v : Value) (p : Prt) : Prop where
  bel : Below w.heap.size w W
  c0 : W.cell? ⟨w.heap.size, 0, none⟩ = some v
  p0 : W.cell? ⟨w.heap.size + 1, 0, none⟩ = some (.string p.path)
  p1 : W.cell? ⟨w.heap.size + 1, 1, none⟩ = some (.bool p.desc)
  r : I3 W (w.heap.size + 2) (.string em) (.string em) (.bool false)
theorem CJ.step {w W W' : World} {v : Value} {p : Prt} (h : CJ w W v p) (hb : Below W.heap.size W W') : CJ w W' v p := by
  have hl := h.r.lt
  exact ⟨h.bel.trans (hb.mono h.bel.size), (hb.cell (p := ⟨w.heap.size, 0, none⟩) (by show w.heap.size < W.heap.size; omega)).trans h.c0, (hb.cell (p := ⟨w.heap.size + 1, 0, none⟩) (by show w.heap.size + 1 < W.heap.size; omega)).trans h.p0, (hb.cell (p := ⟨w.heap.size + 1, 1, none⟩) (by show w.heap.size + 1 < W.heap.size; omega)).trans h.p1, h.r.step hb⟩
theorem CJ.start (w : World) (v : Value) (p : Prt) (T U V : TypeId) : CJ w (((w.alloc (.cells #[v] T)).alloc (.cells #[.string p.path, .bool p.desc] U)).alloc (.cells #[.string em, .string em, .bool false] V)) v p :=
  ⟨(((Below.refl _ _).alloc (Nat.le_refl _) _).alloc (by simp) _).alloc (by simp; omega) _, by simp [go_sem], by simp [go_sem], by simp [go_sem], ⟨by simp, by simp [go_sem], by simp [go_sem], by simp [go_sem], by simp [go_sem], by simp [go_sem], by simp [go_sem]⟩⟩
theorem CI.start (w : World) (v : Value) (p : Prt) (x y z : Value) (T U V : TypeId) : CI w ((((w.alloc (.cells #[v] T)).alloc (.cells #[.string p.path, .bool p.desc] U)).alloc (.cells #[.string em, .string em, .bool false] V)).alloc (.cells #[x, y, z] V)) v p x y z :=
  have h := (CJ.start w v p T U V).step ((Below.refl _ _).alloc (Nat.le_refl _) (.cells #[x, y, z] V))
  ⟨h.bel, h.c0, h.p0, h.p1, h.r, ⟨by simp, by simp [go_sem], by simp [go_sem], by simp [go_sem], by simp [go_sem], by simp [go_sem], by simp [go_sem]⟩⟩
theorem i3_set3 {W : World} {g : Nat} {x y z : Value} (h : I3 W g x y z) (x' y' z' : Value) : I3 (((W.setCell ⟨g, 0, none⟩ x').setCell ⟨g, 1, none⟩ y').setCell ⟨g, 2, none⟩ z') g x' y' z' := by
  obtain ⟨l, c0, c1, c2, f0, f1, f2⟩ := h
  exact ⟨by simpa using l, by simp [go_sem, *], by simp [go_sem, *], by simp [go_sem, *], by simp [go_sem, *], by simp [go_sem, *], by simp [go_sem, *]⟩
theorem CI.set {w W : World} {v : Value} {p : Prt} {x y z : Value} (h : CI w W v p x y z) (x' y' z' : Value) : CI w (((W.setCell ⟨w.heap.size + 3, 0, none⟩ x').setCell ⟨w.heap.size + 3, 1, none⟩ y').setCell ⟨w.heap.size + 3, 2, none⟩ z') v p x' y' z' := by
  obtain ⟨b, c0, p0, p1, ⟨l, r0, r1, r2, f0, f1, f2⟩, a⟩ := h
  exact ⟨((b.setCell (by simp) _).setCell (by simp) _).setCell (by simp) _, by simp [go_sem, *], by simp [go_sem, *], by simp [go_sem, *], ⟨by simpa using l, by simp [go_sem, *], by simp [go_sem, *], by simp [go_sem, *], by simp [go_sem, *], by simp [go_sem, *], by simp [go_sem, *]⟩, i3_set3 a x' y' z'⟩
/-- The first three blocks, and an interval somewhere behind them. -/
structure CK (w W : World) (v : Value) (p : Prt) (bx : Nat) (x y z : Value) : Prop where
  j : CJ w W v p
  ge : w.heap.size + 3 ≤ bx
  a : I3 W bx x y z
theorem CK.step {w W W' : World} {v : Value} {p : Prt} {bx : Nat} {x y z : Value} (h : CK w W v p bx x y z) (hb : Below W.heap.size W W') : CK w W' v p bx x y z := ⟨h.j.step hb, h.ge, h.a.step hb⟩
theorem CK.set {w W : World} {v : Value} {p : Prt} {bx : Nat} {x y z : Value} (h : CK w W v p bx x y z) (x' y' z' : Value) : CK w (((W.setCell ⟨bx, 0, none⟩ x').setCell ⟨bx, 1, none⟩ y').setCell ⟨bx, 2, none⟩ z') v p bx x' y' z' := by
  obtain ⟨⟨b, c0, p0, p1, ⟨l, r0, r1, r2, f0, f1, f2⟩⟩, ge, a⟩ := h
  have e1 : ¬ bx = w.heap.size := by omega
  have e2 : ¬ bx = w.heap.size + 1 := by omega
  have e3 : ¬ bx = w.heap.size + 2 := by omega
  exact ⟨⟨((b.setCell (by simp; omega) _).setCell (by simp; omega) _).setCell (by simp; omega) _, by simp [go_sem, *], by simp [go_sem, *], by simp [go_sem, *], ⟨by simpa using l, by simp [go_sem, *], by simp [go_sem, *], by simp [go_sem, *], by simp [go_sem, *], by simp [go_sem, *], by simp [go_sem, *]⟩⟩, ge, i3_set3 a x' y' z'⟩
theorem CK.late {w W : World} {v : Value} {p : Prt} (h : CJ w W v p) (x y z : Value) (T : TypeId) : CK w (W.alloc (.cells #[x, y, z] T)) v p W.heap.size x y z :=
  ⟨h.step ((Below.refl _ _).alloc (Nat.le_refl _) _), by have := h.r.lt; omega, I3.new W x y z T⟩
theorem CK.early {w W : World} {v : Value} {p : Prt} {bx : Nat} {x y z : Value} (h : CJ w W v p) (hz : I3 W bx x y z) (hg : w.heap.size + 3 ≤ bx) (x' y' z' : Value) : CK w (((W.setCell ⟨bx, 0, none⟩ x').setCell ⟨bx, 1, none⟩ y').setCell ⟨bx, 2, none⟩ z') v p bx x' y' z' := CK.set ⟨h, hg, hz⟩ x' y' z'
theorem CK.oth {w W : World} {v : Value} {p : Prt} {bx b o : Nat} {x y z u : Value} (h : CK w W v p bx x y z) (h1 : w.heap.size + 3 ≤ b) (h2 : b ≠ bx) : CK w (W.setCell ⟨b, o, none⟩ u) v p bx x y z := by
  obtain ⟨⟨bl, c0, p0, p1, ⟨l, r0, r1, r2, f0, f1, f2⟩⟩, ge, ⟨al, a0, a1, a2, z0, z1, z2⟩⟩ := h
  have hg : W.grownBy (W.setCell ⟨b, o, none⟩ u) (some b) := Tr.grown_set
  have hc : ∀ k x, k < W.heap.size → k ≠ b → (W.setCell ⟨b, o, none⟩ u).cell? ⟨k, x, none⟩ = W.cell? ⟨k, x, none⟩ := fun k x hk hn => World.cell?_of_block (hg.block k hk (fun e => hn (Option.some.inj e)))
  have hf : ∀ k x, k < W.heap.size → k ≠ b → (W.setCell ⟨b, o, none⟩ u).frozen? ⟨k, x, none⟩ = W.frozen? ⟨k, x, none⟩ := fun k x hk hn => by
    have := hg.block k hk (fun e => hn (Option.some.inj e))
    simp [World.frozen?, this]
  have hs := hg.size
  exact ⟨⟨bl.setCell (by show w.heap.size ≤ b; omega) _, (hc _ _ (by omega) (by omega)).trans c0, (hc _ _ (by omega) (by omega)).trans p0, (hc _ _ (by omega) (by omega)).trans p1, ⟨Nat.lt_of_lt_of_le l hs, (hc _ _ (by omega) (by omega)).trans r0, (hc _ _ (by omega) (by omega)).trans r1, (hc _ _ (by omega) (by omega)).trans r2, (hf _ _ (by omega) (by omega)).trans f0, (hf _ _ (by omega) (by omega)).trans f1, (hf _ _ (by omega) (by omega)).trans f2⟩⟩, ge, ⟨Nat.lt_of_lt_of_le al hs, (hc _ _ al (Ne.symm h2)).trans a0, (hc _ _ al (Ne.symm h2)).trans a1, (hc _ _ al (Ne.symm h2)).trans a2, (hf _ _ al (Ne.symm h2)).trans z0, (hf _ _ al (Ne.symm h2)).trans z1, (hf _ _ al (Ne.symm h2)).trans z2⟩⟩
theorem CJ.oth {w W : World} {v : Value} {p : Prt} {b o : Nat} {u : Value} (h : CJ w W v p) (h1 : w.heap.size + 3 ≤ b) : CJ w (W.setCell ⟨b, o, none⟩ u) v p := by
  obtain ⟨bl, c0, p0, p1, ⟨l, r0, r1, r2, f0, f1, f2⟩⟩ := h
  have hg : W.grownBy (W.setCell ⟨b, o, none⟩ u) (some b) := Tr.grown_set
  have hc : ∀ k x, k < W.heap.size → k ≠ b → (W.setCell ⟨b, o, none⟩ u).cell? ⟨k, x, none⟩ = W.cell? ⟨k, x, none⟩ := fun k x hk hn => World.cell?_of_block (hg.block k hk (fun e => hn (Option.some.inj e)))
  have hf : ∀ k x, k < W.heap.size → k ≠ b → (W.setCell ⟨b, o, none⟩ u).frozen? ⟨k, x, none⟩ = W.frozen? ⟨k, x, none⟩ := fun k x hk hn => by
    have := hg.block k hk (fun e => hn (Option.some.inj e))
    simp [World.frozen?, this]
  have hs := hg.size
  exact ⟨bl.setCell (by show w.heap.size ≤ b; omega) _, (hc _ _ (by omega) (by omega)).trans c0, (hc _ _ (by omega) (by omega)).trans p0, (hc _ _ (by omega) (by omega)).trans p1, ⟨Nat.lt_of_lt_of_le l hs, (hc _ _ (by omega) (by omega)).trans r0, (hc _ _ (by omega) (by omega)).trans r1, (hc _ _ (by omega) (by omega)).trans r2, (hf _ _ (by omega) (by omega)).trans f0, (hf _ _ (by omega) (by omega)).trans f1, (hf _ _ (by omega) (by omega)).trans f2⟩⟩
theorem CK.s0 {w W : World} {v : Value} {p : Prt} {bx : Nat} {x y z u : Value} (h : CK w W v p bx x y z) : CK w (W.setCell ⟨bx, 0, none⟩ u) v p bx u y z := by
  obtain ⟨hj, ge, ⟨al, a0, a1, a2, z0, z1, z2⟩⟩ := h
  exact ⟨hj.oth ge, ge, ⟨by simpa using al, by simp [go_sem, *], by simp [go_sem, *], by simp [go_sem, *], by simp [go_sem, *], by simp [go_sem, *], by simp [go_sem, *]⟩⟩
theorem CK.s1 {w W : World} {v : Value} {p : Prt} {bx : Nat} {x y z u : Value} (h : CK w W v p bx x y z) : CK w (W.setCell ⟨bx, 1, none⟩ u) v p bx x u z := by
  obtain ⟨hj, ge, ⟨al, a0, a1, a2, z0, z1, z2⟩⟩ := h
  exact ⟨hj.oth ge, ge, ⟨by simpa using al, by simp [go_sem, *], by simp [go_sem, *], by simp [go_sem, *], by simp [go_sem, *], by simp [go_sem, *], by simp [go_sem, *]⟩⟩
theorem CK.s2 {w W : World} {v : Value} {p : Prt} {bx : Nat} {x y z u : Value} (h : CK w W v p bx x y z) : CK w (W.setCell ⟨bx, 2, none⟩ u) v p bx x y u := by
  obtain ⟨hj, ge, ⟨al, a0, a1, a2, z0, z1, z2⟩⟩ := h
  exact ⟨hj.oth ge, ge, ⟨by simpa using al, by simp [go_sem, *], by simp [go_sem, *], by simp [go_sem, *], by simp [go_sem, *], by simp [go_sem, *], by simp [go_sem, *]⟩⟩
theorem CK.al {w W : World} {v : Value} {p : Prt} {bx : Nat} {x y z : Value} {o : Obj} (h : CK w W v p bx x y z) : CK w (W.alloc o) v p bx x y z := h.step ((Below.refl _ _).alloc (Nat.le_refl _) _)
theorem keepJ {w W U : World} {v u : Value} {p : Prt} {g k : Nat} (X : CJ w W v p) (hg : g < W.heap.size) (hc : W.cell? ⟨g, k, none⟩ = some u) (hb : Below W.heap.size W U) :
    U.cell? ⟨w.heap.size, 0, none⟩ = some v ∧ U.cell? ⟨g, k, none⟩ = some u ∧ U.cell? ⟨w.heap.size + 1, 0, none⟩ = some (.string p.path) ∧ U.cell? ⟨w.heap.size + 1, 1, none⟩ = some (.bool p.desc) :=
  ⟨(X.step hb).c0, (hb.cell hg).trans hc, (X.step hb).p0, (X.step hb).p1⟩
theorem cutTailC (b n ca : Nat) (h : 1 ≤ n) (W : World) : (Instr.slice 23 (.slice (some ⟨b, 0, none⟩) n ca) (some (.int .i64 1)) none none).run Tryz.prog W = .ok (.slice (some ⟨b, if ca = 1 then 0 else 1, none⟩) (n - 1) (ca - 1)) W := by
  have he : Tryz.prog.elem 23 = 83 := by kernel_rfl
  refine (run_slice_l (P := Tryz.prog) (w := W) 23 (some ⟨b, 0, none⟩) n ca (by kernel_rfl) .i64 1 (by omega) (by omega)).trans ?_
  rw [he, Tryz.sizeOf83]
  simp only [sliced, Result.andThen]
  split <;> rename_i hh <;> simp [Addr.add] at hh ⊢ <;> simp [hh]
end Go.Proofs.YtdchhjnmhnehiaaGreatDoor.Fi

/- What holding a document to a filter answers, by the program and by the specification, for every right filter and document. -/
namespace Go.Proofs.YtdchhjnmhnehiaaGreatDoor
open Go.RowKit
set_option linter.unusedVariables false

/-- Does a term, does a clause let in a document. -/
def oneL (doc : Val) (t : Trm) : Bool := termL t.op t.p t.c doc
def clauseL (doc : Val) (l : List Trm) : Bool := l.all (oneL doc)
/-- Does a filter let in a document. -/
def filtL (doc : Val) (f : List (List Trm)) : Bool := f.any (clauseL doc)
theorem clause_not (doc : Val) (l : List Trm) : clauseL doc l = !(l.any (fun t => !(oneL doc t))) := by
  unfold clauseL; rw [List.not_any_eq_all_not]; simp
theorem okT_parts (t : Trm) (h : okT t = true) : t.p.size ≤ 300 ∧ okB t.c = true ∧ (1 ≤ t.op ∧ t.op ≤ 10) ∧ (t.op = 7 → t.c.k = 4) := by
  obtain ⟨h1, h2, h3, h4⟩ := termB_parts t.op t.p t.c h
  exact ⟨by omega, h2, h3, h4⟩
/-- One cell in the first new block, three in the second. -/
structure B13 (w W : World) (a x y z : Value) : Prop where
  bel : Below w.heap.size w W
  lt : w.heap.size + 1 < W.heap.size
  c0 : W.cell? ⟨w.heap.size, 0, none⟩ = some a
  d0 : W.cell? ⟨w.heap.size + 1, 0, none⟩ = some x
  d1 : W.cell? ⟨w.heap.size + 1, 1, none⟩ = some y
  d2 : W.cell? ⟨w.heap.size + 1, 2, none⟩ = some z
theorem B13.start (w : World) (a x y z : Value) (T U : TypeId) : B13 w ((w.alloc (.cells #[a] T)).alloc (.cells #[x, y, z] U)) a x y z :=
  ⟨((Below.refl _ _).alloc (Nat.le_refl _) _).alloc (by simp) _, by simp, by simp [go_sem], by simp [go_sem], by simp [go_sem], by simp [go_sem]⟩
theorem B13.step {w W W' : World} {a x y z : Value} (h : B13 w W a x y z) (hb : Below W.heap.size W W') : B13 w W' a x y z :=
  have hl : w.heap.size < W.heap.size := Nat.lt_of_succ_lt h.lt
  ⟨h.bel.trans (hb.mono h.bel.size), Nat.lt_of_lt_of_le h.lt hb.size, (hb.cell hl).trans h.c0, (hb.cell h.lt).trans h.d0, (hb.cell h.lt).trans h.d1, (hb.cell h.lt).trans h.d2⟩
/-- A document lies in a block. -/
structure DocIn (W : World) (b : Nat) (v : Val) : Prop where
  lt : b < W.heap.size
  c0 : W.cell? ⟨b, 0, none⟩ = some (.int .i64 v.k)
  c1 : W.cell? ⟨b, 1, none⟩ = some (.int .i64 v.n)
  c2 : W.cell? ⟨b, 2, none⟩ = some (.string v.t)
theorem DocIn.step {W W' : World} {b : Nat} {v : Val} (h : DocIn W b v) (hb : Below W.heap.size W W') : DocIn W' b v :=
  ⟨Nat.lt_of_lt_of_le h.lt hb.size, (hb.cell h.lt).trans h.c0, (hb.cell h.lt).trans h.c1, (hb.cell h.lt).trans h.c2⟩

set_option maxRecDepth 4000 in
set_option maxHeartbeats 2000000 in
theorem l03Clause_any (p : Option Addr) (cap : Nat) (l : List Trm) (doc : Val) (w : World) (hr : RowT w p l) (hl : l.length ≤ 1048576) (hd : okB doc = true) (ht : ∀ t ∈ l, okT t = true) :
    Calls Tryz.prog 62 #[.agg #[.slice p l.length cap], .agg #[.int .i64 doc.k, .int .i64 doc.n, .string doc.t]] w fun e w' => e = .returned (.bool (clauseL doc l)) ∧ Below w.heap.size w w' := by
  have X0 := B13.start w (.slice p l.length cap) (.int .i64 doc.k) (.int .i64 doc.n) (.string doc.t) 83 38
  obtain ⟨RR, hRR⟩ : ∃ RR, RR = clauseL doc l := ⟨_, rfl⟩
  rw [← hRR]
  have HRR : Hid _ := hRR
  have HT : Hid _ := ht
  have HR : Hid (RowT _ _ _) := hr.next X0.bel
  have HD : Hid (okB doc = true) := hd
  clear hr ht hd hRR
  go_enter Tryz.func62, Tryz.ntmps62
  go_wp2_with fail
  generalize (w.alloc (.cells #[.slice p l.length cap] 83)).alloc (.cells #[.int .i64 doc.k, .int .i64 doc.n, .string doc.t] 38) = W0 at X0 HR ⊢
  go_loopw [5] (fun i wr => ∃ k : Nat, k ≤ l.length ∧ i = .int .i64 k ∧ (∀ u ∈ l.take k, oneL doc u = true) ∧ Below W0.heap.size W0 wr) (fun i _ => l.length - (intOf i).toNat)
  case atStart => exact ⟨0, Nat.zero_le _, rfl, (fun u hu => by simp at hu), Below.refl _ _⟩
  case round =>
    obtain ⟨k, hk, rfl, hall, hbel⟩ := hrel
    have HA : Hid _ := hall
    have Y := X0.step hbel
    have hbw := Y.bel
    have y0 := Y.c0
    have hl2 := Y.lt
    have hl1 : w.heap.size < wr.heap.size := Nat.lt_of_succ_lt hl2
    clear hall
    by_cases hlt : k < l.length
    · rcases HR.out.next hbel with h0 | ⟨g, rfl, R⟩
      · subst h0; simp at hlt
      have hgl := R.lt
      have hlt2 : (k : Int) < (l.length : Int) := by omega
      obtain ⟨x0, x1, x2, x3, x4⟩ := R.cells k hlt
      have z0 : ∀ u : Under wr, u.x.cell? ⟨w.heap.size, 0, none⟩ = some (.slice (some ⟨g, 0, none⟩) l.length cap) := fun u => (u.h.cell hl1).trans y0
      have d0 : ∀ u : Under wr, u.x.cell? ⟨w.heap.size + 1, 0, none⟩ = some (.int .i64 doc.k) := fun u => (u.h.cell hl2).trans Y.d0
      have d1 : ∀ u : Under wr, u.x.cell? ⟨w.heap.size + 1, 1, none⟩ = some (.int .i64 doc.n) := fun u => (u.h.cell hl2).trans Y.d1
      have d2 : ∀ u : Under wr, u.x.cell? ⟨w.heap.size + 1, 2, none⟩ = some (.string doc.t) := fun u => (u.h.cell hl2).trans Y.d2
      have q0 : ∀ u : Under wr, u.x.cell? ⟨g, k * 5, none⟩ = some (.int .i64 l[k].op) := fun u => (u.h.cell hgl).trans x0
      have q1 : ∀ u : Under wr, u.x.cell? ⟨g, k * 5 + 1, none⟩ = some (.string l[k].p) := fun u => (u.h.cell hgl).trans x1
      have q2 : ∀ u : Under wr, u.x.cell? ⟨g, k * 5 + 2, none⟩ = some (.int .i64 l[k].c.k) := fun u => (u.h.cell hgl).trans x2
      have q3 : ∀ u : Under wr, u.x.cell? ⟨g, k * 5 + 3, none⟩ = some (.int .i64 l[k].c.n) := fun u => (u.h.cell hgl).trans x3
      have q4 : ∀ u : Under wr, u.x.cell? ⟨g, k * 5 + 4, none⟩ = some (.string l[k].c.t) := fun u => (u.h.cell hgl).trans x4
      have hnu : Nonempty (Under wr) := ⟨⟨wr, Below.refl _ _⟩⟩
      have HC0 : ∀ u : Under wr, Calls Tryz.prog 90 #[.agg #[.int .i64 l[k].op, .string l[k].p, .int .i64 l[k].c.k, .int .i64 l[k].c.n, .string l[k].c.t], .agg #[.int .i64 doc.k, .int .i64 doc.n, .string doc.t]] u.x fun e w' => e = .returned (.bool (oneL doc l[k])) ∧ Below u.x.heap.size u.x w' := fun u => by
        obtain ⟨p1, p2, p3, p4⟩ := okT_parts l[k] (HT.out l[k] (List.getElem_mem _))
        exact l03Term_any l[k].op l[k].p l[k].c doc u.x p1 p3 p4 p2 HD.out
      clear R Y x0 x1 x2 x3 x4
      cases hP : oneL doc l[k]
      · rw [hP] at HC0
        have HCU : Hid _ := HC0
        have hRf : RR = false := by
          rw [HRR.out, Bool.eq_false_iff]; intro hh
          have := List.all_eq_true.mp hh l[k] (List.getElem_mem _)
          rw [hP] at this; cases this
        clear HC0 hP HRR
        subst hRf
        go_wp2_with fail
        refine wp_region_under (by kernel_rfl) (by kernel_rfl) ?_
        repeat (go_big_quiet_step ((go_at_call 90; exact calls_under _ (HCU.out _))))
        refine wpQuiet_nil ?_
        rintro _ ⟨u, rfl⟩
        have hbu := hbw.trans (u.h.mono hbw.size)
        clear z0 d0 d1 d2 hnu
        go_wp2_with fail
        go_ret
        exact ⟨rfl, hbu⟩
      · rw [hP] at HC0
        have HCU : Hid _ := HC0
        have HPK : Hid _ := hP
        clear HC0 hP
        go_wp2_with fail
        refine wp_region_under (by kernel_rfl) (by kernel_rfl) ?_
        repeat (go_big_quiet_step ((go_at_call 90; exact calls_under _ (HCU.out _))))
        refine wpQuiet_nil ?_
        rintro _ ⟨u, rfl⟩
        have hbu := hbel.trans (u.h.mono hbel.size)
        clear z0 d0 d1 d2 hnu
        go_wp2_with fail
        go_roundw
        case rel =>
          refine ⟨k + 1, by omega, by go_num, ?_, hbu⟩
          intro u hu
          rw [List.take_succ_eq_append_getElem hlt] at hu
          rcases List.mem_append.mp hu with h | h
          · exact HA.out u h
          · simp at h; subst h; exact HPK.out
        case measure => simp [intOf]; omega
    · have hlt2 : ¬ (k : Int) < (l.length : Int) := by omega
      have hRt : RR = true := by
        rw [HRR.out]
        exact List.all_eq_true.mpr (fun u hu => HA.out u (by rw [List.take_of_length_le (by omega)]; exact hu))
      clear HRR Y
      subst hRt
      go_wp2_with fail
      go_ret
      exact ⟨rfl, hbw⟩

set_option maxRecDepth 4000 in
set_option maxHeartbeats 2000000 in
theorem l03Matches_any (p : Option Addr) (cap : Nat) (l : List (List Trm)) (doc : Val) (w : World) (hr : RowC w p l) (hl : l.length ≤ 1048576) (hd : okB doc = true) (ht : ∀ t ∈ l, t.length ≤ 1048576 ∧ ∀ v ∈ t, okT v = true) :
    Calls Tryz.prog 34 #[.agg #[.slice p l.length cap], .agg #[.int .i64 doc.k, .int .i64 doc.n, .string doc.t]] w fun e w' => e = .returned (.bool (filtL doc l)) ∧ Below w.heap.size w w' := by
  have X0 := B13.start w (.slice p l.length cap) (.int .i64 doc.k) (.int .i64 doc.n) (.string doc.t) 25 38
  obtain ⟨RR, hRR⟩ : ∃ RR, RR = filtL doc l := ⟨_, rfl⟩
  rw [← hRR]
  have HRR : Hid _ := hRR
  have HT : Hid _ := ht
  have HR : Hid (RowC _ _ _) := hr.next X0.bel
  have HD : Hid (okB doc = true) := hd
  clear hr ht hd hRR
  go_enter Tryz.func34, Tryz.ntmps34
  go_wp2_with fail
  generalize (w.alloc (.cells #[.slice p l.length cap] 25)).alloc (.cells #[.int .i64 doc.k, .int .i64 doc.n, .string doc.t] 38) = W0 at X0 HR ⊢
  go_loopw [5] (fun i wr => ∃ k : Nat, k ≤ l.length ∧ i = .int .i64 k ∧ (∀ u ∈ l.take k, clauseL doc u = false) ∧ Below W0.heap.size W0 wr) (fun i _ => l.length - (intOf i).toNat)
  case atStart => exact ⟨0, Nat.zero_le _, rfl, (fun u hu => by simp at hu), Below.refl _ _⟩
  case round =>
    obtain ⟨k, hk, rfl, hall, hbel⟩ := hrel
    have HA : Hid _ := hall
    have Y := X0.step hbel
    have hbw := Y.bel
    have y0 := Y.c0
    have hl2 := Y.lt
    have hl1 : w.heap.size < wr.heap.size := Nat.lt_of_succ_lt hl2
    clear hall
    by_cases hlt : k < l.length
    · rcases HR.out.next hbel with h0 | ⟨g, rfl, R⟩
      · subst h0; simp at hlt
      have hgl := R.lt
      have hlt2 : (k : Int) < (l.length : Int) := by omega
      obtain ⟨pk, ck, x0, xr⟩ := R.cells k hlt
      have z0 : ∀ u : Under wr, u.x.cell? ⟨w.heap.size, 0, none⟩ = some (.slice (some ⟨g, 0, none⟩) l.length cap) := fun u => (u.h.cell hl1).trans y0
      have d0 : ∀ u : Under wr, u.x.cell? ⟨w.heap.size + 1, 0, none⟩ = some (.int .i64 doc.k) := fun u => (u.h.cell hl2).trans Y.d0
      have d1 : ∀ u : Under wr, u.x.cell? ⟨w.heap.size + 1, 1, none⟩ = some (.int .i64 doc.n) := fun u => (u.h.cell hl2).trans Y.d1
      have d2 : ∀ u : Under wr, u.x.cell? ⟨w.heap.size + 1, 2, none⟩ = some (.string doc.t) := fun u => (u.h.cell hl2).trans Y.d2
      have q0 : ∀ u : Under wr, u.x.cell? ⟨g, k, none⟩ = some (.slice pk l[k].length ck) := fun u => (u.h.cell hgl).trans x0
      have hnu : Nonempty (Under wr) := ⟨⟨wr, Below.refl _ _⟩⟩
      have HC0 : ∀ u : Under wr, Calls Tryz.prog 62 #[.agg #[.slice pk l[k].length ck], .agg #[.int .i64 doc.k, .int .i64 doc.n, .string doc.t]] u.x fun e w' => e = .returned (.bool (clauseL doc l[k])) ∧ Below u.x.heap.size u.x w' := fun u => l03Clause_any pk ck l[k] doc u.x (xr.next u.h) (HT.out l[k] (List.getElem_mem _)).1 HD.out (HT.out l[k] (List.getElem_mem _)).2
      clear R Y x0 xr
      cases hP : clauseL doc l[k]
      · rw [hP] at HC0
        have HCU : Hid _ := HC0
        have HPK : Hid _ := hP
        clear HC0 hP
        go_wp2_with fail
        refine wp_region_under (by kernel_rfl) (by kernel_rfl) ?_
        repeat (go_big_quiet_step ((go_at_call 62; exact calls_under _ (HCU.out _))))
        refine wpQuiet_nil ?_
        rintro _ ⟨u, rfl⟩
        have hbu := hbel.trans (u.h.mono hbel.size)
        clear z0 d0 d1 d2 hnu
        go_wp2_with fail
        go_roundw
        case rel =>
          refine ⟨k + 1, by omega, by go_num, ?_, hbu⟩
          intro u hu
          rw [List.take_succ_eq_append_getElem hlt] at hu
          rcases List.mem_append.mp hu with h | h
          · exact HA.out u h
          · simp at h; subst h; exact HPK.out
        case measure => simp [intOf]; omega
      · rw [hP] at HC0
        have HCU : Hid _ := HC0
        have hRt : RR = true := by rw [HRR.out]; exact List.any_eq_true.mpr ⟨l[k], List.getElem_mem _, hP⟩
        clear HC0 hP HRR
        subst hRt
        go_wp2_with fail
        refine wp_region_under (by kernel_rfl) (by kernel_rfl) ?_
        repeat (go_big_quiet_step ((go_at_call 62; exact calls_under _ (HCU.out _))))
        refine wpQuiet_nil ?_
        rintro _ ⟨u, rfl⟩
        have hbu := hbw.trans (u.h.mono hbw.size)
        clear z0 d0 d1 d2 hnu
        go_wp2_with fail
        go_ret
        exact ⟨rfl, hbu⟩
    · have hlt2 : ¬ (k : Int) < (l.length : Int) := by omega
      have hRf : RR = false := by
        rw [HRR.out, Bool.eq_false_iff]; intro hh
        obtain ⟨u, hu, he⟩ := List.any_eq_true.mp hh
        have := HA.out u (by rw [List.take_of_length_le (by omega)]; exact hu)
        rw [this] at he; cases he
      clear HRR Y
      subst hRf
      go_wp2_with fail
      go_ret
      exact ⟨rfl, hbw⟩

/-- What holding a document to a filter comes to. -/
def matchF (doc : Val) (f : List (List Trm)) : Bool × Int := if filtB f = true ∧ docB doc = true then (filtL doc f, 0) else (false, 1)
set_option maxRecDepth 4000 in
set_option maxHeartbeats 1000000 in
theorem specMatches_any (p : Option Addr) (cap : Nat) (f : List (List Trm)) (doc : Val) (w : World) (hr : RowC w p f) (hl : f.length ≤ 1048576) (hs : ∀ l ∈ f, szC l) (hd : doc.t.size ≤ 1048576) :
    Calls Tryz.prog 10 #[.agg #[.slice p f.length cap], .agg #[.int .i64 doc.k, .int .i64 doc.n, .string doc.t]] w fun e w' => e = .returned (.tuple #[.bool (matchF doc f).1, .int .i64 (matchF doc f).2]) ∧ Below w.heap.size w w' := by
  have X0 := B13.start w (.slice p f.length cap) (.int .i64 doc.k) (.int .i64 doc.n) (.string doc.t) 25 38
  have HRC : Hid (RowC _ _ _) := hr.next X0.bel
  have HS : Hid _ := hs
  have HF : Hid (∀ W : World, RowC W p f → Calls _ _ _ W _) := fun W hW => specFilt_any p cap f W hW hl hs
  have HD : Hid (∀ W : World, Calls _ _ _ W _) := fun W => l03Doc_any doc W hd
  clear hr hs
  cases hT : filtB f
  · have e : matchF doc f = (false, 1) := by unfold matchF; rw [if_neg (by rw [hT]; simp)]
    rw [e]
    rw [hT] at HF
    clear e hT
    go_enter Tryz.func10, Tryz.ntmps10
    go_wp2_with fail
    refine (HF.out _ HRC.out).mono ?_
    rintro e w1 ⟨rfl, hb⟩
    have hbw := (X0.step hb).bel
    clear hb
    go_wp2_with fail
    go_ret2
    exact ⟨rfl, hbw⟩
  rw [hT] at HF
  cases hD : docB doc
  · have e : matchF doc f = (false, 1) := by unfold matchF; rw [if_neg (by rw [hD]; simp)]
    rw [e]
    rw [hD] at HD
    clear e hT hD
    go_enter Tryz.func10, Tryz.ntmps10
    go_wp2_with fail
    refine (HF.out _ HRC.out).mono ?_
    rintro e w1 ⟨rfl, hb⟩
    have X1 := X0.step hb
    have b0 := X1.d0
    have b1 := X1.d1
    have b2 := X1.d2
    clear hb X0
    go_wp2_with fail
    refine (HD.out _).mono ?_
    rintro e w2 ⟨rfl, hb⟩
    have hbw := (X1.step hb).bel
    clear hb
    go_wp2_with fail
    go_ret2
    exact ⟨rfl, hbw⟩
  have e : matchF doc f = (filtL doc f, 0) := by unfold matchF; rw [if_pos ⟨hT, hD⟩]
  rw [e]
  rw [hD] at HD
  have hok : ∀ l ∈ f, l.length ≤ 1048576 ∧ ∀ t ∈ l, okT t = true := by
    intro l hl2
    unfold filtB at hT
    rw [Bool.and_eq_true] at hT
    have := List.all_eq_true.mp hT.2 l hl2
    unfold clauseB at this
    rw [Bool.and_eq_true] at this
    exact ⟨(HS.out l hl2).1, List.all_eq_true.mp this.2⟩
  have HL : Hid (∀ W : World, RowC W p f → Calls _ _ _ W _) := fun W hW => l03Matches_any p cap f doc W hW hl (docB_ok doc hD) hok
  obtain ⟨R, hR⟩ : ∃ R, R = filtL doc f := ⟨_, rfl⟩
  rw [← hR] at HL ⊢
  clear e hT hD hok hR
  go_enter Tryz.func10, Tryz.ntmps10
  go_wp2_with fail
  refine (HF.out _ HRC.out).mono ?_
  rintro e w1 ⟨rfl, hb⟩
  have X1 := X0.step hb
  have HR1 : Hid (RowC _ _ _) := HRC.out.next hb
  have b0 := X1.d0
  have b1 := X1.d1
  have b2 := X1.d2
  clear hb X0 HRC
  go_wp2_with fail
  refine (HD.out _).mono ?_
  rintro e w2 ⟨rfl, hb⟩
  have X2 := X1.step hb
  have HR2 : Hid (RowC _ _ _) := HR1.out.next hb
  clear hb X1 b0 b1 b2 HR1
  have a0 := X2.c0
  have b0 := X2.d0
  have b1 := X2.d1
  have b2 := X2.d2
  go_wp2_with fail
  refine (HL.out _ HR2.out).mono ?_
  rintro e w3 ⟨rfl, hb⟩
  have hbw := (X2.step hb).bel
  clear hb
  go_wp2_with fail
  go_ret2
  exact ⟨rfl, hbw⟩

end Go.Proofs.YtdchhjnmhnehiaaGreatDoor

/- What the program answers of a clause's interval and of two intervals' span. -/
namespace Go.Proofs.YtdchhjnmhnehiaaGreatDoor.Fi
open Go.RowKit
open Tr
set_option linter.unusedVariables false

set_option maxRecDepth 4000 in
set_option maxHeartbeats 2000000 in
theorem clauseInterval_any (q : Option Addr) (cap : Nat) (l : List Trm) (pt : Prt) (w : World) (hr : RowT w q l) (hl : l.length ≤ 1048576) (ht : ∀ t ∈ l, okT t = true) (hs : ∀ t ∈ l, szT t) :
    Calls Tryz.prog 52 #[.agg #[.slice q l.length cap], .agg #[.string pt.path, .bool pt.desc]] w fun e w' => e = .returned (.agg #[.string (clI pt l).lo, .string (clI pt l).hi, .bool (clI pt l).op]) ∧ Below w.heap.size w w' := by
  have X0 := CI.start w (.slice q l.length cap) pt (.string em) (.string em) (.bool true) 83 28 34
  have HR : Hid (RowT _ _ _) := hr
  have HT : Hid _ := ht
  have HS : Hid _ := hs
  clear hr hs ht
  obtain ⟨R, hR⟩ : ∃ R, R = clI pt l := ⟨_, rfl⟩
  rw [← hR]
  have HRR : Hid _ := hR
  clear hR
  go_enter Tryz.func52, Tryz.ntmps52
  go_wp2_with fail
  go_loopw [14] (fun i wr => ∃ k : Nat, k ≤ l.length ∧ i = .int .i64 k ∧ R = clI pt (l.drop k) ∧ CI w wr (.slice q l.length cap) pt (.string em) (.string em) (.bool true)) (fun i _ => l.length - (intOf i).toNat)
  case atStart => exact ⟨0, Nat.zero_le _, rfl, HRR.out, X0⟩
  case round =>
    obtain ⟨k, hk, rfl, hall, X⟩ := hrel
    have HA : Hid (R = _) := hall
    clear hall
    by_cases hlt : k < l.length
    · rcases HR.out.next X.bel with h0 | ⟨g, rfl, RR⟩
      · subst h0; simp at hlt
      obtain ⟨x0, x1, x2, x3, x4⟩ := RR.cells k hlt
      have hgl := RR.lt
      have hlt2 : (k : Int) < (l.length : Int) := by omega
      have hcons : R = clI pt (l[k] :: l.drop (k + 1)) := HA.out.trans (by rw [fi_drop l k hlt])
      obtain ⟨t, htt⟩ : ∃ t, t = l[k] := ⟨_, rfl⟩
      rw [← htt] at x0 x1 x2 x3 x4 hcons
      have hok : okT t = true := by rw [htt]; exact HT.out _ (List.getElem_mem _)
      have hsz : szT t := by rw [htt]; exact HS.out _ (List.getElem_mem _)
      have HCT := fun W : World => implTint_any t.op t.p t.c.k t.c.n t.c.t pt.desc W hsz.1 hsz.2
      rw [tintP_ok t.op t.p ⟨t.c.k, t.c.n, t.c.t⟩ pt.desc hok] at HCT
      have HC : Hid (∀ W : World, Calls _ _ _ W _) := HCT
      clear RR htt HCT
      have hXA := X.step ((Below.refl _ _).alloc (Nat.le_refl _) (.cells #[.int .i64 t.op, .string t.p, .int .i64 t.c.k, .int .i64 t.c.n, .string t.c.t] 85))
      have p0 := hXA.p0
      have p1 := hXA.p1
      cases hP : (t.p.toList == pt.path.toList)
      · have hnot : R = clI pt (l.drop (k + 1)) := hcons.trans (clI_not _ _ _ (by unfold sayI; rw [hP]; rfl))
        have HN : Hid (R = _) := hnot
        clear hcons hnot
        go_wp2_with fail
        go_roundw
        case rel => exact ⟨k + 1, by omega, by go_num, HN.out, hXA⟩
        case measure => simp [intOf]; omega
      · have hsay : sayI pt t = !(tintI t.op t.c pt.desc).op := by unfold sayI; rw [hP]; rfl
        obtain ⟨i, hi⟩ : ∃ i, i = tintI t.op t.c pt.desc := ⟨_, rfl⟩
        have hca : i = ⟨em, em, true⟩ ∨ i.op = false := by rw [hi]; exact tint_all t pt.desc hok
        have HC2 : Hid (∀ W : World, Calls Tryz.prog 83 #[.agg #[.int .i64 t.op, .string t.p, .int .i64 t.c.k, .int .i64 t.c.n, .string t.c.t], .bool pt.desc] W fun e w' => e = .returned (.tuple #[.agg #[.string i.lo, .string i.hi, .bool i.op], .int .i64 0]) ∧ Below W.heap.size W w') := by rw [hi]; exact HC.out
        rw [← hi] at hsay
        have hcl : sayI pt t = true → R = i := fun h => by rw [hcons, clI_say _ _ _ h, hi]
        have hcn : sayI pt t = false → R = clI pt (l.drop (k + 1)) := fun h => by rw [hcons, clI_not _ _ _ h]
        clear HC hi hcons
        go_wp2_with fail
        refine (HC2.out _).mono ?_
        rintro e w1 ⟨rfl, hb⟩
        have X1 := hXA.step hb
        have X2 := X1.step ((Below.refl _ _).alloc (Nat.le_refl _) (.cells #[.string i.lo, .string i.hi, .bool i.op] 34))
        have y0 := X2.a.c0
        have y1 := X2.a.c1
        have y2 := X2.a.c2
        clear hb hXA X
        rcases hca with rfl | hop
        · have HN : Hid (R = _) := hcn (by rw [hsay]; rfl)
          have nq := neqIvl_same em em true
          clear hcl hcn hsay
          go_wp2_with fail
          go_roundw
          case rel => exact ⟨k + 1, by omega, by go_num, HN.out, X2⟩
          case measure => simp [intOf]; omega
        · obtain ⟨ilo, ihi, iop⟩ := i
          cases hop
          have HN : Hid (R = _) := hcl (by rw [hsay]; rfl)
          have nq := neqIvl_ft ilo ihi em em
          have r0 := X2.r.c0
          have r1 := X2.r.c1
          have r2 := X2.r.c2
          have z0 := X2.r.f0
          have z1 := X2.r.f1
          have z2 := X2.r.f2
          have zl := X2.r.lt
          have hbz := X2.bel
          clear hcl hcn hsay
          go_wp2_with fail
          refine bodyPost_ret (v := .agg #[.string ilo, .string ihi, .bool false]) (by simp [results, Tryz.results52, go_sem, *]) rfl ⟨by rw [HN.out], ?_⟩
          (repeat (first | (with_reducible exact Below.refl _ _) | (with_reducible assumption) | (with_reducible apply below_drewN) | (with_reducible apply Below.drew) | ((with_reducible refine Below.setCell ?_ ?_ _); rotate_left; focus (first | (simp; done) | (simp; omega) | omega)) | ((with_reducible refine Below.alloc ?_ ?_ _); rotate_left; focus (first | (simp; done) | (simp; omega) | omega))))
    · have hlt2 : ¬ (k : Int) < (l.length : Int) := by omega
      have hRt : R = ⟨em, em, true⟩ := by rw [HA.out, List.drop_eq_nil_of_le (by omega)]; rfl
      subst hRt
      have r0 := X.r.c0
      have r1 := X.r.c1
      have r2 := X.r.c2
      have z0 := X.r.f0
      have z1 := X.r.f1
      have z2 := X.r.f2
      have zl := X.r.lt
      have hbz := X.bel
      have y0 := X.a.c0
      have y1 := X.a.c1
      have y2 := X.a.c2
      go_wp2_with fail
      refine bodyPost_ret (v := .agg #[.string em, .string em, .bool true]) (by simp [results, Tryz.results52, go_sem, *]) rfl ⟨rfl, ?_⟩
      (repeat (first | (with_reducible exact Below.refl _ _) | (with_reducible assumption) | (with_reducible apply below_drewN) | (with_reducible apply Below.drew) | ((with_reducible refine Below.setCell ?_ ?_ _); rotate_left; focus (first | (simp; done) | (simp; omega) | omega)) | ((with_reducible refine Below.alloc ?_ ?_ _); rotate_left; focus (first | (simp; done) | (simp; omega) | omega))))

set_option maxRecDepth 4000 in
set_option maxHeartbeats 2000000 in
theorem spanOf_any (a b : Ivl) (w : World) :
    Calls Tryz.prog 53 #[.agg #[.string a.lo, .string a.hi, .bool a.op], .agg #[.string b.lo, .string b.hi, .bool b.op]] w fun e w' => e = .returned (.agg #[.string (spanI a b).lo, .string (spanI a b).hi, .bool (spanI a b).op]) ∧ Below w.heap.size w w' := by
  obtain ⟨lo, hi, op⟩ := a
  obtain ⟨lo', hi', op'⟩ := b
  unfold spanI
  simp only
  have hmn := fun (W : World) ts t => Lib.run_min_strs (P := Tryz.prog) W ts t lo lo'
  have hmx := fun (W : World) ts t => Lib.run_max_strs (P := Tryz.prog) W ts t hi hi'
  obtain ⟨M, hM⟩ : ∃ M, M = Lib.minS lo lo' := ⟨_, rfl⟩
  obtain ⟨N, hN⟩ : ∃ N, N = Lib.maxS hi hi' := ⟨_, rfl⟩
  rw [← hM] at hmn ⊢
  rw [← hN] at hmx ⊢
  clear hM hN
  cases op <;> cases op'
  · show Calls _ _ _ _ fun e w' => e = .returned (.agg #[.string M, .string N, .bool false]) ∧ Below w.heap.size w w'
    go_enter Tryz.func53, Tryz.ntmps53
    go_wp2_with fail
    refine bodyPost_ret (v := .agg #[.string M, .string N, .bool false]) (by simp [results, Tryz.results53, go_sem]) rfl ⟨rfl, ?_⟩
    (repeat (first | (with_reducible exact Below.refl _ _) | (with_reducible assumption) | (with_reducible apply below_drewN) | (with_reducible apply Below.drew) | ((with_reducible refine Below.setCell ?_ ?_ _); rotate_left; focus (first | (simp; done) | (simp; omega) | omega)) | ((with_reducible refine Below.alloc ?_ ?_ _); rotate_left; focus (first | (simp; done) | (simp; omega) | omega))))
  all_goals
    show Calls _ _ _ _ fun e w' => e = .returned (.agg #[.string M, .string em, .bool true]) ∧ Below w.heap.size w w'
    go_enter Tryz.func53, Tryz.ntmps53
    go_wp2_with fail
    refine bodyPost_ret (v := .agg #[.string M, .string em, .bool true]) (by simp [results, Tryz.results53, go_sem]) rfl ⟨rfl, ?_⟩
    (repeat (first | (with_reducible exact Below.refl _ _) | (with_reducible assumption) | (with_reducible apply below_drewN) | (with_reducible apply Below.drew) | ((with_reducible refine Below.setCell ?_ ?_ _); rotate_left; focus (first | (simp; done) | (simp; omega) | omega)) | ((with_reducible refine Below.alloc ?_ ?_ _); rotate_left; focus (first | (simp; done) | (simp; omega) | omega))))

theorem filt_parts {f : List (List Trm)} (h : filtB f = true) : 1 ≤ f.length ∧ ∀ l ∈ f, ∀ t ∈ l, okT t = true := by
  unfold filtB at h
  rw [Bool.and_eq_true, decide_eq_true_eq] at h
  refine ⟨h.1.1, fun l hl t ht => ?_⟩
  have h2 := List.all_eq_true.mp h.2 l hl
  unfold clauseB at h2
  rw [Bool.and_eq_true] at h2
  exact List.all_eq_true.mp h2.2 t ht
set_option maxRecDepth 4000 in
set_option maxHeartbeats 1000000 in
theorem isWrongPart_at (s : ByteArray) (d : Bool) (w : World) (hs : s.size ≤ 1048576) :
    Calls Tryz.prog 27 #[.agg #[.string s, .bool d]] w fun e w' => e = .returned (.bool (!(pathB s))) ∧ Below w.heap.size w w' := by
  have hb0 : Below w.heap.size w (w.alloc (.cells #[.string s, .bool d] 28)) := (Below.refl _ _).alloc (Nat.le_refl _) _
  have HC : Hid (∀ W : World, Calls _ _ _ W _) := fun W => pathOK_any s W hs
  go_enter Tryz.func27, Tryz.ntmps27
  go_wp2_with fail
  refine (HC.out _).mono ?_
  rintro e w1 ⟨rfl, hb⟩
  have hbw := hb0.trans (hb.mono hb0.size)
  clear hb
  go_wp2_with fail
  go_ret
  exact ⟨rfl, hbw⟩
end Go.Proofs.YtdchhjnmhnehiaaGreatDoor.Fi

/- What the program answers of a filter's interval. -/
namespace Go.Proofs.YtdchhjnmhnehiaaGreatDoor.Fi
open Go.RowKit
open Tr
set_option linter.unusedVariables false

set_option maxRecDepth 8000 in
set_option maxHeartbeats 8000000 in
theorem filterInterval_at (q : Option Addr) (cap : Nat) (f : List (List Trm)) (pt : Prt) (w : World) (hr : RowC w q f) (h1 : 1 ≤ f.length) (hl : f.length ≤ 1048576) (hcap : f.length ≤ cap) (hs : ∀ l ∈ f, szC l) (ht : ∀ l ∈ f, ∀ t ∈ l, okT t = true) :
    Calls Tryz.prog 28 #[.agg #[.slice q f.length cap], .agg #[.string pt.path, .bool pt.desc]] w fun e w' => e = .returned (.agg #[.string (fiI pt f).lo, .string (fiI pt f).hi, .bool (fiI pt f).op]) ∧ Below w.heap.size w w' := by
  have X0 := CJ.start w (.slice q f.length cap) pt 25 28 34
  have HCC0 : ∀ (i : Nat) (hi : i < f.length) (pa : Option Addr) (ca : Nat) (W : World), RowT W pa f[i] → Calls Tryz.prog 52 #[.agg #[.slice pa f[i].length ca], .agg #[.string pt.path, .bool pt.desc]] W fun e w' => e = .returned (.agg #[.string (clI pt f[i]).lo, .string (clI pt f[i]).hi, .bool (clI pt f[i]).op]) ∧ Below W.heap.size W w' := fun i hi pa ca W hW => clauseInterval_any pa ca f[i] pt W hW (hs _ (List.getElem_mem hi)).1 (ht _ (List.getElem_mem hi)) (hs _ (List.getElem_mem hi)).2
  have HCC : Hid _ := HCC0
  clear HCC0
  obtain ⟨R, hR⟩ : ∃ R, R = fiI pt f := ⟨_, rfl⟩
  rw [← hR]
  have hR0 : R = (f.drop 1).foldl (fun acc c => spanI acc (clI pt c)) (clI pt f[0]) := by
    rw [hR]; exact fiI_eq pt f h1
  have HRR : Hid (R = _) := hR0
  have HR : Hid (RowC w q f) := hr
  clear hr hs ht hR hR0
  go_enter Tryz.func28, Tryz.ntmps28
  go_wp2_with fail
  generalize ((w.alloc (.cells #[.slice q f.length cap] 25)).alloc (.cells #[.string pt.path, .bool pt.desc] 28)).alloc (.cells #[.string em, .string em, .bool false] 34) = W0 at X0 ⊢
  rcases HR.out.next X0.bel with h0 | ⟨g, rfl, RR⟩
  · subst h0; simp at h1
  obtain ⟨pa, ca, x0, hRT⟩ := RR.cells 0 h1
  have HRT : Hid (RowT _ _ _) := hRT
  have hgl := RR.lt
  have c0 := X0.c0
  have p0 := X0.p0
  have p1 := X0.p1
  have hlr := X0.r.lt
  have HC0 : Hid (∀ W : World, Below W0.heap.size W0 W → Calls _ _ _ W _) := fun W hW => HCC.out 0 h1 pa ca W (HRT.out.next hW)
  obtain ⟨i0, hi0⟩ : ∃ i, i = clI pt f[0] := ⟨_, rfl⟩
  rw [← hi0] at HC0 HRR
  obtain ⟨n0, hn0⟩ : ∃ n, n = f[0].length := ⟨_, rfl⟩
  rw [← hn0] at HC0 x0
  have hfl : 0 < f.length := h1
  have hz0 : (w.heap.size : Nat) + 3 ≤ W0.heap.size := by omega
  have HX0 : Hid (CJ _ _ _ _) := X0
  clear RR hRT HRT hi0 hn0
  go_cut [5] (fun s5 wx => ∃ bx, s5 = .pointer (some ⟨bx, 0, none⟩) ∧ CK w wx (.slice (some ⟨g, 0, none⟩) f.length cap) pt bx (.string i0.lo) (.string i0.hi) (.bool i0.op))
  case first =>
    go_region_held3 (fun w0 => w0.cell? ⟨w.heap.size, 0, none⟩ = some (.slice (some ⟨g, 0, none⟩) f.length cap) ∧ w0.cell? ⟨g, 0, none⟩ = some (.slice pa n0 ca) ∧ w0.cell? ⟨w.heap.size + 1, 0, none⟩ = some (.string pt.path) ∧ w0.cell? ⟨w.heap.size + 1, 1, none⟩ = some (.bool pt.desc)) ((refine keepJ X0 hgl x0 ?_; (repeat (first | (with_reducible exact Below.refl _ _) | (with_reducible assumption) | (with_reducible apply below_drewN) | (with_reducible apply Below.drew) | ((with_reducible refine Below.setCell ?_ ?_ _); rotate_left; focus (first | (simp; done) | (simp; omega) | omega)) | ((with_reducible refine Below.alloc ?_ ?_ _); rotate_left; focus (first | (simp; done) | (simp; omega) | omega)))))) ((go_at_call 52; refine (HC0.out _ (by (repeat (first | (with_reducible exact Below.refl _ _) | (with_reducible assumption) | (with_reducible apply below_drewN) | (with_reducible apply Below.drew) | ((with_reducible refine Below.setCell ?_ ?_ _); rotate_left; focus (first | (simp; done) | (simp; omega) | omega)) | ((with_reducible refine Below.alloc ?_ ?_ _); rotate_left; focus (first | (simp; done) | (simp; omega) | omega)))))).mono ?_; rintro e w1 ⟨rfl, hb⟩; have hB1 : Below W0.heap.size W0 w1 := (show Below W0.heap.size W0 _ by (repeat (first | (with_reducible exact Below.refl _ _) | (with_reducible assumption) | (with_reducible apply below_drewN) | (with_reducible apply Below.drew) | ((with_reducible refine Below.setCell ?_ ?_ _); rotate_left; focus (first | (simp; done) | (simp; omega) | omega)) | ((with_reducible refine Below.alloc ?_ ?_ _); rotate_left; focus (first | (simp; done) | (simp; omega) | omega))))).trans (hb.mono (by first | (simp; done) | (simp; omega) | omega)); have hzb1 := hB1.size; (try with_reducible have A1 := one3e (W := W0) hb); (try with_reducible have A1 := one3d (W := W0) hb); (try with_reducible have A1 := one3 (W := W0) hb); (try have A1l := A1.lt); (try have A1c := A1.c0); (try have A1d := A1.c1); (try have A1e := A1.c2); (try have A1f := A1.f0); (try have A1g := A1.f1); (try have A1h := A1.f2); clear hb))
    all_goals
      try go_wp2_with fail
      go_meet
      refine ⟨_, rfl, ?_⟩
      first
        | with_reducible exact CK.late (HX0.out.step hB1) _ _ _ _
        | with_reducible exact CK.early (HX0.out.step hB1) A1 hz0 _ _ _
  case rest =>
  obtain ⟨bx, rfl, X1⟩ := hcut
  have hcu := fun W => cutTailC g f.length cap h1 W
  obtain ⟨off, hoff⟩ : ∃ o, o = if cap = 1 then 0 else 1 := ⟨_, rfl⟩
  rw [← hoff] at hcu
  have hoff2 : 1 < f.length → off = 1 := fun h => by rw [hoff, if_neg (by omega)]
  have c0 := X1.j.c0
  clear hoff
  go_wp2_with fail
  go_loopw [18] (fun i wr => ∃ (k : Nat) (acc : Ivl), k ≤ f.length - 1 ∧ i = .int .i64 k ∧ R = (f.drop (k + 1)).foldl (fun acc c => spanI acc (clI pt c)) acc ∧ CK w wr (.slice (some ⟨g, 0, none⟩) f.length cap) pt bx (.string acc.lo) (.string acc.hi) (.bool acc.op)) (fun i _ => f.length - (intOf i).toNat)
  case atStart => exact ⟨0, i0, Nat.zero_le _, rfl, HRR.out, X1⟩
  case round =>
    obtain ⟨k, acc, hk, rfl, hall, X⟩ := hrel
    have HA : Hid (R = _) := hall
    clear hall
    by_cases hlt : k + 1 < f.length
    · obtain rfl := hoff2 (by omega)
      rcases HR.out.next X.j.bel with h0 | ⟨g', hg', RR⟩
      · subst h0; simp at hlt
      cases hg'
      obtain ⟨pk, ck, y0, hRT⟩ := RR.cells (k + 1) hlt
      have HRT : Hid (RowT _ _ _) := hRT
      have hgk := RR.lt
      have hlt2 : (k : Int) < ((f.length - 1 : Nat) : Int) := by omega
      have hcons : R = (f.drop (k + 1 + 1)).foldl (fun acc c => spanI acc (clI pt c)) (spanI acc (clI pt f[k + 1])) := HA.out.trans (by rw [fi_drop f (k + 1) hlt]; rfl)
      have HK0 : Hid (∀ W : World, Below wr.heap.size wr W → Calls _ _ _ W _) := fun W hW => HCC.out (k + 1) hlt pk ck W (HRT.out.next hW)
      obtain ⟨ik, hik⟩ : ∃ i, i = clI pt f[k + 1] := ⟨_, rfl⟩
      obtain ⟨nk, hnk⟩ : ∃ n, n = f[k + 1].length := ⟨_, rfl⟩
      rw [← hik] at HK0 hcons
      rw [← hnk] at HK0 y0
      have HN : Hid (R = _) := hcons
      have y1 : wr.cell? ⟨g, 1 + k, none⟩ = some (.slice pk nk ck) := by rw [Nat.add_comm]; exact y0
      have HSP : Hid (∀ W : World, Calls _ _ _ W _) := fun W => spanOf_any acc ik W
      obtain ⟨sp, hsp⟩ : ∃ i, i = spanI acc ik := ⟨_, rfl⟩
      rw [← hsp] at HSP HN
      have hgA : Below wr.heap.size wr (wr.alloc (.cells #[.slice pk nk ck] 83)) := (Below.refl _ _).alloc (Nat.le_refl _) _
      have XA := X.step hgA
      have a0 := XA.a.c0
      have a1 := XA.a.c1
      have a2 := XA.a.c2
      have al := XA.a.lt
      have af0 := XA.a.f0
      have af1 := XA.a.f1
      have af2 := XA.a.f2
      have b0 : (wr.alloc (.cells #[.slice pk nk ck] 83)).cell? ⟨wr.heap.size, 0, none⟩ = some (.slice pk nk ck) := by simp [go_sem]
      have bl : wr.heap.size < (wr.alloc (.cells #[.slice pk nk ck] 83)).heap.size := by simp
      have q0 := XA.j.p0
      have q1 := XA.j.p1
      have HKA : Hid (∀ W : World, Below (wr.alloc (.cells #[.slice pk nk ck] 83)).heap.size (wr.alloc (.cells #[.slice pk nk ck] 83)) W → Calls _ _ _ W _) := fun W hW => HK0.out W (hgA.trans (hW.mono hgA.size))
      have HX : Hid (CK _ _ _ _ _ _ _ _) := XA
      clear RR hRT hik hnk hsp HK0 X hcons y0
      go_wp2_with fail
      generalize wr.alloc (.cells #[.slice pk nk ck] 83) = WA at XA a0 a1 a2 al af0 af1 af2 b0 bl q0 q1 HKA HX ⊢
      obtain ⟨bc, hbc⟩ : ∃ b, b = wr.heap.size := ⟨_, rfl⟩
      rw [← hbc] at b0 bl ⊢
      clear hbc
      go_region_with (first | (go_at_call 52; refine (HKA.out _ (by (repeat (first | (with_reducible exact Below.refl _ _) | (with_reducible assumption) | (with_reducible apply below_drewN) | (with_reducible apply Below.drew) | ((with_reducible refine Below.setCell ?_ ?_ _); rotate_left; focus (first | (simp; done) | (simp; omega) | omega)) | ((with_reducible refine Below.alloc ?_ ?_ _); rotate_left; focus (first | (simp; done) | (simp; omega) | omega)))))).mono ?_; rintro e w1 ⟨rfl, hb⟩; have hB1 : Below WA.heap.size WA w1 := (show Below WA.heap.size WA _ by (repeat (first | (with_reducible exact Below.refl _ _) | (with_reducible assumption) | (with_reducible apply below_drewN) | (with_reducible apply Below.drew) | ((with_reducible refine Below.setCell ?_ ?_ _); rotate_left; focus (first | (simp; done) | (simp; omega) | omega)) | ((with_reducible refine Below.alloc ?_ ?_ _); rotate_left; focus (first | (simp; done) | (simp; omega) | omega))))).trans (hb.mono (by first | (simp; done) | (simp; omega) | omega)); have a0' := (hB1.cell al).trans a0; have a1' := (hB1.cell al).trans a1; have a2' := (hB1.cell al).trans a2; clear hb) | (go_at_call 53; refine (HSP.out _).mono ?_; rintro e w2 ⟨rfl, hb⟩; have hB2 : Below WA.heap.size WA w2 := (hB1.trans ((show Below w1.heap.size w1 _ by (repeat (first | (with_reducible exact Below.refl _ _) | (with_reducible assumption) | (with_reducible apply below_drewN) | (with_reducible apply Below.drew) | ((with_reducible refine Below.setCell ?_ ?_ _); rotate_left; focus (first | (simp; done) | (simp; omega) | omega)) | ((with_reducible refine Below.alloc ?_ ?_ _); rotate_left; focus (first | (simp; done) | (simp; omega) | omega))))).mono hB1.size)).trans (hb.mono (by have := hB1.size; first | (simp; done) | (simp; omega) | omega)); have X2 := HX.out.step hB2; have d0 := X2.a.c0; have d1 := X2.a.c1; have d2 := X2.a.c2; have e0 := X2.a.f0; have e1 := X2.a.f1; have e2 := X2.a.f2; have el := X2.a.lt; clear hb))
      all_goals
        go_wp2_with fail
        go_roundw
        case rel => exact ⟨k + 1, sp, by omega, by go_num, HN.out, by have := X2.set (.string sp.lo) (.string sp.hi) (.bool sp.op); first | exact this | exact this.step ((Below.refl _ _).drew) ⟩
        case measure => simp [intOf]; omega
    · have hlt2 : ¬ (k : Int) < ((f.length - 1 : Nat) : Int) := by omega
      have hRt : R = acc := by rw [HA.out, List.drop_eq_nil_of_le (by omega)]; rfl
      subst hRt
      have r0 := X.j.r.c0
      have r1 := X.j.r.c1
      have r2 := X.j.r.c2
      have z0 := X.j.r.f0
      have z1 := X.j.r.f1
      have z2 := X.j.r.f2
      have zl := X.j.r.lt
      have hbz := X.j.bel
      have y0 := X.a.c0
      have y1 := X.a.c1
      have y2 := X.a.c2
      have hge := X.ge
      go_wp2_with fail
      refine bodyPost_ret (v := .agg #[.string R.lo, .string R.hi, .bool R.op]) (by simp [results, Tryz.results28, go_sem, *]) rfl ⟨rfl, ?_⟩
      (repeat (first | (with_reducible exact Below.refl _ _) | (with_reducible assumption) | (with_reducible apply below_drewN) | (with_reducible apply Below.drew) | ((with_reducible refine Below.setCell ?_ ?_ _); rotate_left; focus (first | (simp; done) | (simp; omega) | omega)) | ((with_reducible refine Below.alloc ?_ ?_ _); rotate_left; focus (first | (simp; done) | (simp; omega) | omega))))

set_option maxRecDepth 4000 in
set_option maxHeartbeats 2000000 in
theorem implFiltInt_any (q : Option Addr) (cap : Nat) (f : List (List Trm)) (pt : Prt) (w : World) (hr : RowC w q f) (hl : f.length ≤ 1048576) (hcap : f.length ≤ cap) (hs : ∀ l ∈ f, szC l) (hp : pt.path.size ≤ 1048576) :
    Calls Tryz.prog 7 #[.agg #[.slice q f.length cap], .agg #[.string pt.path, .bool pt.desc]] w fun e w' => e = .returned (.tuple #[.agg #[.string (filtI pt f).1.lo, .string (filtI pt f).1.hi, .bool (filtI pt f).1.op], .int .i64 (filtI pt f).2]) ∧ Below w.heap.size w w' := by
  have X0 := CJ.start w (.slice q f.length cap) pt 25 28 34
  have HF0 := fun (W : World) (hW : Below w.heap.size w W) => filterOK_any q cap f W (hr.next hW) hl hs
  have HP0 := fun (W : World) => isWrongPart_at pt.path pt.desc W hp
  unfold filtI
  cases hF : filtB f
  · rw [hF] at HF0
    have HF : Hid (∀ W : World, Below w.heap.size w W → Calls _ _ _ W _) := HF0
    clear hr hs HF0 HP0 hF
    simp only [Bool.false_and, Bool.false_eq_true, if_false]
    go_enter Tryz.func7, Tryz.ntmps7
    go_wp2_with fail
    refine (HF.out _ X0.bel).mono ?_
    rintro e w1 ⟨rfl, hb⟩
    obtain ⟨b, c0, p0, p1, ⟨l, r0, r1, r2, f0, f1, f2⟩⟩ := X0.step hb
    clear hb X0 HF
    go_wp2_with fail
    refine bodyPost_ret (v := .tuple #[.agg #[.string em, .string em, .bool false], .int .i64 1]) (by simp [results, Tryz.results7, go_sem, *]) rfl ⟨rfl, ?_⟩
    (repeat (first | (with_reducible exact Below.refl _ _) | (with_reducible assumption) | (with_reducible apply below_drewN) | (with_reducible apply Below.drew) | ((with_reducible refine Below.setCell ?_ ?_ _); rotate_left; focus (first | (simp; done) | (simp; omega) | omega)) | ((with_reducible refine Below.alloc ?_ ?_ _); rotate_left; focus (first | (simp; done) | (simp; omega) | omega))))
  · cases hPP : pathB pt.path
    · rw [hF] at HF0
      rw [hPP] at HP0
      have HF : Hid (∀ W : World, Below w.heap.size w W → Calls _ _ _ W _) := HF0
      have HP : Hid (∀ W : World, Calls _ _ _ W _) := HP0
      clear hr hs HF0 HP0 hF hPP
      simp only [Bool.and_false, Bool.false_eq_true, if_false]
      go_enter Tryz.func7, Tryz.ntmps7
      go_wp2_with fail
      refine (HF.out _ X0.bel).mono ?_
      rintro e w1 ⟨rfl, hb⟩
      have X1 := X0.step hb
      have p0 := X1.p0
      have p1 := X1.p1
      clear hb X0 HF
      go_wp2_with fail
      refine (HP.out _).mono ?_
      rintro e w2 ⟨rfl, hb⟩
      obtain ⟨b, c0, p0, p1, ⟨l, r0, r1, r2, f0, f1, f2⟩⟩ := X1.step hb
      clear hb X1 HP
      go_wp2_with fail
      refine bodyPost_ret (v := .tuple #[.agg #[.string em, .string em, .bool false], .int .i64 1]) (by simp [results, Tryz.results7, go_sem, *]) rfl ⟨rfl, ?_⟩
      (repeat (first | (with_reducible exact Below.refl _ _) | (with_reducible assumption) | (with_reducible apply below_drewN) | (with_reducible apply Below.drew) | ((with_reducible refine Below.setCell ?_ ?_ _); rotate_left; focus (first | (simp; done) | (simp; omega) | omega)) | ((with_reducible refine Below.alloc ?_ ?_ _); rotate_left; focus (first | (simp; done) | (simp; omega) | omega))))
    · obtain ⟨g1, g2⟩ := filt_parts hF
      have HI0 := fun (W : World) (hW : Below w.heap.size w W) => filterInterval_at q cap f pt W (hr.next hW) g1 hl hcap hs g2
      rw [hF] at HF0
      rw [hPP] at HP0
      have HF : Hid (∀ W : World, Below w.heap.size w W → Calls _ _ _ W _) := HF0
      have HP : Hid (∀ W : World, Calls _ _ _ W _) := HP0
      have HI : Hid (∀ W : World, Below w.heap.size w W → Calls _ _ _ W _) := HI0
      clear hr hs HF0 HP0 HI0 hF hPP g2
      simp only [Bool.and_true, if_true]
      obtain ⟨R, hR⟩ : ∃ R, R = fiI pt f := ⟨_, rfl⟩
      rw [← hR] at HI ⊢
      clear hR
      go_enter Tryz.func7, Tryz.ntmps7
      go_wp2_with fail
      refine (HF.out _ X0.bel).mono ?_
      rintro e w1 ⟨rfl, hb⟩
      have X1 := X0.step hb
      have p0 := X1.p0
      have p1 := X1.p1
      clear hb X0 HF
      go_wp2_with fail
      refine (HP.out _).mono ?_
      rintro e w2 ⟨rfl, hb⟩
      have X2 := X1.step hb
      have c0 := X2.c0
      have p0 := X2.p0
      have p1 := X2.p1
      clear hb X1 HP
      go_wp2_with fail
      refine (HI.out _ X2.bel).mono ?_
      rintro e w3 ⟨rfl, hb⟩
      obtain ⟨b, c0, p0, p1, ⟨l, r0, r1, r2, f0, f1, f2⟩⟩ := X2.step hb
      clear hb X2 HI
      go_wp2_with fail
      refine bodyPost_ret (v := .tuple #[.agg #[.string R.lo, .string R.hi, .bool R.op], .int .i64 0]) (by simp [results, Tryz.results7, go_sem, *]) rfl ⟨rfl, ?_⟩
      (repeat (first | (with_reducible exact Below.refl _ _) | (with_reducible assumption) | (with_reducible apply below_drewN) | (with_reducible apply Below.drew) | ((with_reducible refine Below.setCell ?_ ?_ _); rotate_left; focus (first | (simp; done) | (simp; omega) | omega)) | ((with_reducible refine Below.alloc ?_ ?_ _); rotate_left; focus (first | (simp; done) | (simp; omega) | omega))))
end Go.Proofs.YtdchhjnmhnehiaaGreatDoor.Fi

/- What the specification answers of a filter's interval. -/
namespace Go.Proofs.YtdchhjnmhnehiaaGreatDoor.Fi
open Go.RowKit
open Tr
set_option linter.unusedVariables false

set_option maxRecDepth 4000 in
set_option maxHeartbeats 2000000 in
theorem l07Clause_any (q : Option Addr) (cap : Nat) (l : List Trm) (pt : Prt) (w : World) (hr : RowT w q l) (hl : l.length ≤ 1048576) (ht : ∀ t ∈ l, okT t = true) :
    Calls Tryz.prog 58 #[.agg #[.slice q l.length cap], .agg #[.string pt.path, .bool pt.desc]] w fun e w' => e = .returned (.agg #[.string (clI pt l).lo, .string (clI pt l).hi, .bool (clI pt l).op]) ∧ Below w.heap.size w w' := by
  have X0 := CI.start w (.slice q l.length cap) pt (.string em) (.string em) (.bool true) 83 28 34
  have HR : Hid (RowT _ _ _) := hr
  have HT : Hid _ := ht
  clear hr ht
  obtain ⟨R, hR⟩ : ∃ R, R = clI pt l := ⟨_, rfl⟩
  rw [← hR]
  have HRR : Hid _ := hR
  clear hR
  go_enter Tryz.func58, Tryz.ntmps58
  go_wp2_with fail
  go_loopw [6] (fun i wr => ∃ (k : Nat) (acc : Ivl), k ≤ l.length ∧ i = .int .i64 k ∧ ((acc = ⟨em, em, true⟩ ∧ R = clI pt (l.drop k)) ∨ (acc.op = false ∧ R = acc)) ∧ CI w wr (.slice q l.length cap) pt (.string acc.lo) (.string acc.hi) (.bool acc.op)) (fun i _ => l.length - (intOf i).toNat)
  case atStart => exact ⟨0, ⟨em, em, true⟩, Nat.zero_le _, rfl, .inl ⟨rfl, HRR.out⟩, X0⟩
  case round =>
    obtain ⟨k, acc, hk, rfl, hall, X⟩ := hrel
    have c0 := X.c0
    by_cases hlt : k < l.length
    · rcases HR.out.next X.bel with h0 | ⟨g, rfl, RR⟩
      · subst h0; simp at hlt
      obtain ⟨x0, x1, x2, x3, x4⟩ := RR.cells k hlt
      have hgl := RR.lt
      have hlt2 : (k : Int) < (l.length : Int) := by omega
      have hdr := fi_drop l k hlt
      obtain ⟨t, htt⟩ : ∃ t, t = l[k] := ⟨_, rfl⟩
      rw [← htt] at x0 x1 x2 x3 x4 hdr
      have hok : okT t = true := by rw [htt]; exact HT.out _ (List.getElem_mem _)
      obtain ⟨k1, k2, k3⟩ := term_parts t.op t.p t.c hok
      have HC : Hid (∀ W : World, Calls _ _ _ W _) := fun W : World => l04Term_any t.op t.p t.c pt.desc W k1 k2 k3
      have XA := X.step ((Below.refl _ _).alloc (Nat.le_refl _) (.cells #[.int .i64 t.op, .string t.p, .int .i64 t.c.k, .int .i64 t.c.n, .string t.c.t] 85))
      have p0 := XA.p0
      have p1 := XA.p1
      clear RR htt k1 k2 k3
      cases hP : (t.p.toList == pt.path.toList)
      · have hnext : (acc = ⟨em, em, true⟩ ∧ R = clI pt (l.drop (k + 1))) ∨ (acc.op = false ∧ R = acc) := by
          rcases hall with ⟨h1, h2⟩ | h
          · exact .inl ⟨h1, by rw [h2, hdr]; exact clI_not _ _ _ (by unfold sayI; rw [hP]; rfl)⟩
          · exact .inr h
        have HN : Hid _ := hnext
        clear hall hnext hdr
        go_wp2_with fail
        go_roundw
        case rel => exact ⟨k + 1, acc, by omega, by go_num, HN.out, XA⟩
        case measure => simp [intOf]; omega
      · rcases hall with ⟨rfl, hRr⟩ | ⟨hop, hRr⟩
        · have a0 := XA.a.c0
          have a1 := XA.a.c1
          have a2 := XA.a.c2
          have hsay : sayI pt t = !(tintI t.op t.c pt.desc).op := by unfold sayI; rw [hP]; rfl
          have hca := tint_all t pt.desc hok
          obtain ⟨i, hi⟩ : ∃ i, i = tintI t.op t.c pt.desc := ⟨_, rfl⟩
          rw [← hi] at HC hsay hca
          have hnext : (i = ⟨em, em, true⟩ ∧ R = clI pt (l.drop (k + 1))) ∨ (i.op = false ∧ R = i) := by
            rcases hca with h | h
            · exact .inl ⟨h, by rw [hRr, hdr]; exact clI_not _ _ _ (by rw [hsay, h]; rfl)⟩
            · exact .inr ⟨h, by rw [hRr, hdr, clI_say _ _ _ (by rw [hsay, h]; rfl), hi]⟩
          have HN : Hid _ := hnext
          have HX : Hid (CI _ _ _ _ _ _ _) := XA
          clear hRr hnext hdr hi hsay hca
          go_wp2_with fail
          refine (HC.out _).mono ?_
          rintro e w1 ⟨rfl, hb⟩
          have X1 := HX.out.step hb
          have b0 := X1.a.c0
          have b1 := X1.a.c1
          have b2 := X1.a.c2
          have e0 := X1.a.f0
          have e1 := X1.a.f1
          have e2 := X1.a.f2
          have el := X1.a.lt
          clear hb
          go_wp2_with fail
          go_roundw
          case rel => exact ⟨k + 1, i, by omega, by go_num, HN.out, X1.set _ _ _⟩
          case measure => simp [intOf]; omega
        · obtain ⟨alo, ahi, aop⟩ := acc
          cases hop
          have a0 := XA.a.c0
          have a1 := XA.a.c1
          have a2 := XA.a.c2
          have HN : Hid (R = _) := hRr
          clear hRr hdr HC
          go_wp2_with fail
          go_roundw
          case rel => exact ⟨k + 1, ⟨alo, ahi, false⟩, by omega, by go_num, .inr ⟨rfl, HN.out⟩, XA⟩
          case measure => simp [intOf]; omega
    · have hlt2 : ¬ (k : Int) < (l.length : Int) := by omega
      have hRt : R = acc := by
        rcases hall with ⟨h1, h2⟩ | ⟨_, h⟩
        · rw [h2, List.drop_eq_nil_of_le (by omega), h1]; rfl
        · exact h
      subst hRt
      have r0 := X.r.c0
      have r1 := X.r.c1
      have r2 := X.r.c2
      have z0 := X.r.f0
      have z1 := X.r.f1
      have z2 := X.r.f2
      have zl := X.r.lt
      have hbz := X.bel
      have y0 := X.a.c0
      have y1 := X.a.c1
      have y2 := X.a.c2
      clear hall
      go_wp2_with fail
      refine bodyPost_ret (v := .agg #[.string R.lo, .string R.hi, .bool R.op]) (by simp [results, Tryz.results58, go_sem, *]) rfl ⟨rfl, ?_⟩
      (repeat (first | (with_reducible exact Below.refl _ _) | (with_reducible assumption) | (with_reducible apply below_drewN) | (with_reducible apply Below.drew) | ((with_reducible refine Below.setCell ?_ ?_ _); rotate_left; focus (first | (simp; done) | (simp; omega) | omega)) | ((with_reducible refine Below.alloc ?_ ?_ _); rotate_left; focus (first | (simp; done) | (simp; omega) | omega))))

theorem span_hi {a b : Ivl} {H : ByteArray} (h : a.op = false → H = a.hi) : (spanI a b).op = false → Lib.maxS H b.hi = (spanI a b).hi := by
  intro hs
  have h2 : (a.op || b.op) = false := hs
  have h3 : a.op = false := by cases hh : a.op <;> simp [hh] at h2 ⊢
  unfold spanI
  simp only
  rw [if_neg (by rw [h2]; simp), h h3]

set_option maxRecDepth 8000 in
set_option maxHeartbeats 8000000 in
theorem l07Filter_at (q : Option Addr) (cap : Nat) (f : List (List Trm)) (pt : Prt) (w : World) (hr : RowC w q f) (h1 : 1 ≤ f.length) (hl : f.length ≤ 1048576) (hs : ∀ l ∈ f, szC l) (ht : ∀ l ∈ f, ∀ t ∈ l, okT t = true) :
    Calls Tryz.prog 31 #[.agg #[.slice q f.length cap], .agg #[.string pt.path, .bool pt.desc]] w fun e w' => e = .returned (.agg #[.string (fiI pt f).lo, .string (if (fiI pt f).op then em else (fiI pt f).hi), .bool (fiI pt f).op]) ∧ Below w.heap.size w w' := by
  have X0 := CJ.start w (.slice q f.length cap) pt 25 28 34
  have HCC0 : ∀ (i : Nat) (hi : i < f.length) (pa : Option Addr) (ca : Nat) (W : World), RowT W pa f[i] → Calls Tryz.prog 58 #[.agg #[.slice pa f[i].length ca], .agg #[.string pt.path, .bool pt.desc]] W fun e w' => e = .returned (.agg #[.string (clI pt f[i]).lo, .string (clI pt f[i]).hi, .bool (clI pt f[i]).op]) ∧ Below W.heap.size W w' := fun i hi pa ca W hW => l07Clause_any pa ca f[i] pt W hW (hs _ (List.getElem_mem hi)).1 (ht _ (List.getElem_mem hi))
  have HCC : Hid _ := HCC0
  clear HCC0
  obtain ⟨R, hR⟩ : ∃ R, R = fiI pt f := ⟨_, rfl⟩
  rw [← hR]
  have hR0 : R = (f.drop 1).foldl (fun acc c => spanI acc (clI pt c)) (clI pt f[0]) := by
    rw [hR]; exact fiI_eq pt f h1
  have HRR : Hid (R = _) := hR0
  have HR : Hid (RowC w q f) := hr
  clear hr hs ht hR hR0
  go_enter Tryz.func31, Tryz.ntmps31
  go_wp2_with fail
  generalize ((w.alloc (.cells #[.slice q f.length cap] 25)).alloc (.cells #[.string pt.path, .bool pt.desc] 28)).alloc (.cells #[.string em, .string em, .bool false] 34) = W0 at X0 ⊢
  rcases HR.out.next X0.bel with h0 | ⟨g, rfl, RR⟩
  · subst h0; simp at h1
  obtain ⟨pa, ca, x0, hRT⟩ := RR.cells 0 h1
  have HRT : Hid (RowT _ _ _) := hRT
  have hgl := RR.lt
  have c0 := X0.c0
  have p0 := X0.p0
  have p1 := X0.p1
  have hlr := X0.r.lt
  have HC0 : Hid (∀ W : World, Below W0.heap.size W0 W → Calls _ _ _ W _) := fun W hW => HCC.out 0 h1 pa ca W (HRT.out.next hW)
  obtain ⟨i0, hi0⟩ : ∃ i, i = clI pt f[0] := ⟨_, rfl⟩
  rw [← hi0] at HC0 HRR
  obtain ⟨n0, hn0⟩ : ∃ n, n = f[0].length := ⟨_, rfl⟩
  rw [← hn0] at HC0 x0
  have hfl : 0 < f.length := h1
  have hz0 : (w.heap.size : Nat) + 3 ≤ W0.heap.size := by omega
  have HX0 : Hid (CJ _ _ _ _) := X0
  clear RR hRT HRT hi0 hn0
  go_cut [5] (fun s5 wx => ∃ bx, s5 = .pointer (some ⟨bx, 0, none⟩) ∧ CK w wx (.slice (some ⟨g, 0, none⟩) f.length cap) pt bx (.string i0.lo) (.string i0.hi) (.bool i0.op))
  case first =>
    go_region_held3 (fun w0 => w0.cell? ⟨w.heap.size, 0, none⟩ = some (.slice (some ⟨g, 0, none⟩) f.length cap) ∧ w0.cell? ⟨g, 0, none⟩ = some (.slice pa n0 ca) ∧ w0.cell? ⟨w.heap.size + 1, 0, none⟩ = some (.string pt.path) ∧ w0.cell? ⟨w.heap.size + 1, 1, none⟩ = some (.bool pt.desc)) ((refine keepJ X0 hgl x0 ?_; (repeat (first | (with_reducible exact Below.refl _ _) | (with_reducible assumption) | (with_reducible apply below_drewN) | (with_reducible apply Below.drew) | ((with_reducible refine Below.setCell ?_ ?_ _); rotate_left; focus (first | (simp; done) | (simp; omega) | omega)) | ((with_reducible refine Below.alloc ?_ ?_ _); rotate_left; focus (first | (simp; done) | (simp; omega) | omega)))))) ((go_at_call 58; refine (HC0.out _ (by (repeat (first | (with_reducible exact Below.refl _ _) | (with_reducible assumption) | (with_reducible apply below_drewN) | (with_reducible apply Below.drew) | ((with_reducible refine Below.setCell ?_ ?_ _); rotate_left; focus (first | (simp; done) | (simp; omega) | omega)) | ((with_reducible refine Below.alloc ?_ ?_ _); rotate_left; focus (first | (simp; done) | (simp; omega) | omega)))))).mono ?_; rintro e w1 ⟨rfl, hb⟩; have hB1 : Below W0.heap.size W0 w1 := (show Below W0.heap.size W0 _ by (repeat (first | (with_reducible exact Below.refl _ _) | (with_reducible assumption) | (with_reducible apply below_drewN) | (with_reducible apply Below.drew) | ((with_reducible refine Below.setCell ?_ ?_ _); rotate_left; focus (first | (simp; done) | (simp; omega) | omega)) | ((with_reducible refine Below.alloc ?_ ?_ _); rotate_left; focus (first | (simp; done) | (simp; omega) | omega))))).trans (hb.mono (by first | (simp; done) | (simp; omega) | omega)); have hzb1 := hB1.size; (try with_reducible have A1 := one3e (W := W0) hb); (try with_reducible have A1 := one3d (W := W0) hb); (try with_reducible have A1 := one3 (W := W0) hb); (try have A1l := A1.lt); (try have A1c := A1.c0); (try have A1d := A1.c1); (try have A1e := A1.c2); (try have A1f := A1.f0); (try have A1g := A1.f1); (try have A1h := A1.f2); clear hb))
    all_goals
      try go_wp2_with fail
      go_meet
      refine ⟨_, rfl, ?_⟩
      first
        | with_reducible exact CK.late (HX0.out.step hB1) _ _ _ _
        | with_reducible exact CK.early (HX0.out.step hB1) A1 hz0 _ _ _
  case rest =>
  obtain ⟨bx, rfl, X1⟩ := hcut
  go_wp2_with fail
  go_loopw [6] (fun i wr => ∃ (k : Nat) (acc : Ivl) (H : ByteArray), 1 ≤ k ∧ k ≤ f.length ∧ i = .int .i64 k ∧ R = (f.drop k).foldl (fun acc c => spanI acc (clI pt c)) acc ∧ (acc.op = false → H = acc.hi) ∧ CK w wr (.slice (some ⟨g, 0, none⟩) f.length cap) pt bx (.string acc.lo) (.string H) (.bool acc.op)) (fun i _ => f.length - (intOf i).toNat)
  case atStart => exact ⟨1, i0, i0.hi, Nat.le_refl _, h1, rfl, HRR.out, fun _ => rfl, X1⟩
  case round =>
    obtain ⟨k, acc, H, hk1, hk, rfl, hall, hH, X⟩ := hrel
    have HA : Hid (R = _) := hall
    have c0 := X.j.c0
    clear hall
    by_cases hlt : k < f.length
    · rcases HR.out.next X.j.bel with h0 | ⟨g', hg', RR⟩
      · subst h0; simp at hlt
      cases hg'
      obtain ⟨pk, ck, y0, hRT⟩ := RR.cells k hlt
      have HRT : Hid (RowT _ _ _) := hRT
      have hgk := RR.lt
      have hlt2 : (k : Int) < (f.length : Int) := by omega
      have hcons : R = (f.drop (k + 1)).foldl (fun acc c => spanI acc (clI pt c)) (spanI acc (clI pt f[k])) := HA.out.trans (by rw [fi_drop f k hlt]; rfl)
      have HK0 : Hid (∀ W : World, Below wr.heap.size wr W → Calls _ _ _ W _) := fun W hW => HCC.out k hlt pk ck W (HRT.out.next hW)
      obtain ⟨ik, hik⟩ : ∃ i, i = clI pt f[k] := ⟨_, rfl⟩
      obtain ⟨nk, hnk⟩ : ∃ n, n = f[k].length := ⟨_, rfl⟩
      rw [← hik] at HK0 hcons
      rw [← hnk] at HK0 y0
      have HN : Hid (R = _) := hcons
      have hspan : (spanI acc ik).op = false → Lib.maxS H ik.hi = (spanI acc ik).hi := span_hi hH
      have HSP : Hid _ := hspan
      have hmn := fun (W : World) ts t => Lib.run_min_strs (P := Tryz.prog) W ts t acc.lo ik.lo
      have hmx := fun (W : World) ts t => Lib.run_max_strs (P := Tryz.prog) W ts t H ik.hi
      obtain ⟨M, hM⟩ : ∃ M, M = Lib.minS acc.lo ik.lo := ⟨_, rfl⟩
      obtain ⟨N, hN⟩ : ∃ N, N = Lib.maxS H ik.hi := ⟨_, rfl⟩
      rw [← hM] at hmn
      rw [← hN] at hmx HSP
      have hspl : (spanI acc ik).lo = M := hM.symm
      have hspo : (spanI acc ik).op = (acc.op || ik.op) := rfl
      obtain ⟨sp, hsp⟩ : ∃ i, i = spanI acc ik := ⟨_, rfl⟩
      rw [← hsp] at HN HSP hspl hspo
      have HX : Hid (CK _ _ _ _ _ _ _ _) := X
      have p0 := X.j.p0
      have p1 := X.j.p1
      have hbl := X.a.lt
      have hge := X.ge
      have hjl := X.j.r.lt
      have hj0 : w.heap.size < wr.heap.size := by omega
      have n1 : ¬ bx = wr.heap.size := by omega
      have n2 : ¬ wr.heap.size = bx := by omega
      obtain ⟨alo, ahi, aop⟩ := acc
      obtain ⟨klo, khi, kop⟩ := ik
      clear RR hRT hik hnk hsp hcons hM hN hH hspan
      simp only at HX hmn hmx hspo HK0
      cases aop <;> cases kop
      all_goals
        go_wp2_with fail
        go_region_held3 (fun w0 => w0.cell? ⟨w.heap.size, 0, none⟩ = some (.slice (some ⟨g, 0, none⟩) f.length cap) ∧ w0.cell? ⟨g, k, none⟩ = some (.slice pk nk ck) ∧ w0.cell? ⟨w.heap.size + 1, 0, none⟩ = some (.string pt.path) ∧ w0.cell? ⟨w.heap.size + 1, 1, none⟩ = some (.bool pt.desc)) ((refine keepJ HX.out.j hgk y0 ?_; (repeat (first | (with_reducible exact Below.refl _ _) | (with_reducible assumption) | (with_reducible apply below_drewN) | (with_reducible apply Below.drew) | ((with_reducible refine Below.setCell ?_ ?_ _); rotate_left; focus (first | (simp; done) | (simp; omega) | omega)) | ((with_reducible refine Below.alloc ?_ ?_ _); rotate_left; focus (first | (simp; done) | (simp; omega) | omega)))))) ((go_at_call 58; refine (HK0.out _ (by (repeat (first | (with_reducible exact Below.refl _ _) | (with_reducible assumption) | (with_reducible apply below_drewN) | (with_reducible apply Below.drew) | ((with_reducible refine Below.setCell ?_ ?_ _); rotate_left; focus (first | (simp; done) | (simp; omega) | omega)) | ((with_reducible refine Below.alloc ?_ ?_ _); rotate_left; focus (first | (simp; done) | (simp; omega) | omega)))))).mono ?_; rintro e w1 ⟨rfl, hb⟩; have hB1 : Below wr.heap.size wr w1 := (show Below wr.heap.size wr _ by (repeat (first | (with_reducible exact Below.refl _ _) | (with_reducible assumption) | (with_reducible apply below_drewN) | (with_reducible apply Below.drew) | ((with_reducible refine Below.setCell ?_ ?_ _); rotate_left; focus (first | (simp; done) | (simp; omega) | omega)) | ((with_reducible refine Below.alloc ?_ ?_ _); rotate_left; focus (first | (simp; done) | (simp; omega) | omega))))).trans (hb.mono (by first | (simp; done) | (simp; omega) | omega)); have hzb1 := hB1.size; (try with_reducible have A1 := one3e (W := wr) hb); (try with_reducible have A1 := one3d (W := wr) hb); (try with_reducible have A1 := one3 (W := wr) hb); (try have A1l := A1.lt); (try have A1c := A1.c0); (try have A1d := A1.c1); (try have A1e := A1.c2); (try have A1f := A1.f0); (try have A1g := A1.f1); (try have A1h := A1.f2); have X1 := HX.out.step hB1; have hbw1 := X1.j.bel; have u0 := X1.j.c0; have u1 := X1.j.p0; have u2 := X1.j.p1; have u3 := X1.j.r.c0; have u4 := X1.j.r.c1; have u5 := X1.j.r.c2; have u6 := X1.j.r.f0; have u7 := X1.j.r.f1; have u8 := X1.j.r.f2; have u9 := X1.j.r.lt; have v0 := X1.a.c0; have v1 := X1.a.c1; have v2 := X1.a.c2; have v3 := X1.a.f0; have v4 := X1.a.f1; have v5 := X1.a.f2; have v6 := X1.a.lt; have n3 : ¬ bx = w1.heap.size := Nat.ne_of_lt v6; have n4 : ¬ w1.heap.size = bx := fun h => n3 h.symm; have HX1 : Hid (CK _ _ _ _ _ _ _ _) := X1; clear X1 hb))
        all_goals
          go_wp2_with fail
          go_roundw
          case rel =>
            refine ⟨k + 1, sp, N, by omega, by omega, by go_num, HN.out, HSP.out, ?_⟩
            rw [hspl, hspo]
            first | rw [Bool.false_or] | rw [Bool.true_or]
            repeat (first | (with_reducible exact HX1.out) | (with_reducible apply CK.s0) | (with_reducible apply CK.s1) | (with_reducible apply CK.s2) | (with_reducible apply CK.al) | ((with_reducible apply CK.oth) <;> (try omega)))
          case measure => simp [intOf]; omega
    · have hlt2 : ¬ (k : Int) < (f.length : Int) := by omega
      have hRt : R = acc := by rw [HA.out, List.drop_eq_nil_of_le (by omega)]; rfl
      have hRH : R.op = false → H = R.hi := by rw [hRt]; exact hH
      rw [← hRt] at X
      obtain ⟨Rlo, Rhi, Rop⟩ := R
      have r0 := X.j.r.c0
      have r1 := X.j.r.c1
      have r2 := X.j.r.c2
      have z0 := X.j.r.f0
      have z1 := X.j.r.f1
      have z2 := X.j.r.f2
      have zl := X.j.r.lt
      have hbz := X.j.bel
      have y0 := X.a.c0
      have y1 := X.a.c1
      have y2 := X.a.c2
      have y3 := X.a.f0
      have y4 := X.a.f1
      have y5 := X.a.f2
      have y6 := X.a.lt
      have hge := X.ge
      have m3 : bx ≠ w.heap.size + 2 := by omega
      have m4 : w.heap.size + 2 ≠ bx := by omega
      clear hRt hH X hk hk1 hlt HA
      cases Rop
      · obtain rfl : H = Rhi := hRH rfl
        clear hRH
        go_wp2_with fail
        refine bodyPost_ret (v := .agg #[.string Rlo, .string H, .bool false]) (by simp [results, Tryz.results31, go_sem, *]) rfl ⟨rfl, ?_⟩
        (repeat (first | (with_reducible exact Below.refl _ _) | (with_reducible assumption) | (with_reducible apply below_drewN) | (with_reducible apply Below.drew) | ((with_reducible refine Below.setCell ?_ ?_ _); rotate_left; focus (first | (simp; done) | (simp; omega) | omega)) | ((with_reducible refine Below.alloc ?_ ?_ _); rotate_left; focus (first | (simp; done) | (simp; omega) | omega))))
      · clear hRH
        go_wp2_with fail
        refine bodyPost_ret (v := .agg #[.string Rlo, .string em, .bool true]) (by simp [results, Tryz.results31, go_sem, *]) rfl ⟨rfl, ?_⟩
        (repeat (first | (with_reducible exact Below.refl _ _) | (with_reducible assumption) | (with_reducible apply below_drewN) | (with_reducible apply Below.drew) | ((with_reducible refine Below.setCell ?_ ?_ _); rotate_left; focus (first | (simp; done) | (simp; omega) | omega)) | ((with_reducible refine Below.alloc ?_ ?_ _); rotate_left; focus (first | (simp; done) | (simp; omega) | omega))))

end Go.Proofs.YtdchhjnmhnehiaaGreatDoor.Fi

/- What the specification's FilterInterval answers. -/
namespace Go.Proofs.YtdchhjnmhnehiaaGreatDoor.Fi
open Go.RowKit
open Tr
set_option linter.unusedVariables false

theorem clI_open (p : Prt) : ∀ l : List Trm, (clI p l).op = true → (clI p l).hi = em
  | [], _ => rfl
  | t :: r, h => by
    cases hs : sayI p t
    · rw [clI_not _ _ _ hs] at h ⊢; exact clI_open p r h
    · rw [clI_say _ _ _ hs] at h
      unfold sayI at hs
      rw [h] at hs; simp at hs
theorem span_open (a b : Ivl) : (spanI a b).op = true → (spanI a b).hi = em := fun h => by
  have h2 : (a.op || b.op) = true := h
  unfold spanI; simp only; rw [if_pos h2]
theorem fold_open (p : Prt) : ∀ (r : List (List Trm)) (a : Ivl), (a.op = true → a.hi = em) → (r.foldl (fun acc c => spanI acc (clI p c)) a).op = true → (r.foldl (fun acc c => spanI acc (clI p c)) a).hi = em
  | [], _, h => h
  | c :: r, a, h => fold_open p r (spanI a (clI p c)) (span_open a (clI p c))
theorem fiI_open (p : Prt) : ∀ f : List (List Trm), (fiI p f).op = true → (fiI p f).hi = em
  | [], _ => rfl
  | c :: r, h => fold_open p r (clI p c) (clI_open p c) h
theorem fiI_hi (p : Prt) (f : List (List Trm)) : (if (fiI p f).op then em else (fiI p f).hi) = (fiI p f).hi := by
  cases h : (fiI p f).op
  · rfl
  · exact (fiI_open p f h).symm

set_option maxRecDepth 4000 in
set_option maxHeartbeats 2000000 in
theorem specFiltInt_any (q : Option Addr) (cap : Nat) (f : List (List Trm)) (pt : Prt) (w : World) (hr : RowC w q f) (hl : f.length ≤ 1048576) (hs : ∀ l ∈ f, szC l) (hp : pt.path.size ≤ 1048576) :
    Calls Tryz.prog 8 #[.agg #[.slice q f.length cap], .agg #[.string pt.path, .bool pt.desc]] w fun e w' => e = .returned (.tuple #[.agg #[.string (filtI pt f).1.lo, .string (filtI pt f).1.hi, .bool (filtI pt f).1.op], .int .i64 (filtI pt f).2]) ∧ Below w.heap.size w w' := by
  have X0 := CJ.start w (.slice q f.length cap) pt 25 28 34
  have HF0 := fun (W : World) (hW : Below w.heap.size w W) => specFilt_any q cap f W (hr.next hW) hl hs
  have HP0 := fun (W : World) => specPath_any pt.path W hp
  unfold filtI
  cases hF : filtB f
  · rw [hF] at HF0
    have HF : Hid (∀ W : World, Below w.heap.size w W → Calls _ _ _ W _) := HF0
    clear hr hs HF0 HP0 hF
    simp only [Bool.false_and, Bool.false_eq_true, if_false]
    go_enter Tryz.func8, Tryz.ntmps8
    go_wp2_with fail
    refine (HF.out _ X0.bel).mono ?_
    rintro e w1 ⟨rfl, hb⟩
    obtain ⟨b, c0, p0, p1, ⟨l, r0, r1, r2, f0, f1, f2⟩⟩ := X0.step hb
    clear hb X0 HF
    go_wp2_with fail
    refine bodyPost_ret (v := .tuple #[.agg #[.string em, .string em, .bool false], .int .i64 1]) (by simp [results, Tryz.results8, go_sem, *]) rfl ⟨rfl, ?_⟩
    (repeat (first | (with_reducible exact Below.refl _ _) | (with_reducible assumption) | (with_reducible apply below_drewN) | (with_reducible apply Below.drew) | ((with_reducible refine Below.setCell ?_ ?_ _); rotate_left; focus (first | (simp; done) | (simp; omega) | omega)) | ((with_reducible refine Below.alloc ?_ ?_ _); rotate_left; focus (first | (simp; done) | (simp; omega) | omega))))
  · cases hPP : pathB pt.path
    · rw [hF] at HF0
      rw [hPP] at HP0
      have HF : Hid (∀ W : World, Below w.heap.size w W → Calls _ _ _ W _) := HF0
      have HP : Hid (∀ W : World, Calls _ _ _ W _) := HP0
      clear hr hs HF0 HP0 hF hPP
      simp only [Bool.and_false, Bool.false_eq_true, if_false]
      go_enter Tryz.func8, Tryz.ntmps8
      go_wp2_with fail
      refine (HF.out _ X0.bel).mono ?_
      rintro e w1 ⟨rfl, hb⟩
      have X1 := X0.step hb
      have p0 := X1.p0
      have p1 := X1.p1
      clear hb X0 HF
      go_wp2_with fail
      refine (HP.out _).mono ?_
      rintro e w2 ⟨rfl, hb⟩
      obtain ⟨b, c0, p0, p1, ⟨l, r0, r1, r2, f0, f1, f2⟩⟩ := X1.step hb
      clear hb X1 HP
      go_wp2_with fail
      refine bodyPost_ret (v := .tuple #[.agg #[.string em, .string em, .bool false], .int .i64 1]) (by simp [results, Tryz.results8, go_sem, *]) rfl ⟨rfl, ?_⟩
      (repeat (first | (with_reducible exact Below.refl _ _) | (with_reducible assumption) | (with_reducible apply below_drewN) | (with_reducible apply Below.drew) | ((with_reducible refine Below.setCell ?_ ?_ _); rotate_left; focus (first | (simp; done) | (simp; omega) | omega)) | ((with_reducible refine Below.alloc ?_ ?_ _); rotate_left; focus (first | (simp; done) | (simp; omega) | omega))))
    · obtain ⟨g1, g2⟩ := filt_parts hF
      have HI0 := fun (W : World) (hW : Below w.heap.size w W) => l07Filter_at q cap f pt W (hr.next hW) g1 hl hs g2
      rw [fiI_hi] at HI0
      rw [hF] at HF0
      rw [hPP] at HP0
      have HF : Hid (∀ W : World, Below w.heap.size w W → Calls _ _ _ W _) := HF0
      have HP : Hid (∀ W : World, Calls _ _ _ W _) := HP0
      have HI : Hid (∀ W : World, Below w.heap.size w W → Calls _ _ _ W _) := HI0
      clear hr hs HF0 HP0 HI0 hF hPP g2
      simp only [Bool.and_true, if_true]
      obtain ⟨R, hR⟩ : ∃ R, R = fiI pt f := ⟨_, rfl⟩
      rw [← hR] at HI ⊢
      clear hR
      go_enter Tryz.func8, Tryz.ntmps8
      go_wp2_with fail
      refine (HF.out _ X0.bel).mono ?_
      rintro e w1 ⟨rfl, hb⟩
      have X1 := X0.step hb
      have p0 := X1.p0
      have p1 := X1.p1
      clear hb X0 HF
      go_wp2_with fail
      refine (HP.out _).mono ?_
      rintro e w2 ⟨rfl, hb⟩
      have X2 := X1.step hb
      have c0 := X2.c0
      have p0 := X2.p0
      have p1 := X2.p1
      clear hb X1 HP
      go_wp2_with fail
      refine (HI.out _ X2.bel).mono ?_
      rintro e w3 ⟨rfl, hb⟩
      obtain ⟨b, c0, p0, p1, ⟨l, r0, r1, r2, f0, f1, f2⟩⟩ := X2.step hb
      clear hb X2 HI
      go_wp2_with fail
      refine bodyPost_ret (v := .tuple #[.agg #[.string R.lo, .string R.hi, .bool R.op], .int .i64 0]) (by simp [results, Tryz.results8, go_sem, *]) rfl ⟨rfl, ?_⟩
      (repeat (first | (with_reducible exact Below.refl _ _) | (with_reducible assumption) | (with_reducible apply below_drewN) | (with_reducible apply Below.drew) | ((with_reducible refine Below.setCell ?_ ?_ _); rotate_left; focus (first | (simp; done) | (simp; omega) | omega)) | ((with_reducible refine Below.alloc ?_ ?_ _); rotate_left; focus (first | (simp; done) | (simp; omega) | omega))))
end Go.Proofs.YtdchhjnmhnehiaaGreatDoor.Fi
