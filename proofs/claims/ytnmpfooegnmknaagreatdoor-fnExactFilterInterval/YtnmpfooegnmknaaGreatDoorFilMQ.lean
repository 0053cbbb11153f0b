/- The interval of a filter, said plainly; the blocks that the functions on clauses keep. -/
import Derived.Test.YtnmpfooegnmknaaGreatDoorBegSQ
import Derived.Test.YtnmpfooegnmknaaGreatDoorRowTQ
import Derived.Test.YtnmpfooegnmknaaGreatDoorTrMQ
import Derived.Laws.StructEq
namespace Go.Proofs.YtnmpfooegnmknaaGreatDoor.Fi
open Go.RowKit
open Tr
set_option linter.unusedVariables false

/-- Does a term say something of a path. -/
def sayI (p : Prt) (t : Trm) : Bool := (t.p.toList == p.path.toList) && !(tintI t.op t.c p.desc).op
/-- A clause's interval: that of the first term that says something. -/
def clI (p : Prt) : List Trm → Ivl
  | [] => ⟨em, em, true⟩
  | t :: r => if sayI p t = true then tintI t.op t.c p.desc else clI p r
theorem clI_say (p : Prt) (t : Trm) (r : List Trm) (h : sayI p t = true) : clI p (t :: r) = tintI t.op t.c p.desc := by rw [clI, if_pos h]
theorem clI_not (p : Prt) (t : Trm) (r : List Trm) (h : sayI p t = false) : clI p (t :: r) = clI p r := by rw [clI, if_neg (by rw [h]; simp)]
def spanI (a b : Ivl) : Ivl := ⟨Lib.minS a.lo b.lo, if a.op || b.op then em else Lib.maxS a.hi b.hi, a.op || b.op⟩
def fiI (p : Prt) : List (List Trm) → Ivl
  | [] => ⟨em, em, true⟩
  | c :: r => r.foldl (fun acc c => spanI acc (clI p c)) (clI p c)
theorem fiI_eq (p : Prt) : ∀ (f : List (List Trm)) (h : 0 < f.length), fiI p f = (f.drop 1).foldl (fun acc c => spanI acc (clI p c)) (clI p f[0])
  | c :: r, _ => rfl
theorem tint_all (t : Trm) (d : Bool) (h : okT t = true) : tintI t.op t.c d = ⟨em, em, true⟩ ∨ (tintI t.op t.c d).op = false := by
  obtain ⟨h1, h2, h3⟩ := term_parts t.op t.p t.c h
  unfold tintI
  split
  · obtain ⟨c, r, s, _, _, e, _⟩ := one_begin t.c d h1
    right; rw [e]
  · split
    · rename_i h9
      obtain ⟨c, _, e⟩ := kind_begin t.c.n d (h3 h9).1 (h3 h9).2
      right; rw [e]
    · split
      · right; unfold ordT; split <;> rfl
      · exact .inl rfl
theorem fi_drop {α : Type} (l : List α) (k : Nat) (h : k < l.length) : l.drop k = l[k] :: l.drop (k + 1) := by rw [List.drop_eq_getElem_cons h]
def filtI (p : Prt) (f : List (List Trm)) : Ivl × Int := if (filtB f && pathB p.path) = true then (fiI p f, 0) else (⟨em, em, false⟩, 1)

theorem eqIvl (a b a' b' : ByteArray) (c c' : Bool) (w : World) : (Op.equalIn 10000 24 (.agg #[.string a, .string b, .bool c]) (.agg #[.string a', .string b', .bool c'])).run Tryz.prog w = .ok (a.toList == a'.toList && (b.toList == b'.toList && c == c')) w := by
  have u3 := Tryz.underlying4
  have u4 := Tryz.underlying9
  have a3 := Tryz.isAgg4
  have z3 := Tryz.sizeOf4
  have a4 := Tryz.isAgg9
  have z4 := Tryz.sizeOf9
  have hS : Tryz.prog.underlying 24 = some (.struct (Tryz.prog.fieldsOf 24)) := by kernel_rfl
  have hp : Tryz.prog.stoodInHeld 24 = false := by kernel_rfl
  rw [show (10000 : Nat) = 9999 + 1 from rfl, run_equalIn_agg w 9999 24 _ _ hS hp]
  simp only [Program.fieldsOf, Tryz.underlying24]
  go_simp
  by_cases h1 : a.toList = a'.toList <;> by_cases h2 : b.toList = b'.toList <;> cases c <;> cases c' <;> simp [h1, h2]
theorem neqIvl (a b a' b' : ByteArray) (c c' : Bool) (w : World) : (binOp .neq 24 (.agg #[.string a, .string b, .bool c]) (.agg #[.string a', .string b', .bool c'])).run Tryz.prog w = .ok (.bool (!(a.toList == a'.toList && (b.toList == b'.toList && c == c')))) w := by
  rw [run_neq_struct, eqIvl]; rfl

theorem neqIvl_ft (a b a' b' : ByteArray) (w : World) : (binOp .neq 24 (.agg #[.string a, .string b, .bool false]) (.agg #[.string a', .string b', .bool true])).run Tryz.prog w = .ok (.bool true) w := by
  rw [neqIvl]; simp
theorem neqIvl_same (a b : ByteArray) (c : Bool) (w : World) : (binOp .neq 24 (.agg #[.string a, .string b, .bool c]) (.agg #[.string a, .string b, .bool c])).run Tryz.prog w = .ok (.bool false) w := by
  rw [neqIvl]; simp

/-- The first four new blocks: a clause's or a filter's cell, a part, the answer, an interval. -/
structure CI (w W : World) (v : Value) (p : Prt) (x y z : Value) : Prop where
  bel : Below w.heap.size w W
  c0 : W.cell? ⟨w.heap.size, 0, none⟩ = some v
  p0 : W.cell? ⟨w.heap.size + 1, 0, none⟩ = some (.string p.path)
  p1 : W.cell? ⟨w.heap.size + 1, 1, none⟩ = some (.bool p.desc)
  r : I3 W (w.heap.size + 2) (.string em) (.string em) (.bool false)
  a : I3 W (w.heap.size + 3) x y z
theorem CI.step {w W W' : World} {v : Value} {p : Prt} {x y z : Value} (h : CI w W v p x y z) (hb : Below W.heap.size W W') : CI w W' v p x y z := by
  have hl := h.a.lt
  exact ⟨h.bel.trans (hb.mono h.bel.size), (hb.cell (p := ⟨w.heap.size, 0, none⟩) (by show w.heap.size < W.heap.size; omega)).trans h.c0, (hb.cell (p := ⟨w.heap.size + 1, 0, none⟩) (by show w.heap.size + 1 < W.heap.size; omega)).trans h.p0, (hb.cell (p := ⟨w.heap.size + 1, 1, none⟩) (by show w.heap.size + 1 < W.heap.size; omega)).trans h.p1, h.r.step hb, h.a.step hb⟩
/-- The first three of these. -/
structure CJ (w W : World) (v : Value) (p : Prt) : Prop where
  bel : Below w.heap.size w W
  c0 : W.cell? ⟨w.heap.size, 0, none⟩ = some v
  p0 : W.cell? ⟨w.heap.size + 1, 0, none⟩ = some (.string p.path)
  p1 : W.cell? ⟨w.heap.size + 1, 1, none⟩ = some (.bool p.desc)
  r : I3 W (w.heap.size + 2) (.string em) (.string em) (.bool false)
theorem CJ.step {w W W' : World} {v : Value} {p : Prt} (h : CJ w W v p) (hb : Below W.heap.size W W') : CJ w W' v p := by
  have hl := h.r.lt
  exact ⟨h.bel.trans (hb.mono h.bel.size), (hb.cell (p := ⟨w.heap.size, 0, none⟩) (by show w.heap.size < W.heap.size; omega)).trans h.c0, (hb.cell (p := ⟨w.heap.size + 1, 0, none⟩) (by show w.heap.size + 1 < W.heap.size; omega)).trans h.p0, (hb.cell (p := ⟨w.heap.size + 1, 1, none⟩) (by show w.heap.size + 1 < W.heap.size; omega)).trans h.p1, h.r.step hb⟩
theorem CJ.start (w : World) (v : Value) (p : Prt) (T U V : TypeId) : CJ w (((w.alloc (.cells #[v] T)).alloc (.cells #[.string p.path, .bool p.desc] U)).alloc (.cells #[.string em, .string em, .bool false] V)) v p :=
  ⟨(((Below.refl _ _).alloc (Nat.le_refl _) _).alloc (by simp) _).alloc (by simp; omega) _, by simp [go_sem], by simp [go_sem], by simp [go_sem], ⟨by simp, by simp [go_sem], by simp [go_sem], by simp [go_sem], by simp [go_sem], by simp [go_sem], by simp [go_sem]⟩⟩
theorem CI.start (w : World) (v : Value) (p : Prt) (x y z : Value) (T U V : TypeId) : CI w ((((w.alloc (.cells #[v] T)).alloc (.cells #[.string p.path, .bool p.desc] U)).alloc (.cells #[.string em, .string em, .bool false] V)).alloc (.cells #[x, y, z] V)) v p x y z :=
  have h := (CJ.start w v p T U V).step ((Below.refl _ _).alloc (Nat.le_refl _) (.cells #[x, y, z] V))
  ⟨h.bel, h.c0, h.p0, h.p1, h.r, ⟨by simp, by simp [go_sem], by simp [go_sem], by simp [go_sem], by simp [go_sem], by simp [go_sem], by simp [go_sem]⟩⟩
theorem i3_set3 {W : World} {g : Nat} {x y z : Value} (h : I3 W g x y z) (x' y' z' : Value) : I3 (((W.setCell ⟨g, 0, none⟩ x').setCell ⟨g, 1, none⟩ y').setCell ⟨g, 2, none⟩ z') g x' y' z' := by
  obtain ⟨l, c0, c1, c2, f0, f1, f2⟩ := h
  exact ⟨by simpa using l, by simp [go_sem, *], by simp [go_sem, *], by simp [go_sem, *], by simp [go_sem, *], by simp [go_sem, *], by simp [go_sem, *]⟩
theorem CI.set {w W : World} {v : Value} {p : Prt} {x y z : Value} (h : CI w W v p x y z) (x' y' z' : Value) : CI w (((W.setCell ⟨w.heap.size + 3, 0, none⟩ x').setCell ⟨w.heap.size + 3, 1, none⟩ y').setCell ⟨w.heap.size + 3, 2, none⟩ z') v p x' y' z' := by
  obtain ⟨b, c0, p0, p1, ⟨l, r0, r1, r2, f0, f1, f2⟩, a⟩ := h
  exact ⟨((b.setCell (by simp) _).setCell (by simp) _).setCell (by simp) _, by simp [go_sem, *], by simp [go_sem, *], by simp [go_sem, *], ⟨by simpa using l, by simp [go_sem, *], by simp [go_sem, *], by simp [go_sem, *], by simp [go_sem, *], by simp [go_sem, *], by simp [go_sem, *]⟩, i3_set3 a x' y' z'⟩
/-- The first three blocks, and an interval somewhere behind them. -/
structure CK (w W : World) (v : Value) (p : Prt) (bx : Nat) (x y z : Value) : Prop where
  j : CJ w W v p
  ge : w.heap.size + 3 ≤ bx
  a : I3 W bx x y z
theorem CK.step {w W W' : World} {v : Value} {p : Prt} {bx : Nat} {x y z : Value} (h : CK w W v p bx x y z) (hb : Below W.heap.size W W') : CK w W' v p bx x y z := ⟨h.j.step hb, h.ge, h.a.step hb⟩
theorem CK.set {w W : World} {v : Value} {p : Prt} {bx : Nat} {x y z : Value} (h : CK w W v p bx x y z) (x' y' z' : Value) : CK w (((W.setCell ⟨bx, 0, none⟩ x').setCell ⟨bx, 1, none⟩ y').setCell ⟨bx, 2, none⟩ z') v p bx x' y' z' := by
  obtain ⟨⟨b, c0, p0, p1, ⟨l, r0, r1, r2, f0, f1, f2⟩⟩, ge, a⟩ := h
  have e1 : ¬ bx = w.heap.size := by omega
  have e2 : ¬ bx = w.heap.size + 1 := by omega
  have e3 : ¬ bx = w.heap.size + 2 := by omega
  exact ⟨⟨((b.setCell (by simp; omega) _).setCell (by simp; omega) _).setCell (by simp; omega) _, by simp [go_sem, *], by simp [go_sem, *], by simp [go_sem, *], ⟨by simpa using l, by simp [go_sem, *], by simp [go_sem, *], by simp [go_sem, *], by simp [go_sem, *], by simp [go_sem, *], by simp [go_sem, *]⟩⟩, ge, i3_set3 a x' y' z'⟩
theorem CK.late {w W : World} {v : Value} {p : Prt} (h : CJ w W v p) (x y z : Value) (T : TypeId) : CK w (W.alloc (.cells #[x, y, z] T)) v p W.heap.size x y z :=
  ⟨h.step ((Below.refl _ _).alloc (Nat.le_refl _) _), by have := h.r.lt; omega, I3.new W x y z T⟩
theorem CK.early {w W : World} {v : Value} {p : Prt} {bx : Nat} {x y z : Value} (h : CJ w W v p) (hz : I3 W bx x y z) (hg : w.heap.size + 3 ≤ bx) (x' y' z' : Value) : CK w (((W.setCell ⟨bx, 0, none⟩ x').setCell ⟨bx, 1, none⟩ y').setCell ⟨bx, 2, none⟩ z') v p bx x' y' z' := CK.set ⟨h, hg, hz⟩ x' y' z'
theorem CK.oth {w W : World} {v : Value} {p : Prt} {bx b o : Nat} {x y z u : Value} (h : CK w W v p bx x y z) (h1 : w.heap.size + 3 ≤ b) (h2 : b ≠ bx) : CK w (W.setCell ⟨b, o, none⟩ u) v p bx x y z := by
  obtain ⟨⟨bl, c0, p0, p1, ⟨l, r0, r1, r2, f0, f1, f2⟩⟩, ge, ⟨al, a0, a1, a2, z0, z1, z2⟩⟩ := h
  have hg : W.grownBy (W.setCell ⟨b, o, none⟩ u) (some b) := Tr.grown_set
  have hc : ∀ k x, k < W.heap.size → k ≠ b → (W.setCell ⟨b, o, none⟩ u).cell? ⟨k, x, none⟩ = W.cell? ⟨k, x, none⟩ := fun k x hk hn => World.cell?_of_block (hg.block k hk (fun e => hn (Option.some.inj e)))
  have hf : ∀ k x, k < W.heap.size → k ≠ b → (W.setCell ⟨b, o, none⟩ u).frozen? ⟨k, x, none⟩ = W.frozen? ⟨k, x, none⟩ := fun k x hk hn => by
    have := hg.block k hk (fun e => hn (Option.some.inj e))
    simp [World.frozen?, this]
  have hs := hg.size
  exact ⟨⟨bl.setCell (by show w.heap.size ≤ b; omega) _, (hc _ _ (by omega) (by omega)).trans c0, (hc _ _ (by omega) (by omega)).trans p0, (hc _ _ (by omega) (by omega)).trans p1, ⟨Nat.lt_of_lt_of_le l hs, (hc _ _ (by omega) (by omega)).trans r0, (hc _ _ (by omega) (by omega)).trans r1, (hc _ _ (by omega) (by omega)).trans r2, (hf _ _ (by omega) (by omega)).trans f0, (hf _ _ (by omega) (by omega)).trans f1, (hf _ _ (by omega) (by omega)).trans f2⟩⟩, ge, ⟨Nat.lt_of_lt_of_le al hs, (hc _ _ al (Ne.symm h2)).trans a0, (hc _ _ al (Ne.symm h2)).trans a1, (hc _ _ al (Ne.symm h2)).trans a2, (hf _ _ al (Ne.symm h2)).trans z0, (hf _ _ al (Ne.symm h2)).trans z1, (hf _ _ al (Ne.symm h2)).trans z2⟩⟩
theorem CJ.oth {w W : World} {v : Value} {p : Prt} {b o : Nat} {u : Value} (h : CJ w W v p) (h1 : w.heap.size + 3 ≤ b) : CJ w (W.setCell ⟨b, o, none⟩ u) v p := by
  obtain ⟨bl, c0, p0, p1, ⟨l, r0, r1, r2, f0, f1, f2⟩⟩ := h
  have hg : W.grownBy (W.setCell ⟨b, o, none⟩ u) (some b) := Tr.grown_set
  have hc : ∀ k x, k < W.heap.size → k ≠ b → (W.setCell ⟨b, o, none⟩ u).cell? ⟨k, x, none⟩ = W.cell? ⟨k, x, none⟩ := fun k x hk hn => World.cell?_of_block (hg.block k hk (fun e => hn (Option.some.inj e)))
  have hf : ∀ k x, k < W.heap.size → k ≠ b → (W.setCell ⟨b, o, none⟩ u).frozen? ⟨k, x, none⟩ = W.frozen? ⟨k, x, none⟩ := fun k x hk hn => by
    have := hg.block k hk (fun e => hn (Option.some.inj e))
    simp [World.frozen?, this]
  have hs := hg.size
  exact ⟨bl.setCell (by show w.heap.size ≤ b; omega) _, (hc _ _ (by omega) (by omega)).trans c0, (hc _ _ (by omega) (by omega)).trans p0, (hc _ _ (by omega) (by omega)).trans p1, ⟨Nat.lt_of_lt_of_le l hs, (hc _ _ (by omega) (by omega)).trans r0, (hc _ _ (by omega) (by omega)).trans r1, (hc _ _ (by omega) (by omega)).trans r2, (hf _ _ (by omega) (by omega)).trans f0, (hf _ _ (by omega) (by omega)).trans f1, (hf _ _ (by omega) (by omega)).trans f2⟩⟩
theorem CK.s0 {w W : World} {v : Value} {p : Prt} {bx : Nat} {x y z u : Value} (h : CK w W v p bx x y z) : CK w (W.setCell ⟨bx, 0, none⟩ u) v p bx u y z := by
  obtain ⟨hj, ge, ⟨al, a0, a1, a2, z0, z1, z2⟩⟩ := h
  exact ⟨hj.oth ge, ge, ⟨by simpa using al, by simp [go_sem, *], by simp [go_sem, *], by simp [go_sem, *], by simp [go_sem, *], by simp [go_sem, *], by simp [go_sem, *]⟩⟩
theorem CK.s1 {w W : World} {v : Value} {p : Prt} {bx : Nat} {x y z u : Value} (h : CK w W v p bx x y z) : CK w (W.setCell ⟨bx, 1, none⟩ u) v p bx x u z := by
  obtain ⟨hj, ge, ⟨al, a0, a1, a2, z0, z1, z2⟩⟩ := h
  exact ⟨hj.oth ge, ge, ⟨by simpa using al, by simp [go_sem, *], by simp [go_sem, *], by simp [go_sem, *], by simp [go_sem, *], by simp [go_sem, *], by simp [go_sem, *]⟩⟩
theorem CK.s2 {w W : World} {v : Value} {p : Prt} {bx : Nat} {x y z u : Value} (h : CK w W v p bx x y z) : CK w (W.setCell ⟨bx, 2, none⟩ u) v p bx x y u := by
  obtain ⟨hj, ge, ⟨al, a0, a1, a2, z0, z1, z2⟩⟩ := h
  exact ⟨hj.oth ge, ge, ⟨by simpa using al, by simp [go_sem, *], by simp [go_sem, *], by simp [go_sem, *], by simp [go_sem, *], by simp [go_sem, *], by simp [go_sem, *]⟩⟩
theorem CK.al {w W : World} {v : Value} {p : Prt} {bx : Nat} {x y z : Value} {o : Obj} (h : CK w W v p bx x y z) : CK w (W.alloc o) v p bx x y z := h.step ((Below.refl _ _).alloc (Nat.le_refl _) _)
theorem keepJ {w W U : World} {v u : Value} {p : Prt} {g k : Nat} (X : CJ w W v p) (hg : g < W.heap.size) (hc : W.cell? ⟨g, k, none⟩ = some u) (hb : Below W.heap.size W U) :
    U.cell? ⟨w.heap.size, 0, none⟩ = some v ∧ U.cell? ⟨g, k, none⟩ = some u ∧ U.cell? ⟨w.heap.size + 1, 0, none⟩ = some (.string p.path) ∧ U.cell? ⟨w.heap.size + 1, 1, none⟩ = some (.bool p.desc) :=
  ⟨(X.step hb).c0, (hb.cell hg).trans hc, (X.step hb).p0, (X.step hb).p1⟩
theorem cutTailC (b n ca : Nat) (h : 1 ≤ n) (W : World) : (Instr.slice 73 (.slice (some ⟨b, 0, none⟩) n ca) (some (.int .i64 1)) none none).run Tryz.prog W = .ok (.slice (some ⟨b, if ca = 1 then 0 else 1, none⟩) (n - 1) (ca - 1)) W := by
  have he : Tryz.prog.elem 73 = 159 := by kernel_rfl
  refine (run_slice_l (P := Tryz.prog) (w := W) 73 (some ⟨b, 0, none⟩) n ca (by kernel_rfl) .i64 1 (by omega) (by omega)).trans ?_
  rw [he, Tryz.sizeOf159]
  simp only [sliced, Result.andThen]
  split <;> rename_i hh <;> simp [Addr.add] at hh ⊢ <;> simp [hh]
end Go.Proofs.YtnmpfooegnmknaaGreatDoor.Fi

/- What the program answers of a clause's interval and of two intervals' span. -/
namespace Go.Proofs.YtnmpfooegnmknaaGreatDoor.Fi
open Go.RowKit
open Tr
set_option linter.unusedVariables false

set_option maxRecDepth 4000 in
set_option maxHeartbeats 2000000 in
theorem clauseInterval_any (q : Option Addr) (cap : Nat) (l : List Trm) (pt : Prt) (w : World) (hr : RowT w q l) (hl : l.length ≤ 1048576) (ht : ∀ t ∈ l, okT t = true) (hs : ∀ t ∈ l, szT t) :
    Calls Tryz.prog 127 #[.agg #[.slice q l.length cap], .agg #[.string pt.path, .bool pt.desc]] w fun e w' => e = .returned (.agg #[.string (clI pt l).lo, .string (clI pt l).hi, .bool (clI pt l).op]) ∧ Below w.heap.size w w' := by
  have X0 := CI.start w (.slice q l.length cap) pt (.string em) (.string em) (.bool true) 159 77 24
  have HR : Hid (RowT _ _ _) := hr
  have HT : Hid _ := ht
  have HS : Hid _ := hs
  clear hr hs ht
  obtain ⟨R, hR⟩ : ∃ R, R = clI pt l := ⟨_, rfl⟩
  rw [← hR]
  have HRR : Hid _ := hR
  clear hR
  go_enter Tryz.func127, Tryz.ntmps127
  go_wp2_with fail
  go_loopw [14] (fun i wr => ∃ k : Nat, k ≤ l.length ∧ i = .int .i64 k ∧ R = clI pt (l.drop k) ∧ CI w wr (.slice q l.length cap) pt (.string em) (.string em) (.bool true)) (fun i _ => l.length - (intOf i).toNat)
  case atStart => exact ⟨0, Nat.zero_le _, rfl, HRR.out, X0⟩
  case round =>
    obtain ⟨k, hk, rfl, hall, X⟩ := hrel
    have HA : Hid (R = _) := hall
    clear hall
    by_cases hlt : k < l.length
    · rcases HR.out.next X.bel with h0 | ⟨g, rfl, RR⟩
      · subst h0; simp at hlt
      obtain ⟨x0, x1, x2, x3, x4⟩ := RR.cells k hlt
      have hgl := RR.lt
      have hlt2 : (k : Int) < (l.length : Int) := by omega
      have hcons : R = clI pt (l[k] :: l.drop (k + 1)) := HA.out.trans (by rw [fi_drop l k hlt])
      obtain ⟨t, htt⟩ : ∃ t, t = l[k] := ⟨_, rfl⟩
      rw [← htt] at x0 x1 x2 x3 x4 hcons
      have hok : okT t = true := by rw [htt]; exact HT.out _ (List.getElem_mem _)
      have hsz : szT t := by rw [htt]; exact HS.out _ (List.getElem_mem _)
      have HCT := fun W : World => implTint_any t.op t.p t.c.k t.c.n t.c.t pt.desc W hsz.1 hsz.2
      rw [tintP_ok t.op t.p ⟨t.c.k, t.c.n, t.c.t⟩ pt.desc hok] at HCT
      have HC : Hid (∀ W : World, Calls _ _ _ W _) := HCT
      clear RR htt HCT
      have hXA := X.step ((Below.refl _ _).alloc (Nat.le_refl _) (.cells #[.int .i64 t.op, .string t.p, .int .i64 t.c.k, .int .i64 t.c.n, .string t.c.t] 34))
      have p0 := hXA.p0
      have p1 := hXA.p1
      cases hP : (t.p.toList == pt.path.toList)
      · have hnot : R = clI pt (l.drop (k + 1)) := hcons.trans (clI_not _ _ _ (by unfold sayI; rw [hP]; rfl))
        have HN : Hid (R = _) := hnot
        clear hcons hnot
        go_wp2_with fail
        go_roundw
        case rel => exact ⟨k + 1, by omega, by go_num, HN.out, hXA⟩
        case measure => simp [intOf]; omega
      · have hsay : sayI pt t = !(tintI t.op t.c pt.desc).op := by unfold sayI; rw [hP]; rfl
        obtain ⟨i, hi⟩ : ∃ i, i = tintI t.op t.c pt.desc := ⟨_, rfl⟩
        have hca : i = ⟨em, em, true⟩ ∨ i.op = false := by rw [hi]; exact tint_all t pt.desc hok
        have HC2 : Hid (∀ W : World, Calls Tryz.prog 17 #[.agg #[.int .i64 t.op, .string t.p, .int .i64 t.c.k, .int .i64 t.c.n, .string t.c.t], .bool pt.desc] W fun e w' => e = .returned (.tuple #[.agg #[.string i.lo, .string i.hi, .bool i.op], .int .i64 0]) ∧ Below W.heap.size W w') := by rw [hi]; exact HC.out
        rw [← hi] at hsay
        have hcl : sayI pt t = true → R = i := fun h => by rw [hcons, clI_say _ _ _ h, hi]
        have hcn : sayI pt t = false → R = clI pt (l.drop (k + 1)) := fun h => by rw [hcons, clI_not _ _ _ h]
        clear HC hi hcons
        go_wp2_with fail
        refine (HC2.out _).mono ?_
        rintro e w1 ⟨rfl, hb⟩
        have X1 := hXA.step hb
        have X2 := X1.step ((Below.refl _ _).alloc (Nat.le_refl _) (.cells #[.string i.lo, .string i.hi, .bool i.op] 24))
        have y0 := X2.a.c0
        have y1 := X2.a.c1
        have y2 := X2.a.c2
        clear hb hXA X
        rcases hca with rfl | hop
        · have HN : Hid (R = _) := hcn (by rw [hsay]; rfl)
          have nq := neqIvl_same em em true
          clear hcl hcn hsay
          go_wp2_with fail
          go_roundw
          case rel => exact ⟨k + 1, by omega, by go_num, HN.out, X2⟩
          case measure => simp [intOf]; omega
        · obtain ⟨ilo, ihi, iop⟩ := i
          cases hop
          have HN : Hid (R = _) := hcl (by rw [hsay]; rfl)
          have nq := neqIvl_ft ilo ihi em em
          have r0 := X2.r.c0
          have r1 := X2.r.c1
          have r2 := X2.r.c2
          have z0 := X2.r.f0
          have z1 := X2.r.f1
          have z2 := X2.r.f2
          have zl := X2.r.lt
          have hbz := X2.bel
          clear hcl hcn hsay
          go_wp2_with fail
          refine bodyPost_ret (v := .agg #[.string ilo, .string ihi, .bool false]) (by simp [results, Tryz.results127, go_sem, *]) rfl ⟨by rw [HN.out], ?_⟩
          (repeat (first | (with_reducible exact Below.refl _ _) | (with_reducible assumption) | (with_reducible apply below_drewN) | (with_reducible apply Below.drew) | ((with_reducible refine Below.setCell ?_ ?_ _); rotate_left; focus (first | (simp; done) | (simp; omega) | omega)) | ((with_reducible refine Below.alloc ?_ ?_ _); rotate_left; focus (first | (simp; done) | (simp; omega) | omega))))
    · have hlt2 : ¬ (k : Int) < (l.length : Int) := by omega
      have hRt : R = ⟨em, em, true⟩ := by rw [HA.out, List.drop_eq_nil_of_le (by omega)]; rfl
      subst hRt
      have r0 := X.r.c0
      have r1 := X.r.c1
      have r2 := X.r.c2
      have z0 := X.r.f0
      have z1 := X.r.f1
      have z2 := X.r.f2
      have zl := X.r.lt
      have hbz := X.bel
      have y0 := X.a.c0
      have y1 := X.a.c1
      have y2 := X.a.c2
      go_wp2_with fail
      refine bodyPost_ret (v := .agg #[.string em, .string em, .bool true]) (by simp [results, Tryz.results127, go_sem, *]) rfl ⟨rfl, ?_⟩
      (repeat (first | (with_reducible exact Below.refl _ _) | (with_reducible assumption) | (with_reducible apply below_drewN) | (with_reducible apply Below.drew) | ((with_reducible refine Below.setCell ?_ ?_ _); rotate_left; focus (first | (simp; done) | (simp; omega) | omega)) | ((with_reducible refine Below.alloc ?_ ?_ _); rotate_left; focus (first | (simp; done) | (simp; omega) | omega))))

set_option maxRecDepth 4000 in
set_option maxHeartbeats 2000000 in
theorem spanOf_any (a b : Ivl) (w : World) :
    Calls Tryz.prog 128 #[.agg #[.string a.lo, .string a.hi, .bool a.op], .agg #[.string b.lo, .string b.hi, .bool b.op]] w fun e w' => e = .returned (.agg #[.string (spanI a b).lo, .string (spanI a b).hi, .bool (spanI a b).op]) ∧ Below w.heap.size w w' := by
  obtain ⟨lo, hi, op⟩ := a
  obtain ⟨lo', hi', op'⟩ := b
  unfold spanI
  simp only
  have hmn := fun (W : World) ts t => Lib.run_min_strs (P := Tryz.prog) W ts t lo lo'
  have hmx := fun (W : World) ts t => Lib.run_max_strs (P := Tryz.prog) W ts t hi hi'
  obtain ⟨M, hM⟩ : ∃ M, M = Lib.minS lo lo' := ⟨_, rfl⟩
  obtain ⟨N, hN⟩ : ∃ N, N = Lib.maxS hi hi' := ⟨_, rfl⟩
  rw [← hM] at hmn ⊢
  rw [← hN] at hmx ⊢
  clear hM hN
  cases op <;> cases op'
  · show Calls _ _ _ _ fun e w' => e = .returned (.agg #[.string M, .string N, .bool false]) ∧ Below w.heap.size w w'
    go_enter Tryz.func128, Tryz.ntmps128
    go_wp2_with fail
    refine bodyPost_ret (v := .agg #[.string M, .string N, .bool false]) (by simp [results, Tryz.results128, go_sem]) rfl ⟨rfl, ?_⟩
    (repeat (first | (with_reducible exact Below.refl _ _) | (with_reducible assumption) | (with_reducible apply below_drewN) | (with_reducible apply Below.drew) | ((with_reducible refine Below.setCell ?_ ?_ _); rotate_left; focus (first | (simp; done) | (simp; omega) | omega)) | ((with_reducible refine Below.alloc ?_ ?_ _); rotate_left; focus (first | (simp; done) | (simp; omega) | omega))))
  all_goals
    show Calls _ _ _ _ fun e w' => e = .returned (.agg #[.string M, .string em, .bool true]) ∧ Below w.heap.size w w'
    go_enter Tryz.func128, Tryz.ntmps128
    go_wp2_with fail
    refine bodyPost_ret (v := .agg #[.string M, .string em, .bool true]) (by simp [results, Tryz.results128, go_sem]) rfl ⟨rfl, ?_⟩
    (repeat (first | (with_reducible exact Below.refl _ _) | (with_reducible assumption) | (with_reducible apply below_drewN) | (with_reducible apply Below.drew) | ((with_reducible refine Below.setCell ?_ ?_ _); rotate_left; focus (first | (simp; done) | (simp; omega) | omega)) | ((with_reducible refine Below.alloc ?_ ?_ _); rotate_left; focus (first | (simp; done) | (simp; omega) | omega))))

theorem filt_parts {f : List (List Trm)} (h : filtB f = true) : 1 ≤ f.length ∧ ∀ l ∈ f, ∀ t ∈ l, okT t = true := by
  unfold filtB at h
  rw [Bool.and_eq_true, decide_eq_true_eq] at h
  refine ⟨h.1.1, fun l hl t ht => ?_⟩
  have h2 := List.all_eq_true.mp h.2 l hl
  unfold clauseB at h2
  rw [Bool.and_eq_true] at h2
  exact List.all_eq_true.mp h2.2 t ht
set_option maxRecDepth 4000 in
set_option maxHeartbeats 1000000 in
theorem isWrongPart_at (s : ByteArray) (d : Bool) (w : World) (hs : s.size ≤ 1048576) :
    Calls Tryz.prog 77 #[.agg #[.string s, .bool d]] w fun e w' => e = .returned (.bool (!(pathB s))) ∧ Below w.heap.size w w' := by
  have hb0 : Below w.heap.size w (w.alloc (.cells #[.string s, .bool d] 77)) := (Below.refl _ _).alloc (Nat.le_refl _) _
  have HC : Hid (∀ W : World, Calls _ _ _ W _) := fun W => pathOK_any s W hs
  go_enter Tryz.func77, Tryz.ntmps77
  go_wp2_with fail
  refine (HC.out _).mono ?_
  rintro e w1 ⟨rfl, hb⟩
  have hbw := hb0.trans (hb.mono hb0.size)
  clear hb
  go_wp2_with fail
  go_ret
  exact ⟨rfl, hbw⟩
end Go.Proofs.YtnmpfooegnmknaaGreatDoor.Fi
