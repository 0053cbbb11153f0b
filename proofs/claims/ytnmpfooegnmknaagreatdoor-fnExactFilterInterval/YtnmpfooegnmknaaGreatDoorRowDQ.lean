/- Filters held against each other by the laws' own helpers: alike ones are told to be so. -/
import Derived.Test.YtnmpfooegnmknaaGreatDoorRowTQ
import Derived.Test.YtnmpfooegnmknaaGreatDoorBegSQ
import Derived.Deep.Slices
import Derived.Deep.Strs
import Derived.Lib.SmallJoins
import Derived.OpenShut
import Derived.ChangeSame
import Derived.Test.YtnmpfooegnmknaaGreatDoorFilJQ
import Derived.Test.YtnmpfooegnmknaaGreatDoorFilSQ
namespace Go.Proofs.YtnmpfooegnmknaaGreatDoor
open Go.RowKit
set_option linter.unusedVariables false

set_option maxRecDepth 4000 in
set_option maxHeartbeats 1000000 in
theorem eqClause_same (p1 p2 : Option Addr) (c1 c2 : Nat) (l : List Trm) (w : World) (h1 : RowT w p1 l) (h2 : RowT w p2 l) (hl : l.length ≤ 1048576) :
    Calls Tryz.prog 129 #[.agg #[.slice p1 l.length c1], .agg #[.slice p2 l.length c2]] w fun e w' => e = .returned (.bool true) ∧ Below w.heap.size w w' := by
  have hb0 : Below w.heap.size w ((w.alloc (.cells #[.slice p1 l.length c1] 159)).alloc (.cells #[.slice p2 l.length c2] 159)) := ((Below.refl _ _).alloc (Nat.le_refl _) _).alloc (by simp) _
  have HC : Hid (Calls _ _ _ _ _) := eqTermS_same p1 p2 c1 c2 l _ (h1.next hb0) (h2.next hb0) hl
  clear h1 h2
  go_enter Tryz.func129, Tryz.ntmps129
  go_wp2_with fail
  refine HC.out.mono ?_
  rintro e w1 ⟨rfl, hb⟩
  have hbw := hb0.trans (hb.mono hb0.size)
  clear hb HC
  go_wp2_with fail
  go_ret
  exact ⟨rfl, hbw⟩

set_option maxRecDepth 4000 in
set_option maxHeartbeats 1000000 in
theorem eqClauseS_same (p1 p2 : Option Addr) (c1 c2 : Nat) (f : List (List Trm)) (w : World) (h1 : RowC w p1 f) (h2 : RowC w p2 f) (hlen : f.length ≤ 1048576) (hs : ∀ l ∈ f, l.length ≤ 1048576) :
    Calls Tryz.prog 79 #[.slice p1 f.length c1, .slice p2 f.length c2] w fun e w' => e = .returned (.bool true) ∧ Below w.heap.size w w' := by
  have H1 : Hid (RowC _ _ _) := h1
  have H2 : Hid (RowC _ _ _) := h2
  have HS : Hid _ := hs
  clear h1 h2 hs
  go_enter Tryz.func79, Tryz.ntmps79
  go_wp2_with fail
  go_loopw [5] (fun i wr => ∃ k : Nat, k ≤ f.length ∧ i = .int .i64 k ∧ Below w.heap.size w wr) (fun i _ => f.length - (intOf i).toNat)
  case atStart => exact ⟨0, Nat.zero_le _, rfl, Below.refl _ _⟩
  case round =>
    obtain ⟨k, hk, rfl, hbel⟩ := hrel
    by_cases hlt : k < f.length
    · rcases H1.out.next hbel with h0 | ⟨g1, rfl, R1⟩
      · subst h0; simp at hlt
      rcases H2.out.next hbel with h0 | ⟨g2, rfl, R2⟩
      · subst h0; simp at hlt
      obtain ⟨pa, ca, x1, t1⟩ := R1.cells k hlt
      obtain ⟨pb, cb, x2, t2⟩ := R2.cells k hlt
      have l1 := R1.lt
      have l2 := R2.lt
      have hk1 : (k : Int) < (f.length : Int) := by omega
      have q0 : ∀ u : Under wr, u.x.cell? ⟨g1, k, none⟩ = some (.slice pa f[k].length ca) := fun u => (u.h.cell l1).trans x1
      have r0 : ∀ u : Under wr, u.x.cell? ⟨g2, k, none⟩ = some (.slice pb f[k].length cb) := fun u => (u.h.cell l2).trans x2
      have HC : Hid (∀ u : Under wr, Calls _ _ _ u.x _) := fun u => eqClause_same pa pb ca cb f[k] u.x (t1.next u.h) (t2.next u.h) (HS.out f[k] (List.getElem_mem _))
      have hnu : Nonempty (Under wr) := ⟨⟨wr, Below.refl _ _⟩⟩
      clear x1 x2 R1 R2 t1 t2
      go_wp2_with fail
      refine wp_region_under (by kernel_rfl) (by kernel_rfl) ?_
      repeat (go_big_quiet_step ((go_at_call 129; exact calls_under _ (HC.out _))))
      refine wpQuiet_nil ?_
      rintro _ ⟨u, rfl⟩
      go_wp2_with fail
      go_roundw
      case rel => exact ⟨k + 1, by omega, by go_num, hbel.trans (u.h.mono hbel.size)⟩
      case measure => simp [intOf]; omega
    · have hlt2 : ¬ (k : Int) < (f.length : Int) := by omega
      go_wp2_with fail
      go_ret
      exact ⟨rfl, hbel⟩

set_option maxRecDepth 4000 in
set_option maxHeartbeats 1000000 in
theorem eqFilter_same (p1 p2 : Option Addr) (c1 c2 : Nat) (f : List (List Trm)) (w : World) (h1 : RowC w p1 f) (h2 : RowC w p2 f) (hlen : f.length ≤ 1048576) (hs : ∀ l ∈ f, l.length ≤ 1048576) :
    Calls Tryz.prog 37 #[.agg #[.slice p1 f.length c1], .agg #[.slice p2 f.length c2]] w fun e w' => e = .returned (.bool true) ∧ Below w.heap.size w w' := by
  have hb0 : Below w.heap.size w ((w.alloc (.cells #[.slice p1 f.length c1] 75)).alloc (.cells #[.slice p2 f.length c2] 75)) := ((Below.refl _ _).alloc (Nat.le_refl _) _).alloc (by simp) _
  have HC : Hid (Calls _ _ _ _ _) := eqClauseS_same p1 p2 c1 c2 f _ (h1.next hb0) (h2.next hb0) hlen hs
  clear h1 h2
  go_enter Tryz.func37, Tryz.ntmps37
  go_wp2_with fail
  refine HC.out.mono ?_
  rintro e w1 ⟨rfl, hb⟩
  have hbw := hb0.trans (hb.mono hb0.size)
  clear hb HC
  go_wp2_with fail
  go_ret
  exact ⟨rfl, hbw⟩

end Go.Proofs.YtnmpfooegnmknaaGreatDoor

/- A term that comes in, opened: its five cells. -/
namespace Go.Proofs.YtnmpfooegnmknaaGreatDoor
open Go.RowKit Go.Joins Go.Deep Go.ChangeShapes Go.WideShapes Go.ChangeAt
set_option linter.unusedVariables false

theorem cellsTm : Tryz.prog.cellsOf 215 = 5 := by kernel_rfl
theorem cellsTmV : Tryz.prog.cellsOf 49 = 3 := by kernel_rfl
theorem cellsTmI : Tryz.prog.cellsOf 3 = 1 := by kernel_rfl
theorem cellsTmT : Tryz.prog.cellsOf 9 = 1 := by kernel_rfl
theorem arrayFive {α : Type} {cs : Array α} (h : cs.size = 5) : ∃ c0 c1 c2 c3 c4, cs = #[c0, c1, c2, c3, c4] := by
  obtain ⟨l⟩ := cs
  match l, h with
  | [c0, c1, c2, c3, c4], _ => exact ⟨c0, c1, c2, c3, c4, rfl⟩
set_option maxRecDepth 100000 in
theorem open_term_cells {H : Type} {enc : TypeId × Value → H} {w : World} {base : Nat} {spare : Nat → Bool} {held : Bool} {fuel : Nat} {c0 c1 c2 c3 c4 : Value} {x : DataW H × List MemPlace}
    (h : DataW.trod enc Tryz.prog w base spare held fuel 215 [c0, c1, c2, c3, c4] = some x) :
    ∃ (op : Int) (p : ByteArray) (k n : Int) (t : ByteArray), c0 = .int .i64 op ∧ c1 = .string p ∧ c2 = .int .i64 k ∧ c3 = .int .i64 n ∧ c4 = .string t ∧ p.size ≤ maxLen ∧ t.size ≤ maxLen := by
  obtain ⟨y0, y1, y2, m, _, _, t0, t1, t2⟩ := trod_struct3 Tryz.underlying215 h
  obtain ⟨z0, e0, _, _⟩ := DataW.trod_int Tryz.underlying3 t0
  obtain ⟨z1, e1, _, hp⟩ := DataW.trod_string Tryz.underlying9 t1
  obtain ⟨u0, u1, u2, m2, _, _, s0, s1, s2⟩ := trod_struct3 Tryz.underlying49 t2
  obtain ⟨z2, e2, _, _⟩ := DataW.trod_int Tryz.underlying3 s0
  obtain ⟨z3, e3, _, _⟩ := DataW.trod_int Tryz.underlying3 s1
  obtain ⟨z4, e4, _, ht⟩ := DataW.trod_string Tryz.underlying9 s2
  simp [cellsTmI, cellsTmT, cellsTmV] at e0 e1 e2 e3 e4
  exact ⟨z0, z1, z2, z3, z4, e0, e1, e2, e3, e4, hp, ht⟩
set_option maxRecDepth 100000 in
theorem open_term {H : Type} {enc : TypeId × Value → H} {w : World} {base b0 : Nat} {spare : Nat → Bool} {held : Bool} {r : Reach} {v : Value} {d : DataW H} {ps : List MemPlace}
    (hv : Value.okWide Tryz.prog w r b0 215 v) (h : DataW.Trod enc Tryz.prog w base spare held 215 v d ps) :
    ∃ (op : Int) (p : ByteArray) (k n : Int) (t : ByteArray), v = .agg #[.int .i64 op, .string p, .int .i64 k, .int .i64 n, .string t] ∧ p.size ≤ maxLen ∧ t.size ≤ maxLen := by
  obtain ⟨cs, rfl, hsz⟩ := okWide_struct Tryz.underlying215 hv
  obtain ⟨c0, c1, c2, c3, c4, rfl⟩ := arrayFive (hsz.trans cellsTm)
  obtain ⟨fuel, hf⟩ := h
  obtain ⟨op, p, k, n, t, rfl, rfl, rfl, rfl, rfl, hp, ht⟩ := open_term_cells (c0 := c0) (c1 := c1) (c2 := c2) (c3 := c3) (c4 := c4) (by simpa [Value.cells] using hf)
  exact ⟨op, p, k, n, t, rfl, hp, ht⟩

end Go.Proofs.YtnmpfooegnmknaaGreatDoor

/- A filter that comes in, opened: its clauses, each with its terms, at their places. -/
namespace Go.Proofs.YtnmpfooegnmknaaGreatDoor
open Go.RowKit Go.Joins Go.Deep Go.ChangeShapes Go.WideShapes Go.ChangeAt
set_option linter.unusedVariables false

instance : Inhabited Trm := ⟨zt⟩
theorem cellsFT : Tryz.prog.cellsOf 215 = 5 := by kernel_rfl
theorem cellsFC : Tryz.prog.cellsOf 156 = 1 := by kernel_rfl
theorem cellsFF : Tryz.prog.cellsOf 67 = 1 := by kernel_rfl
theorem cellsFS : Tryz.prog.cellsOf 154 = 1 := by kernel_rfl
theorem cellsFQ : Tryz.prog.cellsOf 65 = 1 := by kernel_rfl
theorem addF (b off i : Nat) : (⟨b, off, none⟩ : Addr).add i = ⟨b, off + i, none⟩ := by unfold Addr.add; split <;> simp_all
set_option maxRecDepth 100000 in
theorem open_terms {H : Type} {enc : TypeId × Value → H} {w : World} {base : Nat} {spare : Nat → Bool} {held : Bool} {fuel : Nat} {cs : List Value} {x : DataW H × List MemPlace}
    (h : DataW.trod enc Tryz.prog w base spare held fuel 154 cs = some x) :
    ∃ (a : Option Addr) (len cap : Nat) (l : List Trm), cs = [.slice a len cap] ∧ l.length = len ∧ maxC l ∧ InT w a l := by
  rcases open_slice Tryz.underlying154 h with ⟨rfl, _⟩ | ⟨a, len, cap, m, n, D, Pl, rfl, hb, hl, hm, hmm, _, hx⟩
  · exact ⟨none, 0, 0, [], rfl, rfl, ⟨Nat.zero_le _, (fun v hv => by simp at hv)⟩, .inl rfl⟩
  · have hlm : len ≤ m := by rw [hmm]; split <;> omega
    rw [cellsFT] at hx
    obtain ⟨f, hf⟩ := choose_lt (α := Trm) (n := len) (p := fun i t => w.cell? (a.add (i * 5)) = some (.int .i64 t.op) ∧ w.cell? ((a.add (i * 5)).add 1) = some (.string t.p) ∧ w.cell? ((a.add (i * 5)).add 2) = some (.int .i64 t.c.k) ∧ w.cell? ((a.add (i * 5)).add 3) = some (.int .i64 t.c.n) ∧ w.cell? ((a.add (i * 5)).add 4) = some (.string t.c.t) ∧ maxT t) (fun i hi => by
      obtain ⟨cs', h1, h2⟩ := hx i (by omega)
      obtain ⟨_, hlen, hc⟩ := World.cells?_some h1
      match cs', hlen with
      | [c0, c1, c2, c3, c4], _ =>
        obtain ⟨op, p, k, n, t, rfl, rfl, rfl, rfl, rfl, hp, ht⟩ := open_term_cells h2
        refine ⟨⟨op, p, ⟨k, n, t⟩⟩, ?_, ?_, ?_, ?_, ?_, hp, ht⟩
        · have := hc 0 (by omega); simpa [Addr.add] using this
        · exact hc 1 (by omega)
        · exact hc 2 (by omega)
        · exact hc 3 (by omega)
        · exact hc 4 (by omega))
    refine ⟨some a, len, cap, (List.range len).map f, rfl, by simp, ⟨by simp; omega, ?_⟩, ?_⟩
    · intro v hv
      obtain ⟨i, hi, rfl⟩ := List.mem_map.mp hv
      exact (hf i (by simpa using hi)).2.2.2.2.2
    · by_cases h0 : len = 0
      · exact .inl (by simp [h0])
      · obtain ⟨b, off, spot⟩ := a
        have hc0 := (hf 0 (by omega)).1
        have hspot : spot = none := by simpa [Addr.add] using World.cell?_spot hc0
        subst hspot
        have hlt : b < w.heap.size := by
          rcases Nat.lt_or_ge b w.heap.size with h | h
          · exact h
          · simp [World.cell?, Addr.add, Array.getElem?_eq_none h] at hc0
        refine .inr ⟨b, off, rfl, hlt, fun i hi => ?_⟩
        have hi2 : i < len := by simpa using hi
        have := hf i hi2
        simp only [addF] at this
        simp only [List.getElem_map, List.getElem_range]
        exact ⟨this.1, this.2.1, this.2.2.1, this.2.2.2.1, this.2.2.2.2.1⟩
set_option maxRecDepth 100000 in
theorem open_clauses {H : Type} {enc : TypeId × Value → H} {w : World} {base : Nat} {spare : Nat → Bool} {held : Bool} {fuel : Nat} {cs : List Value} {x : DataW H × List MemPlace}
    (h : DataW.trod enc Tryz.prog w base spare held fuel 65 cs = some x) :
    ∃ (a : Option Addr) (len cap : Nat) (f : List (List Trm)), cs = [.slice a len cap] ∧ f.length = len ∧ f.length ≤ maxLen ∧ (∀ l ∈ f, maxC l) ∧ InCl w a f := by
  rcases open_slice Tryz.underlying65 h with ⟨rfl, _⟩ | ⟨a, len, cap, m, n, D, Pl, rfl, hb, hl, hm, hmm, _, hx⟩
  · exact ⟨none, 0, 0, [], rfl, rfl, Nat.zero_le _, (fun v hv => by simp at hv), .inl rfl⟩
  · have hlm : len ≤ m := by rw [hmm]; split <;> omega
    rw [cellsFC] at hx
    obtain ⟨f, hf⟩ := choose_lt (α := List Trm) (n := len) (p := fun i l => ∃ p c, w.cell? (a.add (i * 1)) = some (.slice p l.length c) ∧ maxC l ∧ InT w p l) (fun i hi => by
      obtain ⟨cs', h1, h2⟩ := hx i (by omega)
      obtain ⟨_, hlen, hc⟩ := World.cells?_some h1
      match cs', hlen with
      | [c0], _ =>
        obtain ⟨y0, n', _, _, t0⟩ := trod_struct1 Tryz.underlying156 h2
        obtain ⟨p, ln, c, l, e, hln, hmx, hT⟩ := open_terms t0
        simp [cellsFS] at e
        subst e hln
        refine ⟨l, p, c, ?_, hmx, hT⟩
        have := hc 0 (by omega); simpa [Addr.add] using this)
    refine ⟨some a, len, cap, (List.range len).map f, rfl, by simp, by simp; omega, ?_, ?_⟩
    · intro v hv
      obtain ⟨i, hi, rfl⟩ := List.mem_map.mp hv
      obtain ⟨p, c, _, h2, _⟩ := hf i (by simpa using hi)
      exact h2
    · by_cases h0 : len = 0
      · exact .inl (by simp [h0])
      · obtain ⟨b, off, spot⟩ := a
        obtain ⟨p0, c0, hc0, _, _⟩ := hf 0 (by omega)
        have hspot : spot = none := by simpa [Addr.add] using World.cell?_spot hc0
        subst hspot
        have hlt : b < w.heap.size := by
          rcases Nat.lt_or_ge b w.heap.size with h | h
          · exact h
          · simp [World.cell?, Addr.add, Array.getElem?_eq_none h] at hc0
        refine .inr ⟨b, off, rfl, hlt, fun i hi => ?_⟩
        have hi2 : i < len := by simpa using hi
        obtain ⟨p, c, h1, h2, h3⟩ := hf i hi2
        simp only [addF, Nat.mul_one] at h1
        simp only [List.getElem_map, List.getElem_range]
        exact ⟨p, c, h1, h3⟩
set_option maxRecDepth 100000 in
theorem open_filter {H : Type} {enc : TypeId × Value → H} {w : World} {base b0 : Nat} {spare : Nat → Bool} {held : Bool} {r : Reach} {v : Value} {d : DataW H} {ps : List MemPlace}
    (hv : Value.okWide Tryz.prog w r b0 67 v) (h : DataW.Trod enc Tryz.prog w base spare held 67 v d ps) :
    ∃ (a : Option Addr) (cap : Nat) (f : List (List Trm)), v = .agg #[.slice a f.length cap] ∧ f.length ≤ maxLen ∧ (∀ l ∈ f, maxC l) ∧ InCl w a f := by
  obtain ⟨cs, rfl, hsz⟩ := okWide_struct Tryz.underlying67 hv
  obtain ⟨fuel, hf⟩ := h
  rw [cellsFF] at hsz
  obtain ⟨l⟩ := cs
  match l, hsz with
  | [c0], _ =>
    obtain ⟨y0, n', _, _, t0⟩ := trod_struct1 Tryz.underlying67 (show DataW.trod enc Tryz.prog w base spare held fuel 67 [c0] = some _ by simpa [Value.cells] using hf)
    obtain ⟨p, ln, c, f, e, hln, h1, h2, h3⟩ := open_clauses t0
    simp [cellsFQ] at e
    subst e hln
    exact ⟨p, c, f, rfl, h1, h2, h3⟩

end Go.Proofs.YtnmpfooegnmknaaGreatDoor

/- A path that comes in, opened; what the law of a filter's interval leans on. -/
namespace Go.Proofs.YtnmpfooegnmknaaGreatDoor.Fi
open Go.RowKit Go.ChangeShapes Go.WideShapes Go.ChangeAt Go.Joins
open Tr
set_option linter.unusedVariables false

theorem cellsFP : Tryz.prog.cellsOf 69 = 2 := by kernel_rfl
theorem cellsFPB : Tryz.prog.cellsOf 4 = 1 := by kernel_rfl
theorem cellsFPS : Tryz.prog.cellsOf 9 = 1 := by kernel_rfl
set_option maxRecDepth 100000 in
theorem open_part {H : Type} {enc : TypeId × Value → H} {w : World} {base b0 : Nat} {spare : Nat → Bool} {held : Bool} {r : Reach} {v : Value} {d : DataW H} {ps : List MemPlace}
    (hv : Value.okWide Tryz.prog w r b0 69 v) (h : DataW.Trod enc Tryz.prog w base spare held 69 v d ps) :
    ∃ (p : Prt), v = .agg #[.string p.path, .bool p.desc] ∧ p.path.size ≤ maxLen := by
  obtain ⟨cs, rfl, hsz⟩ := okWide_struct Tryz.underlying69 hv
  obtain ⟨fuel, hf⟩ := h
  rw [cellsFP] at hsz
  obtain ⟨l⟩ := cs
  match l, hsz with
  | [c0, c1], _ =>
    obtain ⟨y0, y1, n', _, _, t0, t1⟩ := trod_struct2 Tryz.underlying69 (show DataW.trod enc Tryz.prog w base spare held fuel 69 [c0, c1] = some _ by simpa [Value.cells] using hf)
    obtain ⟨z0, e0, _, hk⟩ := DataW.trod_string Tryz.underlying9 t0
    obtain ⟨z1, e1, _⟩ := DataW.trod_bool Tryz.underlying4 t1
    simp [cellsFPB, cellsFPS] at e0 e1
    subst e0 e1
    exact ⟨⟨z0, z1⟩, rfl, hk⟩
/-- A filter's cell and a part in the first two new blocks. -/
structure FP (w W : World) (v : Value) (p : Prt) : Prop where
  bel : Below w.heap.size w W
  lt : w.heap.size + 1 < W.heap.size
  c0 : W.cell? ⟨w.heap.size, 0, none⟩ = some v
  p0 : W.cell? ⟨w.heap.size + 1, 0, none⟩ = some (.string p.path)
  p1 : W.cell? ⟨w.heap.size + 1, 1, none⟩ = some (.bool p.desc)
theorem FP.start (w : World) (v : Value) (p : Prt) (T U : TypeId) : FP w ((w.alloc (.cells #[v] T)).alloc (.cells #[.string p.path, .bool p.desc] U)) v p :=
  ⟨((Below.refl _ _).alloc (Nat.le_refl _) _).alloc (by simp) _, by simp, by simp [go_sem], by simp [go_sem], by simp [go_sem]⟩
theorem FP.step {w W W' : World} {v : Value} {p : Prt} (h : FP w W v p) (hb : Below W.heap.size W W') : FP w W' v p :=
  have hl : w.heap.size < W.heap.size := Nat.lt_of_succ_lt h.lt
  ⟨h.bel.trans (hb.mono h.bel.size), Nat.lt_of_lt_of_le h.lt hb.size, (hb.cell hl).trans h.c0, (hb.cell h.lt).trans h.p0, (hb.cell h.lt).trans h.p1⟩
theorem keepFP {w W U : World} {v : Value} {p : Prt} (X : FP w W v p) (hb : Below W.heap.size W U) :
    U.cell? ⟨w.heap.size, 0, none⟩ = some v ∧ U.cell? ⟨w.heap.size + 1, 0, none⟩ = some (.string p.path) ∧ U.cell? ⟨w.heap.size + 1, 1, none⟩ = some (.bool p.desc) :=
  ⟨(X.step hb).c0, (X.step hb).p0, (X.step hb).p1⟩
theorem keepFPx {w W U : World} {v x : Value} {p : Prt} {bx : Nat} (X : FP w W v p) (m : bx < W.heap.size) (hx : W.cell? ⟨bx, 0, none⟩ = some x) (hb : Below W.heap.size W U) :
    U.cell? ⟨w.heap.size, 0, none⟩ = some v ∧ U.cell? ⟨w.heap.size + 1, 0, none⟩ = some (.string p.path) ∧ U.cell? ⟨w.heap.size + 1, 1, none⟩ = some (.bool p.desc) ∧ U.cell? ⟨bx, 0, none⟩ = some x :=
  ⟨(X.step hb).c0, (X.step hb).p0, (X.step hb).p1, (hb.cell m).trans hx⟩
/-- An interval that an answer brought, boxed. -/
structure RI (w2 wx : World) (bs : Nat) (x y z : Value) : Prop where
  bel : Below w2.heap.size w2 wx
  i : I3 wx bs x y z
theorem RI.late {w2 w5 : World} {x y z : Value} {T : TypeId} (hB : Below w2.heap.size w2 w5) : RI w2 (w5.alloc (.cells #[x, y, z] T)) w5.heap.size x y z :=
  ⟨hB.alloc hB.size _, I3.new w5 x y z T⟩
theorem RI.early {w2 w5 : World} {bs : Nat} {x y z x' y' z' : Value} (Z : I3 w5 bs x' y' z') (hB : Below w2.heap.size w2 w5) (h1 : w2.heap.size ≤ bs) : RI w2 (((w5.setCell ⟨bs, 0, none⟩ x).setCell ⟨bs, 1, none⟩ y).setCell ⟨bs, 2, none⟩ z) bs x y z :=
  ⟨((hB.setCell h1 _).setCell h1 _).setCell h1 _, i3_set3 Z x y z⟩
end Go.Proofs.YtnmpfooegnmknaaGreatDoor.Fi
