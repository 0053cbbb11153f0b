/- An entry put into a tree by the specification: small facts for where a page is parted. -/
import Derived.Test.YtnmpfooegnmknaaPutQ
namespace Go.Proofs.Ytnmpfooegnmknaa.Tr
open Go.RowKit
set_option linter.unusedVariables false

theorem lie_parts {w : World} {base g c n : Nat} {l : List Ent} (h : w.ownsRow base 40 2 (.slice (some ⟨g, 0, none⟩) n c) n (flatE l)) (hn : l.length = n) : LieE w (some ⟨g, 0, none⟩) (l.take 2) ∧ LieE w (some ⟨g, 0 + 2 * 2, none⟩) (l.drop 2) := by
  subst hn
  have hr := ReadE.of_own h
  have hcs : ∀ i (h : i < l.length), w.cell? ⟨g, 0 + i * 2, none⟩ = some (.string l[i].key) ∧ w.cell? ⟨g, 0 + i * 2 + 1, none⟩ = some (.int .i64 l[i].id) := fun i hi => by rw [Nat.zero_add]; exact hr.cells i hi
  exact ⟨.inr ⟨g, 0, rfl, hr.lt, take_cells hcs⟩, .inr ⟨g, _, rfl, hr.lt, drop_cells hcs⟩⟩
/-- A page's zero value in a block of its own. -/
def ZP (U : World) (b : Nat) : Prop := U.heap[b]? = some (.cells #[.int .i64 0, .slice none 0 0] 86 (0, 0))
theorem ZP.lt {U : World} {b : Nat} (h : ZP U b) : b < U.heap.size := (Array.getElem?_eq_some_iff.1 h).1
theorem ZP.c0 {U : World} {b : Nat} (h : ZP U b) : U.cell? ⟨b, 0, none⟩ = some (.int .i64 0) := by unfold ZP at h; simp [World.cell?, h]
theorem ZP.c1 {U : World} {b : Nat} (h : ZP U b) : U.cell? ⟨b, 1, none⟩ = some (.slice none 0 0) := by unfold ZP at h; simp [World.cell?, h]
theorem ZP.z0 {U : World} {b : Nat} (h : ZP U b) : U.frozen? ⟨b, 0, none⟩ = false := by unfold ZP at h; simp [World.frozen?, h]
theorem ZP.z1 {U : World} {b : Nat} (h : ZP U b) : U.frozen? ⟨b, 1, none⟩ = false := by unfold ZP at h; simp [World.frozen?, h]
theorem zp_new (w : World) : ZP (w.alloc (.cells #[.int .i64 0, .slice none 0 0] 86)) w.heap.size := heap_alloc_new w _
theorem ZP.next {U U' : World} {b : Nat} (h : ZP U b) (hb : Below U.heap.size U U') : ZP U' b := (hb.block b h.lt).trans h
theorem ZP.grown2 {W w1 : World} {r : Option Nat} {vb b : Nat} (hg : W.grownBy w1 r) (hr : r = some b) (h : ZP W vb) (hne : vb ≠ b) : ZP w1 vb := by
  subst hr; exact (hg.block vb h.lt (fun e => hne (Option.some.inj e))).trans h
/-- A new page in a block of its own, with its entries. -/
structure PgB (W wx : World) (bp gr cr n : Nat) (num : Int) (l : List Ent) : Prop where
  bel : Below W.heap.size W wx
  ge : W.heap.size ≤ bp
  lt : bp < wx.heap.size
  c0 : wx.cell? ⟨bp, 0, none⟩ = some (.int .i64 num)
  c1 : wx.cell? ⟨bp, 1, none⟩ = some (.slice (some ⟨gr, 0, none⟩) n cr)
  own : wx.ownsRow W.heap.size 40 2 (.slice (some ⟨gr, 0, none⟩) n cr) n (flatE l)
theorem PgB.late {W w1 : World} {gr cr n : Nat} {num : Int} {l : List Ent} {T : TypeId} (hB : Below W.heap.size W w1) (ho : w1.ownsRow W.heap.size 40 2 (.slice (some ⟨gr, 0, none⟩) n cr) n (flatE l)) : PgB W (w1.alloc (.cells #[.int .i64 num, .slice (some ⟨gr, 0, none⟩) n cr] T)) w1.heap.size gr cr n num l :=
  ⟨hB.alloc hB.size _, hB.size, by simp, by simp [go_sem], by simp [go_sem], ho.alloc _⟩
theorem PgB.early {W w1 : World} {bp gr cr n : Nat} {num : Int} {l : List Ent} (Z : ZP w1 bp) (hB : Below W.heap.size W w1) (ho : w1.ownsRow W.heap.size 40 2 (.slice (some ⟨gr, 0, none⟩) n cr) n (flatE l)) (hge : W.heap.size ≤ bp) : PgB W ((w1.setCell ⟨bp, 0, none⟩ (.int .i64 num)).setCell ⟨bp, 1, none⟩ (.slice (some ⟨gr, 0, none⟩) n cr)) bp gr cr n num l := by
  have hne : gr ≠ bp := fun e => by
    subst e
    rcases ho.2 with ⟨h0, _⟩ | ⟨g', cap', cur, hv, _, hh, _⟩
    · cases h0
    · cases hv
      unfold ZP at Z
      rw [Z] at hh
      injection hh with hh; injection hh with _ hh
      exact absurd hh (by decide)
  have q0 := Z.c0
  have q1 := Z.c1
  have q2 := Z.z0
  have q3 := Z.z1
  have q4 := Z.lt
  have hx : (Value.slice (some ⟨gr, 0, none⟩) n cr).ownBlock = none ∨ (Value.slice (some ⟨gr, 0, none⟩) n cr).ownBlock ≠ some bp := .inr (fun e => hne (Option.some.inj e))
  exact ⟨(hB.setCell hge _).setCell hge _, hge, by simpa using q4, by simp [go_sem, *], by simp [go_sem, *], (ho.kept grown_set hx).kept grown_set hx⟩
theorem PgB.set {W wx : World} {bp gr cr n b o : Nat} {num : Int} {l : List Ent} {x : Value} (h : PgB W wx bp gr cr n num l) (hb : b < W.heap.size) : bp < (wx.setCell ⟨b, o, none⟩ x).heap.size ∧ (wx.setCell ⟨b, o, none⟩ x).cell? ⟨bp, 0, none⟩ = some (.int .i64 num) ∧ (wx.setCell ⟨b, o, none⟩ x).cell? ⟨bp, 1, none⟩ = some (.slice (some ⟨gr, 0, none⟩) n cr) ∧ (wx.setCell ⟨b, o, none⟩ x).ownsRow W.heap.size 40 2 (.slice (some ⟨gr, 0, none⟩) n cr) n (flatE l) := by
  have hg : wx.grownBy (wx.setCell ⟨b, o, none⟩ x) (some b) := grown_set
  have hge := h.ge
  have hc : ∀ y, (wx.setCell ⟨b, o, none⟩ x).cell? ⟨bp, y, none⟩ = wx.cell? ⟨bp, y, none⟩ := fun y => World.cell?_of_block (hg.block bp h.lt (fun e => by have := Option.some.inj e; omega))
  exact ⟨Nat.lt_of_lt_of_le h.lt hg.size, (hc 0).trans h.c0, (hc 1).trans h.c1, own_set h.own hb⟩
theorem MkD.bump {w W : World} {v : Value} {next n2 : Int} {e : Ent} (h : MkD w W v next e) : MkD w (W.setCell ⟨w.heap.size, 1, none⟩ (.int .i64 n2)) v n2 e := by
  obtain ⟨b, l, c0, c1, z0, z1, d0, d1, r0, r1, y0, y1⟩ := h
  exact ⟨b.setCell (by simp) _, by simpa using l, by simp [go_sem, *], by simp [go_sem, *], by simp [go_sem, *], by simp [go_sem, *], by simp [go_sem, *], by simp [go_sem, *], by simp [go_sem, *], by simp [go_sem, *], by simp [go_sem, *], by simp [go_sem, *]⟩
theorem MkD.repage {w W : World} {v v' : Value} {next : Int} {e : Ent} (h : MkD w W v next e) : MkD w (W.setCell ⟨w.heap.size, 0, none⟩ v') v' next e := by
  obtain ⟨b, l, c0, c1, z0, z1, d0, d1, r0, r1, y0, y1⟩ := h
  exact ⟨b.setCell (by simp) _, by simpa using l, by simp [go_sem, *], by simp [go_sem, *], by simp [go_sem, *], by simp [go_sem, *], by simp [go_sem, *], by simp [go_sem, *], by simp [go_sem, *], by simp [go_sem, *], by simp [go_sem, *], by simp [go_sem, *]⟩
/-- One page's two cells in a block of their own. -/
def NewP (U : World) (b : Nat) (cs : List Value) : Prop := b < U.heap.size ∧ ∀ j u, cs[j]? = some u → U.cell? ((⟨b, 0, none⟩ : Addr).add j) = some u
theorem NewP.cells {U : World} {b : Nat} {cs : List Value} (h : NewP U b cs) : ∀ j u, cs[j]? = some u → U.cell? ((⟨b, 0, none⟩ : Addr).add j) = some u := h.2
theorem newP_new (w : World) (n : Int) (x : Value) : NewP (w.alloc (.cells #[.int .i64 n, x] 86)) w.heap.size [.int .i64 n, x] := ⟨by simp, two_newP w n x _⟩
theorem NewP.next {U U' : World} {b : Nat} {cs : List Value} (h : NewP U b cs) (hb : Below U.heap.size U U') : NewP U' b cs := ⟨Nat.lt_of_lt_of_le h.1 hb.size, cells_next hb h.1 h.2⟩
theorem NewP.grown2 {W w1 : World} {r : Option Nat} {vb b : Nat} {cs : List Value} (hg : W.grownBy w1 r) (hr : r = some b) (h : NewP W vb cs) (hne : vb ≠ b) : NewP w1 vb cs := by
  subst hr
  refine ⟨Nat.lt_of_lt_of_le h.1 hg.size, fun j u hj => ?_⟩
  have := h.2 j u hj
  have hadd : (⟨vb, 0, none⟩ : Addr).add j = ⟨vb, 0 + j, none⟩ := by unfold Addr.add; split <;> simp_all
  rw [hadd] at this ⊢
  exact (World.cell?_of_block (hg.block vb h.1 (fun e => hne (Option.some.inj e)))).trans this
/-- An append of pages onto a row of the call's own that is not nil. -/
theorem step_appPT {ops : Array Oper} {o : Oper} {a : Act} {w : World} {K : Act → World → Prop} {Q : Exit → Act → World → Prop} {E : Prop} (hgd : o.guard = none) (s x : Operand)
    (ho : o.op = .call { callee := .builtin .append, args := #[s, x], argTypes := #[35, 35] }) (base n gv cv : Nat) (xs : List Value)
    (hs : a.eval s = .slice (some ⟨gv, 0, none⟩) n cv) (hown : w.ownsRow base 86 2 (.slice (some ⟨gv, 0, none⟩) n cv) n xs) (ad : Addr) (m c : Nat) (news : List Value) (hx : a.eval x = .slice (some ad) m c) (hl : news.length = m * 2) (hnews : ∀ j u, news[j]? = some u → w.cell? (ad.add j) = some u) (h1 : ∀ u ∈ news, u.oneCell' = true) (N : Nat) (hN : n + m = N)
    (hn : n ≤ 1000) (hm : m ≤ 1000) (hbase : base ≤ w.heap.size)
    (hK : ∀ g' c' w', w'.ownsRow base 86 2 (.slice (some ⟨g', 0, none⟩) N c') N (xs ++ news) → w.grownBy w' (some gv) → K (a.put o.dst (.slice (some ⟨g', 0, none⟩) N c')) w') : if Region.wanted o (yielded ops a.tmps) = true then Oper.wp Try.prog o a w K Q else E := by
  subst hN
  have hw : Region.wanted o (yielded ops a.tmps) = true := by simp [Region.wanted, hgd]
  rw [if_pos hw]
  obtain ⟨i0, hi, hz0, hz1, hz2⟩ := info_parts infoP
  obtain ⟨v', w', hr, h2, h3, h4, h5⟩ := run_append_own_at (P := Try.prog) w base 35 o.type 86 i0 (.agg #[.int .i64 0, .slice none 0 0]) 2 32 Try.underlying35 hi hz0 hz1 hz2 rfl (by decide) _ n xs hown ad m c news hl hnews h1 (by unfold maxLen; omega) (by omega) hbase
  unfold Oper.wp execOp
  simp only [ho, resolve, invoke, builtin, Sem.run_bind, Sem.run_pure, Result.andThen_ok, List.map_toArray, List.map_cons, List.map_nil, hs, hx, hr]
  have hv : ∃ g' c', v' = .slice (some ⟨g', 0, none⟩) (n + m) c' := by
    rcases h2.2 with ⟨h0, _⟩ | ⟨g', c', cur, hv, _⟩
    · have := (h4.1 h0).1; cases this
    · exact ⟨g', c', hv⟩
  obtain ⟨g', c', rfl⟩ := hv
  exact hK g' c' w' h2 h3
theorem ownE_room2 {w : World} {base g c n : Nat} {l : List Ent} (h : w.ownsRow base 40 2 (.slice (some ⟨g, 0, none⟩) n c) n (flatE l)) (hn : l.length = n) : ∃ p c', (Value.slice (some ⟨g, 0, none⟩) n c) = .slice p l.length c' ∧ l.length ≤ c' ∧ InE w p l ∧ ((p = none ∧ c' = 0) ∨ ∃ b' o', p = some ⟨b', o', none⟩ ∧ b' < w.heap.size) := by
  subst hn
  exact OwnE.room h
theorem ownE_lie2 {w : World} {base g c n : Nat} {l : List Ent} (h : w.ownsRow base 40 2 (.slice (some ⟨g, 0, none⟩) n c) n (flatE l)) (hn : l.length = n) : InE w (some ⟨g, 0, none⟩) l := by
  subst hn; exact (ReadE.of_own h).inE
theorem set_take_drop (f : List Pg) (k : Nat) (hk : k < f.length) {x y : Pg} : (f.set k x).take (k + 1) ++ y :: (f.set k x).drop (k + 1) = f.take k ++ (x :: y :: f.drop (k + 1)) := by
  have hl : (f.take k).length = k := by rw [List.length_take]; omega
  rw [set_split f k hk x]
  have e1 : (f.take k ++ x :: f.drop (k + 1)).take (k + 1) = f.take k ++ [x] := by
    rw [List.take_append, List.take_of_length_le (by rw [hl]; omega), hl, show k + 1 - k = 1 by omega]; rfl
  have e2 : (f.take k ++ x :: f.drop (k + 1)).drop (k + 1) = f.drop (k + 1) := by
    rw [List.drop_append, List.drop_of_length_le (by rw [hl]; omega), hl, show k + 1 - k = 1 by omega]; rfl
  rw [e1, e2, List.append_assoc]; rfl
/-- A row of pages with one more behind the place k. -/
theorem PartT.addPage {w : World} {base n : Nat} {v : Value} {f : List Pg} {vs : Nat → Value} {xs : List Value} (h : PartT w base v n f n vs xs) (hn : f.length = n) {B g c k : Nat} {num : Int} {u : Value} {l : List Ent} (hk : k < f.length)
    (ho : w.ownsRow B 86 2 (.slice (some ⟨g, 0, none⟩) (n + 1) c) (n + 1) (xs.take ((k + 1) * 2) ++ [.int .i64 num, u] ++ xs.drop ((k + 1) * 2))) (hu : ∃ p c', u = .slice p l.length c' ∧ l.length ≤ c' ∧ InE w p l ∧ ((p = none ∧ c' = 0) ∨ ∃ b' o', p = some ⟨b', o', none⟩ ∧ b' < w.heap.size)) : FullP w g (f.take (k + 1) ++ ⟨num, l⟩ :: f.drop (k + 1)) := by
  subst hn
  have hxl : xs.length = f.length * 2 := h.row.1
  have hlt : (xs.take ((k + 1) * 2)).length = (k + 1) * 2 := by rw [List.length_take]; omega
  have hlf : (f.take (k + 1)).length = k + 1 := by rw [List.length_take]; omega
  have hfl : (f.take (k + 1) ++ ⟨num, l⟩ :: f.drop (k + 1)).length = f.length + 1 := by simp only [List.length_append, List.length_cons, List.length_drop, hlf]; omega
  refine ⟨(ho.lt g rfl).2, fun j hj => ?_⟩
  rw [hfl] at hj
  have key : ∀ i (hi : i < f.length), (f.take (k + 1) ++ (⟨num, l⟩ : Pg) :: f.drop (k + 1))[j]'(by omega) = f[i] → (xs.take ((k + 1) * 2) ++ [.int .i64 num, u] ++ xs.drop ((k + 1) * 2))[j * 2]? = xs[i * 2]? → (xs.take ((k + 1) * 2) ++ [.int .i64 num, u] ++ xs.drop ((k + 1) * 2))[j * 2 + 1]? = xs[i * 2 + 1]? → ∃ q c, PgC w g (j * 2) q c ((f.take (k + 1) ++ (⟨num, l⟩ : Pg) :: f.drop (k + 1))[j]'(by omega)) := by
    intro i hi e1 e2 e3
    obtain ⟨a0, a1⟩ := h.at_ i hi hi
    obtain ⟨pp, cc, q1, q3, q2, q4⟩ := OwnE.room (h.ents i hi hi)
    rw [e1]
    exact ⟨pp, cc, (ho.lt g rfl).2, owns_cell ho _ _ (e2.trans a0), owns_cell ho _ _ (e3.trans (a1.trans (by rw [q1]))), q3, q2, q4⟩
  rcases Nat.lt_trichotomy j (k + 1) with hjk | hjk | hjk
  · refine key j (by omega) ?_ ?_ ?_
    · rw [List.getElem_append_left (by omega), List.getElem_take]
    · rw [List.append_assoc, List.getElem?_append_left (by omega), List.getElem?_take_of_lt (by omega)]
    · rw [List.append_assoc, List.getElem?_append_left (by omega), List.getElem?_take_of_lt (by omega)]
  · subst hjk
    obtain ⟨pp, cc, q1, q3, q2, q4⟩ := hu
    have e : (f.take (k + 1) ++ (⟨num, l⟩ : Pg) :: f.drop (k + 1))[k + 1]'(by omega) = ⟨num, l⟩ := by
      rw [List.getElem_append_right (by omega)]; simp [hlf]
    rw [e]
    refine ⟨pp, cc, (ho.lt g rfl).2, owns_cell ho _ _ ?_, owns_cell ho _ _ ?_, q3, q2, q4⟩
    · rw [List.append_assoc, List.getElem?_append_right (by omega), hlt, Nat.sub_self]; rfl
    · rw [List.append_assoc, List.getElem?_append_right (by omega), hlt, show (k + 1) * 2 + 1 - (k + 1) * 2 = 1 by omega, ← q1]; rfl
  · obtain ⟨m, rfl⟩ : ∃ m, j = k + 2 + m := ⟨j - (k + 2), by omega⟩
    refine key (k + 1 + m) (by omega) ?_ ?_ ?_
    · rw [List.getElem_append_right (by omega)]
      simp only [hlf, show k + 2 + m - (k + 1) = m + 1 by omega, List.getElem_cons_succ, List.getElem_drop]
    · rw [List.getElem?_append_right (by simp only [List.length_append, hlt, List.length_cons, List.length_nil]; omega), List.getElem?_drop]
      congr 1; simp only [List.length_append, hlt, List.length_cons, List.length_nil]; omega
    · rw [List.getElem?_append_right (by simp only [List.length_append, hlt, List.length_cons, List.length_nil]; omega), List.getElem?_drop]
      congr 1; simp only [List.length_append, hlt, List.length_cons, List.length_nil]; omega
theorem LieE.grownAt {W w1 : World} {vb off b : Nat} {l : List Ent} (hg : W.grownBy w1 (some b)) (h : LieE W (some ⟨vb, off, none⟩) l) (hne : vb ≠ b) : LieE w1 (some ⟨vb, off, none⟩) l := by
  rcases h with ⟨h, _⟩ | ⟨b', off', e, hl, hc⟩
  · cases h
  · cases e
    refine .inr ⟨vb, off, rfl, Nat.lt_of_lt_of_le hl hg.size, fun j u hj => ?_⟩
    have := hc j u hj
    have hadd : (⟨vb, off, none⟩ : Addr).add j = ⟨vb, off + j, none⟩ := by unfold Addr.add; split <;> simp_all
    rw [hadd] at this ⊢
    exact (World.cell?_of_block (hg.block vb hl (fun e => hne (Option.some.inj e)))).trans this

end Go.Proofs.Ytnmpfooegnmknaa.Tr
