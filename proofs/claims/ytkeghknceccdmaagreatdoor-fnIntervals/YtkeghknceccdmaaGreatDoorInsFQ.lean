/- What the library's slices.Insert does to a row of fields of the call's own: one field more, at its place. -/
import Derived.Test.YtkeghknceccdmaaGreatDoorOwnQ
import Derived.Laws.CopyRow
import Derived.Laws.Externs
import Derived.Lib.Overlaps
import Derived.Lib.AppendZerosOnto
import Derived.Lib.Hide
import Derived.Maps.AppendAt
import Derived.Deep.RegionLaw
namespace Go.Proofs.YtkeghknceccdmaaGreatDoor
open Go.RowKit
set_option linter.unusedVariables false

/-- copy between rows whose elements have k cells each. -/
theorem run_copy_rowK {P : Program} (w : World) (dT sT ty elem : TypeId) (g o dLen dCap : Nat) (a : Addr) (sLen sCap : Nat) (cur : Array Value) (t : TypeId) (cs : List Value) (k m : Nat)
    (hu : P.underlying dT = some (.slice elem)) (hs : (P.info? elem).map (·.size) = some k) (hg : w.heap[g]? = some (.cells cur t (0, 0))) (hm : Nat.min sLen dLen = m) (hn : cs.length = m * k)
    (hsrc : ∀ j v, cs[j]? = some v → w.cell? (a.add j) = some v) (hfit : o + cs.length ≤ cur.size) (h1 : ∀ v ∈ cs, v.oneCell' = true) :
    (Builtin.copy_ #[dT, sT] ty #[.slice (some ⟨g, o, none⟩) dLen dCap, .slice (some a) sLen sCap]).run P w = .ok (goInt m) (w.setRow g (cur.toList.take o ++ cs ++ cur.toList.drop (o + cs.length)).toArray) := by
  have hl := run_loadCells_list (P := P) w a cs hsrc
  have hst := run_storeCells_at P g o t cs 0 cur w hg (by simpa using hfit) h1
  cases hq : P.info? elem with
  | none => simp [hq] at hs
  | some i =>
    have hi : i.size = k := by simpa [hq] using hs
    simp [Builtin.copy_, run_underlying hu, Builtin.lenOf, Builtin.firstCells, sizeOf, typeInfo, hq, hi, hm, ← hn, hl, hst]
theorem wpList_copyK {P : Program} (w : World) {ops : Array Oper} {rest : List Oper} {o : Oper} {a : Act} {Q : Exit → Act → World → Prop} (hgd : o.guard = none) (d s : Operand) (t t' : TypeId)
    (ho : o.op = .call { callee := .builtin .copy, args := #[d, s], argTypes := #[t, t'] }) (v u : Value) (hd : a.eval d = v) (hs : a.eval s = u) {v' : Value} {w' : World}
    (hr : (Builtin.copy_ #[t, t'] o.type #[v, u]).run P w = .ok v' w') (h : wpList P ops Q rest (a.put o.dst v') w') : wpList P ops Q (o :: rest) a w :=
  wpList_plain hgd fun _ hK => by
    unfold Oper.wp execOp
    simp only [ho, resolve, invoke, builtin, Sem.run_bind, Sem.run_pure, Result.andThen_ok, List.map_toArray, List.map_cons, List.map_nil, hd, hs, hr]
    exact hK _ _ h
theorem step_copyK {P : Program} {ops : Array Oper} {o : Oper} {a : Act} {w : World} {K : Act → World → Prop} {Q : Exit → Act → World → Prop} {E : Prop} (hgd : o.guard = none) (d s : Operand) (t t' : TypeId)
    (ho : o.op = .call { callee := .builtin .copy, args := #[d, s], argTypes := #[t, t'] }) (v u : Value) (hd : a.eval d = v) (hs : a.eval s = u) {v' : Value} {w' : World}
    (hr : (Builtin.copy_ #[t, t'] o.type #[v, u]).run P w = .ok v' w') (hK : K (a.put o.dst v') w') : if Region.wanted o (yielded ops a.tmps) = true then Oper.wp P o a w K Q else E := by
  have hw : Region.wanted o (yielded ops a.tmps) = true := by simp [Region.wanted, hgd]
  rw [if_pos hw]
  unfold Oper.wp execOp
  simp only [ho, resolve, invoke, builtin, Sem.run_bind, Sem.run_pure, Result.andThen_ok, List.map_toArray, List.map_cons, List.map_nil, hd, hs, hr]
  exact hK
theorem setRow_size (w : World) (g : Nat) (cs : Array Value) : (w.setRow g cs).heap.size = w.heap.size := by simp [World.setRow]
theorem grown_setRow (w : World) (g : Nat) (cs : Array Value) : w.grownBy (w.setRow g cs) (some g) :=
  ⟨rfl, rfl, rfl, by rw [setRow_size]; exact Nat.le_refl _, fun k hk hne => setRow_other w g k cs (fun e => hne (by rw [e]))⟩

/-- A field put in at a place. -/
def insL (l : List Fld) (i : Nat) (f : Fld) : List Fld := l.take i ++ f :: l.drop i
theorem insL_end (l : List Fld) (f : Fld) : insL l l.length f = l ++ [f] := by unfold insL; rw [List.take_length, List.drop_length]
theorem insL_len (l : List Fld) (i : Nat) (f : Fld) (h : i ≤ l.length) : (insL l i f).length = l.length + 1 := by unfold insL; rw [List.length_append, List.length_take, List.length_cons, List.length_drop]; omega
theorem flatF_app (a b : List Fld) : flatF (a ++ b) = flatF a ++ flatF b := by unfold flatF; rw [List.flatMap_append]
theorem flatF_len (l : List Fld) : (flatF l).length = l.length * 4 := by
  induction l with
  | nil => rfl
  | cons f r ih => rw [flatF_cons]; simp only [List.length_cons]; omega
theorem flatF_take (l : List Fld) (i : Nat) (h : i ≤ l.length) : (flatF l).take (i * 4) = flatF (l.take i) := by
  conv => lhs; rw [← List.take_append_drop i l, flatF_app]
  rw [List.take_append_of_le_length (by rw [flatF_len, List.length_take]; omega), List.take_of_length_le (by rw [flatF_len, List.length_take]; omega)]
theorem flatF_drop (l : List Fld) (i : Nat) (h : i ≤ l.length) : (flatF l).drop (i * 4) = flatF (l.drop i) := by
  conv => lhs; rw [← List.take_append_drop i l, flatF_app]
  rw [List.drop_append_of_le_length (by rw [flatF_len, List.length_take]; omega), List.drop_of_length_le (by rw [flatF_len, List.length_take]; omega), List.nil_append]
theorem flatF_ins (l : List Fld) (i : Nat) (f : Fld) (h : i ≤ l.length) : flatF (insL l i f) = (flatF l).take (i * 4) ++ rowF f ++ (flatF l).drop (i * 4) := by
  unfold insL
  rw [flatF_app, flatF_take l i h, flatF_drop l i h, List.append_assoc]; rfl
theorem flatF_one (l : List Fld) : ∀ u ∈ flatF l, u.oneCell' = true := by
  intro u hu
  unfold flatF at hu
  obtain ⟨f, _, hf⟩ := List.mem_flatMap.mp hu
  unfold rowF at hf
  simp only [List.mem_cons, List.not_mem_nil, or_false] at hf
  rcases hf with rfl | rfl | rfl | rfl <;> rfl
theorem rowF_one (f : Fld) : ∀ u ∈ rowF f, u.oneCell' = true := by
  have := flatF_one [f]
  simpa [flatF] using this
/-- The one field that is put in lies in a block of its own. -/
abbrev LiesF (w : World) (vb : Nat) (f : Fld) : Prop := w.heap[vb]? = some (.cells #[.string f.name, .int .i64 f.v.k, .int .i64 f.v.n, .string f.v.t] 39 (0, 0))
theorem liesF_cells {w : World} {vb : Nat} {f : Fld} (h : LiesF w vb f) : ∀ j u, (rowF f)[j]? = some u → w.cell? ((⟨vb, 0, none⟩ : Addr).add j) = some u := by
  intro j u hj
  unfold rowF at hj
  match j, hj with
  | 0, hj => simp at hj; subst hj; simp [Addr.add, World.cell?, h]
  | 1, hj => simp at hj; subst hj; simp [Addr.add, World.cell?, h]
  | 2, hj => simp at hj; subst hj; simp [Addr.add, World.cell?, h]
  | 3, hj => simp at hj; subst hj; simp [Addr.add, World.cell?, h]
  | j + 4, hj => simp at hj

/-- What putting a field in leaves. -/
def InsOut (w : World) (base : Nat) (v : Value) (l : List Fld) (e : Ending) (w' : World) : Prop :=
  ∃ v', e = .returned v' ∧ w'.ownsRow base 39 4 v' l.length (flatF l) ∧ w.grownBy w' v.ownBlock ∧ (v'.ownBlock = v.ownBlock ∨ ∃ g, w.heap.size ≤ g ∧ v'.ownBlock = some g)
theorem InsOut.mk {w : World} {base : Nat} {v : Value} {l : List Fld} {e : Ending} {w' : World} (v' : Value) (h : e = .returned v') (ho : w'.ownsRow base 39 4 v' l.length (flatF l)) (hg : w.grownBy w' v.ownBlock) (hat : v'.ownBlock = v.ownBlock ∨ ∃ g, w.heap.size ≤ g ∧ v'.ownBlock = some g) : InsOut w base v l e w' := ⟨v', h, ho, hg, hat⟩

set_option maxRecDepth 4000 in
set_option maxHeartbeats 2000000 in
theorem insert_end (v : Value) (l : List Fld) (f : Fld) (vb base : Nat) (w : World) (hown : w.ownsRow base 39 4 v l.length (flatF l)) (hlen : l.length ≤ 1000) (hbase : base ≤ w.heap.size) (hvb : LiesF w vb f) :
    Calls Tryz.prog 119 #[v, .int .i64 l.length, .slice (some ⟨vb, 0, none⟩) 1 1] w fun e w' => InsOut w base v (l ++ [f]) e w' := by
  obtain ⟨i0, hi, hz0, hz1, hz2⟩ := info_parts infoF
  have hcl := liesF_cells hvb
  have hcap : v = .slice none 0 0 ∧ l.length = 0 ∨ ∃ g cap, v = .slice (some ⟨g, 0, none⟩) l.length cap ∧ l.length ≤ cap ∧ cap ≤ maxLen := by
    rcases hown.2 with h | ⟨g, cap, cur, h1, h2, h3, h4, h5, _⟩
    · exact .inl h
    · exact .inr ⟨g, cap, h1, h4, h5⟩
  have HO : Hid (World.ownsRow _ _ _ _ _ _ _) := hown
  have HC : Hid _ := hcl
  clear hown hcl hvb
  have fin : ∀ (v' : Value) (w' : World), w'.ownsRow base 39 4 v' (l.length + 1) (flatF l ++ [.string f.name, .int .i64 f.v.k, .int .i64 f.v.n, .string f.v.t]) → w'.ownsRow base 39 4 v' (l ++ [f]).length (flatF (l ++ [f])) := fun v' w' h => by
    rw [flatF_snoc, List.length_append]; exact h
  have HF : Hid _ := fin
  clear fin
  rcases hcap with ⟨rfl, hl0⟩ | ⟨g, cap, rfl, hc1, hc2⟩
  · obtain rfl : l = [] := List.eq_nil_of_length_eq_zero hl0
    go_enter Tryz.func119, Tryz.ntmps119
    go_wp2_with (at_builtin; refine wpList_append_own_at _ rfl (.tmp 23) (.tmp 24) 40 rfl base 39 i0 (.agg #[.string em, .int .i64 0, .int .i64 0, .string em]) 4 48 Tryz.underlying40 hi hz0 hz1 hz2 rfl (by decide) _ _ _ rfl HO.out ⟨vb, 0, none⟩ 1 1 [.string f.name, .int .i64 f.v.k, .int .i64 f.v.n, .string f.v.t] rfl rfl HC.out (rowF_one f) (by unfold maxLen; simp) (by simp) (by omega) ?_; intro v' w' o1 g1 n1 a1; refine Hid.out ?_)
    refine Lib.hid ?_
    have HO1 : Hid (World.ownsRow _ _ _ _ _ _ _) := HF.out v' w' o1
    have HG1 : Hid _ := g1
    have HA1 : Hid _ := a1
    clear o1 g1 n1 a1
    go_wp2_with fail
    go_ret
    exact InsOut.mk v' rfl HO1.out HG1.out (by rcases HA1.out with h | h; exact .inl h; exact .inr ⟨_, Nat.le_refl _, h⟩)
  · have hle : (l.length : Int) ≤ (cap : Int) := by omega
    unfold maxLen at hc2
    by_cases hcc : cap = l.length
    all_goals
      go_enter Tryz.func119, Tryz.ntmps119
      go_wp2_with (at_builtin; refine wpList_append_own_at _ rfl (.tmp 23) (.tmp 24) 40 rfl base 39 i0 (.agg #[.string em, .int .i64 0, .int .i64 0, .string em]) 4 48 Tryz.underlying40 hi hz0 hz1 hz2 rfl (by decide) _ _ _ rfl HO.out ⟨vb, 0, none⟩ 1 1 [.string f.name, .int .i64 f.v.k, .int .i64 f.v.n, .string f.v.t] rfl rfl HC.out (rowF_one f) (by unfold maxLen; omega) (by omega) (by omega) ?_; intro v' w' o1 g1 n1 a1; refine Hid.out ?_)
      refine Lib.hid ?_
      have HO1 : Hid (World.ownsRow _ _ _ _ _ _ _) := HF.out v' w' o1
      have HG1 : Hid _ := g1
      have HA1 : Hid _ := a1
      clear o1 g1 n1 a1
      go_wp2_with fail
      go_ret
      exact InsOut.mk v' rfl HO1.out HG1.out (by rcases HA1.out with h | h; exact .inl h; exact .inr ⟨_, Nat.le_refl _, h⟩)

end Go.Proofs.YtkeghknceccdmaaGreatDoor
