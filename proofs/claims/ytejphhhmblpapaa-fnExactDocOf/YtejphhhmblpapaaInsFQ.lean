import Derived.Test.YtejphhhmblpapaaRowF
import Derived.Laws.CopyRow
import Derived.Laws.Externs
import Derived.Lib.Overlaps
import Derived.Lib.AppendZerosOnto
import Derived.Lib.Hide
import Derived.Maps.AppendAt
import Derived.Deep.RegionLaw
/- What the library's slices.Insert does to a row of fields of the call's own: one field more, at its place. -/
namespace Go.Proofs.Ytejphhhmblpapaa
open Go.RowKit
set_option linter.unusedVariables false

/-- copy between rows whose elements have k cells each. -/
theorem run_copy_rowK {P : Program} (w : World) (dT sT ty elem : TypeId) (g o dLen dCap : Nat) (a : Addr) (sLen sCap : Nat) (cur : Array Value) (t : TypeId) (cs : List Value) (k m : Nat)
    (hu : P.underlying dT = some (.slice elem)) (hs : (P.info? elem).map (·.size) = some k) (hg : w.heap[g]? = some (.cells cur t (0, 0))) (hm : Nat.min sLen dLen = m) (hn : cs.length = m * k)
    (hsrc : ∀ j v, cs[j]? = some v → w.cell? (a.add j) = some v) (hfit : o + cs.length ≤ cur.size) (h1 : ∀ v ∈ cs, v.oneCell' = true) :
    (Builtin.copy_ #[dT, sT] ty #[.slice (some ⟨g, o, none⟩) dLen dCap, .slice (some a) sLen sCap]).run P w = .ok (goInt m) (w.setRow g (cur.toList.take o ++ cs ++ cur.toList.drop (o + cs.length)).toArray) := by
  have hl := run_loadCells_list (P := P) w a cs hsrc
  have hst := run_storeCells_at P g o t cs 0 cur w hg (by simpa using hfit) h1
  cases hq : P.info? elem with
  | none => simp [hq] at hs
  | some i =>
    have hi : i.size = k := by simpa [hq] using hs
    simp [Builtin.copy_, run_underlying hu, Builtin.lenOf, Builtin.firstCells, sizeOf, typeInfo, hq, hi, hm, ← hn, hl, hst]
theorem wpList_copyK {P : Program} (w : World) {ops : Array Oper} {rest : List Oper} {o : Oper} {a : Act} {Q : Exit → Act → World → Prop} (hgd : o.guard = none) (d s : Operand) (t t' : TypeId)
    (ho : o.op = .call { callee := .builtin .copy, args := #[d, s], argTypes := #[t, t'] }) (v u : Value) (hd : a.eval d = v) (hs : a.eval s = u) {v' : Value} {w' : World}
    (hr : (Builtin.copy_ #[t, t'] o.type #[v, u]).run P w = .ok v' w') (h : wpList P ops Q rest (a.put o.dst v') w') : wpList P ops Q (o :: rest) a w :=
  wpList_plain hgd fun _ hK => by
    unfold Oper.wp execOp
    simp only [ho, resolve, invoke, builtin, Sem.run_bind, Sem.run_pure, Result.andThen_ok, List.map_toArray, List.map_cons, List.map_nil, hd, hs, hr]
    exact hK _ _ h
theorem step_copyK {P : Program} {ops : Array Oper} {o : Oper} {a : Act} {w : World} {K : Act → World → Prop} {Q : Exit → Act → World → Prop} {E : Prop} (hgd : o.guard = none) (d s : Operand) (t t' : TypeId)
    (ho : o.op = .call { callee := .builtin .copy, args := #[d, s], argTypes := #[t, t'] }) (v u : Value) (hd : a.eval d = v) (hs : a.eval s = u) {v' : Value} {w' : World}
    (hr : (Builtin.copy_ #[t, t'] o.type #[v, u]).run P w = .ok v' w') (hK : K (a.put o.dst v') w') : if Region.wanted o (yielded ops a.tmps) = true then Oper.wp P o a w K Q else E := by
  have hw : Region.wanted o (yielded ops a.tmps) = true := by simp [Region.wanted, hgd]
  rw [if_pos hw]
  unfold Oper.wp execOp
  simp only [ho, resolve, invoke, builtin, Sem.run_bind, Sem.run_pure, Result.andThen_ok, List.map_toArray, List.map_cons, List.map_nil, hd, hs, hr]
  exact hK
theorem setRow_size (w : World) (g : Nat) (cs : Array Value) : (w.setRow g cs).heap.size = w.heap.size := by simp [World.setRow]
theorem grown_setRow (w : World) (g : Nat) (cs : Array Value) : w.grownBy (w.setRow g cs) (some g) :=
  ⟨rfl, rfl, rfl, by rw [setRow_size]; exact Nat.le_refl _, fun k hk hne => setRow_other w g k cs (fun e => hne (by rw [e]))⟩

/-- A field put in at a place. -/
def insL (l : List Fld) (i : Nat) (f : Fld) : List Fld := l.take i ++ f :: l.drop i
theorem insL_end (l : List Fld) (f : Fld) : insL l l.length f = l ++ [f] := by unfold insL; rw [List.take_length, List.drop_length]
theorem insL_len (l : List Fld) (i : Nat) (f : Fld) (h : i ≤ l.length) : (insL l i f).length = l.length + 1 := by unfold insL; rw [List.length_append, List.length_take, List.length_cons, List.length_drop]; omega
theorem flatF_app (a b : List Fld) : flatF (a ++ b) = flatF a ++ flatF b := by unfold flatF; rw [List.flatMap_append]
theorem flatF_len (l : List Fld) : (flatF l).length = l.length * 4 := by
  induction l with
  | nil => rfl
  | cons f r ih => rw [flatF_cons]; simp only [List.length_cons]; omega
theorem flatF_take (l : List Fld) (i : Nat) (h : i ≤ l.length) : (flatF l).take (i * 4) = flatF (l.take i) := by
  conv => lhs; rw [← List.take_append_drop i l, flatF_app]
  rw [List.take_append_of_le_length (by rw [flatF_len, List.length_take]; omega), List.take_of_length_le (by rw [flatF_len, List.length_take]; omega)]
theorem flatF_drop (l : List Fld) (i : Nat) (h : i ≤ l.length) : (flatF l).drop (i * 4) = flatF (l.drop i) := by
  conv => lhs; rw [← List.take_append_drop i l, flatF_app]
  rw [List.drop_append_of_le_length (by rw [flatF_len, List.length_take]; omega), List.drop_of_length_le (by rw [flatF_len, List.length_take]; omega), List.nil_append]
theorem flatF_ins (l : List Fld) (i : Nat) (f : Fld) (h : i ≤ l.length) : flatF (insL l i f) = (flatF l).take (i * 4) ++ rowF f ++ (flatF l).drop (i * 4) := by
  unfold insL
  rw [flatF_app, flatF_take l i h, flatF_drop l i h, List.append_assoc]; rfl
theorem flatF_one (l : List Fld) : ∀ u ∈ flatF l, u.oneCell' = true := by
  intro u hu
  unfold flatF at hu
  obtain ⟨f, _, hf⟩ := List.mem_flatMap.mp hu
  unfold rowF at hf
  simp only [List.mem_cons, List.not_mem_nil, or_false] at hf
  rcases hf with rfl | rfl | rfl | rfl <;> rfl
theorem rowF_one (f : Fld) : ∀ u ∈ rowF f, u.oneCell' = true := by
  have := flatF_one [f]
  simpa [flatF] using this
/-- The one field that is put in lies in a block of its own. -/
abbrev LiesF (w : World) (vb : Nat) (f : Fld) : Prop := w.heap[vb]? = some (.cells #[.string f.name, .int .i64 f.v.k, .int .i64 f.v.n, .string f.v.t] 36 (0, 0))
theorem liesF_cells {w : World} {vb : Nat} {f : Fld} (h : LiesF w vb f) : ∀ j u, (rowF f)[j]? = some u → w.cell? ((⟨vb, 0, none⟩ : Addr).add j) = some u := by
  intro j u hj
  unfold rowF at hj
  match j, hj with
  | 0, hj => simp at hj; subst hj; simp [Addr.add, World.cell?, h]
  | 1, hj => simp at hj; subst hj; simp [Addr.add, World.cell?, h]
  | 2, hj => simp at hj; subst hj; simp [Addr.add, World.cell?, h]
  | 3, hj => simp at hj; subst hj; simp [Addr.add, World.cell?, h]
  | j + 4, hj => simp at hj

/-- What putting a field in leaves. -/
def InsOut (w : World) (base : Nat) (v : Value) (l : List Fld) (e : Ending) (w' : World) : Prop :=
  ∃ v', e = .returned v' ∧ w'.ownsRow base 36 4 v' l.length (flatF l) ∧ w.grownBy w' v.ownBlock ∧ (v'.ownBlock = v.ownBlock ∨ ∃ g, w.heap.size ≤ g ∧ v'.ownBlock = some g)
theorem InsOut.mk {w : World} {base : Nat} {v : Value} {l : List Fld} {e : Ending} {w' : World} (v' : Value) (h : e = .returned v') (ho : w'.ownsRow base 36 4 v' l.length (flatF l)) (hg : w.grownBy w' v.ownBlock) (hat : v'.ownBlock = v.ownBlock ∨ ∃ g, w.heap.size ≤ g ∧ v'.ownBlock = some g) : InsOut w base v l e w' := ⟨v', h, ho, hg, hat⟩

set_option maxRecDepth 4000 in
set_option maxHeartbeats 2000000 in
theorem insert_end (v : Value) (l : List Fld) (f : Fld) (vb base : Nat) (w : World) (hown : w.ownsRow base 36 4 v l.length (flatF l)) (hlen : l.length ≤ 1000) (hbase : base ≤ w.heap.size) (hvb : LiesF w vb f) :
    Calls Try.prog 94 #[v, .int .i64 l.length, .slice (some ⟨vb, 0, none⟩) 1 1] w fun e w' => InsOut w base v (l ++ [f]) e w' := by
  obtain ⟨i0, hi, hz0, hz1, hz2⟩ := info_parts infoF
  have hcl := liesF_cells hvb
  have hcap : v = .slice none 0 0 ∧ l.length = 0 ∨ ∃ g cap, v = .slice (some ⟨g, 0, none⟩) l.length cap ∧ l.length ≤ cap ∧ cap ≤ maxLen := by
    rcases hown.2 with h | ⟨g, cap, cur, h1, h2, h3, h4, h5, _⟩
    · exact .inl h
    · exact .inr ⟨g, cap, h1, h4, h5⟩
  have HO : Hid (World.ownsRow _ _ _ _ _ _ _) := hown
  have HC : Hid _ := hcl
  clear hown hcl hvb
  have fin : ∀ (v' : Value) (w' : World), w'.ownsRow base 36 4 v' (l.length + 1) (flatF l ++ [.string f.name, .int .i64 f.v.k, .int .i64 f.v.n, .string f.v.t]) → w'.ownsRow base 36 4 v' (l ++ [f]).length (flatF (l ++ [f])) := fun v' w' h => by
    rw [flatF_snoc, List.length_append]; exact h
  have HF : Hid _ := fin
  clear fin
  rcases hcap with ⟨rfl, hl0⟩ | ⟨g, cap, rfl, hc1, hc2⟩
  · obtain rfl : l = [] := List.eq_nil_of_length_eq_zero hl0
    go_enter Try.func94, Try.ntmps94
    go_wp2_with (at_builtin; refine wpList_append_own_at _ rfl (.tmp 23) (.tmp 24) 33 rfl base 36 i0 (.agg #[.string em, .int .i64 0, .int .i64 0, .string em]) 4 48 Try.underlying33 hi hz0 hz1 hz2 rfl (by decide) _ _ _ rfl HO.out ⟨vb, 0, none⟩ 1 1 [.string f.name, .int .i64 f.v.k, .int .i64 f.v.n, .string f.v.t] rfl rfl HC.out (rowF_one f) (by unfold maxLen; simp) (by simp) (by omega) ?_; intro v' w' o1 g1 n1 a1; refine Hid.out ?_)
    refine Lib.hid ?_
    have HO1 : Hid (World.ownsRow _ _ _ _ _ _ _) := HF.out v' w' o1
    have HG1 : Hid _ := g1
    have HA1 : Hid _ := a1
    clear o1 g1 n1 a1
    go_wp2_with fail
    go_ret
    exact InsOut.mk v' rfl HO1.out HG1.out (by rcases HA1.out with h | h; exact .inl h; exact .inr ⟨_, Nat.le_refl _, h⟩)
  · have hle : (l.length : Int) ≤ (cap : Int) := by omega
    unfold maxLen at hc2
    by_cases hcc : cap = l.length
    all_goals
      go_enter Try.func94, Try.ntmps94
      go_wp2_with (at_builtin; refine wpList_append_own_at _ rfl (.tmp 23) (.tmp 24) 33 rfl base 36 i0 (.agg #[.string em, .int .i64 0, .int .i64 0, .string em]) 4 48 Try.underlying33 hi hz0 hz1 hz2 rfl (by decide) _ _ _ rfl HO.out ⟨vb, 0, none⟩ 1 1 [.string f.name, .int .i64 f.v.k, .int .i64 f.v.n, .string f.v.t] rfl rfl HC.out (rowF_one f) (by unfold maxLen; omega) (by omega) (by omega) ?_; intro v' w' o1 g1 n1 a1; refine Hid.out ?_)
      refine Lib.hid ?_
      have HO1 : Hid (World.ownsRow _ _ _ _ _ _ _) := HF.out v' w' o1
      have HG1 : Hid _ := g1
      have HA1 : Hid _ := a1
      clear o1 g1 n1 a1
      go_wp2_with fail
      go_ret
      exact InsOut.mk v' rfl HO1.out HG1.out (by rcases HA1.out with h | h; exact .inl h; exact .inr ⟨_, Nat.le_refl _, h⟩)

end Go.Proofs.Ytejphhhmblpapaa

/- What the library's slices.Insert does to a row of fields of the call's own, ahead of its end. -/
namespace Go.Proofs.Ytejphhhmblpapaa
open Go.RowKit
set_option linter.unusedVariables false

theorem sizeF (w : World) : (Go.sizeOf 36).run Try.prog w = .ok 4 w := by
  obtain ⟨i0, hi, hz0, hz1, hz2⟩ := info_parts infoF
  simp [sizeOf, typeInfo, hi, hz1]
theorem infoF4 : (Try.prog.info? 36).map (·.size) = some 4 := by
  obtain ⟨i0, hi, hz0, hz1, hz2⟩ := info_parts infoF
  rw [hi]; simp [hz1]
/-- Cells shifted up by four, and four others put where they stood. -/
theorem shift_list (A F R : List Value) (k N : Nat) (hF : A.take N = F) (hk : k ≤ N) (hN : N + 4 ≤ A.length) (hR : R.length = 4) :
    let B := A.take (k + 4) ++ F.drop k ++ A.drop (k + 4 + (F.drop k).length)
    (B.take k ++ R ++ B.drop (k + R.length)).take (N + 4) = F.take k ++ R ++ F.drop k ∧ (B.take k ++ R ++ B.drop (k + R.length)).length = A.length ∧ B.length = A.length := by
  intro B
  have hFl : F.length = N := by rw [← hF, List.length_take]; omega
  have hBl : B.length = A.length := by
    show (A.take (k + 4) ++ F.drop k ++ A.drop (k + 4 + (F.drop k).length)).length = _
    simp only [List.length_append, List.length_take, List.length_drop]
    omega
  have h1 : B.take k = F.take k := by
    show (A.take (k + 4) ++ F.drop k ++ A.drop (k + 4 + (F.drop k).length)).take k = _
    rw [List.append_assoc, List.take_append_of_le_length (by rw [List.length_take]; omega), List.take_take, ← hF, List.take_take]
    congr 1; omega
  have h2 : B.drop (k + 4) = F.drop k ++ A.drop (k + 4 + (F.drop k).length) := by
    show (A.take (k + 4) ++ F.drop k ++ A.drop (k + 4 + (F.drop k).length)).drop (k + 4) = _
    rw [List.append_assoc, List.drop_append_of_le_length (by rw [List.length_take]; omega), List.drop_of_length_le (by rw [List.length_take]; omega), List.nil_append]
  refine ⟨?_, ?_, hBl⟩
  · rw [hR, h1, h2, ← List.append_assoc, List.take_append_of_le_length (by simp only [List.length_append, List.length_take, List.length_drop]; omega), List.take_of_length_le (by simp only [List.length_append, List.length_take, List.length_drop]; omega)]
  · simp only [List.length_append, List.length_take, List.length_drop]; omega

theorem cell_row {w : World} {g : Nat} {cur : Array Value} {t : TypeId} {fz : Nat × Nat} (hg : w.heap[g]? = some (.cells cur t fz)) (o : Nat) : w.cell? ⟨g, o, none⟩ = cur[o]? := by simp [World.cell?, hg]
theorem add_off (g o j : Nat) : (⟨g, o, none⟩ : Addr).add j = ⟨g, o + j, none⟩ := by
  by_cases h : j = 0
  · subst h; simp [Addr.add]
  · simp [Addr.add, h]

set_option maxRecDepth 4000 in
set_option maxHeartbeats 4000000 in
theorem insert_room (g cap : Nat) (l : List Fld) (i : Nat) (f : Fld) (vb base : Nat) (cur : Array Value) (w : World) (hi : i < l.length) (hroom : l.length + 1 ≤ cap) (hcap : cap ≤ maxLen) (hlen : l.length ≤ 1000) (hbg : base ≤ g)
    (hg : w.heap[g]? = some (.cells cur 36 (0, 0))) (hsz : cur.size = cap * 4) (hcur : cur.toList.take (l.length * 4) = flatF l) (hvb : LiesF w vb f) (hne : vb ≠ g) :
    Calls Try.prog 94 #[.slice (some ⟨g, 0, none⟩) l.length cap, .int .i64 i, .slice (some ⟨vb, 0, none⟩) 1 1] w fun e w' => InsOut w base (.slice (some ⟨g, 0, none⟩) l.length cap) (insL l i f) e w' := by
  obtain ⟨B, hB⟩ : ∃ B, B = cur.toList.take (i * 4 + 4) ++ (flatF l).drop (i * 4) ++ cur.toList.drop (i * 4 + 4 + ((flatF l).drop (i * 4)).length) := ⟨_, rfl⟩
  have hR4 : (rowF f).length = 4 := rfl
  have hcl : cur.toList.length = cap * 4 := by rw [Array.length_toList]; exact hsz
  have hsh := shift_list cur.toList (flatF l) (rowF f) (i * 4) (l.length * 4) hcur (by omega) (by rw [hcl]; omega) hR4
  simp only [← hB] at hsh
  obtain ⟨s1, s2, s3⟩ := hsh
  have hdl : ((flatF l).drop (i * 4)).length = (l.length - i) * 4 := by rw [List.length_drop, flatF_len]; omega
  have hov : ∀ lb cb, (callFunc 127 #[.slice (some ⟨vb, 0, none⟩) 1 1, .slice (some ⟨g, (i + 1) * 4, none⟩) lb cb]).run Try.prog w = .ok (.value (.bool false)) w := fun lb cb => by
    rw [run_callFunc_extern Try.func127 (by kernel_rfl) (by kernel_rfl) (by kernel_rfl) (e := Extern.SlicesOverlaps.overlaps #[33, 33] #[4]) (by kernel_rfl),
      Lib.run_overlaps_apart w 33 4 36 Try.underlying33 4 sizeF ⟨vb, 0, none⟩ ⟨g, (i + 1) * 4, none⟩ 1 1 lb cb hne 36 36 4 cur.size (by simp [World.shape?, hvb]) (by simp [World.shape?, hg]) (by omega) (by simp [World.frozen?, hvb]) (by simp [World.frozen?, hvb])]
    rfl
  obtain ⟨W1, hW1⟩ : ∃ W1, W1 = w.drew.setRow g B.toArray := ⟨_, rfl⟩
  obtain ⟨W2, hW2⟩ : ∃ W2, W2 = W1.setRow g (B.take (i * 4) ++ rowF f ++ B.drop (i * 4 + (rowF f).length)).toArray := ⟨_, rfl⟩
  have hgd : w.drew.heap[g]? = some (.cells cur 36 (0, 0)) := hg
  have hg1 : W1.heap[g]? = some (.cells B.toArray 36 (0, 0)) := by rw [hW1]; exact setRow_heap _ _ _ _ _ _ hgd
  have hv1 : LiesF W1 vb f := by rw [LiesF, hW1, setRow_other _ _ _ _ hne]; exact hvb
  have hcp1 : ∀ ty dc sc, (Builtin.copy_ #[33, 33] ty #[.slice (some ⟨g, (i + 1) * 4, none⟩) (l.length - i) dc, .slice (some ⟨g, i * 4, none⟩) (l.length + 1 - i) sc]).run Try.prog w.drew = .ok (goInt ((l.length - i : Nat) : Int)) W1 := fun ty dc sc => by
    have := run_copy_rowK (P := Try.prog) w.drew 33 33 ty 36 g ((i + 1) * 4) (l.length - i) dc ⟨g, i * 4, none⟩ (l.length + 1 - i) sc cur 36 ((flatF l).drop (i * 4)) 4 (l.length - i) Try.underlying33 infoF4 hgd (by simp only [Nat.min_def]; split <;> omega) hdl
      (fun j v hj => by
        rw [add_off, cell_row hgd]
        rw [List.getElem?_drop] at hj
        have hjl : i * 4 + j < l.length * 4 := by
          have := (List.getElem?_eq_some_iff.1 hj).1
          rw [flatF_len] at this; exact this
        rw [← hcur, List.getElem?_take, if_pos hjl] at hj
        rw [← hj, Array.getElem?_toList])
      (by rw [hdl, hsz]; omega) (fun v hv => flatF_one l v (List.mem_of_mem_drop hv))
    rw [this, hW1, hB, show (i + 1) * 4 = i * 4 + 4 by omega]
  have hcp2 : ∀ ty dc, (Builtin.copy_ #[33, 33] ty #[.slice (some ⟨g, i * 4, none⟩) (l.length + 1 - i) dc, .slice (some ⟨vb, 0, none⟩) 1 1]).run Try.prog W1 = .ok (goInt ((1 : Nat) : Int)) W2 := fun ty dc => by
    have := run_copy_rowK (P := Try.prog) W1 33 33 ty 36 g (i * 4) (l.length + 1 - i) dc ⟨vb, 0, none⟩ 1 1 B.toArray 36 (rowF f) 4 1 Try.underlying33 infoF4 hg1 (by simp only [Nat.min_def]; split <;> omega) hR4
      (liesF_cells hv1) (by rw [List.size_toArray, s3, hcl, hR4]; omega) (rowF_one f)
    rw [this, hW2]
  have hown : W2.ownsRow base 36 4 (.slice (some ⟨g, 0, none⟩) (insL l i f).length cap) (insL l i f).length (flatF (insL l i f)) := by
    refine ⟨flatF_len _, .inr ⟨g, cap, _, rfl, hbg, by rw [hW2]; exact setRow_heap _ _ _ _ _ _ hg1, ?_, hcap, ?_, ?_⟩⟩
    · rw [insL_len l i f (by omega)]; exact hroom
    · rw [List.size_toArray, s2, hcl]
    · rw [insL_len l i f (by omega), flatF_ins l i f (by omega), ← s1, List.toList_toArray]
      congr 1; omega
  have hgr : w.grownBy W2 (some g) := by
    have e1 : w.grownBy W1 (some g) := by
      have := grown_setRow w.drew g B.toArray
      rw [← hW1] at this
      exact ⟨this.os, this.tape, this.output, this.size, this.block⟩
    have e2 := grown_setRow W1 g (B.take (i * 4) ++ rowF f ++ B.drop (i * 4 + (rowF f).length)).toArray
    rw [← hW2] at e2
    exact e1.trans e2
  have hil := insL_len l i f (by omega)
  rw [hil] at hown
  have HOWN : Hid (World.ownsRow _ _ _ _ _ _ _) := hown
  have HGR : Hid _ := hgr
  have HIL : Hid (_ = _) := hil
  have hb0 : (0 : Int) ≤ (i : Int) + 1 := by omega
  have hz2 : ¬ ((i : Int) = (l.length : Int)) := by omega
  have hz3 : ((i : Int) == (l.length : Int)) = false := beq_eq_false_iff_ne.mpr hz2
  have hz4 : ¬ ((cap : Int) < (l.length : Int) + 1) := by omega
  have hi1 : (i : Int) ≤ (l.length : Int) := by omega
  have hi2 : (i : Int) + 1 ≤ (l.length : Int) + 1 := by omega
  have hi3 : (l.length : Int) + 1 ≤ (cap : Int) := by omega
  have hi4 : (i : Int) ≤ (l.length : Int) + 1 := by omega
  have htn : ((i : Int) + 1).toNat = i + 1 := by omega
  have htn2 : ((l.length : Int) + 1).toNat = l.length + 1 := by omega
  have hw1 : IntKind.i64.wrap ((i : Int) + 1) = (i : Int) + 1 := by rw [IntKind.wrap_i64]; omega
  have hw2 : IntKind.i64.wrap ((l.length : Int) + 1) = (l.length : Int) + 1 := by rw [IntKind.wrap_i64]; omega
  have hb2 : ¬ (cap = i + 1) := by omega
  have hb4 : ¬ (cap = i) := by omega
  unfold maxLen at hcap
  clear hB hdl s1 s2 s3 hW1 hW2 hgd hg1 hv1 hown hgr hcur hvb hg hsz hil hR4 hz2
  go_enter Try.func94, Try.ntmps94
  go_wp2_with (simp only [hov])
  go_region_law (refine step_copyK rfl _ _ 33 33 rfl _ _ (by simp [Act.eval, Act.put]) (by simp [Act.eval, Act.put]) (hcp1 _ _ _) ?_)
  go_wp2_with (at_builtin; refine wpList_copyK _ rfl _ _ 33 33 rfl _ _ rfl rfl (hcp2 _ _) ?_)
  go_ret
  exact InsOut.mk _ rfl (by rw [HIL.out]; exact HOWN.out) HGR.out (.inl rfl)

end Go.Proofs.Ytejphhhmblpapaa

/- What the library's slices.Insert does to a row of fields of the call's own: where a new row must be made; and in all cases. -/
namespace Go.Proofs.Ytejphhhmblpapaa
open Go.RowKit
set_option linter.unusedVariables false

theorem grow_list (F R Z : List Value) (k N : Nat) (hF : F.length = N) (hk : k ≤ N) (hZ : N + 4 ≤ k + Z.length) (hR : R.length = 4) :
    let A := F.take k ++ Z
    let B := A.take k ++ R ++ A.drop (k + R.length)
    (B.take (k + 4) ++ F.drop k ++ B.drop (k + 4 + (F.drop k).length)).take (N + 4) = F.take k ++ R ++ F.drop k ∧ (B.take (k + 4) ++ F.drop k ++ B.drop (k + 4 + (F.drop k).length)).length = A.length ∧ B.length = A.length := by
  intro A B
  have hAl : A.length = k + Z.length := by show (F.take k ++ Z).length = _; rw [List.length_append, List.length_take]; omega
  have hBl : B.length = A.length := by
    show (A.take k ++ R ++ A.drop (k + R.length)).length = _
    simp only [List.length_append, List.length_take, List.length_drop]; omega
  have hAk : A.take k = F.take k := by
    show (F.take k ++ Z).take k = _
    rw [List.take_append_of_le_length (by rw [List.length_take]; omega), List.take_take]; congr 1; omega
  have h1 : B.take (k + 4) = F.take k ++ R := by
    show (A.take k ++ R ++ A.drop (k + R.length)).take (k + 4) = _
    rw [List.take_append_of_le_length (by simp only [List.length_append, List.length_take]; omega), List.take_of_length_le (by simp only [List.length_append, List.length_take]; omega), hAk]
  refine ⟨?_, ?_, hBl⟩
  · rw [h1, List.take_append_of_le_length (by simp only [List.length_append, List.length_take, List.length_drop]; omega), List.take_of_length_le (by simp only [List.length_append, List.length_take, List.length_drop]; omega)]
  · simp only [List.length_append, List.length_take, List.length_drop]; omega
theorem zeroF_size (k : Nat) : (Builtin.zeroCells (Value.agg #[.string em, .int .i64 0, .int .i64 0, .string em]).cells k).size = k * 4 := by
  have hc : (Value.agg #[.string em, .int .i64 0, .int .i64 0, .string em]).cells = #[.string em, .int .i64 0, .int .i64 0, .string em] := rfl
  rw [hc]
  simp [Builtin.zeroCells]
theorem zeroF_len (k : Nat) : (Builtin.zeroCells (Value.agg #[.string em, .int .i64 0, .int .i64 0, .string em]).cells k).toList.length = k * 4 := (Array.length_toList).trans (zeroF_size k)

set_option maxRecDepth 4000 in
set_option maxHeartbeats 4000000 in
theorem insert_grow (g cap : Nat) (l : List Fld) (i : Nat) (f : Fld) (vb base : Nat) (cur : Array Value) (w : World) (hi : i < l.length) (hcap1 : l.length ≤ cap) (hroom : cap < l.length + 1) (hlen : l.length ≤ 1000) (hbase : base ≤ w.heap.size)
    (hg : w.heap[g]? = some (.cells cur 36 (0, 0))) (hsz : cur.size = cap * 4) (hcur : cur.toList.take (l.length * 4) = flatF l) (hvb : LiesF w vb f) :
    Calls Try.prog 94 #[.slice (some ⟨g, 0, none⟩) l.length cap, .int .i64 i, .slice (some ⟨vb, 0, none⟩) 1 1] w fun e w' => InsOut w base (.slice (some ⟨g, 0, none⟩) l.length cap) (insL l i f) e w' := by
  obtain ⟨i0, hi0, hz0, hz1, hz2⟩ := info_parts infoF
  have hgw : g < w.heap.size := (Array.getElem?_eq_some_iff.1 hg).1
  have hvw : vb < w.heap.size := (Array.getElem?_eq_some_iff.1 hvb).1
  have hcell : ∀ j v, (flatF l)[j]? = some v → w.cell? ⟨g, j, none⟩ = some v := fun j v hj => by
    rw [cell_row hg]
    have hjl : j < l.length * 4 := by have := (List.getElem?_eq_some_iff.1 hj).1; rw [flatF_len] at this; exact this
    rw [← hcur, List.getElem?_take, if_pos hjl] at hj
    rw [← hj, Array.getElem?_toList]
  obtain ⟨G, hG⟩ : ∃ G, G = grownCap w (l.length + 1) cap 36 := ⟨_, rfl⟩
  have hGn : l.length + 1 ≤ G := by rw [hG]; exact grownCap_ge w _ _ _
  have hGm : G ≤ maxLen := by rw [hG]; exact grownCap_le_maxLen w _ _ _ (by unfold maxLen; omega)
  obtain ⟨Z, hZ⟩ : ∃ Z, Z = (Builtin.zeroCells (Value.agg #[.string em, .int .i64 0, .int .i64 0, .string em]).cells (l.length + 1 - i)).toList ++ (Builtin.zeroCells (Value.agg #[.string em, .int .i64 0, .int .i64 0, .string em]).cells (G - (l.length + 1))).toList := ⟨_, rfl⟩
  have hZl : Z.length = (G - i) * 4 := by rw [hZ, List.length_append, zeroF_len, zeroF_len]; omega
  obtain ⟨A, hA⟩ : ∃ A, A = (flatF l).take (i * 4) ++ Z := ⟨_, rfl⟩
  obtain ⟨B, hB⟩ : ∃ B, B = A.take (i * 4) ++ rowF f ++ A.drop (i * 4 + (rowF f).length) := ⟨_, rfl⟩
  have hR4 : (rowF f).length = 4 := rfl
  have hgl := grow_list (flatF l) (rowF f) Z (i * 4) (l.length * 4) (flatF_len l) (by omega) (by omega) hR4
  simp only [← hA] at hgl
  simp only [← hB] at hgl
  obtain ⟨s1, s2, s3⟩ := hgl
  have hAl : A.length = G * 4 := by rw [hA, List.length_append, List.length_take, flatF_len, hZl]; omega
  have hdl : ((flatF l).drop (i * 4)).length = (l.length - i) * 4 := by rw [List.length_drop, flatF_len]; omega
  have hkk : (l.length : Int) + 1 - (i : Int) = ((l.length + 1 - i : Nat) : Int) := by omega
  have hik : i + (l.length + 1 - i) = l.length + 1 := by omega
  have hrz : ∀ ty, (Builtin.append_ #[33, 3] ty #[.slice (some ⟨g, 0, none⟩) i cap, .int .i64 ((l.length : Int) + 1 - (i : Int))]).run Try.prog w = .ok (.slice (some ⟨w.heap.size, 0, none⟩) (l.length + 1) G) (w.drew.alloc (.cells A.toArray 36)) := fun ty => by
    have hold : (Builtin.firstCells i0.size i (.slice (some ⟨g, 0, none⟩) i cap)).run Try.prog w.drew = .ok ((flatF l).take (i * 4)).toArray w.drew := by
      rw [hz1]
      exact run_firstCells_some w.drew 4 i ⟨g, 0, none⟩ i cap ((flatF l).take (i * 4)) (by rw [List.length_take, flatF_len]; omega) (fun j v hj => by
        rw [add_off, Nat.zero_add]
        rw [List.getElem?_take] at hj
        split at hj
        · exact hcell j v hj
        · cases hj)
    have h := Lib.run_append_grow_zeros w 33 3 ty 36 i0 _ .i64 .i64 Try.underlying33 Try.underlying3 hi0 hz0 (some ⟨g, 0, none⟩) i cap ((flatF l).take (i * 4)) hold (l.length + 1 - i) (by omega) (by omega) (by omega) (by omega) (by rw [hz2]; omega) (by rw [hz2, hik]; exact growslice_fits hroom (by omega))
    rw [hik, ← hG] at h
    rw [hkk, h, hA, hZ]
    congr 3
    simp
  obtain ⟨W1, hW1⟩ : ∃ W1, W1 = w.drew.alloc (.cells A.toArray 36) := ⟨_, rfl⟩
  obtain ⟨W2, hW2⟩ : ∃ W2, W2 = W1.setRow w.heap.size B.toArray := ⟨_, rfl⟩
  obtain ⟨W3, hW3⟩ : ∃ W3, W3 = W2.drew.setRow w.heap.size (B.take (i * 4 + 4) ++ (flatF l).drop (i * 4) ++ B.drop (i * 4 + 4 + ((flatF l).drop (i * 4)).length)).toArray := ⟨_, rfl⟩
  rw [← hW1] at hrz
  have hh1 : W1.heap[w.heap.size]? = some (.cells A.toArray 36 (0, 0)) := by rw [hW1]; exact heap_alloc_new w.drew _
  have hold1 : ∀ k, k < w.heap.size → W1.heap[k]? = w.heap[k]? := fun k hk => by rw [hW1]; exact ((Below.refl w.drew.heap.size w.drew).alloc (Nat.le_refl _) _).block k hk
  have hh2 : W2.heap[w.heap.size]? = some (.cells B.toArray 36 (0, 0)) := by rw [hW2]; exact setRow_heap _ _ _ _ _ _ hh1
  have hold2 : ∀ k, k < w.heap.size → W2.heap[k]? = w.heap[k]? := fun k hk => by rw [hW2, setRow_other _ _ _ _ (by omega)]; exact hold1 k hk
  have hv1 : LiesF W1 vb f := by rw [LiesF, hold1 vb hvw]; exact hvb
  have hcp1 : ∀ ty dc, (Builtin.copy_ #[33, 33] ty #[.slice (some ⟨w.heap.size, i * 4, none⟩) (l.length + 1 - i) dc, .slice (some ⟨vb, 0, none⟩) 1 1]).run Try.prog W1 = .ok (goInt ((1 : Nat) : Int)) W2 := fun ty dc => by
    have := run_copy_rowK (P := Try.prog) W1 33 33 ty 36 w.heap.size (i * 4) (l.length + 1 - i) dc ⟨vb, 0, none⟩ 1 1 A.toArray 36 (rowF f) 4 1 Try.underlying33 infoF4 hh1 (by simp only [Nat.min_def]; split <;> omega) hR4
      (liesF_cells hv1) (by rw [List.size_toArray, hAl, hR4]; omega) (rowF_one f)
    rw [this, hW2, hB]
  have hcp2 : ∀ ty dc sc, (Builtin.copy_ #[33, 33] ty #[.slice (some ⟨w.heap.size, (i + 1) * 4, none⟩) (l.length - i) dc, .slice (some ⟨g, i * 4, none⟩) (l.length - i) sc]).run Try.prog W2.drew = .ok (goInt ((l.length - i : Nat) : Int)) W3 := fun ty dc sc => by
    have := run_copy_rowK (P := Try.prog) W2.drew 33 33 ty 36 w.heap.size ((i + 1) * 4) (l.length - i) dc ⟨g, i * 4, none⟩ (l.length - i) sc B.toArray 36 ((flatF l).drop (i * 4)) 4 (l.length - i) Try.underlying33 infoF4 hh2 (by simp only [Nat.min_def]; split <;> omega) hdl
      (fun j v hj => by
        rw [add_off]
        rw [List.getElem?_drop] at hj
        have hx := hcell (i * 4 + j) v hj
        rw [← hx]
        exact World.cell?_of_block (hold2 g hgw))
      (by rw [List.size_toArray, s3, hdl, hAl]; omega) (fun v hv => flatF_one l v (List.mem_of_mem_drop hv))
    rw [this, hW3, show (i + 1) * 4 = i * 4 + 4 by omega]
  have hh3 : W3.heap[w.heap.size]? = some (.cells (B.take (i * 4 + 4) ++ (flatF l).drop (i * 4) ++ B.drop (i * 4 + 4 + ((flatF l).drop (i * 4)).length)).toArray 36 (0, 0)) := by rw [hW3]; exact setRow_heap _ _ _ _ _ _ hh2
  have hil := insL_len l i f (by omega)
  have hown : W3.ownsRow base 36 4 (.slice (some ⟨w.heap.size, 0, none⟩) (l.length + 1) G) (l.length + 1) (flatF (insL l i f)) := by
    refine ⟨by rw [flatF_len, hil], .inr ⟨w.heap.size, G, _, rfl, hbase, hh3, hGn, hGm, ?_, ?_⟩⟩
    · rw [List.size_toArray, s2, hAl]
    · rw [flatF_ins l i f (by omega), ← s1, List.toList_toArray]
      congr 1; omega
  have hgr : w.grownBy W3 (some g) := by
    refine ⟨?_, ?_, ?_, ?_, fun k hk _ => ?_⟩
    · rw [hW3, hW2, hW1]; rfl
    · rw [hW3, hW2, hW1]; rfl
    · rw [hW3, hW2, hW1]; rfl
    · rw [hW3, setRow_size]; show w.heap.size ≤ W2.heap.size; rw [hW2, setRow_size, hW1]; simp
    · rw [hW3, setRow_other _ _ _ _ (by omega)]; exact hold2 k hk
  have HOWN : Hid (World.ownsRow _ _ _ _ _ _ _) := hown
  have HGR : Hid _ := hgr
  have HIL : Hid (_ = _) := hil
  have hb0 : (0 : Int) ≤ (i : Int) + 1 := by omega
  have hz3 : ((i : Int) == (l.length : Int)) = false := beq_eq_false_iff_ne.mpr (by omega)
  have hz4 : (cap : Int) < (l.length : Int) + 1 := by omega
  have hi1 : (i : Int) ≤ (l.length : Int) := by omega
  have hi2 : (i : Int) + 1 ≤ (l.length : Int) + 1 := by omega
  have hi4 : (i : Int) ≤ (l.length : Int) + 1 := by omega
  have hi5 : (i : Int) ≤ (cap : Int) := by omega
  have htn : ((i : Int) + 1).toNat = i + 1 := by omega
  have htn2 : ((l.length : Int) + 1).toNat = l.length + 1 := by omega
  have hw1 : IntKind.i64.wrap ((i : Int) + 1) = (i : Int) + 1 := by rw [IntKind.wrap_i64]; omega
  have hw2 : IntKind.i64.wrap ((l.length : Int) + 1) = (l.length : Int) + 1 := by rw [IntKind.wrap_i64]; omega
  have hw3 : IntKind.i64.wrap ((l.length : Int) + 1 - (i : Int)) = (l.length : Int) + 1 - (i : Int) := by rw [IntKind.wrap_i64]; omega
  have hb2 : ¬ (G = i + 1) := by omega
  have hb3 : ¬ (G = i) := by omega
  have hb4 : ¬ (cap = i) := by omega
  unfold maxLen at hGm
  clear hB hdl s1 s2 s3 hW1 hW2 hW3 hh1 hh2 hh3 hold1 hold2 hv1 hown hgr hcur hvb hg hsz hil hR4 hA hAl hZ hZl hG hcell hkk hik hi0 hz0 hz1 hz2
  go_enter Try.func94, Try.ntmps94
  go_wp2_with (first | (at_builtin; refine Lib.wpList_append_run _ rfl _ _ 33 3 rfl _ _ rfl rfl _ _ (hrz _) ?_) | (at_builtin; refine wpList_copyK _ rfl _ _ 33 33 rfl _ _ rfl rfl (hcp1 _ _) ?_))
  go_region_law (refine step_copyK rfl _ _ 33 33 rfl _ _ (by simp [Act.eval, Act.put]) (by simp [Act.eval, Act.put]) (hcp2 _ _ _) ?_)
  go_wp2_with fail
  go_ret
  exact InsOut.mk _ rfl (by rw [HIL.out]; exact HOWN.out) HGR.out (.inr ⟨_, Nat.le_refl _, rfl⟩)

theorem insert_any (v : Value) (l : List Fld) (i : Nat) (f : Fld) (vb base : Nat) (w : World) (hown : w.ownsRow base 36 4 v l.length (flatF l)) (hi : i ≤ l.length) (hlen : l.length ≤ 1000) (hbase : base ≤ w.heap.size) (hvb : LiesF w vb f) (hne : ∀ g, v.ownBlock = some g → vb ≠ g) :
    Calls Try.prog 94 #[v, .int .i64 i, .slice (some ⟨vb, 0, none⟩) 1 1] w fun e w' => InsOut w base v (insL l i f) e w' := by
  rcases Nat.lt_or_ge i l.length with h | h
  · rcases hown.2 with ⟨_, h0⟩ | ⟨g, cap, cur, rfl, h2, h3, h4, h5, h6, h7⟩
    · omega
    · rcases Nat.lt_or_ge cap (l.length + 1) with hc | hc
      · exact insert_grow g cap l i f vb base cur w h h4 hc hlen hbase h3 h6 h7 hvb
      · exact insert_room g cap l i f vb base cur w h hc h5 hlen h2 h3 h6 h7 hvb (hne g rfl)
  · obtain rfl : i = l.length := by omega
    rw [insL_end]
    exact insert_end v l f vb base w hown hlen hbase hvb

end Go.Proofs.Ytejphhhmblpapaa
