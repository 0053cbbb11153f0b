/- The library's Replace over rows of pointers to pages: one of them gives way to two. -/
import Derived.Test.YtnmpfooegnmknaaDraA
import Derived.Laws.CopyRow
import Derived.Laws.Externs
import Derived.Lib.Overlaps
import Derived.Lib.AppendZerosOnto
import Derived.Lib.Hide
import Derived.Maps.AppendAt
import Derived.Deep.RegionLaw
namespace Go.Proofs.Ytnmpfooegnmknaa.Tr
open Go.RowKit
set_option linter.unusedVariables false

/-- copy between rows whose elements have k cells each. -/
theorem run_copy_rowK {P : Program} (w : World) (dT sT ty elem : TypeId) (g o dLen dCap : Nat) (a : Addr) (sLen sCap : Nat) (cur : Array Value) (t : TypeId) (cs : List Value) (k m : Nat)
    (hu : P.underlying dT = some (.slice elem)) (hs : (P.info? elem).map (·.size) = some k) (hg : w.heap[g]? = some (.cells cur t (0, 0))) (hm : Nat.min sLen dLen = m) (hn : cs.length = m * k)
    (hsrc : ∀ j v, cs[j]? = some v → w.cell? (a.add j) = some v) (hfit : o + cs.length ≤ cur.size) (h1 : ∀ v ∈ cs, v.oneCell' = true) :
    (Builtin.copy_ #[dT, sT] ty #[.slice (some ⟨g, o, none⟩) dLen dCap, .slice (some a) sLen sCap]).run P w = .ok (goInt m) (w.setRow g (cur.toList.take o ++ cs ++ cur.toList.drop (o + cs.length)).toArray) := by
  have hl := run_loadCells_list (P := P) w a cs hsrc
  have hst := run_storeCells_at P g o t cs 0 cur w hg (by simpa using hfit) h1
  cases hq : P.info? elem with
  | none => simp [hq] at hs
  | some i =>
    have hi : i.size = k := by simpa [hq] using hs
    simp [Builtin.copy_, run_underlying hu, Builtin.lenOf, Builtin.firstCells, sizeOf, typeInfo, hq, hi, hm, ← hn, hl, hst]
theorem wpList_copyK {P : Program} (w : World) {ops : Array Oper} {rest : List Oper} {o : Oper} {a : Act} {Q : Exit → Act → World → Prop} (hgd : o.guard = none) (d s : Operand) (t t' : TypeId)
    (ho : o.op = .call { callee := .builtin .copy, args := #[d, s], argTypes := #[t, t'] }) (v u : Value) (hd : a.eval d = v) (hs : a.eval s = u) {v' : Value} {w' : World}
    (hr : (Builtin.copy_ #[t, t'] o.type #[v, u]).run P w = .ok v' w') (h : wpList P ops Q rest (a.put o.dst v') w') : wpList P ops Q (o :: rest) a w :=
  wpList_plain hgd fun _ hK => by
    unfold Oper.wp execOp
    simp only [ho, resolve, invoke, builtin, Sem.run_bind, Sem.run_pure, Result.andThen_ok, List.map_toArray, List.map_cons, List.map_nil, hd, hs, hr]
    exact hK _ _ h
theorem step_copyK {P : Program} {ops : Array Oper} {o : Oper} {a : Act} {w : World} {K : Act → World → Prop} {Q : Exit → Act → World → Prop} {E : Prop} (hgd : o.guard = none) (d s : Operand) (t t' : TypeId)
    (ho : o.op = .call { callee := .builtin .copy, args := #[d, s], argTypes := #[t, t'] }) (v u : Value) (hd : a.eval d = v) (hs : a.eval s = u) {v' : Value} {w' : World}
    (hr : (Builtin.copy_ #[t, t'] o.type #[v, u]).run P w = .ok v' w') (hK : K (a.put o.dst v') w') : if Region.wanted o (yielded ops a.tmps) = true then Oper.wp P o a w K Q else E := by
  have hw : Region.wanted o (yielded ops a.tmps) = true := by simp [Region.wanted, hgd]
  rw [if_pos hw]
  unfold Oper.wp execOp
  simp only [ho, resolve, invoke, builtin, Sem.run_bind, Sem.run_pure, Result.andThen_ok, List.map_toArray, List.map_cons, List.map_nil, hd, hs, hr]
  exact hK
theorem setRow_size (w : World) (g : Nat) (cs : Array Value) : (w.setRow g cs).heap.size = w.heap.size := by simp [World.setRow]
theorem grown_setRow (w : World) (g : Nat) (cs : Array Value) : w.grownBy (w.setRow g cs) (some g) :=
  ⟨rfl, rfl, rfl, by rw [setRow_size]; exact Nat.le_refl _, fun k hk hne => setRow_other w g k cs (fun e => hne (by rw [e]))⟩
theorem cell_row {w : World} {g : Nat} {cur : Array Value} {t : TypeId} {fz : Nat × Nat} (hg : w.heap[g]? = some (.cells cur t fz)) (o : Nat) : w.cell? ⟨g, o, none⟩ = cur[o]? := by simp [World.cell?, hg]
theorem add_off (g o j : Nat) : (⟨g, o, none⟩ : Addr).add j = ⟨g, o + j, none⟩ := by
  by_cases h : j = 0
  · subst h; simp [Addr.add]
  · simp [Addr.add, h]
theorem sizeQ (w : World) : (Go.sizeOf 91).run Try.prog w = .ok 1 w := by
  obtain ⟨i0, hi, hz0, hz1, hz2⟩ := info_parts infoQ
  simp [sizeOf, typeInfo, hi, hz1]
theorem infoQ1 : (Try.prog.info? 91).map (·.size) = some 1 := by
  obtain ⟨i0, hi, hz0, hz1, hz2⟩ := info_parts infoQ
  rw [hi]; simp [hz1]
/-- The two pointers that come in lie in a block of their own. -/
abbrev LiesQ (w : World) (vb : Nat) (p q : Value) : Prop := w.heap[vb]? = some (.cells #[p, q] 91 (0, 0))
theorem liesQ_cells {w : World} {vb : Nat} {p q : Value} (h : LiesQ w vb p q) : ∀ j u, [p, q][j]? = some u → w.cell? ((⟨vb, 0, none⟩ : Addr).add j) = some u := by
  intro j u hj
  match j, hj with
  | 0, hj => simp at hj; subst hj; simp [Addr.add, World.cell?, h]
  | 1, hj => simp at hj; subst hj; simp [Addr.add, World.cell?, h]
  | j + 2, hj => simp at hj
def repQ (xs : List Value) (k : Nat) (p q : Value) : List Value := xs.take k ++ [p, q] ++ xs.drop (k + 1)
theorem repQ_len (xs : List Value) (k : Nat) (p q : Value) (h : k < xs.length) : (repQ xs k p q).length = xs.length + 1 := by
  unfold repQ; simp only [List.length_append, List.length_take, List.length_drop, List.length_cons, List.length_nil]; omega
/-- What Replace leaves. -/
def RepOut (w : World) (base g n : Nat) (ys : List Value) (e : Ending) (w' : World) : Prop :=
  ∃ g' cap', e = .returned (.slice (some ⟨g', 0, none⟩) (n + 1) cap') ∧ w'.ownsRow base 91 1 (.slice (some ⟨g', 0, none⟩) (n + 1) cap') (n + 1) ys ∧ w.grownBy w' (some g) ∧ (g' = g ∨ w.heap.size ≤ g')
theorem RepOut.mk {w : World} {base g n : Nat} {ys : List Value} {e : Ending} {w' : World} (g' cap' : Nat) (h : e = .returned (.slice (some ⟨g', 0, none⟩) (n + 1) cap')) (ho : w'.ownsRow base 91 1 (.slice (some ⟨g', 0, none⟩) (n + 1) cap') (n + 1) ys) (hg : w.grownBy w' (some g)) (hat : g' = g ∨ w.heap.size ≤ g') : RepOut w base g n ys e w' := ⟨g', cap', h, ho, hg, hat⟩

theorem owns_head {w : World} {base g cap n : Nat} {T : TypeId} {xs : List Value} (h : w.ownsRow base T 1 (.slice (some ⟨g, 0, none⟩) n cap) n xs) (k : Nat) (hk : k ≤ n) : w.ownsRow base T 1 (.slice (some ⟨g, 0, none⟩) k cap) k (xs.take k) := by
  obtain ⟨h1, h2⟩ := h
  rcases h2 with ⟨h2, _⟩ | ⟨g', cap', cur, hv, hb, hg, hn, hm, hs, ht⟩
  · cases h2
  · cases hv
    refine ⟨by rw [List.length_take]; omega, .inr ⟨g, cap, cur, rfl, hb, hg, by omega, hm, hs, ?_⟩⟩
    rw [← ht, List.take_take]; congr 1; omega
set_option maxRecDepth 4000 in
set_option maxHeartbeats 2000000 in
theorem replace_end (g cap n k : Nat) (xs : List Value) (p q : Value) (vb base : Nat) (w : World) (hown : w.ownsRow base 91 1 (.slice (some ⟨g, 0, none⟩) n cap) n xs) (hk : k + 1 = n) (hlen : n ≤ 1000) (hcap : n ≤ cap) (hcm : cap ≤ maxLen) (hbase : base ≤ w.heap.size) (hvb : LiesQ w vb p q) (hp : p.oneCell' = true) (hq : q.oneCell' = true) :
    Calls Try.prog 97 #[.slice (some ⟨g, 0, none⟩) n cap, .int .i64 k, .int .i64 ((k : Int) + 1), .slice (some ⟨vb, 0, none⟩) 2 2] w fun e w' => RepOut w base g n (repQ xs k p q) e w' := by
  obtain ⟨i0, hi, hz0, hz1, hz2⟩ := info_parts infoQ
  have hxl : xs.length = n := by have := hown.1; omega
  have hO := owns_head hown k (by omega)
  have HO : Hid (World.ownsRow _ _ _ _ _ _ _) := hO
  have hcl := liesQ_cells hvb
  have HC : Hid _ := hcl
  have h1 : ∀ u ∈ [p, q], u.oneCell' = true := by
    intro u hu; simp at hu; rcases hu with rfl | rfl
    · exact hp
    · exact hq
  have fin : xs.take k ++ [p, q] = repQ xs k p q := by unfold repQ; rw [List.drop_eq_nil_of_le (by omega), List.append_nil]
  have HF : Hid (_ = _) := fin
  have hk2 : k + 2 = n + 1 := by omega
  have hz3 : ((k : Int) == (k : Int) + 1) = false := beq_eq_false_iff_ne.mpr (by omega)
  have hz4 : ((k : Int) + 1 == (n : Int)) = true := by simp; omega
  have hz5 : ¬ ((n : Int) + 1 < (n : Int)) := by omega
  have hz6 : ¬ ((n + 1 : Nat) : Int) < (n : Int) := by omega
  have hi1 : (k : Int) ≤ (cap : Int) := by omega
  have hi2 : (k : Int) + 1 ≤ (cap : Int) := by omega
  have hb4 : ¬ (cap = k) := by omega
  have htn : ((k : Int) + 1).toNat = k + 1 := by omega
  unfold maxLen at hcm
  clear hown hO hcl fin hvb
  go_enter Try.func97, Try.ntmps97
  go_wp2_with (at_builtin; refine wpList_append_own_at _ rfl (.tmp 32) (.tmp 33) 88 rfl base 91 i0 (.pointer none) 1 8 Try.underlying88 hi hz0 hz1 hz2 rfl (by decide) _ _ _ rfl HO.out ⟨vb, 0, none⟩ 2 2 [p, q] rfl rfl HC.out h1 (by unfold maxLen; omega) (by omega) hbase ?_; intro v' w' o1 g1 n1 a1; refine Hid.out ?_)
  refine Lib.hid ?_
  rw [HF.out, hk2] at o1
  obtain ⟨g', c', rfl, _, _, _, _⟩ := owns_form o1 (by omega)
  have HO1 : Hid (World.ownsRow _ _ _ _ _ _ _) := o1
  have HG1 : Hid (w.grownBy w' (some g)) := g1
  have HA1 : Hid (g' = g ∨ w.heap.size ≤ g') := (by
    rcases a1 with h | h
    · exact .inl (Option.some.inj h)
    · exact .inr (Nat.le_of_eq (Option.some.inj h).symm))
  clear o1 g1 n1 a1
  go_wp2_with fail
  go_ret
  exact RepOut.mk g' c' rfl HO1.out HG1.out HA1.out

/-- Cells shifted up by one behind the place, and two others put there. -/
theorem shift_listQ (A F R : List Value) (k N : Nat) (hF : A.take N = F) (hk : k < N) (hN : N + 1 ≤ A.length) (hR : R.length = 2) :
    let B := A.take (k + 2) ++ F.drop (k + 1) ++ A.drop (k + 2 + (F.drop (k + 1)).length)
    (B.take k ++ R ++ B.drop (k + R.length)).take (N + 1) = F.take k ++ R ++ F.drop (k + 1) ∧ (B.take k ++ R ++ B.drop (k + R.length)).length = A.length ∧ B.length = A.length := by
  intro B
  have hFl : F.length = N := by rw [← hF, List.length_take]; omega
  have hBl : B.length = A.length := by
    show (A.take (k + 2) ++ F.drop (k + 1) ++ A.drop (k + 2 + (F.drop (k + 1)).length)).length = _
    simp only [List.length_append, List.length_take, List.length_drop]
    omega
  have h1 : B.take k = F.take k := by
    show (A.take (k + 2) ++ F.drop (k + 1) ++ A.drop (k + 2 + (F.drop (k + 1)).length)).take k = _
    rw [List.append_assoc, List.take_append_of_le_length (by rw [List.length_take]; omega), List.take_take, ← hF, List.take_take]
    congr 1; omega
  have h2 : B.drop (k + 2) = F.drop (k + 1) ++ A.drop (k + 2 + (F.drop (k + 1)).length) := by
    show (A.take (k + 2) ++ F.drop (k + 1) ++ A.drop (k + 2 + (F.drop (k + 1)).length)).drop (k + 2) = _
    rw [List.append_assoc, List.drop_append_of_le_length (by rw [List.length_take]; omega), List.drop_of_length_le (by rw [List.length_take]; omega), List.nil_append]
  refine ⟨?_, ?_, hBl⟩
  · rw [hR, h1, h2, ← List.append_assoc, List.take_append_of_le_length (by simp only [List.length_append, List.length_take, List.length_drop]; omega), List.take_of_length_le (by simp only [List.length_append, List.length_take, List.length_drop]; omega)]
  · simp only [List.length_append, List.length_take, List.length_drop]; omega

theorem room_facts (g cap n k : Nat) (xs : List Value) (p q : Value) (vb base : Nat) (cur : Array Value) (w wd : World) (hk : k + 1 < n) (hroom : n + 1 ≤ cap) (hcap : cap ≤ maxLen) (hlen : n ≤ 1000) (hbg : base ≤ g)
    (hg : w.heap[g]? = some (.cells cur 91 (0, 0))) (hsz : cur.size = cap) (hcur : cur.toList.take n = xs) (h1 : ∀ u ∈ xs, u.oneCell' = true) (hvb : LiesQ w vb p q) (hp : p.oneCell' = true) (hq : q.oneCell' = true) (hne : vb ≠ g) (hwd : wd.heap = w.heap) (hgr0 : w.grownBy wd (some g)) :
    ∃ W1 W2, (∀ lb cb, (callFunc 136 #[.slice (some ⟨g, k + 2, none⟩) lb cb, .slice (some ⟨vb, 0, none⟩) 2 2]).run Try.prog wd = .ok (.value (.bool false)) wd) ∧
      (∀ ty dc sc, (Builtin.copy_ #[88, 88] ty #[.slice (some ⟨g, k + 2, none⟩) (n - (k + 1)) dc, .slice (some ⟨g, k + 1, none⟩) (n - (k + 1)) sc]).run Try.prog wd.drew = .ok (goInt ((n - (k + 1) : Nat) : Int)) W1) ∧
      (∀ ty dc, (Builtin.copy_ #[88, 88] ty #[.slice (some ⟨g, k, none⟩) (n + 1 - k) dc, .slice (some ⟨vb, 0, none⟩) 2 2]).run Try.prog W1 = .ok (goInt ((2 : Nat) : Int)) W2) ∧
      W2.ownsRow base 91 1 (.slice (some ⟨g, 0, none⟩) (n + 1) cap) (n + 1) (repQ xs k p q) ∧ w.grownBy W2 (some g) := by
  have h2 : ∀ u ∈ [p, q], u.oneCell' = true := by
    intro u hu; simp at hu; rcases hu with rfl | rfl
    · exact hp
    · exact hq
  have hcl : cur.toList.length = cap := by rw [Array.length_toList]; exact hsz
  have hxl : xs.length = n := by rw [← hcur, List.length_take]; omega
  obtain ⟨B, hB⟩ : ∃ B, B = cur.toList.take (k + 2) ++ xs.drop (k + 1) ++ cur.toList.drop (k + 2 + (xs.drop (k + 1)).length) := ⟨_, rfl⟩
  have hR2 : [p, q].length = 2 := rfl
  have hsh := shift_listQ cur.toList xs [p, q] k n hcur (by omega) (by rw [hcl]; omega) hR2
  simp only [← hB] at hsh
  obtain ⟨s1, s2, s3⟩ := hsh
  have hdl : (xs.drop (k + 1)).length = n - (k + 1) := by rw [List.length_drop]; omega
  have hgd : wd.heap[g]? = some (.cells cur 91 (0, 0)) := by rw [hwd]; exact hg
  have hvd : LiesQ wd vb p q := by rw [LiesQ, hwd]; exact hvb
  have hov : ∀ lb cb, (callFunc 136 #[.slice (some ⟨g, k + 2, none⟩) lb cb, .slice (some ⟨vb, 0, none⟩) 2 2]).run Try.prog wd = .ok (.value (.bool false)) wd := fun lb cb => by
    rw [run_callFunc_extern Try.func136 (by kernel_rfl) (by kernel_rfl) (by kernel_rfl) (e := Extern.SlicesOverlaps.overlaps #[88, 88] #[4]) (by kernel_rfl),
      Lib.run_overlaps_apart wd 88 4 91 Try.underlying88 1 sizeQ ⟨g, k + 2, none⟩ ⟨vb, 0, none⟩ lb cb 2 2 (fun e => hne e.symm) 91 91 cur.size 2 (by simp [World.shape?, hgd]) (by simp [World.shape?, hvd]) (by omega) (by simp [World.frozen?, hgd]) (by simp [World.frozen?, hgd])]
    rfl
  obtain ⟨W1, hW1⟩ : ∃ W1, W1 = wd.drew.setRow g B.toArray := ⟨_, rfl⟩
  obtain ⟨W2, hW2⟩ : ∃ W2, W2 = W1.setRow g (B.take k ++ [p, q] ++ B.drop (k + [p, q].length)).toArray := ⟨_, rfl⟩
  have hgdd : wd.drew.heap[g]? = some (.cells cur 91 (0, 0)) := hgd
  have hg1 : W1.heap[g]? = some (.cells B.toArray 91 (0, 0)) := by rw [hW1]; exact setRow_heap _ _ _ _ _ _ hgdd
  have hv1 : LiesQ W1 vb p q := by rw [LiesQ, hW1, setRow_other _ _ _ _ hne]; exact hvd
  have hcp1 : ∀ ty dc sc, (Builtin.copy_ #[88, 88] ty #[.slice (some ⟨g, k + 2, none⟩) (n - (k + 1)) dc, .slice (some ⟨g, k + 1, none⟩) (n - (k + 1)) sc]).run Try.prog wd.drew = .ok (goInt ((n - (k + 1) : Nat) : Int)) W1 := fun ty dc sc => by
    have := run_copy_rowK (P := Try.prog) wd.drew 88 88 ty 91 g (k + 2) (n - (k + 1)) dc ⟨g, k + 1, none⟩ (n - (k + 1)) sc cur 91 (xs.drop (k + 1)) 1 (n - (k + 1)) Try.underlying88 infoQ1 hgdd (by simp only [Nat.min_def]; split <;> omega) (by omega)
      (fun j v hj => by
        rw [add_off, cell_row hgdd]
        rw [List.getElem?_drop] at hj
        have hjl : k + 1 + j < n := by
          have := (List.getElem?_eq_some_iff.1 hj).1
          omega
        rw [← hcur, List.getElem?_take, if_pos hjl] at hj
        rw [← hj, Array.getElem?_toList])
      (by rw [hdl, hsz]; omega) (fun v hv => h1 v (List.mem_of_mem_drop hv))
    rw [this, hW1, hB]
  have hcp2 : ∀ ty dc, (Builtin.copy_ #[88, 88] ty #[.slice (some ⟨g, k, none⟩) (n + 1 - k) dc, .slice (some ⟨vb, 0, none⟩) 2 2]).run Try.prog W1 = .ok (goInt ((2 : Nat) : Int)) W2 := fun ty dc => by
    have := run_copy_rowK (P := Try.prog) W1 88 88 ty 91 g k (n + 1 - k) dc ⟨vb, 0, none⟩ 2 2 B.toArray 91 [p, q] 1 2 Try.underlying88 infoQ1 hg1 (by simp only [Nat.min_def]; split <;> omega) rfl
      (liesQ_cells hv1) (by rw [List.size_toArray, s3, hcl, hR2]; omega) h2
    rw [this, hW2]
  have hrl := repQ_len xs k p q (by omega)
  have hown : W2.ownsRow base 91 1 (.slice (some ⟨g, 0, none⟩) (n + 1) cap) (n + 1) (repQ xs k p q) := by
    refine ⟨by rw [hrl, hxl]; omega, .inr ⟨g, cap, _, rfl, hbg, by rw [hW2]; exact setRow_heap _ _ _ _ _ _ hg1, hroom, hcap, ?_, ?_⟩⟩
    · rw [List.size_toArray, s2, hcl]; omega
    · rw [List.toList_toArray, Nat.mul_one, s1]; rfl
  have hgr : w.grownBy W2 (some g) := by
    have e1 : wd.grownBy W1 (some g) := by
      have := grown_setRow wd.drew g B.toArray
      rw [← hW1] at this
      exact ⟨this.os, this.tape, this.output, this.size, this.block⟩
    have e2 := grown_setRow W1 g (B.take k ++ [p, q] ++ B.drop (k + [p, q].length)).toArray
    rw [← hW2] at e2
    exact (hgr0.trans e1).trans e2
  exact ⟨W1, W2, hov, hcp1, hcp2, hown, hgr⟩
theorem grown_drewN (w : World) (m : Nat) (row : Option Nat) : w.grownBy (w.drewN m) row := ⟨rfl, rfl, rfl, Nat.le_refl _, fun _ _ _ => rfl⟩

set_option maxRecDepth 4000 in
set_option maxHeartbeats 4000000 in
theorem replace_room (g cap n k : Nat) (xs : List Value) (p q : Value) (vb base : Nat) (cur : Array Value) (w : World) (hk : k + 1 < n) (hroom : n + 1 ≤ cap) (hcap : cap ≤ maxLen) (hlen : n ≤ 1000) (hbg : base ≤ g)
    (hg : w.heap[g]? = some (.cells cur 91 (0, 0))) (hsz : cur.size = cap) (hcur : cur.toList.take n = xs) (h1 : ∀ u ∈ xs, u.oneCell' = true) (hvb : LiesQ w vb p q) (hp : p.oneCell' = true) (hq : q.oneCell' = true) (hne : vb ≠ g) :
    Calls Try.prog 97 #[.slice (some ⟨g, 0, none⟩) n cap, .int .i64 k, .int .i64 ((k : Int) + 1), .slice (some ⟨vb, 0, none⟩) 2 2] w fun e w' => RepOut w base g n (repQ xs k p q) e w' := by
  have HRF : Hid (∀ wd : World, wd.heap = w.heap → w.grownBy wd (some g) → _) := fun wd e1 e2 => room_facts g cap n k xs p q vb base cur w wd hk hroom hcap hlen hbg hg hsz hcur h1 hvb hp hq hne e1 e2
  have hz3 : ((k : Int) == (k : Int) + 1) = false := beq_eq_false_iff_ne.mpr (by omega)
  have hz4 : ((k : Int) + 1 == (n : Int)) = false := beq_eq_false_iff_ne.mpr (by omega)
  have hi1 : (k : Int) ≤ (cap : Int) := by omega
  have hi2 : (k : Int) + 1 ≤ (cap : Int) := by omega
  have hi5 : (k : Int) + 1 ≤ (n : Int) := by omega
  have hb4 : ¬ (cap = k) := by omega
  have hb5 : ¬ (cap = k + 1) := by omega
  have hb6 : ¬ (cap = k + 2) := by omega
  have htn : ((k : Int) + 1).toNat = k + 1 := by omega
  have htot : (k : Int) + 2 + ((n - (k + 1) : Nat) : Int) = (n : Int) + 1 := by omega
  have hz6 : ¬ ((cap : Int) < (n : Int) + 1) := by omega
  have hi6 : (n : Int) + 1 ≤ (cap : Int) := by omega
  have htn2 : ((n : Int) + 1).toNat = n + 1 := by omega
  have htn3 : ((k : Int) + 2).toNat = k + 2 := by omega
  have hi7 : (k : Int) + 2 ≤ (n : Int) + 1 := by omega
  have hi8 : (k : Int) ≤ (n : Int) + 1 := by omega
  have hz7 : ¬ ((k : Int) + 2 ≤ (k : Int) + 1) := by omega
  have hb0 : (0 : Int) ≤ (k : Int) + 2 := by omega
  have hb1 : (0 : Int) ≤ (k : Int) + 1 := by omega
  have hw1 : IntKind.i64.wrap ((k : Int) + 2) = (k : Int) + 2 := by rw [IntKind.wrap_i64]; unfold maxLen at hcap; omega
  have hw2 : IntKind.i64.wrap ((k : Int) + 2 + ((n - (k + 1) : Nat) : Int)) = (n : Int) + 1 := by rw [IntKind.wrap_i64]; unfold maxLen at hcap; omega
  unfold maxLen at hcap
  clear hcur hvb hg hsz h1
  go_enter Try.func97, Try.ntmps97
  go_wp2_with fail
  go_quiet (fail)
  obtain ⟨W1, W2, hov, hcp1, hcp2, hown, hgr⟩ := HRF.out (w.drewN nq) rfl (grown_drewN _ _ _)
  generalize w.drewN nq = wd at hov hcp1 ⊢
  have HOWN : Hid (World.ownsRow _ _ _ _ _ _ _) := hown
  have HGR : Hid (w.grownBy W2 (some g)) := hgr
  clear hown hgr HRF
  go_wp2_with (simp only [hov])
  go_region_law (refine step_copyK rfl _ _ 88 88 rfl _ _ (by simp [Act.eval, Act.put]) (by simp [Act.eval, Act.put]) (hcp1 _ _ _) ?_)
  go_wp2_with (at_builtin; refine wpList_copyK _ rfl _ _ 88 88 rfl _ _ rfl rfl (hcp2 _ _) ?_)
  go_ret
  exact RepOut.mk g cap rfl HOWN.out HGR.out (.inl rfl)

end Go.Proofs.Ytnmpfooegnmknaa.Tr
