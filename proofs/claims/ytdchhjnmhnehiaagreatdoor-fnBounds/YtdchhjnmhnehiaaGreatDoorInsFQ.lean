/- What the library's slices.Insert does to a row of fields of the call's own: one field more, at its place. -/
import Derived.Test.YtdchhjnmhnehiaaGreatDoorOwnQ
import Derived.Laws.CopyRow
import Derived.Laws.Externs
import Derived.Lib.Overlaps
import Derived.Lib.AppendZerosOnto
import Derived.Lib.Hide
import Derived.Maps.AppendAt
import Derived.Deep.RegionLaw
import Derived.Test.YtdchhjnmhnehiaaGreatDoorListAQ
import Derived.Deep.RegionWith
import Derived.Deep.DeepCutAuto
import Derived.Test.YtdchhjnmhnehiaaGreatDoorFindM
namespace Go.Proofs.YtdchhjnmhnehiaaGreatDoor
open Go.RowKit
set_option linter.unusedVariables false

/-- copy between rows whose elements have k cells each. -/
theorem run_copy_rowK {P : Program} (w : World) (dT sT ty elem : TypeId) (g o dLen dCap : Nat) (a : Addr) (sLen sCap : Nat) (cur : Array Value) (t : TypeId) (cs : List Value) (k m : Nat)
    (hu : P.underlying dT = some (.slice elem)) (hs : (P.info? elem).map (·.size) = some k) (hg : w.heap[g]? = some (.cells cur t (0, 0))) (hm : Nat.min sLen dLen = m) (hn : cs.length = m * k)
    (hsrc : ∀ j v, cs[j]? = some v → w.cell? (a.add j) = some v) (hfit : o + cs.length ≤ cur.size) (h1 : ∀ v ∈ cs, v.oneCell' = true) :
    (Builtin.copy_ #[dT, sT] ty #[.slice (some ⟨g, o, none⟩) dLen dCap, .slice (some a) sLen sCap]).run P w = .ok (goInt m) (w.setRow g (cur.toList.take o ++ cs ++ cur.toList.drop (o + cs.length)).toArray) := by
  have hl := run_loadCells_list (P := P) w a cs hsrc
  have hst := run_storeCells_at P g o t cs 0 cur w hg (by simpa using hfit) h1
  cases hq : P.info? elem with
  | none => simp [hq] at hs
  | some i =>
    have hi : i.size = k := by simpa [hq] using hs
    simp [Builtin.copy_, run_underlying hu, Builtin.lenOf, Builtin.firstCells, sizeOf, typeInfo, hq, hi, hm, ← hn, hl, hst]
theorem wpList_copyK {P : Program} (w : World) {ops : Array Oper} {rest : List Oper} {o : Oper} {a : Act} {Q : Exit → Act → World → Prop} (hgd : o.guard = none) (d s : Operand) (t t' : TypeId)
    (ho : o.op = .call { callee := .builtin .copy, args := #[d, s], argTypes := #[t, t'] }) (v u : Value) (hd : a.eval d = v) (hs : a.eval s = u) {v' : Value} {w' : World}
    (hr : (Builtin.copy_ #[t, t'] o.type #[v, u]).run P w = .ok v' w') (h : wpList P ops Q rest (a.put o.dst v') w') : wpList P ops Q (o :: rest) a w :=
  wpList_plain hgd fun _ hK => by
    unfold Oper.wp execOp
    simp only [ho, resolve, invoke, builtin, Sem.run_bind, Sem.run_pure, Result.andThen_ok, List.map_toArray, List.map_cons, List.map_nil, hd, hs, hr]
    exact hK _ _ h
theorem step_copyK {P : Program} {ops : Array Oper} {o : Oper} {a : Act} {w : World} {K : Act → World → Prop} {Q : Exit → Act → World → Prop} {E : Prop} (hgd : o.guard = none) (d s : Operand) (t t' : TypeId)
    (ho : o.op = .call { callee := .builtin .copy, args := #[d, s], argTypes := #[t, t'] }) (v u : Value) (hd : a.eval d = v) (hs : a.eval s = u) {v' : Value} {w' : World}
    (hr : (Builtin.copy_ #[t, t'] o.type #[v, u]).run P w = .ok v' w') (hK : K (a.put o.dst v') w') : if Region.wanted o (yielded ops a.tmps) = true then Oper.wp P o a w K Q else E := by
  have hw : Region.wanted o (yielded ops a.tmps) = true := by simp [Region.wanted, hgd]
  rw [if_pos hw]
  unfold Oper.wp execOp
  simp only [ho, resolve, invoke, builtin, Sem.run_bind, Sem.run_pure, Result.andThen_ok, List.map_toArray, List.map_cons, List.map_nil, hd, hs, hr]
  exact hK
theorem setRow_size (w : World) (g : Nat) (cs : Array Value) : (w.setRow g cs).heap.size = w.heap.size := by simp [World.setRow]
theorem grown_setRow (w : World) (g : Nat) (cs : Array Value) : w.grownBy (w.setRow g cs) (some g) :=
  ⟨rfl, rfl, rfl, by rw [setRow_size]; exact Nat.le_refl _, fun k hk hne => setRow_other w g k cs (fun e => hne (by rw [e]))⟩

/-- A field put in at a place. -/
def insL (l : List Fld) (i : Nat) (f : Fld) : List Fld := l.take i ++ f :: l.drop i
theorem insL_end (l : List Fld) (f : Fld) : insL l l.length f = l ++ [f] := by unfold insL; rw [List.take_length, List.drop_length]
theorem insL_len (l : List Fld) (i : Nat) (f : Fld) (h : i ≤ l.length) : (insL l i f).length = l.length + 1 := by unfold insL; rw [List.length_append, List.length_take, List.length_cons, List.length_drop]; omega
theorem flatF_app (a b : List Fld) : flatF (a ++ b) = flatF a ++ flatF b := by unfold flatF; rw [List.flatMap_append]
theorem flatF_len (l : List Fld) : (flatF l).length = l.length * 4 := by
  induction l with
  | nil => rfl
  | cons f r ih => rw [flatF_cons]; simp only [List.length_cons]; omega
theorem flatF_take (l : List Fld) (i : Nat) (h : i ≤ l.length) : (flatF l).take (i * 4) = flatF (l.take i) := by
  conv => lhs; rw [← List.take_append_drop i l, flatF_app]
  rw [List.take_append_of_le_length (by rw [flatF_len, List.length_take]; omega), List.take_of_length_le (by rw [flatF_len, List.length_take]; omega)]
theorem flatF_drop (l : List Fld) (i : Nat) (h : i ≤ l.length) : (flatF l).drop (i * 4) = flatF (l.drop i) := by
  conv => lhs; rw [← List.take_append_drop i l, flatF_app]
  rw [List.drop_append_of_le_length (by rw [flatF_len, List.length_take]; omega), List.drop_of_length_le (by rw [flatF_len, List.length_take]; omega), List.nil_append]
theorem flatF_ins (l : List Fld) (i : Nat) (f : Fld) (h : i ≤ l.length) : flatF (insL l i f) = (flatF l).take (i * 4) ++ rowF f ++ (flatF l).drop (i * 4) := by
  unfold insL
  rw [flatF_app, flatF_take l i h, flatF_drop l i h, List.append_assoc]; rfl
theorem flatF_one (l : List Fld) : ∀ u ∈ flatF l, u.oneCell' = true := by
  intro u hu
  unfold flatF at hu
  obtain ⟨f, _, hf⟩ := List.mem_flatMap.mp hu
  unfold rowF at hf
  simp only [List.mem_cons, List.not_mem_nil, or_false] at hf
  rcases hf with rfl | rfl | rfl | rfl <;> rfl
theorem rowF_one (f : Fld) : ∀ u ∈ rowF f, u.oneCell' = true := by
  have := flatF_one [f]
  simpa [flatF] using this
/-- The one field that is put in lies in a block of its own. -/
abbrev LiesF (w : World) (vb : Nat) (f : Fld) : Prop := w.heap[vb]? = some (.cells #[.string f.name, .int .i64 f.v.k, .int .i64 f.v.n, .string f.v.t] 98 (0, 0))
theorem liesF_cells {w : World} {vb : Nat} {f : Fld} (h : LiesF w vb f) : ∀ j u, (rowF f)[j]? = some u → w.cell? ((⟨vb, 0, none⟩ : Addr).add j) = some u := by
  intro j u hj
  unfold rowF at hj
  match j, hj with
  | 0, hj => simp at hj; subst hj; simp [Addr.add, World.cell?, h]
  | 1, hj => simp at hj; subst hj; simp [Addr.add, World.cell?, h]
  | 2, hj => simp at hj; subst hj; simp [Addr.add, World.cell?, h]
  | 3, hj => simp at hj; subst hj; simp [Addr.add, World.cell?, h]
  | j + 4, hj => simp at hj

/-- What putting a field in leaves. -/
def InsOut (w : World) (base : Nat) (v : Value) (l : List Fld) (e : Ending) (w' : World) : Prop :=
  ∃ v', e = .returned v' ∧ w'.ownsRow base 98 4 v' l.length (flatF l) ∧ w.grownBy w' v.ownBlock ∧ (v'.ownBlock = v.ownBlock ∨ ∃ g, w.heap.size ≤ g ∧ v'.ownBlock = some g)
theorem InsOut.mk {w : World} {base : Nat} {v : Value} {l : List Fld} {e : Ending} {w' : World} (v' : Value) (h : e = .returned v') (ho : w'.ownsRow base 98 4 v' l.length (flatF l)) (hg : w.grownBy w' v.ownBlock) (hat : v'.ownBlock = v.ownBlock ∨ ∃ g, w.heap.size ≤ g ∧ v'.ownBlock = some g) : InsOut w base v l e w' := ⟨v', h, ho, hg, hat⟩

end Go.Proofs.YtdchhjnmhnehiaaGreatDoor

/- What the specification's making of documents answers, for every row of fields with right values. -/
namespace Go.Proofs.YtdchhjnmhnehiaaGreatDoor
open Go.RowKit
set_option linter.unusedVariables false

/-- The bytes of fields one behind the other. -/
def encFL (l : List Fld) : List Int := l.flatMap encF
theorem encFL_take (l : List Fld) (k : Nat) (h : k < l.length) : encFL (l.take (k + 1)) = encFL (l.take k) ++ encF l[k] := by
  unfold encFL; rw [List.take_succ_eq_append_getElem h, List.flatMap_append, List.flatMap_singleton]
theorem encF_len (f : Fld) (h : okB f.v = true ∧ f.name.size < 256) : (encF f).length ≤ 700 := by
  unfold encF
  have := (encB_len f.v h.1).2
  rw [List.length_append, List.length_append, numB_len, bytesI_len]; omega
theorem encFL_len (l : List Fld) (h : ∀ f ∈ l, okB f.v = true ∧ f.name.size < 256) : (encFL l).length ≤ l.length * 700 := by
  induction l with
  | nil => simp [encFL]
  | cons f l ih =>
    have h1 := encF_len f (h f (by simp))
    have h2 := ih (fun u hu => h u (by simp [hu]))
    unfold encFL at h2 ⊢
    rw [List.flatMap_cons, List.length_append, List.length_cons]; omega
theorem encFL_take_len (l : List Fld) (h : ∀ f ∈ l, okB f.v = true ∧ f.name.size < 256) (k : Nat) (hl : l.length ≤ 300) : (encFL (l.take k)).length ≤ 210000 := by
  have := encFL_len (l.take k) (fun v hv => h v (List.mem_of_mem_take hv))
  have h2 : (l.take k).length ≤ l.length := by simp; omega
  omega
theorem encF_txt (f : Fld) : txt (encF f) = txt (numB f.name.size 1) ++ f.name ++ txt (encB f.v) := by
  unfold encF; rw [txt_append, txt_append, txt_bytes]

theorem keep4 {W W' : World} {g k : Nat} {a b c d : Value} (hb : Below W.heap.size W W') (hg : g < W.heap.size) (h : W.cell? ⟨g, k * 4, none⟩ = some a ∧ W.cell? ⟨g, k * 4 + 1, none⟩ = some b ∧ W.cell? ⟨g, k * 4 + 2, none⟩ = some c ∧ W.cell? ⟨g, k * 4 + 3, none⟩ = some d) :
    W'.cell? ⟨g, k * 4, none⟩ = some a ∧ W'.cell? ⟨g, k * 4 + 1, none⟩ = some b ∧ W'.cell? ⟨g, k * 4 + 2, none⟩ = some c ∧ W'.cell? ⟨g, k * 4 + 3, none⟩ = some d :=
  ⟨(hb.cell (p := ⟨g, k * 4, none⟩) hg).trans h.1, (hb.cell (p := ⟨g, k * 4 + 1, none⟩) hg).trans h.2.1, (hb.cell (p := ⟨g, k * 4 + 2, none⟩) hg).trans h.2.2.1, (hb.cell (p := ⟨g, k * 4 + 3, none⟩) hg).trans h.2.2.2⟩
set_option maxRecDepth 4000 in
set_option maxHeartbeats 2000000 in
theorem l01Doc_any (g cap : Nat) (l : List Fld) (w : World) (hr : ReadF w g l) (hl : l.length ≤ 300) (hall : ∀ f ∈ l, okB f.v = true ∧ f.name.size < 256) :
    Calls Tryz.prog 60 #[.slice (some ⟨g, 0, none⟩) l.length cap] w fun e w' => e = .returned (.agg #[.int .i64 5, .int .i64 0, .string (txt (encFL l))]) ∧ Below w.heap.size w w' := by
  have HR : Hid _ := hr
  have HA : Hid _ := hall
  clear hr hall
  go_enter Tryz.func60, Tryz.ntmps60
  go_wp2_with fail
  go_loopw [3, 4] (fun u i wr => ∃ k : Nat, k ≤ l.length ∧ i = .int .i64 k ∧ u = .string (txt (encFL (l.take k))) ∧ Res3 w wr (.int .i64 0) (.int .i64 0) (.string em)) (fun _ i _ => l.length - (intOf i).toNat)
  case atStart => exact ⟨0, Nat.zero_le _, rfl, rfl, Res3.start w _ _ _ _⟩
  case round =>
    obtain ⟨k, hk, rfl, rfl, X0⟩ := hrel
    have hbel := X0.bel
    have hz := hbel.size
    by_cases hlt : k < l.length
    · have R := (HR.out.next hbel)
      obtain ⟨x0, x1, x2, x3⟩ := R.cells k hlt
      have hgl := R.lt
      have hok := HA.out l[k] (List.getElem_mem _)
      have HK : Hid _ := hok.1
      have hnm := hok.2
      have hsz : (txt (encFL (l.take k))).size ≤ 210000 := by rw [txt_size]; exact encFL_take_len l HA.out k hl
      have hsz2 : (txt (encB l[k].v)).size ≤ 400 := by rw [txt_size]; exact (encB_len _ hok.1).2
      have hsz3 : (txt (numB l[k].name.size 1)).size = 1 := by rw [txt_size, numB_len]
      have hsz4 : (txt (numB l[k].name.size 1) ++ l[k].name).size ≤ 256 := by rw [ByteArray.size_append]; omega
      have hsz5 : (txt (numB l[k].name.size 1) ++ l[k].name ++ txt (encB l[k].v)).size ≤ 656 := by rw [ByteArray.size_append]; omega
      have hcon1 : ¬ 9223372036854775807 < (txt (numB l[k].name.size 1)).size + l[k].name.size := by omega
      have hcon2 : ¬ 9223372036854775807 < 1 + l[k].name.size := by omega
      have hcon3 : ¬ 9223372036854775807 < (txt (numB l[k].name.size 1) ++ l[k].name).size + (txt (encB l[k].v)).size := by omega
      have hcon4 : ¬ 9223372036854775807 < 1 + l[k].name.size + (txt (encB l[k].v)).size := by omega
      have hcon5 : ¬ 9223372036854775807 < (txt (encFL (l.take k))).size + (txt (numB l[k].name.size 1) ++ l[k].name ++ txt (encB l[k].v)).size := by omega
      have hcon6 : ¬ 9223372036854775807 < (txt (encFL (l.take k))).size + (1 + l[k].name.size + (txt (encB l[k].v)).size) := by omega
      have hcat : txt (encFL (l.take (k + 1))) = txt (encFL (l.take k)) ++ (txt (numB l[k].name.size 1) ++ l[k].name ++ txt (encB l[k].v)) := by rw [encFL_take l k hlt, txt_append, encF_txt]
      have HCAT : Hid (_ = _) := hcat
      clear hok R hcat
      go_wp2_with fail
      go_region_with (first
        | (go_at_call 87; refine (l01Number_any _ 1 _ (by omega)).mono ?_; rintro e w1 ⟨rfl, hb1⟩; have B1 : Below wr.heap.size wr w1 := Below.trans (by (repeat (first | (with_reducible exact Below.refl _ _) | (with_reducible assumption) | (with_reducible apply below_drewN) | (with_reducible apply Below.drew) | ((with_reducible refine Below.setCell ?_ ?_ _); rotate_left; focus (first | (simp; done) | (simp; omega) | omega)) | ((with_reducible refine Below.alloc ?_ ?_ _); rotate_left; focus (first | (simp; done) | (simp; omega) | omega))))) (hb1.mono (by first | omega | (simp; done) | (simp; omega))); have hzz1 := B1.size; have hg1 : g < w1.heap.size := Nat.lt_of_lt_of_le (by first | omega | (simp; omega)) hb1.size; obtain ⟨y0, y1, y2, y3⟩ := keep4 hb1 (by first | omega | (simp; omega)) (by first | exact ⟨x0, x1, x2, x3⟩ | exact ⟨v0, v1, v2, v3⟩))
        | (go_at_call 88; refine (l01Encode_any l[k].v HK.out _).mono ?_; rintro e w2 ⟨rfl, hb2⟩; have B2 : Below wr.heap.size wr w2 := Below.trans (by (repeat (first | (with_reducible exact Below.refl _ _) | (with_reducible assumption) | (with_reducible apply below_drewN) | (with_reducible apply Below.drew) | ((with_reducible refine Below.setCell ?_ ?_ _); rotate_left; focus (first | (simp; done) | (simp; omega) | omega)) | ((with_reducible refine Below.alloc ?_ ?_ _); rotate_left; focus (first | (simp; done) | (simp; omega) | omega))))) (hb2.mono (by first | omega | (simp; done) | (simp; omega))); have hzz2 := B2.size; have hg2 : g < w2.heap.size := Nat.lt_of_lt_of_le (by first | omega | (simp; omega)) hb2.size; obtain ⟨v0, v1, v2, v3⟩ := keep4 hb2 (by first | omega | (simp; omega)) (by first | exact ⟨x0, x1, x2, x3⟩ | exact ⟨y0, y1, y2, y3⟩)))
      all_goals
        clear x0 x1 x2 x3 hb1 hb2
        go_wp2_with fail
        go_roundw
        case rel => exact ⟨k + 1, by omega, by go_num, by rw [HCAT.out], X0.step (by (repeat (first | (with_reducible exact Below.refl _ _) | (with_reducible assumption) | (with_reducible apply below_drewN) | (with_reducible apply Below.drew) | ((with_reducible refine Below.setCell ?_ ?_ _); rotate_left; focus (first | (simp; done) | (simp; omega) | omega)) | ((with_reducible refine Below.alloc ?_ ?_ _); rotate_left; focus (first | (simp; done) | (simp; omega) | omega)))))⟩
        case measure => simp [intOf]; omega
    · have g0 := X0.c0
      have g1 := X0.c1
      have g2 := X0.c2
      have z0 := X0.z0
      have z1 := X0.z1
      have z2 := X0.z2
      have hlt1 := X0.lt
      clear X0
      have e : l.take k = l := List.take_of_length_le (by omega)
      rw [e]
      go_wp2_with fail
      refine bodyPost_ret (v := .agg #[.int .i64 5, .int .i64 0, .string (txt (encFL l))]) (by simp [results, Tryz.results60, go_sem, *]) rfl ⟨rfl, ?_⟩
      (repeat (first | (with_reducible exact Below.refl _ _) | (with_reducible assumption) | (with_reducible apply below_drewN) | (with_reducible apply Below.drew) | ((with_reducible refine Below.setCell ?_ ?_ _); rotate_left; focus (first | (simp; done) | (simp; omega) | omega)) | ((with_reducible refine Below.alloc ?_ ?_ _); rotate_left; focus (first | (simp; done) | (simp; omega) | omega))))

end Go.Proofs.YtdchhjnmhnehiaaGreatDoor

/- Fields put in the order of their names, and the document that is made of them, said plainly. Nothing of the program is used here. -/
namespace Go.Proofs.YtdchhjnmhnehiaaGreatDoor
open Go.RowKit
set_option linter.unusedVariables false

theorem takeWhile_at {α : Type} (p : α → Bool) : ∀ (l : List α) (i : Nat), i ≤ l.length → (∀ q (h : q < l.length), q < i → p l[q] = true) → (∀ h : i < l.length, p l[i] = false) → (l.takeWhile p).length = i
  | [], i, hi, _, _ => by simp at hi; simp [hi]
  | x :: r, 0, _, _, h => by have h' : p x = false := h (by simp); simp [h']
  | x :: r, i + 1, hi, h1, h2 => by
    have h0 : p x = true := h1 0 (by simp) (by omega)
    rw [List.takeWhile_cons, if_pos h0, List.length_cons, takeWhile_at p r i (by simpa using hi) (fun q hq hlt => by have := h1 (q + 1) (by simpa using hq) (by omega); simpa using this) (fun h => by have := h2 (by simpa using h); simpa using this)]
/-- How many names are ahead of a name. -/
def pN (nm : ByteArray) (l : List Fld) : Nat := (l.takeWhile (fun g => ltB g.name nm)).length
def hasN (nm : ByteArray) (l : List Fld) : Bool := l.any (fun g => decide (g.name = nm))
theorem hasN_true {nm : ByteArray} {l : List Fld} (f : Fld) (hf : f ∈ l) (h : f.name = nm) : hasN nm l = true := by
  unfold hasN; rw [List.any_eq_true]; exact ⟨f, hf, decide_eq_true h⟩
theorem hasN_false {nm : ByteArray} {l : List Fld} (h : ∀ f ∈ l, f.name ≠ nm) : hasN nm l = false := by
  unfold hasN; rw [List.any_eq_false]; exact fun f hf => by simpa using h f hf
theorem Place.pos {l : List Fld} {nm : ByteArray} {i : Nat} {b : Bool} (h : Place l nm i b) : pN nm l = i :=
  takeWhile_at _ l i h.le (fun q hq hlt => h.lo q hq hlt) (fun hh => h.hi i hh (Nat.le_refl _))
theorem Place.absent {l : List Fld} {nm : ByteArray} {i : Nat} (hr : Rise l) (h : Place l nm i false) : ∀ f ∈ l, f.name ≠ nm := fun f hf e => by
  obtain ⟨q, hq, rfl⟩ := List.getElem_of_mem hf
  rcases Nat.lt_or_ge q i with hlt | hge
  · have := h.lo q hq hlt; rw [e, ltB_irrefl] at this; cases this
  · rcases Nat.lt_or_ge i q with hlt | hge2
    · have h1 := hr i q (by omega) hq hlt
      rw [e] at h1
      have := h.hi i (by omega) (Nat.le_refl _)
      rw [this] at h1; cases h1
    · obtain rfl : q = i := by omega
      have := h.there.mpr ⟨hq, e⟩; cases this
theorem Place.has {l : List Fld} {nm : ByteArray} {i : Nat} {b : Bool} (hr : Rise l) (h : Place l nm i b) : hasN nm l = b := by
  cases b
  · exact hasN_false (h.absent hr)
  · obtain ⟨hi, he, _⟩ := h.some
    exact hasN_true _ (List.getElem_mem hi) he

theorem ltB_of {a b : ByteArray} (h : ltB a b = false) (hne : a ≠ b) : ltB b a = true := by
  have := less_total a.toList b.toList
  have e : (b.toList == a.toList) = false := eqL_false b a (fun e => hne e.symm)
  unfold ltB at h ⊢
  rw [e, h] at this
  simpa using this
theorem rise_pair (l : List Fld) : Rise l ↔ l.Pairwise (fun a b => ltB a.name b.name = true) := by
  rw [List.pairwise_iff_getElem]; exact Iff.rfl
theorem rise_ins {l : List Fld} {f : Fld} {i : Nat} (hr : Rise l) (h : Place l f.name i false) : Rise (insL l i f) := by
  have ha := h.absent hr
  rw [rise_pair] at hr ⊢
  unfold insL
  rw [List.pairwise_append, List.pairwise_cons]
  have hlo : ∀ g ∈ l.take i, ltB g.name f.name = true := fun g hg => by
    obtain ⟨q, hq, rfl⟩ := List.getElem_of_mem hg
    have hq2 : q < i ∧ q < l.length := by rw [List.length_take] at hq; omega
    rw [List.getElem_take]; exact h.lo q hq2.2 hq2.1
  have hhi : ∀ g ∈ l.drop i, ltB f.name g.name = true := fun g hg => by
    obtain ⟨q, hq, rfl⟩ := List.getElem_of_mem hg
    have hq2 : i + q < l.length := by rw [List.length_drop] at hq; omega
    rw [List.getElem_drop]
    exact ltB_of (h.hi (i + q) hq2 (by omega)) (ha _ (List.getElem_mem hq2))
  refine ⟨hr.sublist (List.take_sublist _ _), ⟨hhi, hr.sublist (List.drop_sublist _ _)⟩, ?_⟩
  intro a hA b hB
  rcases List.mem_cons.mp hB with rfl | hB
  · exact hlo a hA
  · exact ltB_trans (hlo a hA) (hhi b hB)

/-- Fields that rise, with short names and right values. -/
structure GoodF (l : List Fld) : Prop where
  rise : Rise l
  all : ∀ f ∈ l, shortB f.name = true ∧ okB f.v = true
theorem GoodF.nil : GoodF [] := ⟨fun i j hi => by simp at hi, fun f hf => by simp at hf⟩
theorem GoodF.ins {l : List Fld} {f : Fld} {i : Nat} (h : GoodF l) (hn : shortB f.name = true) (ho : okB f.v = true) (hp : Place l f.name i false) : GoodF (insL l i f) :=
  ⟨rise_ins h.rise hp, fun g hg => by
    unfold insL at hg
    rcases List.mem_append.mp hg with hg | hg
    · exact h.all g (List.mem_of_mem_take hg)
    · rcases List.mem_cons.mp hg with rfl | hg
      · exact ⟨hn, ho⟩
      · exact h.all g (List.mem_of_mem_drop hg)⟩
theorem short_size {s : ByteArray} (h : shortB s = true) : s.size ≤ 12 := by
  unfold shortB at h; rw [Bool.and_eq_true, decide_eq_true_eq] at h; exact h.1
theorem short_some {s : ByteArray} (h : shortB s = true) : ltB em s = true := by
  unfold shortB at h; rw [Bool.and_eq_true] at h
  have h2 := h.2
  unfold nameB at h2
  unfold ltB
  rw [ByteArray.toList_eq, ByteArray.toList_eq]
  show Op.bytesLess [] s.data.toList = true
  cases hc : s.data.toList with
  | nil => rw [hc] at h2; cases h2
  | cons a r => rfl
theorem riseAll_of (p : Val → Bool) : ∀ (l : List Fld) (last : ByteArray), l.Pairwise (fun a b => ltB a.name b.name = true) → (∀ f ∈ l, ltB last f.name = true) → (∀ f ∈ l, shortB f.name = true ∧ p f.v = true) → riseAll p last l = true
  | [], _, _, _, _ => rfl
  | f :: r, last, h1, h2, h3 => by
    rw [List.pairwise_cons] at h1
    have hf := h3 f (by simp)
    rw [riseAll, hf.1, h2 f (by simp), hf.2, riseAll_of p r f.name h1.2 h1.1 (fun g hg => h3 g (by simp [hg]))]; rfl
theorem GoodF.riseAll {l : List Fld} (h : GoodF l) (p : Val → Bool) (hp : ∀ f ∈ l, p f.v = true) : riseAll p em l = true :=
  riseAll_of p l em ((rise_pair l).mp h.rise) (fun f hf => short_some (h.all f hf).1) (fun f hf => ⟨(h.all f hf).1, hp f hf⟩)
theorem GoodF.names {l : List Fld} (h : GoodF l) : ∀ f ∈ l, okB f.v = true ∧ f.name.size < 256 := fun f hf => ⟨(h.all f hf).2, by have := short_size (h.all f hf).1; omega⟩

/-- Fields put in one by one; a code, if one of them can't be. -/
def foldD : List Fld → List Fld → Except Int (List Fld)
  | acc, [] => .ok acc
  | acc, f :: r => if shortB f.name = false then .error 11 else if okB f.v = false then .error 1 else if hasN f.name acc = true then .error 12 else foldD (insL acc (pN f.name acc) f) r
theorem foldD_end (acc l : List Fld) (k : Nat) (h : l.length ≤ k) : foldD acc (l.drop k) = .ok acc := by rw [List.drop_of_length_le h]; rfl
theorem foldD_name (acc l : List Fld) (k : Nat) (hk : k < l.length) (h : shortB l[k].name = false) : foldD acc (l.drop k) = .error 11 := by
  rw [List.drop_eq_getElem_cons hk, foldD, if_pos h]
theorem foldD_bad (acc l : List Fld) (k : Nat) (hk : k < l.length) (h : shortB l[k].name = true) (h1 : okB l[k].v = false) : foldD acc (l.drop k) = .error 1 := by
  rw [List.drop_eq_getElem_cons hk, foldD, if_neg (by simp [h]), if_pos h1]
theorem foldD_twice (acc l : List Fld) (k : Nat) (hk : k < l.length) (h : shortB l[k].name = true) (h1 : okB l[k].v = true) (h2 : hasN l[k].name acc = true) : foldD acc (l.drop k) = .error 12 := by
  rw [List.drop_eq_getElem_cons hk, foldD, if_neg (by simp [h]), if_neg (by simp [h1]), if_pos h2]
theorem foldD_next (acc l : List Fld) (k i : Nat) (hk : k < l.length) (h : shortB l[k].name = true) (h1 : okB l[k].v = true) (hr : Rise acc) (hp : Place acc l[k].name i false) : foldD acc (l.drop k) = foldD (insL acc i l[k]) (l.drop (k + 1)) := by
  rw [List.drop_eq_getElem_cons hk, foldD, if_neg (by simp [h]), if_neg (by simp [h1]), if_neg (by simp [hp.has hr]), hp.pos]

/-- What is answered of a made document that is made of right fields. -/
def fitD (l : List Fld) : Val × Int :=
  if 300 < (encFL l).length then (zv, 10)
  else if 4 < dF (depthV 5) l then (zv, 9)
  else (⟨5, 0, txt (encFL l)⟩, 0)
def foldP : Except Int (List Fld) → Val × Int
  | .error c => (zv, c)
  | .ok s => fitD s
/-- What a call that makes a document answers: a value, and a code. -/
def madeP (l : List Fld) : Val × Int :=
  if 4096 < l.length then (zv, 2)
  else if 300 < l.length then (zv, 10)
  else foldP (foldD [] l)
theorem madeP_long (l : List Fld) (h : 4096 < l.length) : madeP l = (zv, 2) := by unfold madeP; rw [if_pos h]
theorem madeP_many (l : List Fld) (h : ¬ 4096 < l.length) (h2 : 300 < l.length) : madeP l = (zv, 10) := by unfold madeP; rw [if_neg h, if_pos h2]
theorem madeP_few (l : List Fld) (h2 : ¬ 300 < l.length) : madeP l = foldP (foldD [] l) := by unfold madeP; rw [if_neg (by omega), if_neg h2]
theorem fitD_size (l : List Fld) (h : 300 < (encFL l).length) : fitD l = (zv, 10) := by unfold fitD; rw [if_pos h]
theorem fitD_deep (l : List Fld) (h : ¬ 300 < (encFL l).length) (h2 : 4 < dF (depthV 5) l) : fitD l = (zv, 9) := by unfold fitD; rw [if_neg h, if_pos h2]
theorem fitD_ok (l : List Fld) (h : ¬ 300 < (encFL l).length) (h2 : ¬ 4 < dF (depthV 5) l) : fitD l = (⟨5, 0, txt (encFL l)⟩, 0) := by unfold fitD; rw [if_neg h, if_neg h2]
theorem madeD_ok (l : List Fld) (hg : GoodF l) (h : ¬ 300 < (encFL l).length) : okB ⟨5, 0, txt (encFL l)⟩ = decide (dF (depthV 5) l ≤ 4) :=
  doc_made l (fun f hf => (hg.all f hf).2) (hg.riseAll _ (fun _ _ => rfl)) (by unfold encFL at h; omega)
theorem madeD_fits (l : List Fld) (hg : GoodF l) (h : ¬ 300 < (encFL l).length) : fits 6 ⟨5, 0, txt (encFL l)⟩ = true ∧ depthV 6 ⟨5, 0, txt (encFL l)⟩ = dF (depthV 5) l + 1 := by
  have hi : fields (txt (encFL l)) = some l := fields_enc l hg.names
  constructor
  · rw [fits_doc 5 _ rfl]
    show (decide ((0 : Int) = 0 ∧ (txt (encFL l)).size ≤ 300) && fieldsAll (fits 5) em (fields (txt (encFL l)))) = true
    rw [hi, Bool.and_eq_true, decide_eq_true_eq]
    exact ⟨⟨rfl, by rw [txt_size]; omega⟩, hg.riseAll _ (fun f hf => (hg.all f hf).2)⟩
  · exact depthV_doc 5 _ l rfl hi

end Go.Proofs.YtdchhjnmhnehiaaGreatDoor
