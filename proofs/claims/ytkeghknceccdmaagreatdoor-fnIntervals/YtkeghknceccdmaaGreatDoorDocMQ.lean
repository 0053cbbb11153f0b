/- Fields put in the order of their names, and the document that is made of them, said plainly. Nothing of the program is used here. -/
import Derived.Test.YtkeghknceccdmaaGreatDoorFindM
import Derived.Test.YtkeghknceccdmaaGreatDoorInsFQ
import Derived.Test.YtkeghknceccdmaaGreatDoorDrawDQ
import Derived.Test.YtkeghknceccdmaaGreatDoorOwnQ
import Derived.Test.YtkeghknceccdmaaGreatDoorDepthIQ
import Derived.Test.YtkeghknceccdmaaGreatDoorOrdSQ
import Derived.Lib.Hide
namespace Go.Proofs.YtkeghknceccdmaaGreatDoor
open Go.RowKit
set_option linter.unusedVariables false

theorem takeWhile_at {α : Type} (p : α → Bool) : ∀ (l : List α) (i : Nat), i ≤ l.length → (∀ q (h : q < l.length), q < i → p l[q] = true) → (∀ h : i < l.length, p l[i] = false) → (l.takeWhile p).length = i
  | [], i, hi, _, _ => by simp at hi; simp [hi]
  | x :: r, 0, _, _, h => by have h' : p x = false := h (by simp); simp [h']
  | x :: r, i + 1, hi, h1, h2 => by
    have h0 : p x = true := h1 0 (by simp) (by omega)
    rw [List.takeWhile_cons, if_pos h0, List.length_cons, takeWhile_at p r i (by simpa using hi) (fun q hq hlt => by have := h1 (q + 1) (by simpa using hq) (by omega); simpa using this) (fun h => by have := h2 (by simpa using h); simpa using this)]
/-- How many names are ahead of a name. -/
def pN (nm : ByteArray) (l : List Fld) : Nat := (l.takeWhile (fun g => ltB g.name nm)).length
def hasN (nm : ByteArray) (l : List Fld) : Bool := l.any (fun g => decide (g.name = nm))
theorem hasN_true {nm : ByteArray} {l : List Fld} (f : Fld) (hf : f ∈ l) (h : f.name = nm) : hasN nm l = true := by
  unfold hasN; rw [List.any_eq_true]; exact ⟨f, hf, decide_eq_true h⟩
theorem hasN_false {nm : ByteArray} {l : List Fld} (h : ∀ f ∈ l, f.name ≠ nm) : hasN nm l = false := by
  unfold hasN; rw [List.any_eq_false]; exact fun f hf => by simpa using h f hf
theorem Place.pos {l : List Fld} {nm : ByteArray} {i : Nat} {b : Bool} (h : Place l nm i b) : pN nm l = i :=
  takeWhile_at _ l i h.le (fun q hq hlt => h.lo q hq hlt) (fun hh => h.hi i hh (Nat.le_refl _))
theorem Place.absent {l : List Fld} {nm : ByteArray} {i : Nat} (hr : Rise l) (h : Place l nm i false) : ∀ f ∈ l, f.name ≠ nm := fun f hf e => by
  obtain ⟨q, hq, rfl⟩ := List.getElem_of_mem hf
  rcases Nat.lt_or_ge q i with hlt | hge
  · have := h.lo q hq hlt; rw [e, ltB_irrefl] at this; cases this
  · rcases Nat.lt_or_ge i q with hlt | hge2
    · have h1 := hr i q (by omega) hq hlt
      rw [e] at h1
      have := h.hi i (by omega) (Nat.le_refl _)
      rw [this] at h1; cases h1
    · obtain rfl : q = i := by omega
      have := h.there.mpr ⟨hq, e⟩; cases this
theorem Place.has {l : List Fld} {nm : ByteArray} {i : Nat} {b : Bool} (hr : Rise l) (h : Place l nm i b) : hasN nm l = b := by
  cases b
  · exact hasN_false (h.absent hr)
  · obtain ⟨hi, he, _⟩ := h.some
    exact hasN_true _ (List.getElem_mem hi) he

theorem ltB_of {a b : ByteArray} (h : ltB a b = false) (hne : a ≠ b) : ltB b a = true := by
  have := less_total a.toList b.toList
  have e : (b.toList == a.toList) = false := eqL_false b a (fun e => hne e.symm)
  unfold ltB at h ⊢
  rw [e, h] at this
  simpa using this
theorem rise_pair (l : List Fld) : Rise l ↔ l.Pairwise (fun a b => ltB a.name b.name = true) := by
  rw [List.pairwise_iff_getElem]; exact Iff.rfl
theorem rise_ins {l : List Fld} {f : Fld} {i : Nat} (hr : Rise l) (h : Place l f.name i false) : Rise (insL l i f) := by
  have ha := h.absent hr
  rw [rise_pair] at hr ⊢
  unfold insL
  rw [List.pairwise_append, List.pairwise_cons]
  have hlo : ∀ g ∈ l.take i, ltB g.name f.name = true := fun g hg => by
    obtain ⟨q, hq, rfl⟩ := List.getElem_of_mem hg
    have hq2 : q < i ∧ q < l.length := by rw [List.length_take] at hq; omega
    rw [List.getElem_take]; exact h.lo q hq2.2 hq2.1
  have hhi : ∀ g ∈ l.drop i, ltB f.name g.name = true := fun g hg => by
    obtain ⟨q, hq, rfl⟩ := List.getElem_of_mem hg
    have hq2 : i + q < l.length := by rw [List.length_drop] at hq; omega
    rw [List.getElem_drop]
    exact ltB_of (h.hi (i + q) hq2 (by omega)) (ha _ (List.getElem_mem hq2))
  refine ⟨hr.sublist (List.take_sublist _ _), ⟨hhi, hr.sublist (List.drop_sublist _ _)⟩, ?_⟩
  intro a hA b hB
  rcases List.mem_cons.mp hB with rfl | hB
  · exact hlo a hA
  · exact ltB_trans (hlo a hA) (hhi b hB)

/-- Fields that rise, with short names and right values. -/
structure GoodF (l : List Fld) : Prop where
  rise : Rise l
  all : ∀ f ∈ l, shortB f.name = true ∧ okB f.v = true
theorem GoodF.nil : GoodF [] := ⟨fun i j hi => by simp at hi, fun f hf => by simp at hf⟩
theorem GoodF.ins {l : List Fld} {f : Fld} {i : Nat} (h : GoodF l) (hn : shortB f.name = true) (ho : okB f.v = true) (hp : Place l f.name i false) : GoodF (insL l i f) :=
  ⟨rise_ins h.rise hp, fun g hg => by
    unfold insL at hg
    rcases List.mem_append.mp hg with hg | hg
    · exact h.all g (List.mem_of_mem_take hg)
    · rcases List.mem_cons.mp hg with rfl | hg
      · exact ⟨hn, ho⟩
      · exact h.all g (List.mem_of_mem_drop hg)⟩
theorem short_size {s : ByteArray} (h : shortB s = true) : s.size ≤ 12 := by
  unfold shortB at h; rw [Bool.and_eq_true, decide_eq_true_eq] at h; exact h.1
theorem short_some {s : ByteArray} (h : shortB s = true) : ltB em s = true := by
  unfold shortB at h; rw [Bool.and_eq_true] at h
  have h2 := h.2
  unfold nameB at h2
  unfold ltB
  rw [ByteArray.toList_eq, ByteArray.toList_eq]
  show Op.bytesLess [] s.data.toList = true
  cases hc : s.data.toList with
  | nil => rw [hc] at h2; cases h2
  | cons a r => rfl
theorem riseAll_of (p : Val → Bool) : ∀ (l : List Fld) (last : ByteArray), l.Pairwise (fun a b => ltB a.name b.name = true) → (∀ f ∈ l, ltB last f.name = true) → (∀ f ∈ l, shortB f.name = true ∧ p f.v = true) → riseAll p last l = true
  | [], _, _, _, _ => rfl
  | f :: r, last, h1, h2, h3 => by
    rw [List.pairwise_cons] at h1
    have hf := h3 f (by simp)
    rw [riseAll, hf.1, h2 f (by simp), hf.2, riseAll_of p r f.name h1.2 h1.1 (fun g hg => h3 g (by simp [hg]))]; rfl
theorem GoodF.riseAll {l : List Fld} (h : GoodF l) (p : Val → Bool) (hp : ∀ f ∈ l, p f.v = true) : riseAll p em l = true :=
  riseAll_of p l em ((rise_pair l).mp h.rise) (fun f hf => short_some (h.all f hf).1) (fun f hf => ⟨(h.all f hf).1, hp f hf⟩)
theorem GoodF.names {l : List Fld} (h : GoodF l) : ∀ f ∈ l, okB f.v = true ∧ f.name.size < 256 := fun f hf => ⟨(h.all f hf).2, by have := short_size (h.all f hf).1; omega⟩

/-- Fields put in one by one; a code, if one of them can't be. -/
def foldD : List Fld → List Fld → Except Int (List Fld)
  | acc, [] => .ok acc
  | acc, f :: r => if shortB f.name = false then .error 11 else if okB f.v = false then .error 1 else if hasN f.name acc = true then .error 12 else foldD (insL acc (pN f.name acc) f) r
theorem foldD_end (acc l : List Fld) (k : Nat) (h : l.length ≤ k) : foldD acc (l.drop k) = .ok acc := by rw [List.drop_of_length_le h]; rfl
theorem foldD_name (acc l : List Fld) (k : Nat) (hk : k < l.length) (h : shortB l[k].name = false) : foldD acc (l.drop k) = .error 11 := by
  rw [List.drop_eq_getElem_cons hk, foldD, if_pos h]
theorem foldD_bad (acc l : List Fld) (k : Nat) (hk : k < l.length) (h : shortB l[k].name = true) (h1 : okB l[k].v = false) : foldD acc (l.drop k) = .error 1 := by
  rw [List.drop_eq_getElem_cons hk, foldD, if_neg (by simp [h]), if_pos h1]
theorem foldD_twice (acc l : List Fld) (k : Nat) (hk : k < l.length) (h : shortB l[k].name = true) (h1 : okB l[k].v = true) (h2 : hasN l[k].name acc = true) : foldD acc (l.drop k) = .error 12 := by
  rw [List.drop_eq_getElem_cons hk, foldD, if_neg (by simp [h]), if_neg (by simp [h1]), if_pos h2]
theorem foldD_next (acc l : List Fld) (k i : Nat) (hk : k < l.length) (h : shortB l[k].name = true) (h1 : okB l[k].v = true) (hr : Rise acc) (hp : Place acc l[k].name i false) : foldD acc (l.drop k) = foldD (insL acc i l[k]) (l.drop (k + 1)) := by
  rw [List.drop_eq_getElem_cons hk, foldD, if_neg (by simp [h]), if_neg (by simp [h1]), if_neg (by simp [hp.has hr]), hp.pos]

/-- What is answered of a made document that is made of right fields. -/
def fitD (l : List Fld) : Val × Int :=
  if 300 < (encFL l).length then (zv, 10)
  else if 4 < dF (depthV 5) l then (zv, 9)
  else (⟨5, 0, txt (encFL l)⟩, 0)
def foldP : Except Int (List Fld) → Val × Int
  | .error c => (zv, c)
  | .ok s => fitD s
/-- What a call that makes a document answers: a value, and a code. -/
def madeP (l : List Fld) : Val × Int :=
  if 4096 < l.length then (zv, 2)
  else if 300 < l.length then (zv, 10)
  else foldP (foldD [] l)
theorem madeP_long (l : List Fld) (h : 4096 < l.length) : madeP l = (zv, 2) := by unfold madeP; rw [if_pos h]
theorem madeP_many (l : List Fld) (h : ¬ 4096 < l.length) (h2 : 300 < l.length) : madeP l = (zv, 10) := by unfold madeP; rw [if_neg h, if_pos h2]
theorem madeP_few (l : List Fld) (h2 : ¬ 300 < l.length) : madeP l = foldP (foldD [] l) := by unfold madeP; rw [if_neg (by omega), if_neg h2]
theorem fitD_size (l : List Fld) (h : 300 < (encFL l).length) : fitD l = (zv, 10) := by unfold fitD; rw [if_pos h]
theorem fitD_deep (l : List Fld) (h : ¬ 300 < (encFL l).length) (h2 : 4 < dF (depthV 5) l) : fitD l = (zv, 9) := by unfold fitD; rw [if_neg h, if_pos h2]
theorem fitD_ok (l : List Fld) (h : ¬ 300 < (encFL l).length) (h2 : ¬ 4 < dF (depthV 5) l) : fitD l = (⟨5, 0, txt (encFL l)⟩, 0) := by unfold fitD; rw [if_neg h, if_neg h2]
theorem madeD_ok (l : List Fld) (hg : GoodF l) (h : ¬ 300 < (encFL l).length) : okB ⟨5, 0, txt (encFL l)⟩ = decide (dF (depthV 5) l ≤ 4) :=
  doc_made l (fun f hf => (hg.all f hf).2) (hg.riseAll _ (fun _ _ => rfl)) (by unfold encFL at h; omega)
theorem madeD_fits (l : List Fld) (hg : GoodF l) (h : ¬ 300 < (encFL l).length) : fits 6 ⟨5, 0, txt (encFL l)⟩ = true ∧ depthV 6 ⟨5, 0, txt (encFL l)⟩ = dF (depthV 5) l + 1 := by
  have hi : fields (txt (encFL l)) = some l := fields_enc l hg.names
  constructor
  · rw [fits_doc 5 _ rfl]
    show (decide ((0 : Int) = 0 ∧ (txt (encFL l)).size ≤ 300) && fieldsAll (fits 5) em (fields (txt (encFL l)))) = true
    rw [hi, Bool.and_eq_true, decide_eq_true_eq]
    exact ⟨⟨rfl, by rw [txt_size]; omega⟩, hg.riseAll _ (fun f hf => (hg.all f hf).2)⟩
  · exact depthV_doc 5 _ l rfl hi

end Go.Proofs.YtkeghknceccdmaaGreatDoor

/- How the program lays fields into the body of a document, and what it answers of the document made so. -/
namespace Go.Proofs.YtkeghknceccdmaaGreatDoor
open Go.RowKit
set_option linter.unusedVariables false

/-- A field as the program holds it. -/
abbrev aggF (f : Fld) : Value := .agg #[.string f.name, .int .i64 f.v.k, .int .i64 f.v.n, .string f.v.t]
def LaidF (w : World) (base : Nat) (zs : List Int) (e : Ending) (w' : World) : Prop := ∃ v', e = .returned v' ∧ OwnE w' base v' zs ∧ Below base w w'
theorem LaidF.mk {w : World} {base : Nat} {zs : List Int} {e : Ending} {w' : World} (v' : Value) (h : e = .returned v') (ho : OwnE w' base v' zs) (hb : Below base w w') : LaidF w base zs e w' := ⟨v', h, ho, hb⟩
theorem cellsE (t : ByteArray) : Lib.byteCells t.data.toList = rowE (bytesI t) := (rowE_text t).symm
set_option maxRecDepth 4000 in
set_option maxHeartbeats 2000000 in
theorem appendField_any (f : Fld) (h : okB f.v = true) (hn : f.name.size ≤ 12) (bv : Value) (zs : List Int) (base : Nat) (w : World) (hown : OwnE w base bv zs) (hbase : base ≤ w.heap.size) (hlen : zs.length ≤ 900000) :
    Calls Tryz.prog 121 #[bv, aggF f] w fun e w' => LaidF w base (zs ++ encF f) e w' := by
  have hw3 : IntKind.u8.wrap (f.name.size : Int) = f.name.size := by simp only [IntKind.wrap, IntKind.bits, IntKind.signed]; simp; omega
  have HO : Hid (World.ownsRow _ _ _ _ _ _ _) := World.ownsRow.alloc hown (.cells #[.string f.name, .int .i64 f.v.k, .int .i64 f.v.n, .string f.v.t] 39)
  have HK : Hid _ := h
  clear hown h
  go_enter Tryz.func121, Tryz.ntmps121
  go_wp2_with (at_builtin; refine app_byte rfl (.tmp 5) (.tmp 10) rfl base zs.length bv (rowE zs) (f.name.size : Int) _ rfl rfl (by simp) HO.out (by simp; omega) (by omega) ?_; intro v1 w1 o1 b1 k1; refine Hid.out ?_)
  refine Lib.hid ?_
  have HK1 : Hid (Kept _ _) := k1
  have HO1 : Hid (World.ownsRow _ _ _ _ _ _ _) := o1
  have c0 : w1.cell? ⟨w.heap.size, 0, none⟩ = some (.string f.name) := kept_new k1 (by decide) 0
  have hz1 := b1.size
  have HB1 : Hid (Below base w w1) := ((Below.refl _ _).alloc hbase _).trans b1
  rw [heap_size_alloc] at hz1
  clear o1 b1 k1
  go_wp2_with (at_builtin; refine app_str rfl (.tmp 12) (.tmp 14) rfl base _ _ _ f.name rfl rfl HO1.out (by omega) (by omega) (by omega) ?_; intro v2 w2 o2 b2 k2; refine Hid.out ?_)
  refine Lib.hid ?_
  have k3 := HK1.out.trans k2
  have c1 : w2.cell? ⟨w.heap.size, 1, none⟩ = some (.int .i64 f.v.k) := kept_new k3 (by decide) 1
  have c2 : w2.cell? ⟨w.heap.size, 2, none⟩ = some (.int .i64 f.v.n) := kept_new k3 (by decide) 2
  have c3 : w2.cell? ⟨w.heap.size, 3, none⟩ = some (.string f.v.t) := kept_new k3 (by decide) 3
  have hz2 := b2.size
  have HO2 : Hid (OwnE w2 base v2 (zs ++ [(f.name.size : Int)] ++ bytesI f.name)) := by
    show w2.ownsRow _ _ _ _ _ _
    rw [rowE_append, rowE_append, List.length_append, List.length_append, bytesI_len, ← cellsE]; exact o2
  have HB2 : Hid (Below base w w2) := HB1.out.trans b2
  clear o2 b2 k2 k3 c0
  go_wp2_with fail
  refine (appendValue_any f.v HK.out v2 _ base w2 HO2.out (by omega) (by simp only [List.length_append, bytesI_len, List.length_cons, List.length_nil]; omega)).mono ?_
  rintro e w3 ⟨v3, rfl, o3, g3, n3⟩
  have hb : Below base w w3 := Below.grown HB2.out g3 (by omega) (owns_block HO2.out)
  have e : zs ++ encF f = zs ++ [(f.name.size : Int)] ++ bytesI f.name ++ encB f.v := by
    unfold encF
    rw [numB_one, nb_zero, Int.emod_eq_of_lt (by omega) (by omega)]
    simp
  have HO3 : Hid (OwnE w3 base v3 (zs ++ encF f)) := by rw [e]; exact o3
  clear o3 g3 n3 e
  go_wp2_with fail
  go_ret
  exact LaidF.mk v3 rfl HO3.out hb

set_option maxRecDepth 4000 in
set_option maxHeartbeats 2000000 in
theorem docWith_any (p : Option Addr) (cap : Nat) (l : List Fld) (w : World) (hr : RowF w p l) (hl : l.length ≤ 300) (hg : GoodF l) :
    Calls Tryz.prog 57 #[.slice p l.length cap] w fun e w' => e = .returned (.agg #[.int .i64 5, .int .i64 0, .string (txt (encFL l))]) ∧ Below w.heap.size w w' := by
  have HR : Hid (RowF _ _ _) := hr
  have HA : Hid (GoodF _) := hg
  have X0 := Res3.start w (.int .i64 0) (.int .i64 0) (.string em) 28
  have HX : Hid _ := X0
  obtain ⟨w0, hw0⟩ : ∃ w0, w0 = w.alloc (.cells #[.int .i64 0, .int .i64 0, .string em] 28) := ⟨_, rfl⟩
  rw [← hw0] at HX
  have HW : Hid _ := hw0
  clear hr hg X0
  go_enter Tryz.func57, Tryz.ntmps57
  go_wp2_with fail
  clear hw0
  go_loopw [3, 8] (fun u i wr => ∃ k : Nat, k ≤ l.length ∧ i = .int .i64 k ∧ OwnE wr w0.heap.size u (encFL (l.take k)) ∧ Below w0.heap.size w0 wr) (fun _ i _ => l.length - (intOf i).toNat)
  case atStart => exact ⟨0, Nat.zero_le _, rfl, World.ownsRow_nil _ _ _ _, by rw [← HW.out]; exact Below.refl _ _⟩
  case round =>
    obtain ⟨k, hk, rfl, hown, hbel⟩ := hrel
    have X1 := HX.out.step hbel
    have hz := hbel.size
    have hz0 := HX.out.lt
    by_cases hlt : k < l.length
    · rcases HR.out.next X1.bel with h0 | ⟨g, rfl, R⟩
      · subst h0; simp at hlt
      · obtain ⟨x0, x1, x2, x3⟩ := R.cells k hlt
        have hlen : (encFL (l.take k)).length ≤ 900000 := by have := encFL_take_len l HA.out.names k hl; omega
        have hf := HA.out.all l[k] (List.getElem_mem _)
        have HK : Hid _ := hf.2
        have hns := short_size hf.1
        have HO : Hid (OwnE _ _ _ _) := hown
        have HB : Hid _ := hbel
        have hgl := R.lt
        clear hown hbel X1 hf R
        go_wp2_with fail
        refine (appendField_any l[k] HK.out hns _ _ w0.heap.size _ (by have := HO.out; unfold OwnE at this ⊢; exact this.alloc _) (by simp; omega) hlen).mono ?_
        rintro e w1 ⟨v', rfl, hown1, hb1⟩
        have hb : Below w0.heap.size w0 w1 := (HB.out.alloc hz _).trans hb1
        have HO1 : Hid (OwnE _ _ _ _) := hown1
        clear hb1 hown1
        go_wp2_with fail
        go_roundw
        case rel => exact ⟨k + 1, by omega, by go_num, by rw [encFL_take l k hlt]; exact HO1.out, hb⟩
        case measure => simp [intOf]; omega
    · have e : l.take k = l := List.take_of_length_le (by omega)
      rw [e] at hown
      have hconv := convA _ _ _ _ hown
      have g0 := X1.c0
      have g1 := X1.c1
      have g2 := X1.c2
      have z0 := X1.z0
      have z1 := X1.z1
      have z2 := X1.z2
      have hlt1 := X1.lt
      have hbw := X1.bel
      clear X1 hbel hown
      go_wp2_with fail
      refine bodyPost_ret (v := .agg #[.int .i64 5, .int .i64 0, .string (txt (encFL l))]) (by simp [results, Tryz.results57, go_sem, *]) rfl ⟨rfl, ?_⟩
      (repeat (first | (with_reducible exact Below.refl _ _) | (with_reducible assumption) | (with_reducible apply below_drewN) | (with_reducible apply Below.drew) | ((with_reducible refine Below.setCell ?_ ?_ _); rotate_left; focus (first | (simp; done) | (simp; omega) | omega)) | ((with_reducible refine Below.alloc ?_ ?_ _); rotate_left; focus (first | (simp; done) | (simp; omega) | omega))))

theorem bounded_doc (l : List Fld) (w : World) (hl : l.length ≤ 300) (hg : GoodF l) :
    Calls Tryz.prog 56 #[.agg #[.int .i64 5, .int .i64 0, .string (txt (encFL l))]] w fun e w' => e = .returned (.tuple #[aggV (fitD l).1, .int .i64 (fitD l).2]) ∧ Below w.heap.size w w' := by
  have hs : (txt (encFL l)).size = (encFL l).length := txt_size _
  have hm := encFL_len l hg.names
  by_cases h : 300 < (encFL l).length
  · rw [fitD_size l h]; exact bounded_size 5 0 _ w (by omega) (by omega)
  · obtain ⟨hf, hd⟩ := madeD_fits l hg h
    by_cases h2 : 4 < dF (depthV 5) l
    · rw [fitD_deep l h h2]
      exact bounded_deep ⟨5, 0, txt (encFL l)⟩ w (by show (txt (encFL l)).size ≤ 300; omega) hf (by omega)
    · rw [fitD_ok l h h2]
      exact bounded_ok ⟨5, 0, txt (encFL l)⟩ w (by show (txt (encFL l)).size ≤ 300; omega) hf (by omega)
end Go.Proofs.YtkeghknceccdmaaGreatDoor

/- What the library's slices.Insert does to a row of fields of the call's own, ahead of its end. -/
namespace Go.Proofs.YtkeghknceccdmaaGreatDoor
open Go.RowKit
set_option linter.unusedVariables false

theorem sizeF (w : World) : (Go.sizeOf 39).run Tryz.prog w = .ok 4 w := by
  obtain ⟨i0, hi, hz0, hz1, hz2⟩ := info_parts infoF
  simp [sizeOf, typeInfo, hi, hz1]
theorem infoF4 : (Tryz.prog.info? 39).map (·.size) = some 4 := by
  obtain ⟨i0, hi, hz0, hz1, hz2⟩ := info_parts infoF
  rw [hi]; simp [hz1]
/-- Cells shifted up by four, and four others put where they stood. -/
theorem shift_list (A F R : List Value) (k N : Nat) (hF : A.take N = F) (hk : k ≤ N) (hN : N + 4 ≤ A.length) (hR : R.length = 4) :
    let B := A.take (k + 4) ++ F.drop k ++ A.drop (k + 4 + (F.drop k).length)
    (B.take k ++ R ++ B.drop (k + R.length)).take (N + 4) = F.take k ++ R ++ F.drop k ∧ (B.take k ++ R ++ B.drop (k + R.length)).length = A.length ∧ B.length = A.length := by
  intro B
  have hFl : F.length = N := by rw [← hF, List.length_take]; omega
  have hBl : B.length = A.length := by
    show (A.take (k + 4) ++ F.drop k ++ A.drop (k + 4 + (F.drop k).length)).length = _
    simp only [List.length_append, List.length_take, List.length_drop]
    omega
  have h1 : B.take k = F.take k := by
    show (A.take (k + 4) ++ F.drop k ++ A.drop (k + 4 + (F.drop k).length)).take k = _
    rw [List.append_assoc, List.take_append_of_le_length (by rw [List.length_take]; omega), List.take_take, ← hF, List.take_take]
    congr 1; omega
  have h2 : B.drop (k + 4) = F.drop k ++ A.drop (k + 4 + (F.drop k).length) := by
    show (A.take (k + 4) ++ F.drop k ++ A.drop (k + 4 + (F.drop k).length)).drop (k + 4) = _
    rw [List.append_assoc, List.drop_append_of_le_length (by rw [List.length_take]; omega), List.drop_of_length_le (by rw [List.length_take]; omega), List.nil_append]
  refine ⟨?_, ?_, hBl⟩
  · rw [hR, h1, h2, ← List.append_assoc, List.take_append_of_le_length (by simp only [List.length_append, List.length_take, List.length_drop]; omega), List.take_of_length_le (by simp only [List.length_append, List.length_take, List.length_drop]; omega)]
  · simp only [List.length_append, List.length_take, List.length_drop]; omega

theorem cell_row {w : World} {g : Nat} {cur : Array Value} {t : TypeId} {fz : Nat × Nat} (hg : w.heap[g]? = some (.cells cur t fz)) (o : Nat) : w.cell? ⟨g, o, none⟩ = cur[o]? := by simp [World.cell?, hg]
theorem add_off (g o j : Nat) : (⟨g, o, none⟩ : Addr).add j = ⟨g, o + j, none⟩ := by
  by_cases h : j = 0
  · subst h; simp [Addr.add]
  · simp [Addr.add, h]

set_option maxRecDepth 4000 in
set_option maxHeartbeats 4000000 in
theorem insert_room (g cap : Nat) (l : List Fld) (i : Nat) (f : Fld) (vb base : Nat) (cur : Array Value) (w : World) (hi : i < l.length) (hroom : l.length + 1 ≤ cap) (hcap : cap ≤ maxLen) (hlen : l.length ≤ 1000) (hbg : base ≤ g)
    (hg : w.heap[g]? = some (.cells cur 39 (0, 0))) (hsz : cur.size = cap * 4) (hcur : cur.toList.take (l.length * 4) = flatF l) (hvb : LiesF w vb f) (hne : vb ≠ g) :
    Calls Tryz.prog 119 #[.slice (some ⟨g, 0, none⟩) l.length cap, .int .i64 i, .slice (some ⟨vb, 0, none⟩) 1 1] w fun e w' => InsOut w base (.slice (some ⟨g, 0, none⟩) l.length cap) (insL l i f) e w' := by
  obtain ⟨B, hB⟩ : ∃ B, B = cur.toList.take (i * 4 + 4) ++ (flatF l).drop (i * 4) ++ cur.toList.drop (i * 4 + 4 + ((flatF l).drop (i * 4)).length) := ⟨_, rfl⟩
  have hR4 : (rowF f).length = 4 := rfl
  have hcl : cur.toList.length = cap * 4 := by rw [Array.length_toList]; exact hsz
  have hsh := shift_list cur.toList (flatF l) (rowF f) (i * 4) (l.length * 4) hcur (by omega) (by rw [hcl]; omega) hR4
  simp only [← hB] at hsh
  obtain ⟨s1, s2, s3⟩ := hsh
  have hdl : ((flatF l).drop (i * 4)).length = (l.length - i) * 4 := by rw [List.length_drop, flatF_len]; omega
  have hov : ∀ lb cb, (callFunc 187 #[.slice (some ⟨vb, 0, none⟩) 1 1, .slice (some ⟨g, (i + 1) * 4, none⟩) lb cb]).run Tryz.prog w = .ok (.value (.bool false)) w := fun lb cb => by
    rw [run_callFunc_extern Tryz.func187 (by kernel_rfl) (by kernel_rfl) (by kernel_rfl) (e := Extern.SlicesOverlaps.overlaps #[40, 40] #[4]) (by kernel_rfl),
      Lib.run_overlaps_apart w 40 4 39 Tryz.underlying40 4 sizeF ⟨vb, 0, none⟩ ⟨g, (i + 1) * 4, none⟩ 1 1 lb cb hne 39 39 4 cur.size (by simp [World.shape?, hvb]) (by simp [World.shape?, hg]) (by omega) (by simp [World.frozen?, hvb]) (by simp [World.frozen?, hvb])]
    rfl
  obtain ⟨W1, hW1⟩ : ∃ W1, W1 = w.drew.setRow g B.toArray := ⟨_, rfl⟩
  obtain ⟨W2, hW2⟩ : ∃ W2, W2 = W1.setRow g (B.take (i * 4) ++ rowF f ++ B.drop (i * 4 + (rowF f).length)).toArray := ⟨_, rfl⟩
  have hgd : w.drew.heap[g]? = some (.cells cur 39 (0, 0)) := hg
  have hg1 : W1.heap[g]? = some (.cells B.toArray 39 (0, 0)) := by rw [hW1]; exact setRow_heap _ _ _ _ _ _ hgd
  have hv1 : LiesF W1 vb f := by rw [LiesF, hW1, setRow_other _ _ _ _ hne]; exact hvb
  have hcp1 : ∀ ty dc sc, (Builtin.copy_ #[40, 40] ty #[.slice (some ⟨g, (i + 1) * 4, none⟩) (l.length - i) dc, .slice (some ⟨g, i * 4, none⟩) (l.length + 1 - i) sc]).run Tryz.prog w.drew = .ok (goInt ((l.length - i : Nat) : Int)) W1 := fun ty dc sc => by
    have := run_copy_rowK (P := Tryz.prog) w.drew 40 40 ty 39 g ((i + 1) * 4) (l.length - i) dc ⟨g, i * 4, none⟩ (l.length + 1 - i) sc cur 39 ((flatF l).drop (i * 4)) 4 (l.length - i) Tryz.underlying40 infoF4 hgd (by simp only [Nat.min_def]; split <;> omega) hdl
      (fun j v hj => by
        rw [add_off, cell_row hgd]
        rw [List.getElem?_drop] at hj
        have hjl : i * 4 + j < l.length * 4 := by
          have := (List.getElem?_eq_some_iff.1 hj).1
          rw [flatF_len] at this; exact this
        rw [← hcur, List.getElem?_take, if_pos hjl] at hj
        rw [← hj, Array.getElem?_toList])
      (by rw [hdl, hsz]; omega) (fun v hv => flatF_one l v (List.mem_of_mem_drop hv))
    rw [this, hW1, hB, show (i + 1) * 4 = i * 4 + 4 by omega]
  have hcp2 : ∀ ty dc, (Builtin.copy_ #[40, 40] ty #[.slice (some ⟨g, i * 4, none⟩) (l.length + 1 - i) dc, .slice (some ⟨vb, 0, none⟩) 1 1]).run Tryz.prog W1 = .ok (goInt ((1 : Nat) : Int)) W2 := fun ty dc => by
    have := run_copy_rowK (P := Tryz.prog) W1 40 40 ty 39 g (i * 4) (l.length + 1 - i) dc ⟨vb, 0, none⟩ 1 1 B.toArray 39 (rowF f) 4 1 Tryz.underlying40 infoF4 hg1 (by simp only [Nat.min_def]; split <;> omega) hR4
      (liesF_cells hv1) (by rw [List.size_toArray, s3, hcl, hR4]; omega) (rowF_one f)
    rw [this, hW2]
  have hown : W2.ownsRow base 39 4 (.slice (some ⟨g, 0, none⟩) (insL l i f).length cap) (insL l i f).length (flatF (insL l i f)) := by
    refine ⟨flatF_len _, .inr ⟨g, cap, _, rfl, hbg, by rw [hW2]; exact setRow_heap _ _ _ _ _ _ hg1, ?_, hcap, ?_, ?_⟩⟩
    · rw [insL_len l i f (by omega)]; exact hroom
    · rw [List.size_toArray, s2, hcl]
    · rw [insL_len l i f (by omega), flatF_ins l i f (by omega), ← s1, List.toList_toArray]
      congr 1; omega
  have hgr : w.grownBy W2 (some g) := by
    have e1 : w.grownBy W1 (some g) := by
      have := grown_setRow w.drew g B.toArray
      rw [← hW1] at this
      exact ⟨this.os, this.tape, this.output, this.size, this.block⟩
    have e2 := grown_setRow W1 g (B.take (i * 4) ++ rowF f ++ B.drop (i * 4 + (rowF f).length)).toArray
    rw [← hW2] at e2
    exact e1.trans e2
  have hil := insL_len l i f (by omega)
  rw [hil] at hown
  have HOWN : Hid (World.ownsRow _ _ _ _ _ _ _) := hown
  have HGR : Hid _ := hgr
  have HIL : Hid (_ = _) := hil
  have hb0 : (0 : Int) ≤ (i : Int) + 1 := by omega
  have hz2 : ¬ ((i : Int) = (l.length : Int)) := by omega
  have hz3 : ((i : Int) == (l.length : Int)) = false := beq_eq_false_iff_ne.mpr hz2
  have hz4 : ¬ ((cap : Int) < (l.length : Int) + 1) := by omega
  have hi1 : (i : Int) ≤ (l.length : Int) := by omega
  have hi2 : (i : Int) + 1 ≤ (l.length : Int) + 1 := by omega
  have hi3 : (l.length : Int) + 1 ≤ (cap : Int) := by omega
  have hi4 : (i : Int) ≤ (l.length : Int) + 1 := by omega
  have htn : ((i : Int) + 1).toNat = i + 1 := by omega
  have htn2 : ((l.length : Int) + 1).toNat = l.length + 1 := by omega
  have hw1 : IntKind.i64.wrap ((i : Int) + 1) = (i : Int) + 1 := by rw [IntKind.wrap_i64]; omega
  have hw2 : IntKind.i64.wrap ((l.length : Int) + 1) = (l.length : Int) + 1 := by rw [IntKind.wrap_i64]; omega
  have hb2 : ¬ (cap = i + 1) := by omega
  have hb4 : ¬ (cap = i) := by omega
  unfold maxLen at hcap
  clear hB hdl s1 s2 s3 hW1 hW2 hgd hg1 hv1 hown hgr hcur hvb hg hsz hil hR4 hz2
  go_enter Tryz.func119, Tryz.ntmps119
  go_wp2_with (simp only [hov])
  go_region_law (refine step_copyK rfl _ _ 40 40 rfl _ _ (by simp [Act.eval, Act.put]) (by simp [Act.eval, Act.put]) (hcp1 _ _ _) ?_)
  go_wp2_with (at_builtin; refine wpList_copyK _ rfl _ _ 40 40 rfl _ _ rfl rfl (hcp2 _ _) ?_)
  go_ret
  exact InsOut.mk _ rfl (by rw [HIL.out]; exact HOWN.out) HGR.out (.inl rfl)

end Go.Proofs.YtkeghknceccdmaaGreatDoor

/- What the library's slices.Insert does to a row of fields of the call's own: where a new row must be made; and in all cases. -/
namespace Go.Proofs.YtkeghknceccdmaaGreatDoor
open Go.RowKit
set_option linter.unusedVariables false

theorem grow_list (F R Z : List Value) (k N : Nat) (hF : F.length = N) (hk : k ≤ N) (hZ : N + 4 ≤ k + Z.length) (hR : R.length = 4) :
    let A := F.take k ++ Z
    let B := A.take k ++ R ++ A.drop (k + R.length)
    (B.take (k + 4) ++ F.drop k ++ B.drop (k + 4 + (F.drop k).length)).take (N + 4) = F.take k ++ R ++ F.drop k ∧ (B.take (k + 4) ++ F.drop k ++ B.drop (k + 4 + (F.drop k).length)).length = A.length ∧ B.length = A.length := by
  intro A B
  have hAl : A.length = k + Z.length := by show (F.take k ++ Z).length = _; rw [List.length_append, List.length_take]; omega
  have hBl : B.length = A.length := by
    show (A.take k ++ R ++ A.drop (k + R.length)).length = _
    simp only [List.length_append, List.length_take, List.length_drop]; omega
  have hAk : A.take k = F.take k := by
    show (F.take k ++ Z).take k = _
    rw [List.take_append_of_le_length (by rw [List.length_take]; omega), List.take_take]; congr 1; omega
  have h1 : B.take (k + 4) = F.take k ++ R := by
    show (A.take k ++ R ++ A.drop (k + R.length)).take (k + 4) = _
    rw [List.take_append_of_le_length (by simp only [List.length_append, List.length_take]; omega), List.take_of_length_le (by simp only [List.length_append, List.length_take]; omega), hAk]
  refine ⟨?_, ?_, hBl⟩
  · rw [h1, List.take_append_of_le_length (by simp only [List.length_append, List.length_take, List.length_drop]; omega), List.take_of_length_le (by simp only [List.length_append, List.length_take, List.length_drop]; omega)]
  · simp only [List.length_append, List.length_take, List.length_drop]; omega
theorem zeroF_size (k : Nat) : (Builtin.zeroCells (Value.agg #[.string em, .int .i64 0, .int .i64 0, .string em]).cells k).size = k * 4 := by
  have hc : (Value.agg #[.string em, .int .i64 0, .int .i64 0, .string em]).cells = #[.string em, .int .i64 0, .int .i64 0, .string em] := rfl
  rw [hc]
  simp [Builtin.zeroCells]
theorem zeroF_len (k : Nat) : (Builtin.zeroCells (Value.agg #[.string em, .int .i64 0, .int .i64 0, .string em]).cells k).toList.length = k * 4 := (Array.length_toList).trans (zeroF_size k)

set_option maxRecDepth 4000 in
set_option maxHeartbeats 4000000 in
theorem insert_grow (g cap : Nat) (l : List Fld) (i : Nat) (f : Fld) (vb base : Nat) (cur : Array Value) (w : World) (hi : i < l.length) (hcap1 : l.length ≤ cap) (hroom : cap < l.length + 1) (hlen : l.length ≤ 1000) (hbase : base ≤ w.heap.size)
    (hg : w.heap[g]? = some (.cells cur 39 (0, 0))) (hsz : cur.size = cap * 4) (hcur : cur.toList.take (l.length * 4) = flatF l) (hvb : LiesF w vb f) :
    Calls Tryz.prog 119 #[.slice (some ⟨g, 0, none⟩) l.length cap, .int .i64 i, .slice (some ⟨vb, 0, none⟩) 1 1] w fun e w' => InsOut w base (.slice (some ⟨g, 0, none⟩) l.length cap) (insL l i f) e w' := by
  obtain ⟨i0, hi0, hz0, hz1, hz2⟩ := info_parts infoF
  have hgw : g < w.heap.size := (Array.getElem?_eq_some_iff.1 hg).1
  have hvw : vb < w.heap.size := (Array.getElem?_eq_some_iff.1 hvb).1
  have hcell : ∀ j v, (flatF l)[j]? = some v → w.cell? ⟨g, j, none⟩ = some v := fun j v hj => by
    rw [cell_row hg]
    have hjl : j < l.length * 4 := by have := (List.getElem?_eq_some_iff.1 hj).1; rw [flatF_len] at this; exact this
    rw [← hcur, List.getElem?_take, if_pos hjl] at hj
    rw [← hj, Array.getElem?_toList]
  obtain ⟨G, hG⟩ : ∃ G, G = grownCap w (l.length + 1) cap 39 := ⟨_, rfl⟩
  have hGn : l.length + 1 ≤ G := by rw [hG]; exact grownCap_ge w _ _ _
  have hGm : G ≤ maxLen := by rw [hG]; exact grownCap_le_maxLen w _ _ _ (by unfold maxLen; omega)
  obtain ⟨Z, hZ⟩ : ∃ Z, Z = (Builtin.zeroCells (Value.agg #[.string em, .int .i64 0, .int .i64 0, .string em]).cells (l.length + 1 - i)).toList ++ (Builtin.zeroCells (Value.agg #[.string em, .int .i64 0, .int .i64 0, .string em]).cells (G - (l.length + 1))).toList := ⟨_, rfl⟩
  have hZl : Z.length = (G - i) * 4 := by rw [hZ, List.length_append, zeroF_len, zeroF_len]; omega
  obtain ⟨A, hA⟩ : ∃ A, A = (flatF l).take (i * 4) ++ Z := ⟨_, rfl⟩
  obtain ⟨B, hB⟩ : ∃ B, B = A.take (i * 4) ++ rowF f ++ A.drop (i * 4 + (rowF f).length) := ⟨_, rfl⟩
  have hR4 : (rowF f).length = 4 := rfl
  have hgl := grow_list (flatF l) (rowF f) Z (i * 4) (l.length * 4) (flatF_len l) (by omega) (by omega) hR4
  simp only [← hA] at hgl
  simp only [← hB] at hgl
  obtain ⟨s1, s2, s3⟩ := hgl
  have hAl : A.length = G * 4 := by rw [hA, List.length_append, List.length_take, flatF_len, hZl]; omega
  have hdl : ((flatF l).drop (i * 4)).length = (l.length - i) * 4 := by rw [List.length_drop, flatF_len]; omega
  have hkk : (l.length : Int) + 1 - (i : Int) = ((l.length + 1 - i : Nat) : Int) := by omega
  have hik : i + (l.length + 1 - i) = l.length + 1 := by omega
  have hrz : ∀ ty, (Builtin.append_ #[40, 3] ty #[.slice (some ⟨g, 0, none⟩) i cap, .int .i64 ((l.length : Int) + 1 - (i : Int))]).run Tryz.prog w = .ok (.slice (some ⟨w.heap.size, 0, none⟩) (l.length + 1) G) (w.drew.alloc (.cells A.toArray 39)) := fun ty => by
    have hold : (Builtin.firstCells i0.size i (.slice (some ⟨g, 0, none⟩) i cap)).run Tryz.prog w.drew = .ok ((flatF l).take (i * 4)).toArray w.drew := by
      rw [hz1]
      exact run_firstCells_some w.drew 4 i ⟨g, 0, none⟩ i cap ((flatF l).take (i * 4)) (by rw [List.length_take, flatF_len]; omega) (fun j v hj => by
        rw [add_off, Nat.zero_add]
        rw [List.getElem?_take] at hj
        split at hj
        · exact hcell j v hj
        · cases hj)
    have h := Lib.run_append_grow_zeros w 40 3 ty 39 i0 _ .i64 .i64 Tryz.underlying40 Tryz.underlying3 hi0 hz0 (some ⟨g, 0, none⟩) i cap ((flatF l).take (i * 4)) hold (l.length + 1 - i) (by omega) (by omega) (by omega) (by omega) (by rw [hz2]; omega) (by rw [hz2, hik]; exact growslice_fits hroom (by omega))
    rw [hik, ← hG] at h
    rw [hkk, h, hA, hZ]
    congr 3
    simp
  obtain ⟨W1, hW1⟩ : ∃ W1, W1 = w.drew.alloc (.cells A.toArray 39) := ⟨_, rfl⟩
  obtain ⟨W2, hW2⟩ : ∃ W2, W2 = W1.setRow w.heap.size B.toArray := ⟨_, rfl⟩
  obtain ⟨W3, hW3⟩ : ∃ W3, W3 = W2.drew.setRow w.heap.size (B.take (i * 4 + 4) ++ (flatF l).drop (i * 4) ++ B.drop (i * 4 + 4 + ((flatF l).drop (i * 4)).length)).toArray := ⟨_, rfl⟩
  rw [← hW1] at hrz
  have hh1 : W1.heap[w.heap.size]? = some (.cells A.toArray 39 (0, 0)) := by rw [hW1]; exact heap_alloc_new w.drew _
  have hold1 : ∀ k, k < w.heap.size → W1.heap[k]? = w.heap[k]? := fun k hk => by rw [hW1]; exact ((Below.refl w.drew.heap.size w.drew).alloc (Nat.le_refl _) _).block k hk
  have hh2 : W2.heap[w.heap.size]? = some (.cells B.toArray 39 (0, 0)) := by rw [hW2]; exact setRow_heap _ _ _ _ _ _ hh1
  have hold2 : ∀ k, k < w.heap.size → W2.heap[k]? = w.heap[k]? := fun k hk => by rw [hW2, setRow_other _ _ _ _ (by omega)]; exact hold1 k hk
  have hv1 : LiesF W1 vb f := by rw [LiesF, hold1 vb hvw]; exact hvb
  have hcp1 : ∀ ty dc, (Builtin.copy_ #[40, 40] ty #[.slice (some ⟨w.heap.size, i * 4, none⟩) (l.length + 1 - i) dc, .slice (some ⟨vb, 0, none⟩) 1 1]).run Tryz.prog W1 = .ok (goInt ((1 : Nat) : Int)) W2 := fun ty dc => by
    have := run_copy_rowK (P := Tryz.prog) W1 40 40 ty 39 w.heap.size (i * 4) (l.length + 1 - i) dc ⟨vb, 0, none⟩ 1 1 A.toArray 39 (rowF f) 4 1 Tryz.underlying40 infoF4 hh1 (by simp only [Nat.min_def]; split <;> omega) hR4
      (liesF_cells hv1) (by rw [List.size_toArray, hAl, hR4]; omega) (rowF_one f)
    rw [this, hW2, hB]
  have hcp2 : ∀ ty dc sc, (Builtin.copy_ #[40, 40] ty #[.slice (some ⟨w.heap.size, (i + 1) * 4, none⟩) (l.length - i) dc, .slice (some ⟨g, i * 4, none⟩) (l.length - i) sc]).run Tryz.prog W2.drew = .ok (goInt ((l.length - i : Nat) : Int)) W3 := fun ty dc sc => by
    have := run_copy_rowK (P := Tryz.prog) W2.drew 40 40 ty 39 w.heap.size ((i + 1) * 4) (l.length - i) dc ⟨g, i * 4, none⟩ (l.length - i) sc B.toArray 39 ((flatF l).drop (i * 4)) 4 (l.length - i) Tryz.underlying40 infoF4 hh2 (by simp only [Nat.min_def]; split <;> omega) hdl
      (fun j v hj => by
        rw [add_off]
        rw [List.getElem?_drop] at hj
        have hx := hcell (i * 4 + j) v hj
        rw [← hx]
        exact World.cell?_of_block (hold2 g hgw))
      (by rw [List.size_toArray, s3, hdl, hAl]; omega) (fun v hv => flatF_one l v (List.mem_of_mem_drop hv))
    rw [this, hW3, show (i + 1) * 4 = i * 4 + 4 by omega]
  have hh3 : W3.heap[w.heap.size]? = some (.cells (B.take (i * 4 + 4) ++ (flatF l).drop (i * 4) ++ B.drop (i * 4 + 4 + ((flatF l).drop (i * 4)).length)).toArray 39 (0, 0)) := by rw [hW3]; exact setRow_heap _ _ _ _ _ _ hh2
  have hil := insL_len l i f (by omega)
  have hown : W3.ownsRow base 39 4 (.slice (some ⟨w.heap.size, 0, none⟩) (l.length + 1) G) (l.length + 1) (flatF (insL l i f)) := by
    refine ⟨by rw [flatF_len, hil], .inr ⟨w.heap.size, G, _, rfl, hbase, hh3, hGn, hGm, ?_, ?_⟩⟩
    · rw [List.size_toArray, s2, hAl]
    · rw [flatF_ins l i f (by omega), ← s1, List.toList_toArray]
      congr 1; omega
  have hgr : w.grownBy W3 (some g) := by
    refine ⟨?_, ?_, ?_, ?_, fun k hk _ => ?_⟩
    · rw [hW3, hW2, hW1]; rfl
    · rw [hW3, hW2, hW1]; rfl
    · rw [hW3, hW2, hW1]; rfl
    · rw [hW3, setRow_size]; show w.heap.size ≤ W2.heap.size; rw [hW2, setRow_size, hW1]; simp
    · rw [hW3, setRow_other _ _ _ _ (by omega)]; exact hold2 k hk
  have HOWN : Hid (World.ownsRow _ _ _ _ _ _ _) := hown
  have HGR : Hid _ := hgr
  have HIL : Hid (_ = _) := hil
  have hb0 : (0 : Int) ≤ (i : Int) + 1 := by omega
  have hz3 : ((i : Int) == (l.length : Int)) = false := beq_eq_false_iff_ne.mpr (by omega)
  have hz4 : (cap : Int) < (l.length : Int) + 1 := by omega
  have hi1 : (i : Int) ≤ (l.length : Int) := by omega
  have hi2 : (i : Int) + 1 ≤ (l.length : Int) + 1 := by omega
  have hi4 : (i : Int) ≤ (l.length : Int) + 1 := by omega
  have hi5 : (i : Int) ≤ (cap : Int) := by omega
  have htn : ((i : Int) + 1).toNat = i + 1 := by omega
  have htn2 : ((l.length : Int) + 1).toNat = l.length + 1 := by omega
  have hw1 : IntKind.i64.wrap ((i : Int) + 1) = (i : Int) + 1 := by rw [IntKind.wrap_i64]; omega
  have hw2 : IntKind.i64.wrap ((l.length : Int) + 1) = (l.length : Int) + 1 := by rw [IntKind.wrap_i64]; omega
  have hw3 : IntKind.i64.wrap ((l.length : Int) + 1 - (i : Int)) = (l.length : Int) + 1 - (i : Int) := by rw [IntKind.wrap_i64]; omega
  have hb2 : ¬ (G = i + 1) := by omega
  have hb3 : ¬ (G = i) := by omega
  have hb4 : ¬ (cap = i) := by omega
  unfold maxLen at hGm
  clear hB hdl s1 s2 s3 hW1 hW2 hW3 hh1 hh2 hh3 hold1 hold2 hv1 hown hgr hcur hvb hg hsz hil hR4 hA hAl hZ hZl hG hcell hkk hik hi0 hz0 hz1 hz2
  go_enter Tryz.func119, Tryz.ntmps119
  go_wp2_with (first | (at_builtin; refine Lib.wpList_append_run _ rfl _ _ 40 3 rfl _ _ rfl rfl _ _ (hrz _) ?_) | (at_builtin; refine wpList_copyK _ rfl _ _ 40 40 rfl _ _ rfl rfl (hcp1 _ _) ?_))
  go_region_law (refine step_copyK rfl _ _ 40 40 rfl _ _ (by simp [Act.eval, Act.put]) (by simp [Act.eval, Act.put]) (hcp2 _ _ _) ?_)
  go_wp2_with fail
  go_ret
  exact InsOut.mk _ rfl (by rw [HIL.out]; exact HOWN.out) HGR.out (.inr ⟨_, Nat.le_refl _, rfl⟩)

theorem insert_any (v : Value) (l : List Fld) (i : Nat) (f : Fld) (vb base : Nat) (w : World) (hown : w.ownsRow base 39 4 v l.length (flatF l)) (hi : i ≤ l.length) (hlen : l.length ≤ 1000) (hbase : base ≤ w.heap.size) (hvb : LiesF w vb f) (hne : ∀ g, v.ownBlock = some g → vb ≠ g) :
    Calls Tryz.prog 119 #[v, .int .i64 i, .slice (some ⟨vb, 0, none⟩) 1 1] w fun e w' => InsOut w base v (insL l i f) e w' := by
  rcases Nat.lt_or_ge i l.length with h | h
  · rcases hown.2 with ⟨_, h0⟩ | ⟨g, cap, cur, rfl, h2, h3, h4, h5, h6, h7⟩
    · omega
    · rcases Nat.lt_or_ge cap (l.length + 1) with hc | hc
      · exact insert_grow g cap l i f vb base cur w h h4 hc hlen hbase h3 h6 h7 hvb
      · exact insert_room g cap l i f vb base cur w h hc h5 hlen h2 h3 h6 h7 hvb (hne g rfl)
  · obtain rfl : i = l.length := by omega
    rw [insL_end]
    exact insert_end v l f vb base w hown hlen hbase hvb

end Go.Proofs.YtkeghknceccdmaaGreatDoor

/- What the program's DocOf answers, for every row of fields. -/
namespace Go.Proofs.YtkeghknceccdmaaGreatDoor
open Go.RowKit
set_option linter.unusedVariables false

/-- A field that lies in a block. -/
structure FB (W : World) (b : Nat) (f : Fld) : Prop where
  lt : b < W.heap.size
  c0 : W.cell? ⟨b, 0, none⟩ = some (.string f.name)
  c1 : W.cell? ⟨b, 1, none⟩ = some (.int .i64 f.v.k)
  c2 : W.cell? ⟨b, 2, none⟩ = some (.int .i64 f.v.n)
  c3 : W.cell? ⟨b, 3, none⟩ = some (.string f.v.t)
theorem FB.start (w : World) (f : Fld) (T : TypeId) : FB (w.alloc (.cells #[.string f.name, .int .i64 f.v.k, .int .i64 f.v.n, .string f.v.t] T)) w.heap.size f :=
  ⟨by simp, by simp [go_sem], by simp [go_sem], by simp [go_sem], by simp [go_sem]⟩
theorem FB.next {W W' : World} {b : Nat} {f : Fld} (h : FB W b f) (hb : Below W.heap.size W W') : FB W' b f :=
  ⟨Nat.lt_of_lt_of_le h.lt hb.size, (hb.cell h.lt).trans h.c0, (hb.cell h.lt).trans h.c1, (hb.cell h.lt).trans h.c2, (hb.cell h.lt).trans h.c3⟩
theorem own_rowF {w : World} {base : Nat} {v : Value} {l : List Fld} (h : w.ownsRow base 39 4 v l.length (flatF l)) : ∃ p c, v = .slice p l.length c ∧ RowF w p l := by
  rcases h.2 with ⟨rfl, h0⟩ | ⟨g, cap, cur, rfl, _⟩
  · exact ⟨none, 0, by rw [h0], .inl (List.eq_nil_of_length_eq_zero h0)⟩
  · exact ⟨_, cap, rfl, .inr ⟨g, rfl, ReadF.of_own h⟩⟩

/-- What putting fields in order answers. -/
def SortOut (r : Except Int (List Fld)) (n : Nat) (e : Ending) (w' : World) : Prop :=
  match r with
  | .error c => e = .returned (.tuple #[.slice none 0 0, .int .i64 c]) ∧ c ≠ 0
  | .ok s => ∃ p cap, e = .returned (.tuple #[.slice p s.length cap, .int .i64 0]) ∧ RowF w' p s ∧ GoodF s ∧ s.length = n
theorem SortOut.err {r : Except Int (List Fld)} {n : Nat} {e : Ending} {w' : World} (c : Int) (hr : r = .error c) (h : e = .returned (.tuple #[.slice none 0 0, .int .i64 c])) (hc : c ≠ 0) : SortOut r n e w' := by subst hr; exact ⟨h, hc⟩
theorem SortOut.ok {r : Except Int (List Fld)} {n : Nat} {e : Ending} {w' : World} (s : List Fld) (hr : r = .ok s) (p : Option Addr) (cap : Nat) (h : e = .returned (.tuple #[.slice p s.length cap, .int .i64 0])) (h1 : RowF w' p s) (h2 : GoodF s) (h3 : s.length = n) : SortOut r n e w' := by subst hr; exact ⟨p, cap, h, h1, h2, h3⟩

set_option maxRecDepth 4000 in
set_option maxHeartbeats 4000000 in
theorem sortedFields_any (g cap : Nat) (l : List Fld) (w : World) (hr : ReadF w g l) (hl : l.length ≤ 300) (hts : ∀ f ∈ l, f.name.size ≤ 1048576 ∧ f.v.t.size ≤ 1048576) :
    Calls Tryz.prog 55 #[.slice (some ⟨g, 0, none⟩) l.length cap] w fun e w' => SortOut (foldD [] l) l.length e w' ∧ Below w.heap.size w w' := by
  have HR : Hid (ReadF _ _ _) := hr
  have HT : Hid _ := hts
  clear hr hts
  go_enter Tryz.func55, Tryz.ntmps55
  go_wp2_with fail
  go_loopw [4, 11] (fun u i wr => ∃ (k : Nat) (acc : List Fld), k ≤ l.length ∧ i = .int .i64 k ∧ acc.length = k ∧ GoodF acc ∧ foldD [] l = foldD acc (l.drop k) ∧ wr.ownsRow w.heap.size 39 4 u acc.length (flatF acc) ∧ Below w.heap.size w wr) (fun _ i _ => l.length - (intOf i).toNat)
  case atStart => exact ⟨0, [], Nat.zero_le _, rfl, rfl, GoodF.nil, rfl, World.ownsRow_nil _ _ _ _, Below.refl _ _⟩
  case round =>
    obtain ⟨k, acc, hk, rfl, hal, hga, hfold, hown, hbel⟩ := hrel
    have hz := hbel.size
    have hac : acc.length ≤ 300 := by omega
    have HAL : Hid (acc.length = k) := hal
    have HO : Hid (World.ownsRow _ _ _ _ _ _ _) := hown
    obtain ⟨p, c, rfl, hrow⟩ := own_rowF hown
    have HG : Hid (GoodF _) := hga
    have HF : Hid (_ = _) := hfold
    have HW : Hid (RowF _ _ _) := hrow
    clear hown hga hfold hrow hal
    by_cases hlt : k < l.length
    · have R := HR.out.next hbel
      obtain ⟨x0, x1, x2, x3⟩ := R.cells k hlt
      have hgl := R.lt
      have ht := HT.out l[k] (List.getElem_mem _)
      have hns : l[k].name.size ≤ maxLen := by unfold maxLen; omega
      have hvs : l[k].v.t.size ≤ maxLen := by unfold maxLen; omega
      have F0 := FB.start wr l[k] 39
      have B0 : Below w.heap.size w (wr.alloc (.cells #[.string l[k].name, .int .i64 l[k].v.k, .int .i64 l[k].v.n, .string l[k].v.t] 39)) := hbel.alloc hz _
      have HB0 : Hid (Below _ _ _) := B0
      have HF0 : Hid (FB _ _ _) := F0
      clear R ht F0 B0
      cases hs : shortB l[k].name
      · have E : Hid (_ = _) := HF.out.trans (foldD_name acc l k hlt hs)
        have HS : Hid (_ = _) := hs
        clear hs
        go_wp2_with fail
        refine (shortNameOK_any _ _ hns).mono ?_
        rintro e w1 ⟨rfl, rfl⟩
        rw [HS.out]
        go_wp2_with fail
        go_ret2
        exact ⟨SortOut.err 11 E.out rfl (by decide), HB0.out⟩
      · cases ho : okB l[k].v
        · have E : Hid (_ = _) := HF.out.trans (foldD_bad acc l k hlt hs ho)
          have HS : Hid (_ = _) := hs
          have HV : Hid (okB ⟨l[k].v.k, l[k].v.n, l[k].v.t⟩ = false) := ho
          clear hs ho
          go_wp2_with fail
          refine (shortNameOK_any _ _ hns).mono ?_
          rintro e w1 ⟨rfl, rfl⟩
          rw [HS.out]
          go_wp2_with fail
          refine (valueOK_any _ _ _ _ hvs).mono ?_
          rintro e w1 ⟨rfl, hb1⟩
          rw [HV.out]
          go_wp2_with fail
          go_ret2
          exact ⟨SortOut.err 1 E.out rfl (by decide), HB0.out.trans (hb1.mono HB0.out.size)⟩
        · have HS : Hid (_ = _) := hs
          have HV : Hid (okB ⟨l[k].v.k, l[k].v.n, l[k].v.t⟩ = true) := ho
          clear hs ho
          go_wp2_with fail
          refine (shortNameOK_any _ _ hns).mono ?_
          rintro e w1 ⟨rfl, rfl⟩
          rw [HS.out]
          go_wp2_with fail
          refine (valueOK_any _ _ _ _ hvs).mono ?_
          rintro e w1 ⟨rfl, hb1⟩
          rw [HV.out]
          have F1 := HF0.out.next hb1
          have B1 : Below w.heap.size w w1 := HB0.out.trans (hb1.mono HB0.out.size)
          have hA : Below wr.heap.size wr (wr.alloc (.cells #[.string l[k].name, .int .i64 l[k].v.k, .int .i64 l[k].v.n, .string l[k].v.t] 39)) := (Below.refl _ _).alloc (Nat.le_refl _) _
          have hA1 : Below wr.heap.size wr w1 := hA.trans (hb1.mono hA.size)
          have HW1 : Hid (RowF _ _ _) := HW.out.next hA1
          have HO1 : Hid (World.ownsRow _ _ _ _ _ _ _) := owns_below HO.out hA1
          have c0 := F1.c0
          have hlt1 := F1.lt
          have HB1 : Hid (Below _ _ _) := B1
          have HF1 : Hid (FB _ _ _) := F1
          clear hb1 F1 B1 hA hA1 x0 x1 x2 x3
          go_wp2_with fail
          refine (fieldPlace_any p c acc l[k].name w1 HW1.out HG.out.rise (by omega)).mono ?_
          rintro e w2 ⟨⟨i, b, rfl, hp⟩, hb2⟩
          have F2 := HF1.out.next hb2
          have HB2 : Hid (Below w.heap.size w w2) := HB1.out.trans (hb2.mono HB1.out.size)
          have HO2 : Hid (World.ownsRow _ _ _ _ _ _ _) := owns_below HO1.out hb2
          have hz2 := HB2.out.size
          have d0 := F2.c0
          have d1 := F2.c1
          have d2 := F2.c2
          have d3 := F2.c3
          have hlt2 := F2.lt
          have HP : Hid (Place _ _ _ _) := hp
          clear hb2 F2 c0 hp
          cases b
          · have hpl := HP.out.le
            go_wp2_with fail
            refine (insert_any _ acc i l[k] w2.heap.size w.heap.size _ (HO2.out.alloc _) hpl (by omega) (by simp; omega) (heap_alloc_new _ _) (fun g' hg' => by have := (HO2.out.lt g' hg').2; omega)).mono ?_
            rintro e w3 ⟨v', rfl, hown3, hgrow3, _⟩
            have hb3 : Below w.heap.size w w3 := Below.grown (HB2.out.alloc hz2 _) hgrow3 (by simp; omega) (fun k hk => (HO2.out.lt k hk).1)
            have HO3 : Hid (World.ownsRow _ _ _ _ _ _ _) := hown3
            have E : Hid (_ = _) := HF.out.trans (foldD_next acc l k i hlt HS.out HV.out HG.out.rise HP.out)
            clear hown3 hgrow3
            go_wp2_with fail
            go_roundw
            case rel => exact ⟨k + 1, insL acc i l[k], by omega, by go_num, by rw [insL_len _ _ _ hpl, HAL.out], HG.out.ins HS.out HV.out HP.out, E.out, HO3.out, hb3⟩
            case measure => simp [intOf]; omega
          · have E : Hid (_ = _) := HF.out.trans (foldD_twice acc l k hlt HS.out HV.out (HP.out.has HG.out.rise))
            go_wp2_with fail
            go_ret2
            exact ⟨SortOut.err 12 E.out rfl (by decide), HB2.out⟩
    · have E : Hid (_ = _) := HF.out.trans (foldD_end acc l k (by omega))
      go_wp2_with fail
      go_ret2
      exact ⟨SortOut.ok acc E.out p c rfl HW.out HG.out (by have := HAL.out; omega), hbel⟩

end Go.Proofs.YtkeghknceccdmaaGreatDoor

/- What the program's DocOf answers, for every row of fields. -/
namespace Go.Proofs.YtkeghknceccdmaaGreatDoor
open Go.RowKit
set_option linter.unusedVariables false

set_option maxRecDepth 4000 in
set_option maxHeartbeats 1000000 in
theorem implDoc_long (g cap : Nat) (l : List Fld) (w : World) (hl : l.length ≤ 1048576) (h : 4096 < l.length) :
    Calls Tryz.prog 17 #[.slice (some ⟨g, 0, none⟩) l.length cap] w fun e w' => e = .returned (.tuple #[.agg #[.int .i64 0, .int .i64 0, .string em], .int .i64 2]) ∧ Below w.heap.size w w' := by
  have hh : (4096 : Int) < (l.length : Int) := by omega
  go_enter Tryz.func17, Tryz.ntmps17
  go_wp2_with fail
  refine bodyPost_ret (v := .tuple #[.agg #[.int .i64 0, .int .i64 0, .string em], .int .i64 2]) (by simp [results, Tryz.results17, go_sem, *]) rfl ⟨rfl, ?_⟩
  (repeat (first | (with_reducible exact Below.refl _ _) | (with_reducible assumption) | (with_reducible apply below_drewN) | (with_reducible apply Below.drew) | ((with_reducible refine Below.setCell ?_ ?_ _); rotate_left; focus (first | (simp; done) | (simp; omega) | omega)) | ((with_reducible refine Below.alloc ?_ ?_ _); rotate_left; focus (first | (simp; done) | (simp; omega) | omega))))
set_option maxRecDepth 4000 in
set_option maxHeartbeats 1000000 in
theorem implDoc_many (g cap : Nat) (l : List Fld) (w : World) (h : ¬ 4096 < l.length) (h2 : 300 < l.length) :
    Calls Tryz.prog 17 #[.slice (some ⟨g, 0, none⟩) l.length cap] w fun e w' => e = .returned (.tuple #[.agg #[.int .i64 0, .int .i64 0, .string em], .int .i64 10]) ∧ Below w.heap.size w w' := by
  have hh : ¬ (4096 : Int) < (l.length : Int) := by omega
  have hh2 : (300 : Int) < (l.length : Int) := by omega
  go_enter Tryz.func17, Tryz.ntmps17
  go_wp2_with fail
  refine bodyPost_ret (v := .tuple #[.agg #[.int .i64 0, .int .i64 0, .string em], .int .i64 10]) (by simp [results, Tryz.results17, go_sem, *]) rfl ⟨rfl, ?_⟩
  (repeat (first | (with_reducible exact Below.refl _ _) | (with_reducible assumption) | (with_reducible apply below_drewN) | (with_reducible apply Below.drew) | ((with_reducible refine Below.setCell ?_ ?_ _); rotate_left; focus (first | (simp; done) | (simp; omega) | omega)) | ((with_reducible refine Below.alloc ?_ ?_ _); rotate_left; focus (first | (simp; done) | (simp; omega) | omega))))
set_option maxRecDepth 4000 in
set_option maxHeartbeats 2000000 in
theorem implDoc_few (g cap : Nat) (l : List Fld) (w : World) (hr : ReadF w g l) (h2 : ¬ 300 < l.length) (hts : ∀ f ∈ l, f.name.size ≤ 1048576 ∧ f.v.t.size ≤ 1048576) :
    Calls Tryz.prog 17 #[.slice (some ⟨g, 0, none⟩) l.length cap] w fun e w' => e = .returned (.tuple #[aggV (madeP l).1, .int .i64 (madeP l).2]) ∧ Below w.heap.size w w' := by
  have hh : ¬ (4096 : Int) < (l.length : Int) := by omega
  have hh2 : ¬ (300 : Int) < (l.length : Int) := by omega
  have hl : l.length ≤ 300 := by omega
  have X0 := Res3.start w (.int .i64 0) (.int .i64 0) (.string em) 28
  have HR : Hid _ := hr.next X0.bel
  have HT : Hid _ := hts
  rw [madeP_few l h2]
  clear hr hts
  cases hfo : foldD [] l with
  | error cd =>
    have HF : Hid (_ = _) := hfo
    clear hfo
    show Calls _ _ _ _ fun e w' => e = .returned (.tuple #[.agg #[.int .i64 0, .int .i64 0, .string em], .int .i64 cd]) ∧ Below w.heap.size w w'
    go_enter Tryz.func17, Tryz.ntmps17
    go_wp2_with fail
    refine (sortedFields_any g cap l _ HR.out hl HT.out).mono ?_
    rintro e w1 ⟨hout, hb⟩
    rw [HF.out] at hout
    obtain ⟨rfl, hc⟩ := hout
    have hc2 : (cd == 0) = false := beq_eq_false_iff_ne.mpr hc
    have Y := X0.step hb
    have g0 := Y.c0
    have g1 := Y.c1
    have g2 := Y.c2
    have z0 := Y.z0
    have z1 := Y.z1
    have z2 := Y.z2
    have hlt := Y.lt
    have hbw := Y.bel
    clear hb Y X0
    go_wp2_with fail
    refine bodyPost_ret (v := .tuple #[.agg #[.int .i64 0, .int .i64 0, .string em], .int .i64 cd]) (by simp [results, Tryz.results17, go_sem, *]) rfl ⟨rfl, ?_⟩
    (repeat (first | (with_reducible exact Below.refl _ _) | (with_reducible assumption) | (with_reducible apply below_drewN) | (with_reducible apply Below.drew) | ((with_reducible refine Below.setCell ?_ ?_ _); rotate_left; focus (first | (simp; done) | (simp; omega) | omega)) | ((with_reducible refine Below.alloc ?_ ?_ _); rotate_left; focus (first | (simp; done) | (simp; omega) | omega))))
  | ok s =>
    have HF : Hid (_ = _) := hfo
    clear hfo
    show Calls _ _ _ _ fun e w' => e = .returned (.tuple #[aggV (fitD s).1, .int .i64 (fitD s).2]) ∧ Below w.heap.size w w'
    go_enter Tryz.func17, Tryz.ntmps17
    go_wp2_with fail
    refine (sortedFields_any g cap l _ HR.out hl HT.out).mono ?_
    rintro e w1 ⟨hout, hb⟩
    rw [HF.out] at hout
    obtain ⟨p, c, rfl, hrow, hgood, hsl⟩ := hout
    have hsl2 : s.length ≤ 300 := by omega
    have HW : Hid (RowF _ _ _) := hrow
    have HG : Hid (GoodF _) := hgood
    have Y1 := X0.step hb
    clear hb X0 hrow hgood hsl
    go_wp2_with fail
    refine (docWith_any p c s _ HW.out hsl2 HG.out).mono ?_
    rintro e w2 ⟨rfl, hb⟩
    have Y2 := Y1.step hb
    clear hb Y1
    go_wp2_with fail
    refine (bounded_doc s _ hsl2 HG.out).mono ?_
    rintro e w3 ⟨rfl, hb⟩
    have Y := Y2.step hb
    have g0 := Y.c0
    have g1 := Y.c1
    have g2 := Y.c2
    have z0 := Y.z0
    have z1 := Y.z1
    have z2 := Y.z2
    have hlt := Y.lt
    have hbw := Y.bel
    clear hb Y Y2
    go_wp2_with fail
    refine bodyPost_ret (v := .tuple #[aggV (fitD s).1, .int .i64 (fitD s).2]) (by simp [results, Tryz.results17, go_sem, *]) rfl ⟨rfl, ?_⟩
    (repeat (first | (with_reducible exact Below.refl _ _) | (with_reducible assumption) | (with_reducible apply below_drewN) | (with_reducible apply Below.drew) | ((with_reducible refine Below.setCell ?_ ?_ _); rotate_left; focus (first | (simp; done) | (simp; omega) | omega)) | ((with_reducible refine Below.alloc ?_ ?_ _); rotate_left; focus (first | (simp; done) | (simp; omega) | omega))))
theorem implDoc_any (g cap : Nat) (l : List Fld) (w : World) (hr : ReadF w g l) (hl : l.length ≤ 1048576) (hts : ∀ f ∈ l, f.name.size ≤ 1048576 ∧ f.v.t.size ≤ 1048576) :
    Calls Tryz.prog 17 #[.slice (some ⟨g, 0, none⟩) l.length cap] w fun e w' => e = .returned (.tuple #[aggV (madeP l).1, .int .i64 (madeP l).2]) ∧ Below w.heap.size w w' := by
  by_cases h : 4096 < l.length
  · rw [madeP_long l h]; exact implDoc_long g cap l w hl h
  · by_cases h2 : 300 < l.length
    · rw [madeP_many l h h2]; exact implDoc_many g cap l w h h2
    · exact implDoc_few g cap l w hr h2 hts

end Go.Proofs.YtkeghknceccdmaaGreatDoor
