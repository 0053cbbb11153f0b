/- Writes: whether one is right, by both; the laws' own helpers on one; one that comes in, opened. -/
import Derived.Test.YtncpijfbbgipaaaGreatDoorDocBR
import Derived.Test.YtncpijfbbgipaaaGreatDoorEncUQ
import Derived.Test.YtncpijfbbgipaaaGreatDoorPathWR
import Derived.Deep.Slices
import Derived.Deep.Strs
import Derived.ChangeSame
import Derived.Lib.SmallJoins
import Derived.OpenShut
import Derived.Test.YtncpijfbbgipaaaGreatDoorColNR
import Derived.Test.YtncpijfbbgipaaaGreatDoorColQR
import Derived.Deep.RegionLaw
import Derived.Laws.CopyRow
import Derived.Laws.Externs
import Derived.Lib.Overlaps
import Derived.Lib.AppendZerosOnto
import Derived.Lib.Hide
import Derived.Maps.AppendAt
import Derived.Test.YtncpijfbbgipaaaGreatDoorVacLR
import Derived.Deep.RegionHeld3
import Derived.StillTail
namespace Go.Proofs.YtncpijfbbgipaaaGreatDoor.Co
open Go.RowKit Go.Joins Go.Deep Go.ChangeShapes Go.WideShapes Go.ChangeAt Tr
set_option linter.unusedVariables false

/-- A write. -/
structure Wrt where
  coll : ByteArray
  id : Int
  gone : Bool
  doc : Val
/-- A write, as a value. -/
def Wrt.v (x : Wrt) : Value := .agg #[.string x.coll, .int .i64 x.id, .bool x.gone, .int .i64 x.doc.k, .int .i64 x.doc.n, .string x.doc.t]
def writeB (x : Wrt) : Bool := shortB x.coll && (topB x.id && stateB x.id x.gone x.doc)
structure SzW (x : Wrt) : Prop where
  c : x.coll.size ≤ 1048576
  d : x.doc.t.size ≤ 1048576
structure MaxW (x : Wrt) : Prop where
  c : x.coll.size ≤ maxLen
  d : x.doc.t.size ≤ maxLen
theorem SzW.mx {x : Wrt} (h : SzW x) : x.coll.size ≤ maxLen := by have := h.c; unfold maxLen; omega
/-- A box of six cells, anywhere. -/
structure BxW (W : World) (b : Nat) (x : Wrt) : Prop where
  lt : b < W.heap.size
  c0 : W.cell? ⟨b, 0, none⟩ = some (.string x.coll)
  c1 : W.cell? ⟨b, 1, none⟩ = some (.int .i64 x.id)
  c2 : W.cell? ⟨b, 2, none⟩ = some (.bool x.gone)
  c3 : W.cell? ⟨b, 3, none⟩ = some (.int .i64 x.doc.k)
  c4 : W.cell? ⟨b, 4, none⟩ = some (.int .i64 x.doc.n)
  c5 : W.cell? ⟨b, 5, none⟩ = some (.string x.doc.t)
theorem BxW.new (w : World) (x : Wrt) (T : TypeId) : BxW (w.alloc (.cells #[.string x.coll, .int .i64 x.id, .bool x.gone, .int .i64 x.doc.k, .int .i64 x.doc.n, .string x.doc.t] T)) w.heap.size x :=
  ⟨by simp, by simp [go_sem], by simp [go_sem], by simp [go_sem], by simp [go_sem], by simp [go_sem], by simp [go_sem]⟩
theorem BxW.step {W W' : World} {b B : Nat} {x : Wrt} (h : BxW W b x) (hb : Below B W W') (hB : b < B) : BxW W' b x :=
  ⟨Nat.lt_of_lt_of_le h.lt hb.size, (hb.cell hB).trans h.c0, (hb.cell hB).trans h.c1, (hb.cell hB).trans h.c2, (hb.cell hB).trans h.c3, (hb.cell hB).trans h.c4, (hb.cell hB).trans h.c5⟩
theorem BxW.next {W W' : World} {b : Nat} {x : Wrt} (h : BxW W b x) (hb : Below W.heap.size W W') : BxW W' b x := h.step hb h.lt
theorem BxW.chg {W W' : World} {b lo hi : Nat} {x : Wrt} (h : BxW W b x) (hc : Chg lo hi W W') (ho : b < lo ∨ hi ≤ b) : BxW W' b x :=
  ⟨Nat.lt_of_lt_of_le h.lt hc.size, (hc.cell h.lt ho).trans h.c0, (hc.cell h.lt ho).trans h.c1, (hc.cell h.lt ho).trans h.c2, (hc.cell h.lt ho).trans h.c3, (hc.cell h.lt ho).trans h.c4, (hc.cell h.lt ho).trans h.c5⟩

set_option maxRecDepth 4000 in
set_option maxHeartbeats 1000000 in
theorem writeOK_any (x : Wrt) (w : World) (hs : SzW x) :
    Calls Tryz.prog 28 #[.agg #[.string x.coll, .int .i64 x.id, .bool x.gone, .int .i64 x.doc.k, .int .i64 x.doc.n, .string x.doc.t]] w fun e w' => e = .returned (.bool (writeB x)) ∧ Below w.heap.size w w' := by
  have X0 := BxW.new w x 41
  have hbw : Below w.heap.size w (w.alloc (.cells #[.string x.coll, .int .i64 x.id, .bool x.gone, .int .i64 x.doc.k, .int .i64 x.doc.n, .string x.doc.t] 41)) := (Below.refl _ _).alloc (Nat.le_refl _) _
  have HN : Hid (∀ W : World, Calls _ _ _ W _) := fun W => shortNameOK_any x.coll W hs.mx
  have HT : Hid (∀ W : World, Calls _ _ _ W _) := fun W => topIdOK_any x.id W
  have HS : Hid (0 ≤ x.id → ∀ W : World, Calls _ _ _ W _) := fun h W => stateOK_any x.id x.gone x.doc W h hs.d
  clear hs
  unfold writeB
  cases hb1 : shortB x.coll
  · rw [hb1] at HN
    go_enter Tryz.func28, Tryz.ntmps28
    go_wp2_with fail
    refine (HN.out _).mono ?_
    rintro e w1 ⟨rfl, rfl⟩
    go_wp2_with fail
    go_ret
    exact ⟨rfl, hbw⟩
  · rw [hb1] at HN
    cases hb2 : topB x.id
    · rw [hb2] at HT
      go_enter Tryz.func28, Tryz.ntmps28
      go_wp2_with fail
      refine (HN.out _).mono ?_
      rintro e w1 ⟨rfl, rfl⟩
      go_wp2_with fail
      refine (HT.out _).mono ?_
      rintro e w1 ⟨rfl, rfl⟩
      go_wp2_with fail
      go_ret
      exact ⟨rfl, hbw⟩
    · have h0 : 0 ≤ x.id := by unfold topB at hb2; have := of_decide_eq_true hb2; omega
      rw [hb2] at HT
      have HS2 : Hid (∀ W : World, Calls _ _ _ W _) := HS.out h0
      clear hb1 hb2 HS h0
      go_enter Tryz.func28, Tryz.ntmps28
      go_wp2_with fail
      refine (HN.out _).mono ?_
      rintro e w1 ⟨rfl, rfl⟩
      go_wp2_with fail
      refine (HT.out _).mono ?_
      rintro e w1 ⟨rfl, rfl⟩
      go_wp2_with fail
      refine (HS2.out _).mono ?_
      rintro e w1 ⟨rfl, hb⟩
      have hbw2 := hbw.trans (hb.mono hbw.size)
      clear hb
      go_wp2_with fail
      go_ret
      exact ⟨rfl, hbw2⟩
set_option maxRecDepth 4000 in
set_option maxHeartbeats 1000000 in
theorem specWrite_any (x : Wrt) (w : World) (hs : SzW x) :
    Calls Tryz.prog 20 #[.agg #[.string x.coll, .int .i64 x.id, .bool x.gone, .int .i64 x.doc.k, .int .i64 x.doc.n, .string x.doc.t]] w fun e w' => e = .returned (.bool (writeB x)) ∧ Below w.heap.size w w' := by
  have X0 := BxW.new w x 41
  have hbw : Below w.heap.size w (w.alloc (.cells #[.string x.coll, .int .i64 x.id, .bool x.gone, .int .i64 x.doc.k, .int .i64 x.doc.n, .string x.doc.t] 41)) := (Below.refl _ _).alloc (Nat.le_refl _) _
  have HN : Hid (∀ W : World, Calls _ _ _ W _) := fun W => l01Name_any x.coll W hs.mx
  have HT : Hid (∀ W : World, Calls _ _ _ W _) := fun W => l01In_any x.id 0 19 W
  have HS : Hid (∀ W : World, Calls _ _ _ W _) := fun W => l08Doc_any x.id x.gone x.doc W hs.d
  clear hs
  unfold writeB topB
  cases hb1 : shortB x.coll
  · rw [hb1] at HN
    go_enter Tryz.func20, Tryz.ntmps20
    go_wp2_with fail
    refine (HN.out _).mono ?_
    rintro e w1 ⟨rfl, rfl⟩
    go_wp2_with fail
    go_ret
    exact ⟨rfl, hbw⟩
  · rw [hb1] at HN
    cases hb2 : decide (0 ≤ x.id ∧ x.id ≤ 19)
    · rw [hb2] at HT
      go_enter Tryz.func20, Tryz.ntmps20
      go_wp2_with fail
      refine (HN.out _).mono ?_
      rintro e w1 ⟨rfl, rfl⟩
      go_wp2_with fail
      refine (HT.out _).mono ?_
      rintro e w1 ⟨rfl, rfl⟩
      go_wp2_with fail
      go_ret
      exact ⟨rfl, hbw⟩
    · rw [hb2] at HT
      clear hb1 hb2
      go_enter Tryz.func20, Tryz.ntmps20
      go_wp2_with fail
      refine (HN.out _).mono ?_
      rintro e w1 ⟨rfl, rfl⟩
      go_wp2_with fail
      refine (HT.out _).mono ?_
      rintro e w1 ⟨rfl, rfl⟩
      go_wp2_with fail
      refine (HS.out _).mono ?_
      rintro e w1 ⟨rfl, hb⟩
      have hbw2 := hbw.trans (hb.mono hbw.size)
      clear hb
      go_wp2_with fail
      go_ret
      exact ⟨rfl, hbw2⟩
set_option maxRecDepth 4000 in
set_option maxHeartbeats 1000000 in
theorem szWrite_any (x : Wrt) (c0 : Int) (w : World) (hm : MaxW x) (h0 : 0 ≤ c0) (h1 : c0 ≤ 1048576) :
    Calls Tryz.prog 6 #[.agg #[.string x.coll, .int .i64 x.id, .bool x.gone, .int .i64 x.doc.k, .int .i64 x.doc.n, .string x.doc.t], .int .i64 c0] w fun e w' => (∃ r : Int, e = .returned (.int .i64 r) ∧ (r < 0 ∨ (0 ≤ r ∧ r ≤ c0 ∧ SzW x))) ∧ Below w.heap.size w w' := by
  have hbw : Below w.heap.size w (w.alloc (.cells #[.string x.coll, .int .i64 x.id, .bool x.gone, .int .i64 x.doc.k, .int .i64 x.doc.n, .string x.doc.t] 29)) := (Below.refl _ _).alloc (Nat.le_refl _) _
  have hmx := hm.c
  unfold maxLen at hmx
  by_cases hover : c0 < (x.coll.size : Int)
  · have hneg : c0 - (x.coll.size : Int) < 0 := by omega
    go_enter Tryz.func6, Tryz.ntmps6
    go_wp2_with fail
    go_ret
    exact ⟨⟨-1, rfl, .inl (by omega)⟩, hbw⟩
  · have hpos : ¬ c0 - (x.coll.size : Int) < 0 := by omega
    have HF : Hid (∀ W : World, Calls _ _ _ W _) := fun W => szValue_any x.doc.k x.doc.n x.doc.t (c0 - x.coll.size) W hm.d (by omega) (by omega)
    by_cases hd : c0 - (x.coll.size : Int) < (x.doc.t.size : Int)
    · rw [if_pos hd] at HF
      clear hm hd
      go_enter Tryz.func6, Tryz.ntmps6
      go_wp2_with fail
      refine (HF.out _).mono ?_
      rintro e w1 ⟨rfl, hb⟩
      have hbw1 := hbw.trans (hb.mono hbw.size)
      clear hb
      go_wp2_with fail
      go_ret
      exact ⟨⟨-1, rfl, .inl (by omega)⟩, hbw1⟩
    · rw [if_neg hd] at HF
      have hpos2 : ¬ c0 - (x.coll.size : Int) - (x.doc.t.size : Int) < 0 := by omega
      have HSW : Hid (SzW x) := ⟨by omega, by omega⟩
      clear hm hd
      go_enter Tryz.func6, Tryz.ntmps6
      go_wp2_with fail
      refine (HF.out _).mono ?_
      rintro e w1 ⟨rfl, hb⟩
      have hbw1 := hbw.trans (hb.mono hbw.size)
      clear hb
      go_wp2_with fail
      go_ret
      exact ⟨⟨_, rfl, .inr ⟨by omega, by omega, HSW.out⟩⟩, hbw1⟩
/-- Blocks of six cells that are being made. -/
structure Mk6 (w W : World) (x y : Array Value) (T U : TypeId) : Prop where
  bel : Below w.heap.size w W
  lt : w.heap.size + 2 < W.heap.size
  rb : W.heap[w.heap.size + 1]? = some (.cells x U)
  ob : W.heap[w.heap.size + 2]? = some (.cells y U)
theorem Mk6.start (w : World) (O : Obj) (x y : Array Value) (T U : TypeId) : Mk6 w (((w.alloc O).alloc (.cells x U)).alloc (.cells y U)) x y T U := by
  have s1 : (w.alloc O).heap.size = w.heap.size + 1 := by simp
  have s2 : ((w.alloc O).alloc (.cells x U)).heap.size = w.heap.size + 2 := by simp
  refine ⟨(((Below.refl _ _).alloc (Nat.le_refl _) _).alloc (by simp) _).alloc (by simp; omega) _, by simp, ?_, ?_⟩
  · rw [heap_alloc_old _ _ (by simp)]; rw [← s1]; exact heap_alloc_new _ _
  · rw [← s2]; exact heap_alloc_new _ _
theorem Mk6.next {w W W' : World} {x y : Array Value} {T U : TypeId} (h : Mk6 w W x y T U) (hb : Below W.heap.size W W') : Mk6 w W' x y T U := by
  have := h.lt
  exact ⟨h.bel.trans (hb.mono (by omega)), Nat.lt_of_lt_of_le h.lt hb.size, (hb.block _ (by omega)).trans h.rb, (hb.block _ h.lt).trans h.ob⟩
set_option maxRecDepth 4000 in
set_option maxHeartbeats 1000000 in
theorem toWrite_any (x : Wrt) (w : World) :
    Calls Tryz.prog 9 #[.agg #[.string x.coll, .int .i64 x.id, .bool x.gone, .int .i64 x.doc.k, .int .i64 x.doc.n, .string x.doc.t]] w fun e w' => e = .returned (.agg #[.string x.coll, .int .i64 x.id, .bool x.gone, .int .i64 x.doc.k, .int .i64 x.doc.n, .string x.doc.t]) ∧ Below w.heap.size w w' := by
  have M0 := Mk6.start w (.cells #[.string x.coll, .int .i64 x.id, .bool x.gone, .int .i64 x.doc.k, .int .i64 x.doc.n, .string x.doc.t] 29) #[.string em, .int .i64 0, .bool false, .int .i64 0, .int .i64 0, .string em] #[.string x.coll, .int .i64 x.id, .bool x.gone, .int .i64 0, .int .i64 0, .string em] 29 41
  have HC : Hid (∀ W : World, Calls _ _ _ W _) := fun W => toValue_any x.doc.k x.doc.n x.doc.t W
  go_enter Tryz.func9, Tryz.ntmps9
  go_wp2_with fail
  generalize ((w.alloc (.cells #[.string x.coll, .int .i64 x.id, .bool x.gone, .int .i64 x.doc.k, .int .i64 x.doc.n, .string x.doc.t] 29)).alloc (.cells #[.string em, .int .i64 0, .bool false, .int .i64 0, .int .i64 0, .string em] 41)).alloc (.cells #[.string x.coll, .int .i64 x.id, .bool x.gone, .int .i64 0, .int .i64 0, .string em] 41) = W0 at M0 ⊢
  refine (HC.out _).mono ?_
  rintro e w1 ⟨rfl, hb⟩
  have M1 := M0.next hb
  obtain ⟨a0, a1, a2, a3, a4, a5⟩ := six M1.rb
  obtain ⟨b0, b1, b2, b3, b4, b5⟩ := six M1.ob
  have fa := soft M1.rb
  have fb := soft M1.ob
  have hbw := M1.bel
  have hl := M1.lt
  clear hb M0 M1
  go_wp2_with fail
  refine bodyPost_ret (v := .agg #[.string x.coll, .int .i64 x.id, .bool x.gone, .int .i64 x.doc.k, .int .i64 x.doc.n, .string x.doc.t]) (by simp [results, Tryz.results9, go_sem, *]) rfl ⟨rfl, ?_⟩
  (repeat (first | (with_reducible exact Below.refl _ _) | (with_reducible assumption) | (with_reducible apply below_drewN) | (with_reducible apply Below.drew) | ((with_reducible refine Below.setCell ?_ ?_ _); rotate_left; focus (first | (simp; done) | (simp; omega) | omega)) | ((with_reducible refine Below.alloc ?_ ?_ _); rotate_left; focus (first | (simp; done) | (simp; omega) | omega))))
theorem cellsWr : Tryz.prog.cellsOf 29 = 6 := by kernel_rfl
theorem trod_struct4w {H : Type} {enc : TypeId × Value → H} {P : Program} {w : World} {base : Nat} {spare : Nat → Bool} {held : Bool} {t : TypeId} {f0 f1 f2 f3 : Field} {fuel : Nat} {cs : List Value} {x : DataW H × List MemPlace} (ht : P.underlying t = some (.struct #[f0, f1, f2, f3])) (h : DataW.trod enc P w base spare held fuel t cs = some x) :
    ∃ y0 y1 y2 y3 n, DataW.trod enc P w base spare held n f0.type ((cs.drop f0.offset).take (P.cellsOf f0.type)) = some y0 ∧
      DataW.trod enc P w base spare held n f1.type ((cs.drop f1.offset).take (P.cellsOf f1.type)) = some y1 ∧ DataW.trod enc P w base spare held n f2.type ((cs.drop f2.offset).take (P.cellsOf f2.type)) = some y2 ∧
      DataW.trod enc P w base spare held n f3.type ((cs.drop f3.offset).take (P.cellsOf f3.type)) = some y3 := by
  obtain ⟨xs, n, _, rfl, hl, hlen, hf⟩ := DataW.trod_struct ht h
  match xs, hlen with
  | [y0, y1, y2, y3], _ => exact ⟨y0, y1, y2, y3, n, by simpa using hf 0 f0 rfl, by simpa using hf 1 f1 rfl, by simpa using hf 2 f2 rfl, by simpa using hf 3 f3 rfl⟩
set_option maxRecDepth 100000 in
theorem open_write {H : Type} {enc : TypeId × Value → H} {w : World} {base b0 : Nat} {spare : Nat → Bool} {held : Bool} {r : Reach} {v : Value} {d : DataW H} {ps : List MemPlace}
    (hv : Value.okWide Tryz.prog w r b0 29 v) (h : DataW.Trod enc Tryz.prog w base spare held 29 v d ps) :
    ∃ x : Wrt, v = .agg #[.string x.coll, .int .i64 x.id, .bool x.gone, .int .i64 x.doc.k, .int .i64 x.doc.n, .string x.doc.t] ∧ MaxW x := by
  obtain ⟨cs, rfl, hsz⟩ := okWide_struct Tryz.underlying29 hv
  obtain ⟨fuel, hf⟩ := h
  rw [cellsWr] at hsz
  obtain ⟨l⟩ := cs
  match l, hsz with
  | [c0, c1, c2, c3, c4, c5], _ =>
    obtain ⟨y0, y1, y2, y3, n, t0, t1, t2, t3⟩ := trod_struct4w Tryz.underlying29 (show DataW.trod enc Tryz.prog w base spare held fuel 29 [c0, c1, c2, c3, c4, c5] = some _ by simpa [Value.cells] using hf)
    obtain ⟨z0, e0, _, h0⟩ := DataW.trod_string Tryz.underlying9 t0
    obtain ⟨z1, e1, _, _⟩ := DataW.trod_int Tryz.underlying3 t1
    obtain ⟨z2, e2, _⟩ := DataW.trod_bool Tryz.underlying4 t2
    obtain ⟨u0, u1, u2, m2, _, _, s0, s1, s2⟩ := trod_struct3 Tryz.underlying27 t3
    obtain ⟨z3, e3, _, _⟩ := DataW.trod_int Tryz.underlying3 s0
    obtain ⟨z4, e4, _, _⟩ := DataW.trod_int Tryz.underlying3 s1
    obtain ⟨z5, e5, _, h5⟩ := DataW.trod_string Tryz.underlying9 s2
    simp [cellsI1, cellsS1, cellsVv, cellsB1] at e0 e1 e2 e3 e4 e5
    subst e0 e1 e2 e3 e4 e5
    exact ⟨⟨z0, z1, z2, ⟨z3, z4, z5⟩⟩, rfl, ⟨h0, h5⟩⟩

end Go.Proofs.YtncpijfbbgipaaaGreatDoor.Co

/- A version added to a chain behind a pointer: what the program answers, and what it leaves. -/
namespace Go.Proofs.YtncpijfbbgipaaaGreatDoor.Co
open Go.RowKit Tr
set_option linter.unusedVariables false

/-- The newest version's time. -/
def newT (l : List Ver) : Int := (trP 10000 l).1.tm
/-- The code of a version that is added to a chain. -/
def addC (l : List Ver) (v : Ver) : Int := if v.tm ≤ newT l then 19 else if l.length = 12 then 7 else 0
/-- What is left: nothing changed, or one version more. -/
structure AddA (g o base : Nat) (u : Value) (l : List Ver) (v : Ver) (w : World) (e : Ending) (w' : World) : Prop where
  ret : e = .returned (.int .i64 (addC l v))
  bad : addC l v ≠ 0 → Below w.heap.size w w'
  ok : addC l v = 0 → ∃ w1 u', w' = w1.setCell ⟨g, o + 1, none⟩ u' ∧ w.grownBy w1 u.ownBlock ∧ OwnVr w1 base u' (l ++ [v]) ∧ (u'.ownBlock = u.ownBlock ∨ ∃ b, w.heap.size ≤ b ∧ u'.ownBlock = some b)
set_option maxRecDepth 4000 in
set_option maxHeartbeats 1000000 in
theorem isAheadOf_any (v : Ver) (t : Int) (w : World) :
    Calls Tryz.prog 93 #[.agg #[.int .i64 v.tm, .bool v.gone, .int .i64 v.doc.k, .int .i64 v.doc.n, .string v.doc.t], .int .i64 t] w fun e w' => e = .returned (.bool (decide (v.tm < t))) ∧ Below w.heap.size w w' := by
  have X0 := Box5.start w v 69
  have hbw := X0.bel
  go_enter Tryz.func93, Tryz.ntmps93
  go_wp2_with fail
  go_ret
  exact ⟨rfl, hbw⟩
theorem frozen_of_block {w w' : World} {g o : Nat} (h : w'.heap[g]? = w.heap[g]?) : w'.frozen? ⟨g, o, none⟩ = w.frozen? ⟨g, o, none⟩ := by unfold World.frozen?; simp only [h]
theorem ne_of_or {a : Option Nat} {g : Nat} (h : a = none ∨ a ≠ some g) : some g ≠ a := by
  rcases h with h | h
  · rw [h]; simp
  · exact fun e => h e.symm
theorem keepAd {w W w0 : World} {v : Ver} {g o : Nat} {a b : Value} (X : Box5 w W v) (m : g < w.heap.size) (e0 : W.cell? ⟨g, o, none⟩ = some a) (e1 : W.cell? ⟨g, o + 1, none⟩ = some b) (hb : Below W.heap.size W w0) :
    w0.cell? ⟨g, o, none⟩ = some a ∧ w0.cell? ⟨g, o + 1, none⟩ = some b ∧ w0.cell? ⟨w.heap.size, 0, none⟩ = some (.int .i64 v.tm) :=
  have hl := X.lt
  ⟨(hb.cell (p := ⟨g, o, none⟩) (show g < W.heap.size by omega)).trans e0, (hb.cell (p := ⟨g, o + 1, none⟩) (show g < W.heap.size by omega)).trans e1, (hb.cell X.lt).trans X.c0⟩
set_option maxRecDepth 8000 in
set_option maxHeartbeats 4000000 in
theorem add_any (g o base : Nat) (id : Int) (u : Value) (l : List Ver) (v : Ver) (w : World) (hg : g < w.heap.size) (c0' : w.cell? ⟨g, o, none⟩ = some (.int .i64 id)) (c1' : w.cell? ⟨g, o + 1, none⟩ = some u) (hf' : w.frozen? ⟨g, o + 1, none⟩ = false)
    (hu : OwnVr w base u l) (hne : u.ownBlock = none ∨ u.ownBlock ≠ some g) (hbase : base ≤ w.heap.size) (hl : l.length ≤ 1000) :
    Calls Tryz.prog 61 #[.pointer (some ⟨g, o, none⟩), .agg #[.int .i64 v.tm, .bool v.gone, .int .i64 v.doc.k, .int .i64 v.doc.n, .string v.doc.t]] w fun e w' => AddA g o base u l v w e w' := by
  have X0 := Box5.start w v 69
  have hb0 := X0.bel
  obtain ⟨p, cap, rfl, hcap, hin⟩ := OwnVr.room hu
  have c0 := (hb0.cell (p := ⟨g, o, none⟩) hg).trans c0'
  have c1 := (hb0.cell (p := ⟨g, o + 1, none⟩) hg).trans c1'
  have HIN : Hid (InVr _ _ _) := hin.step hb0
  have HU : Hid (OwnVr _ _ _ _) := hu
  have HNE : Hid (_ ∨ _) := hne
  have HTN : Hid (∀ W : World, InVr W p l → Calls _ _ _ W _) := fun W hW => trackNow_any id p cap l W hW (by omega) hcap
  have HNT : Hid (newT l = (trP 10000 l).1.tm) := rfl
  obtain ⟨V, hV⟩ : ∃ V, V = (trP 10000 l).1 := ⟨_, rfl⟩
  rw [← hV] at HTN HNT
  have HAH : Hid (∀ W : World, Calls _ _ _ W _) := fun W => isAheadOf_any V v.tm W
  have hfld : ∀ (p' : Option Addr) (n' c' : Nat) (W : World), (Instr.field 71 (.agg #[.int .i64 V.tm, .bool V.gone, .int .i64 V.doc.k, .int .i64 V.doc.n, .string V.doc.t, .slice p' n' c']) 0).run Tryz.prog W = .ok (.agg #[.int .i64 V.tm, .bool V.gone, .int .i64 V.doc.k, .int .i64 V.doc.n, .string V.doc.t]) W := fun _ _ _ _ => by kernel_rfl
  clear hV hin hu hne
  go_enter Tryz.func61, Tryz.ntmps61
  go_wp2_with fail
  obtain ⟨W0, hW0⟩ : ∃ W0, W0 = w.alloc (.cells #[.int .i64 v.tm, .bool v.gone, .int .i64 v.doc.k, .int .i64 v.doc.n, .string v.doc.t] 69) := ⟨_, rfl⟩
  rw [← hW0] at X0 hb0 c0 c1 HIN ⊢
  clear hW0
  by_cases hold : v.tm ≤ V.tm
  · have hd : decide (V.tm < v.tm) = false := decide_eq_false (by omega)
    rw [hd] at HAH
    have HAC : Hid (addC l v = 19) := by show addC l v = 19; unfold addC; rw [HNT.out, if_pos hold]
    clear hd hold
    go_region_held3 (fun w0 => w0.cell? ⟨g, o, none⟩ = some (.int .i64 id) ∧ w0.cell? ⟨g, o + 1, none⟩ = some (.slice p l.length cap) ∧ w0.cell? ⟨w.heap.size, 0, none⟩ = some (.int .i64 v.tm)) ((refine keepAd X0 hg c0 c1 ?_; (repeat (first | (with_reducible exact Below.refl _ _) | (with_reducible assumption) | (with_reducible apply below_drewN) | (with_reducible apply Below.drew) | ((with_reducible refine Below.setCell ?_ ?_ _); rotate_left; focus (first | (simp; done) | (simp; omega) | omega)) | ((with_reducible refine Below.alloc ?_ ?_ _); rotate_left; focus (first | (simp; done) | (simp; omega) | omega)))))) (first | (go_at_call 92; refine (HTN.out _ (HIN.out.step (by (repeat (first | (with_reducible exact Below.refl _ _) | (with_reducible assumption) | (with_reducible apply below_drewN) | (with_reducible apply Below.drew) | ((with_reducible refine Below.setCell ?_ ?_ _); rotate_left; focus (first | (simp; done) | (simp; omega) | omega)) | ((with_reducible refine Below.alloc ?_ ?_ _); rotate_left; focus (first | (simp; done) | (simp; omega) | omega))))))).mono ?_; rintro e w2 ⟨⟨p', n', c', rfl⟩, hb⟩; have hB2 : Below W0.heap.size W0 w2 := (show Below W0.heap.size W0 _ by (repeat (first | (with_reducible exact Below.refl _ _) | (with_reducible assumption) | (with_reducible apply below_drewN) | (with_reducible apply Below.drew) | ((with_reducible refine Below.setCell ?_ ?_ _); rotate_left; focus (first | (simp; done) | (simp; omega) | omega)) | ((with_reducible refine Below.alloc ?_ ?_ _); rotate_left; focus (first | (simp; done) | (simp; omega) | omega))))).trans (hb.mono (by simp)); clear hb) | (go_at_call 93; refine (HAH.out _).mono ?_; rintro e w3 ⟨rfl, hb⟩; have hB3 : Below W0.heap.size W0 w3 := hB2.trans ((show Below w2.heap.size w2 _ by (repeat (first | (with_reducible exact Below.refl _ _) | (with_reducible assumption) | (with_reducible apply below_drewN) | (with_reducible apply Below.drew) | ((with_reducible refine Below.setCell ?_ ?_ _); rotate_left; focus (first | (simp; done) | (simp; omega) | omega)) | ((with_reducible refine Below.alloc ?_ ?_ _); rotate_left; focus (first | (simp; done) | (simp; omega) | omega))))).trans (hb.mono (by simp)) |>.mono hB2.size); clear hb))
    all_goals
      have hbw := (X0.step hB3).bel
      go_wp2_with fail
      go_ret
      exact ⟨by rw [HAC.out]; rfl, fun _ => hbw, fun h => (by rw [HAC.out] at h; cases h)⟩
  · have hd : decide (V.tm < v.tm) = true := decide_eq_true (by omega)
    rw [hd] at HAH
    by_cases h12 : l.length = 12
    · have HAC : Hid (addC l v = 7) := by show addC l v = 7; unfold addC; rw [HNT.out, if_neg hold, if_pos h12]
      have H12 : Hid (l.length = 12) := h12
      clear hd hold h12
      go_region_held3 (fun w0 => w0.cell? ⟨g, o, none⟩ = some (.int .i64 id) ∧ w0.cell? ⟨g, o + 1, none⟩ = some (.slice p l.length cap) ∧ w0.cell? ⟨w.heap.size, 0, none⟩ = some (.int .i64 v.tm)) ((refine keepAd X0 hg c0 c1 ?_; (repeat (first | (with_reducible exact Below.refl _ _) | (with_reducible assumption) | (with_reducible apply below_drewN) | (with_reducible apply Below.drew) | ((with_reducible refine Below.setCell ?_ ?_ _); rotate_left; focus (first | (simp; done) | (simp; omega) | omega)) | ((with_reducible refine Below.alloc ?_ ?_ _); rotate_left; focus (first | (simp; done) | (simp; omega) | omega)))))) (first | (go_at_call 92; refine (HTN.out _ (HIN.out.step (by (repeat (first | (with_reducible exact Below.refl _ _) | (with_reducible assumption) | (with_reducible apply below_drewN) | (with_reducible apply Below.drew) | ((with_reducible refine Below.setCell ?_ ?_ _); rotate_left; focus (first | (simp; done) | (simp; omega) | omega)) | ((with_reducible refine Below.alloc ?_ ?_ _); rotate_left; focus (first | (simp; done) | (simp; omega) | omega))))))).mono ?_; rintro e w2 ⟨⟨p', n', c', rfl⟩, hb⟩; have hB2 : Below W0.heap.size W0 w2 := (show Below W0.heap.size W0 _ by (repeat (first | (with_reducible exact Below.refl _ _) | (with_reducible assumption) | (with_reducible apply below_drewN) | (with_reducible apply Below.drew) | ((with_reducible refine Below.setCell ?_ ?_ _); rotate_left; focus (first | (simp; done) | (simp; omega) | omega)) | ((with_reducible refine Below.alloc ?_ ?_ _); rotate_left; focus (first | (simp; done) | (simp; omega) | omega))))).trans (hb.mono (by simp)); clear hb) | (go_at_call 93; refine (HAH.out _).mono ?_; rintro e w3 ⟨rfl, hb⟩; have hB3 : Below W0.heap.size W0 w3 := hB2.trans ((show Below w2.heap.size w2 _ by (repeat (first | (with_reducible exact Below.refl _ _) | (with_reducible assumption) | (with_reducible apply below_drewN) | (with_reducible apply Below.drew) | ((with_reducible refine Below.setCell ?_ ?_ _); rotate_left; focus (first | (simp; done) | (simp; omega) | omega)) | ((with_reducible refine Below.alloc ?_ ?_ _); rotate_left; focus (first | (simp; done) | (simp; omega) | omega))))).trans (hb.mono (by simp)) |>.mono hB2.size); clear hb))
      all_goals
        have hbw := (X0.step hB3).bel
        have d1 := (keepAd X0 hg c0 c1 hB3).2.1
        have h12' : ((l.length : Nat) : Int) = 12 := by have := H12.out; omega
        go_wp2_with fail
        go_ret
        exact ⟨by rw [HAC.out]; rfl, fun _ => hbw, fun h => (by rw [HAC.out] at h; cases h)⟩
    · have HAC : Hid (addC l v = 0) := by show addC l v = 0; unfold addC; rw [HNT.out, if_neg hold, if_neg h12]
      have h12' : ¬ ((l.length : Nat) : Int) = 12 := by omega
      have h12'' : (((l.length : Nat) : Int) == 12) = false := beq_eq_false_iff_ne.mpr h12'
      clear hd hold h12
      go_region_held3 (fun w0 => w0.cell? ⟨g, o, none⟩ = some (.int .i64 id) ∧ w0.cell? ⟨g, o + 1, none⟩ = some (.slice p l.length cap) ∧ w0.cell? ⟨w.heap.size, 0, none⟩ = some (.int .i64 v.tm)) ((refine keepAd X0 hg c0 c1 ?_; (repeat (first | (with_reducible exact Below.refl _ _) | (with_reducible assumption) | (with_reducible apply below_drewN) | (with_reducible apply Below.drew) | ((with_reducible refine Below.setCell ?_ ?_ _); rotate_left; focus (first | (simp; done) | (simp; omega) | omega)) | ((with_reducible refine Below.alloc ?_ ?_ _); rotate_left; focus (first | (simp; done) | (simp; omega) | omega)))))) (first | (go_at_call 92; refine (HTN.out _ (HIN.out.step (by (repeat (first | (with_reducible exact Below.refl _ _) | (with_reducible assumption) | (with_reducible apply below_drewN) | (with_reducible apply Below.drew) | ((with_reducible refine Below.setCell ?_ ?_ _); rotate_left; focus (first | (simp; done) | (simp; omega) | omega)) | ((with_reducible refine Below.alloc ?_ ?_ _); rotate_left; focus (first | (simp; done) | (simp; omega) | omega))))))).mono ?_; rintro e w2 ⟨⟨p', n', c', rfl⟩, hb⟩; have hB2 : Below W0.heap.size W0 w2 := (show Below W0.heap.size W0 _ by (repeat (first | (with_reducible exact Below.refl _ _) | (with_reducible assumption) | (with_reducible apply below_drewN) | (with_reducible apply Below.drew) | ((with_reducible refine Below.setCell ?_ ?_ _); rotate_left; focus (first | (simp; done) | (simp; omega) | omega)) | ((with_reducible refine Below.alloc ?_ ?_ _); rotate_left; focus (first | (simp; done) | (simp; omega) | omega))))).trans (hb.mono (by simp)); clear hb) | (go_at_call 93; refine (HAH.out _).mono ?_; rintro e w3 ⟨rfl, hb⟩; have hB3 : Below W0.heap.size W0 w3 := hB2.trans ((show Below w2.heap.size w2 _ by (repeat (first | (with_reducible exact Below.refl _ _) | (with_reducible assumption) | (with_reducible apply below_drewN) | (with_reducible apply Below.drew) | ((with_reducible refine Below.setCell ?_ ?_ _); rotate_left; focus (first | (simp; done) | (simp; omega) | omega)) | ((with_reducible refine Below.alloc ?_ ?_ _); rotate_left; focus (first | (simp; done) | (simp; omega) | omega))))).trans (hb.mono (by simp)) |>.mono hB2.size); clear hb))
      all_goals
        have X3 := X0.step hB3
        have hbw := X3.bel
        have d1 := (keepAd X0 hg c0 c1 hB3).2.1
        have e0 := X3.c0
        have e1 := X3.c1
        have e2 := X3.c2
        have e3 := X3.c3
        have e4 := X3.c4
        have el := X3.lt
        have hg3 : g < w3.heap.size := by omega
        have hgne : ¬ g = w3.heap.size := by omega
        have hf3 : w3.frozen? ⟨g, o + 1, none⟩ = false := (hbw.frozen (p := ⟨g, o + 1, none⟩) hg).trans hf'
        have HU3 : Hid (w3.ownsRow base 69 5 (.slice p l.length cap) l.length (flatVr l)) := owns_below HU.out hbw
        have HBW : Hid (Below _ _ _) := hbw
        have HB3 : Hid (Below _ _ _) := hB3
        clear X3 hbw hB3 hB2
        go_wp2_with fail
        go_region_law (refine step_appVr rfl (.tmp 24) (.tmp 26) rfl base l.length (.slice p l.length cap) (flatVr l) (by simp [Act.eval]) (HU3.out.alloc _) ⟨w3.heap.size, 0, none⟩ 1 1 (rowVr v) (by simp [Act.eval]) rfl (five_new _ _ _) (five_one _) (by omega) (by omega) (by simp; omega) ?_; intro v'' w7 o7 g7 at7; obtain ⟨gv, cw, hvv, hgv, _, _, _⟩ := rowForm o7 (by omega); subst hvv; have hbk : w7.heap[g]? = w3.heap[g]? := (g7.block g (by simp; omega) (by exact ne_of_or HNE.out)).trans (heap_alloc_old _ _ hg3); have m1 : w7.cell? ⟨g, o + 1, none⟩ = some (.slice p l.length cap) := (World.cell?_of_block hbk).trans d1; have m2 : w7.frozen? ⟨g, o + 1, none⟩ = false := (frozen_of_block hbk).trans hf3; have hz7 := g7.size)
        all_goals
          have HO7 : Hid (OwnVr w7 base (.slice (some ⟨gv, 0, none⟩) (l.length + 1) cw) (l ++ [v])) := by
            show w7.ownsRow base 69 5 _ (l ++ [v]).length (flatVr (l ++ [v]))
            rw [flatVr_snoc, List.length_append]; exact o7
          have HG7 : Hid (w.grownBy w7 (Value.slice p l.length cap).ownBlock) := grown_trans (grown_below (HBW.out.trans ((((Below.refl w3.heap.size w3).alloc (Nat.le_refl _) (.cells #[.int .i64 v.tm, .bool v.gone, .int .i64 v.doc.k, .int .i64 v.doc.n, .string v.doc.t] 69)).drew).mono HBW.out.size))) g7
          have HA7 : Hid ((Value.slice (some ⟨gv, 0, none⟩) (l.length + 1) cw).ownBlock = (Value.slice p l.length cap).ownBlock ∨ ∃ b, w.heap.size ≤ b ∧ (Value.slice (some ⟨gv, 0, none⟩) (l.length + 1) cw).ownBlock = some b) := by
            rcases at7 with h | h
            · exact .inl h
            · exact .inr ⟨_, by have := HBW.out.size; simp; omega, h⟩
          clear o7 g7 at7 hbk
          go_wp2_with fail
          go_ret
          exact ⟨by rw [HAC.out]; rfl, fun h => absurd HAC.out h, fun _ => ⟨w7, _, rfl, HG7.out, HO7.out, HA7.out⟩⟩

end Go.Proofs.YtncpijfbbgipaaaGreatDoor.Co

/- What the library's slices.Insert does to a row of fields of the call's own: one field more, at its place. -/
namespace Go.Proofs.YtncpijfbbgipaaaGreatDoor.Co
open Go.RowKit Tr
set_option linter.unusedVariables false

/-- copy between rows whose elements have k cells each. -/
theorem run_copy_rowK {P : Program} (w : World) (dT sT ty elem : TypeId) (g o dLen dCap : Nat) (a : Addr) (sLen sCap : Nat) (cur : Array Value) (t : TypeId) (cs : List Value) (k m : Nat)
    (hu : P.underlying dT = some (.slice elem)) (hs : (P.info? elem).map (·.size) = some k) (hg : w.heap[g]? = some (.cells cur t (0, 0))) (hm : Nat.min sLen dLen = m) (hn : cs.length = m * k)
    (hsrc : ∀ j v, cs[j]? = some v → w.cell? (a.add j) = some v) (hfit : o + cs.length ≤ cur.size) (h1 : ∀ v ∈ cs, v.oneCell' = true) :
    (Builtin.copy_ #[dT, sT] ty #[.slice (some ⟨g, o, none⟩) dLen dCap, .slice (some a) sLen sCap]).run P w = .ok (goInt m) (w.setRow g (cur.toList.take o ++ cs ++ cur.toList.drop (o + cs.length)).toArray) := by
  have hl := run_loadCells_list (P := P) w a cs hsrc
  have hst := run_storeCells_at P g o t cs 0 cur w hg (by simpa using hfit) h1
  cases hq : P.info? elem with
  | none => simp [hq] at hs
  | some i =>
    have hi : i.size = k := by simpa [hq] using hs
    simp [Builtin.copy_, run_underlying hu, Builtin.lenOf, Builtin.firstCells, sizeOf, typeInfo, hq, hi, hm, ← hn, hl, hst]
theorem wpList_copyK {P : Program} (w : World) {ops : Array Oper} {rest : List Oper} {o : Oper} {a : Act} {Q : Exit → Act → World → Prop} (hgd : o.guard = none) (d s : Operand) (t t' : TypeId)
    (ho : o.op = .call { callee := .builtin .copy, args := #[d, s], argTypes := #[t, t'] }) (v u : Value) (hd : a.eval d = v) (hs : a.eval s = u) {v' : Value} {w' : World}
    (hr : (Builtin.copy_ #[t, t'] o.type #[v, u]).run P w = .ok v' w') (h : wpList P ops Q rest (a.put o.dst v') w') : wpList P ops Q (o :: rest) a w :=
  wpList_plain hgd fun _ hK => by
    unfold Oper.wp execOp
    simp only [ho, resolve, invoke, builtin, Sem.run_bind, Sem.run_pure, Result.andThen_ok, List.map_toArray, List.map_cons, List.map_nil, hd, hs, hr]
    exact hK _ _ h
theorem step_copyK {P : Program} {ops : Array Oper} {o : Oper} {a : Act} {w : World} {K : Act → World → Prop} {Q : Exit → Act → World → Prop} {E : Prop} (hgd : o.guard = none) (d s : Operand) (t t' : TypeId)
    (ho : o.op = .call { callee := .builtin .copy, args := #[d, s], argTypes := #[t, t'] }) (v u : Value) (hd : a.eval d = v) (hs : a.eval s = u) {v' : Value} {w' : World}
    (hr : (Builtin.copy_ #[t, t'] o.type #[v, u]).run P w = .ok v' w') (hK : K (a.put o.dst v') w') : if Region.wanted o (yielded ops a.tmps) = true then Oper.wp P o a w K Q else E := by
  have hw : Region.wanted o (yielded ops a.tmps) = true := by simp [Region.wanted, hgd]
  rw [if_pos hw]
  unfold Oper.wp execOp
  simp only [ho, resolve, invoke, builtin, Sem.run_bind, Sem.run_pure, Result.andThen_ok, List.map_toArray, List.map_cons, List.map_nil, hd, hs, hr]
  exact hK
theorem setRow_size (w : World) (g : Nat) (cs : Array Value) : (w.setRow g cs).heap.size = w.heap.size := by simp [World.setRow]
theorem grown_setRow (w : World) (g : Nat) (cs : Array Value) : w.grownBy (w.setRow g cs) (some g) :=
  ⟨rfl, rfl, rfl, by rw [setRow_size]; exact Nat.le_refl _, fun k hk hne => setRow_other w g k cs (fun e => hne (by rw [e]))⟩

/-- Two cells. -/
structure P2 where
  a : Value
  b : Value
  ha : a.oneCell' = true
  hb : b.oneCell' = true
def row2 (f : P2) : List Value := [f.a, f.b]
def flat2 (l : List P2) : List Value := l.flatMap row2
theorem flat2_cons (f : P2) (r : List P2) : flat2 (f :: r) = f.a :: f.b :: flat2 r := rfl
theorem flat2_snoc (l : List P2) (f : P2) : flat2 (l ++ [f]) = flat2 l ++ [f.a, f.b] := by unfold flat2; rw [List.flatMap_append]; rfl
theorem to_pairs : ∀ (n : Nat) (xs : List Value), xs.length = n * 2 → (∀ u ∈ xs, u.oneCell' = true) → ∃ l : List P2, l.length = n ∧ flat2 l = xs
  | 0, xs, h, _ => ⟨[], rfl, by have : xs = [] := List.length_eq_zero_iff.1 (by omega); rw [this]; rfl⟩
  | n + 1, xs, h, h1 => by
    match xs, h, h1 with
    | a :: b :: r, h, h1 =>
      obtain ⟨l, e1, e2⟩ := to_pairs n r (by simp at h; omega) (fun u hu => h1 u (by simp [hu]))
      exact ⟨⟨a, b, h1 a (by simp), h1 b (by simp)⟩ :: l, by simp [e1], by rw [flat2_cons, e2]⟩
    | [a], h, _ => simp at h; omega
    | [], h, _ => simp at h

/-- A pair put in at a place. -/
def insL (l : List P2) (i : Nat) (f : P2) : List P2 := l.take i ++ f :: l.drop i
theorem insL_end (l : List P2) (f : P2) : insL l l.length f = l ++ [f] := by unfold insL; rw [List.take_length, List.drop_length]
theorem insL_len (l : List P2) (i : Nat) (f : P2) (h : i ≤ l.length) : (insL l i f).length = l.length + 1 := by unfold insL; rw [List.length_append, List.length_take, List.length_cons, List.length_drop]; omega
theorem flat2_app (a b : List P2) : flat2 (a ++ b) = flat2 a ++ flat2 b := by unfold flat2; rw [List.flatMap_append]
theorem flat2_len (l : List P2) : (flat2 l).length = l.length * 2 := by
  induction l with
  | nil => rfl
  | cons f r ih => rw [flat2_cons]; simp only [List.length_cons]; omega
theorem flat2_take (l : List P2) (i : Nat) (h : i ≤ l.length) : (flat2 l).take (i * 2) = flat2 (l.take i) := by
  conv => lhs; rw [← List.take_append_drop i l, flat2_app]
  rw [List.take_append_of_le_length (by rw [flat2_len, List.length_take]; omega), List.take_of_length_le (by rw [flat2_len, List.length_take]; omega)]
theorem flat2_drop (l : List P2) (i : Nat) (h : i ≤ l.length) : (flat2 l).drop (i * 2) = flat2 (l.drop i) := by
  conv => lhs; rw [← List.take_append_drop i l, flat2_app]
  rw [List.drop_append_of_le_length (by rw [flat2_len, List.length_take]; omega), List.drop_of_length_le (by rw [flat2_len, List.length_take]; omega), List.nil_append]
theorem flat2_ins (l : List P2) (i : Nat) (f : P2) (h : i ≤ l.length) : flat2 (insL l i f) = (flat2 l).take (i * 2) ++ row2 f ++ (flat2 l).drop (i * 2) := by
  unfold insL
  rw [flat2_app, flat2_take l i h, flat2_drop l i h, List.append_assoc]; rfl
theorem flat2_one (l : List P2) : ∀ u ∈ flat2 l, u.oneCell' = true := by
  intro u hu
  unfold flat2 at hu
  obtain ⟨f, _, hf⟩ := List.mem_flatMap.mp hu
  unfold row2 at hf
  simp only [List.mem_cons, List.not_mem_nil, or_false] at hf
  rcases hf with rfl | rfl
  · exact f.ha
  · exact f.hb
theorem row2_one (f : P2) : ∀ u ∈ row2 f, u.oneCell' = true := by
  have := flat2_one [f]
  simpa [flat2] using this
/-- The one field that is put in lies in a block of its own. -/
abbrev Lies2 (w : World) (vb : Nat) (f : P2) : Prop := w.heap[vb]? = some (.cells #[f.a, f.b] 67 (0, 0))
theorem lies2_cells {w : World} {vb : Nat} {f : P2} (h : Lies2 w vb f) : ∀ j u, (row2 f)[j]? = some u → w.cell? ((⟨vb, 0, none⟩ : Addr).add j) = some u := by
  intro j u hj
  unfold row2 at hj
  match j, hj with
  | 0, hj => simp at hj; subst hj; simp [Addr.add, World.cell?, h]
  | 1, hj => simp at hj; subst hj; simp [Addr.add, World.cell?, h]
  | j + 2, hj => simp at hj

/-- What putting a field in leaves. -/
def InsOut (w : World) (base : Nat) (v : Value) (l : List P2) (e : Ending) (w' : World) : Prop :=
  ∃ v', e = .returned v' ∧ w'.ownsRow base 67 2 v' l.length (flat2 l) ∧ w.grownBy w' v.ownBlock ∧ (v'.ownBlock = v.ownBlock ∨ ∃ g, w.heap.size ≤ g ∧ v'.ownBlock = some g)
theorem InsOut.mk {w : World} {base : Nat} {v : Value} {l : List P2} {e : Ending} {w' : World} (v' : Value) (h : e = .returned v') (ho : w'.ownsRow base 67 2 v' l.length (flat2 l)) (hg : w.grownBy w' v.ownBlock) (hat : v'.ownBlock = v.ownBlock ∨ ∃ g, w.heap.size ≤ g ∧ v'.ownBlock = some g) : InsOut w base v l e w' := ⟨v', h, ho, hg, hat⟩

set_option maxRecDepth 4000 in
set_option maxHeartbeats 2000000 in
theorem insC_end (v : Value) (l : List P2) (f : P2) (vb base : Nat) (w : World) (hown : w.ownsRow base 67 2 v l.length (flat2 l)) (hlen : l.length ≤ 1000) (hbase : base ≤ w.heap.size) (hvb : Lies2 w vb f) :
    Calls Tryz.prog 60 #[v, .int .i64 l.length, .slice (some ⟨vb, 0, none⟩) 1 1] w fun e w' => InsOut w base v (l ++ [f]) e w' := by
  obtain ⟨i0, hi, hz0, hz1, hz2⟩ := info_parts infoCh
  have hcl := lies2_cells hvb
  have hcap : v = .slice none 0 0 ∧ l.length = 0 ∨ ∃ g cap, v = .slice (some ⟨g, 0, none⟩) l.length cap ∧ l.length ≤ cap ∧ cap ≤ maxLen := by
    rcases hown.2 with h | ⟨g, cap, cur, h1, h2, h3, h4, h5, _⟩
    · exact .inl h
    · exact .inr ⟨g, cap, h1, h4, h5⟩
  have HO : Hid (World.ownsRow _ _ _ _ _ _ _) := hown
  have HC : Hid _ := hcl
  clear hown hcl hvb
  have fin : ∀ (v' : Value) (w' : World), w'.ownsRow base 67 2 v' (l.length + 1) (flat2 l ++ [f.a, f.b]) → w'.ownsRow base 67 2 v' (l ++ [f]).length (flat2 (l ++ [f])) := fun v' w' h => by
    rw [flat2_snoc, List.length_append]; exact h
  have HF : Hid _ := fin
  clear fin
  rcases hcap with ⟨rfl, hl0⟩ | ⟨g, cap, rfl, hc1, hc2⟩
  · obtain rfl : l = [] := List.eq_nil_of_length_eq_zero hl0
    go_enter Tryz.func60, Tryz.ntmps60
    go_wp2_with (at_builtin; refine wpList_append_own_at _ rfl (.tmp 23) (.tmp 24) 32 rfl base 67 i0 (.agg #[.int .i64 0, .slice none 0 0]) 2 32 Tryz.underlying32 hi hz0 hz1 hz2 rfl (by decide) _ _ _ rfl HO.out ⟨vb, 0, none⟩ 1 1 [f.a, f.b] rfl rfl HC.out (row2_one f) (by unfold maxLen; simp) (by simp) (by omega) ?_; intro v' w' o1 g1 n1 a1; refine Hid.out ?_)
    refine Lib.hid ?_
    have HO1 : Hid (World.ownsRow _ _ _ _ _ _ _) := HF.out v' w' o1
    have HG1 : Hid _ := g1
    have HA1 : Hid _ := a1
    clear o1 g1 n1 a1
    go_wp2_with fail
    go_ret
    exact InsOut.mk v' rfl HO1.out HG1.out (by rcases HA1.out with h | h; exact .inl h; exact .inr ⟨_, Nat.le_refl _, h⟩)
  · have hle : (l.length : Int) ≤ (cap : Int) := by omega
    unfold maxLen at hc2
    by_cases hcc : cap = l.length
    all_goals
      go_enter Tryz.func60, Tryz.ntmps60
      go_wp2_with (at_builtin; refine wpList_append_own_at _ rfl (.tmp 23) (.tmp 24) 32 rfl base 67 i0 (.agg #[.int .i64 0, .slice none 0 0]) 2 32 Tryz.underlying32 hi hz0 hz1 hz2 rfl (by decide) _ _ _ rfl HO.out ⟨vb, 0, none⟩ 1 1 [f.a, f.b] rfl rfl HC.out (row2_one f) (by unfold maxLen; omega) (by omega) (by omega) ?_; intro v' w' o1 g1 n1 a1; refine Hid.out ?_)
      refine Lib.hid ?_
      have HO1 : Hid (World.ownsRow _ _ _ _ _ _ _) := HF.out v' w' o1
      have HG1 : Hid _ := g1
      have HA1 : Hid _ := a1
      clear o1 g1 n1 a1
      go_wp2_with fail
      go_ret
      exact InsOut.mk v' rfl HO1.out HG1.out (by rcases HA1.out with h | h; exact .inl h; exact .inr ⟨_, Nat.le_refl _, h⟩)

end Go.Proofs.YtncpijfbbgipaaaGreatDoor.Co

/- What the library's slices.Insert does to a row of fields of the call's own, ahead of its end. -/
namespace Go.Proofs.YtncpijfbbgipaaaGreatDoor.Co
open Go.RowKit Tr
set_option linter.unusedVariables false

theorem sizeC (w : World) : (Go.sizeOf 67).run Tryz.prog w = .ok 2 w := by
  obtain ⟨i0, hi, hz0, hz1, hz2⟩ := info_parts infoCh
  simp [sizeOf, typeInfo, hi, hz1]
theorem infoC2 : (Tryz.prog.info? 67).map (·.size) = some 2 := by
  obtain ⟨i0, hi, hz0, hz1, hz2⟩ := info_parts infoCh
  rw [hi]; simp [hz1]
/-- Cells shifted up by two, and two others put where they stood. -/
theorem shift_list (A F R : List Value) (k N : Nat) (hF : A.take N = F) (hk : k ≤ N) (hN : N + 2 ≤ A.length) (hR : R.length = 2) :
    let B := A.take (k + 2) ++ F.drop k ++ A.drop (k + 2 + (F.drop k).length)
    (B.take k ++ R ++ B.drop (k + R.length)).take (N + 2) = F.take k ++ R ++ F.drop k ∧ (B.take k ++ R ++ B.drop (k + R.length)).length = A.length ∧ B.length = A.length := by
  intro B
  have hFl : F.length = N := by rw [← hF, List.length_take]; omega
  have hBl : B.length = A.length := by
    show (A.take (k + 2) ++ F.drop k ++ A.drop (k + 2 + (F.drop k).length)).length = _
    simp only [List.length_append, List.length_take, List.length_drop]
    omega
  have h1 : B.take k = F.take k := by
    show (A.take (k + 2) ++ F.drop k ++ A.drop (k + 2 + (F.drop k).length)).take k = _
    rw [List.append_assoc, List.take_append_of_le_length (by rw [List.length_take]; omega), List.take_take, ← hF, List.take_take]
    congr 1; omega
  have h2 : B.drop (k + 2) = F.drop k ++ A.drop (k + 2 + (F.drop k).length) := by
    show (A.take (k + 2) ++ F.drop k ++ A.drop (k + 2 + (F.drop k).length)).drop (k + 2) = _
    rw [List.append_assoc, List.drop_append_of_le_length (by rw [List.length_take]; omega), List.drop_of_length_le (by rw [List.length_take]; omega), List.nil_append]
  refine ⟨?_, ?_, hBl⟩
  · rw [hR, h1, h2, ← List.append_assoc, List.take_append_of_le_length (by simp only [List.length_append, List.length_take, List.length_drop]; omega), List.take_of_length_le (by simp only [List.length_append, List.length_take, List.length_drop]; omega)]
  · simp only [List.length_append, List.length_take, List.length_drop]; omega

theorem cell_row {w : World} {g : Nat} {cur : Array Value} {t : TypeId} {fz : Nat × Nat} (hg : w.heap[g]? = some (.cells cur t fz)) (o : Nat) : w.cell? ⟨g, o, none⟩ = cur[o]? := by simp [World.cell?, hg]
theorem add_off (g o j : Nat) : (⟨g, o, none⟩ : Addr).add j = ⟨g, o + j, none⟩ := by
  by_cases h : j = 0
  · subst h; simp [Addr.add]
  · simp [Addr.add, h]

set_option maxRecDepth 4000 in
set_option maxHeartbeats 4000000 in
theorem insC_room (g cap : Nat) (l : List P2) (i : Nat) (f : P2) (vb base : Nat) (cur : Array Value) (w : World) (hi : i < l.length) (hroom : l.length + 1 ≤ cap) (hcap : cap ≤ maxLen) (hlen : l.length ≤ 1000) (hbg : base ≤ g)
    (hg : w.heap[g]? = some (.cells cur 67 (0, 0))) (hsz : cur.size = cap * 2) (hcur : cur.toList.take (l.length * 2) = flat2 l) (hvb : Lies2 w vb f) (hne : vb ≠ g) :
    Calls Tryz.prog 60 #[.slice (some ⟨g, 0, none⟩) l.length cap, .int .i64 i, .slice (some ⟨vb, 0, none⟩) 1 1] w fun e w' => InsOut w base (.slice (some ⟨g, 0, none⟩) l.length cap) (insL l i f) e w' := by
  obtain ⟨B, hB⟩ : ∃ B, B = cur.toList.take (i * 2 + 2) ++ (flat2 l).drop (i * 2) ++ cur.toList.drop (i * 2 + 2 + ((flat2 l).drop (i * 2)).length) := ⟨_, rfl⟩
  have hR4 : (row2 f).length = 2 := rfl
  have hcl : cur.toList.length = cap * 2 := by rw [Array.length_toList]; exact hsz
  have hsh := shift_list cur.toList (flat2 l) (row2 f) (i * 2) (l.length * 2) hcur (by omega) (by rw [hcl]; omega) hR4
  simp only [← hB] at hsh
  obtain ⟨s1, s2, s3⟩ := hsh
  have hdl : ((flat2 l).drop (i * 2)).length = (l.length - i) * 2 := by rw [List.length_drop, flat2_len]; omega
  have hov : ∀ lb cb, (callFunc 90 #[.slice (some ⟨vb, 0, none⟩) 1 1, .slice (some ⟨g, (i + 1) * 2, none⟩) lb cb]).run Tryz.prog w = .ok (.value (.bool false)) w := fun lb cb => by
    rw [run_callFunc_extern Tryz.func90 (by kernel_rfl) (by kernel_rfl) (by kernel_rfl) (e := Extern.SlicesOverlaps.overlaps #[32, 32] #[4]) (by kernel_rfl),
      Lib.run_overlaps_apart w 32 4 67 Tryz.underlying32 2 sizeC ⟨vb, 0, none⟩ ⟨g, (i + 1) * 2, none⟩ 1 1 lb cb hne 67 67 2 cur.size (by simp [World.shape?, hvb]) (by simp [World.shape?, hg]) (by omega) (by simp [World.frozen?, hvb]) (by simp [World.frozen?, hvb])]
    rfl
  obtain ⟨W1, hW1⟩ : ∃ W1, W1 = w.drew.setRow g B.toArray := ⟨_, rfl⟩
  obtain ⟨W2, hW2⟩ : ∃ W2, W2 = W1.setRow g (B.take (i * 2) ++ row2 f ++ B.drop (i * 2 + (row2 f).length)).toArray := ⟨_, rfl⟩
  have hgd : w.drew.heap[g]? = some (.cells cur 67 (0, 0)) := hg
  have hg1 : W1.heap[g]? = some (.cells B.toArray 67 (0, 0)) := by rw [hW1]; exact setRow_heap _ _ _ _ _ _ hgd
  have hv1 : Lies2 W1 vb f := by rw [Lies2, hW1, setRow_other _ _ _ _ hne]; exact hvb
  have hcp1 : ∀ ty dc sc, (Builtin.copy_ #[32, 32] ty #[.slice (some ⟨g, (i + 1) * 2, none⟩) (l.length - i) dc, .slice (some ⟨g, i * 2, none⟩) (l.length + 1 - i) sc]).run Tryz.prog w.drew = .ok (goInt ((l.length - i : Nat) : Int)) W1 := fun ty dc sc => by
    have := run_copy_rowK (P := Tryz.prog) w.drew 32 32 ty 67 g ((i + 1) * 2) (l.length - i) dc ⟨g, i * 2, none⟩ (l.length + 1 - i) sc cur 67 ((flat2 l).drop (i * 2)) 2 (l.length - i) Tryz.underlying32 infoC2 hgd (by simp only [Nat.min_def]; split <;> omega) hdl
      (fun j v hj => by
        rw [add_off, cell_row hgd]
        rw [List.getElem?_drop] at hj
        have hjl : i * 2 + j < l.length * 2 := by
          have := (List.getElem?_eq_some_iff.1 hj).1
          rw [flat2_len] at this; exact this
        rw [← hcur, List.getElem?_take, if_pos hjl] at hj
        rw [← hj, Array.getElem?_toList])
      (by rw [hdl, hsz]; omega) (fun v hv => flat2_one l v (List.mem_of_mem_drop hv))
    rw [this, hW1, hB, show (i + 1) * 2 = i * 2 + 2 by omega]
  have hcp2 : ∀ ty dc, (Builtin.copy_ #[32, 32] ty #[.slice (some ⟨g, i * 2, none⟩) (l.length + 1 - i) dc, .slice (some ⟨vb, 0, none⟩) 1 1]).run Tryz.prog W1 = .ok (goInt ((1 : Nat) : Int)) W2 := fun ty dc => by
    have := run_copy_rowK (P := Tryz.prog) W1 32 32 ty 67 g (i * 2) (l.length + 1 - i) dc ⟨vb, 0, none⟩ 1 1 B.toArray 67 (row2 f) 2 1 Tryz.underlying32 infoC2 hg1 (by simp only [Nat.min_def]; split <;> omega) hR4
      (lies2_cells hv1) (by rw [List.size_toArray, s3, hcl, hR4]; omega) (row2_one f)
    rw [this, hW2]
  have hown : W2.ownsRow base 67 2 (.slice (some ⟨g, 0, none⟩) (insL l i f).length cap) (insL l i f).length (flat2 (insL l i f)) := by
    refine ⟨flat2_len _, .inr ⟨g, cap, _, rfl, hbg, by rw [hW2]; exact setRow_heap _ _ _ _ _ _ hg1, ?_, hcap, ?_, ?_⟩⟩
    · rw [insL_len l i f (by omega)]; exact hroom
    · rw [List.size_toArray, s2, hcl]
    · rw [insL_len l i f (by omega), flat2_ins l i f (by omega), ← s1, List.toList_toArray]
      congr 1; omega
  have hgr : w.grownBy W2 (some g) := by
    have e1 : w.grownBy W1 (some g) := by
      have := grown_setRow w.drew g B.toArray
      rw [← hW1] at this
      exact ⟨this.os, this.tape, this.output, this.size, this.block⟩
    have e2 := grown_setRow W1 g (B.take (i * 2) ++ row2 f ++ B.drop (i * 2 + (row2 f).length)).toArray
    rw [← hW2] at e2
    exact e1.trans e2
  have hil := insL_len l i f (by omega)
  rw [hil] at hown
  have HOWN : Hid (World.ownsRow _ _ _ _ _ _ _) := hown
  have HGR : Hid _ := hgr
  have HIL : Hid (_ = _) := hil
  have hb0 : (0 : Int) ≤ (i : Int) + 1 := by omega
  have hz2 : ¬ ((i : Int) = (l.length : Int)) := by omega
  have hz3 : ((i : Int) == (l.length : Int)) = false := beq_eq_false_iff_ne.mpr hz2
  have hz4 : ¬ ((cap : Int) < (l.length : Int) + 1) := by omega
  have hi1 : (i : Int) ≤ (l.length : Int) := by omega
  have hi2 : (i : Int) + 1 ≤ (l.length : Int) + 1 := by omega
  have hi3 : (l.length : Int) + 1 ≤ (cap : Int) := by omega
  have hi4 : (i : Int) ≤ (l.length : Int) + 1 := by omega
  have htn : ((i : Int) + 1).toNat = i + 1 := by omega
  have htn2 : ((l.length : Int) + 1).toNat = l.length + 1 := by omega
  have hw1 : IntKind.i64.wrap ((i : Int) + 1) = (i : Int) + 1 := by rw [IntKind.wrap_i64]; omega
  have hw2 : IntKind.i64.wrap ((l.length : Int) + 1) = (l.length : Int) + 1 := by rw [IntKind.wrap_i64]; omega
  have hb2 : ¬ (cap = i + 1) := by omega
  have hb4 : ¬ (cap = i) := by omega
  unfold maxLen at hcap
  clear hB hdl s1 s2 s3 hW1 hW2 hgd hg1 hv1 hown hgr hcur hvb hg hsz hil hR4 hz2
  go_enter Tryz.func60, Tryz.ntmps60
  go_wp2_with (simp only [hov])
  go_region_law (refine step_copyK rfl _ _ 32 32 rfl _ _ (by simp [Act.eval, Act.put]) (by simp [Act.eval, Act.put]) (hcp1 _ _ _) ?_)
  go_wp2_with (at_builtin; refine wpList_copyK _ rfl _ _ 32 32 rfl _ _ rfl rfl (hcp2 _ _) ?_)
  go_ret
  exact InsOut.mk _ rfl (by rw [HIL.out]; exact HOWN.out) HGR.out (.inl rfl)

end Go.Proofs.YtncpijfbbgipaaaGreatDoor.Co

/- What the library's slices.Insert does to a row of fields of the call's own: where a new row must be made; and in all cases. -/
namespace Go.Proofs.YtncpijfbbgipaaaGreatDoor.Co
open Go.RowKit Tr
set_option linter.unusedVariables false

theorem grow_list (F R Z : List Value) (k N : Nat) (hF : F.length = N) (hk : k ≤ N) (hZ : N + 2 ≤ k + Z.length) (hR : R.length = 2) :
    let A := F.take k ++ Z
    let B := A.take k ++ R ++ A.drop (k + R.length)
    (B.take (k + 2) ++ F.drop k ++ B.drop (k + 2 + (F.drop k).length)).take (N + 2) = F.take k ++ R ++ F.drop k ∧ (B.take (k + 2) ++ F.drop k ++ B.drop (k + 2 + (F.drop k).length)).length = A.length ∧ B.length = A.length := by
  intro A B
  have hAl : A.length = k + Z.length := by show (F.take k ++ Z).length = _; rw [List.length_append, List.length_take]; omega
  have hBl : B.length = A.length := by
    show (A.take k ++ R ++ A.drop (k + R.length)).length = _
    simp only [List.length_append, List.length_take, List.length_drop]; omega
  have hAk : A.take k = F.take k := by
    show (F.take k ++ Z).take k = _
    rw [List.take_append_of_le_length (by rw [List.length_take]; omega), List.take_take]; congr 1; omega
  have h1 : B.take (k + 2) = F.take k ++ R := by
    show (A.take k ++ R ++ A.drop (k + R.length)).take (k + 2) = _
    rw [List.take_append_of_le_length (by simp only [List.length_append, List.length_take]; omega), List.take_of_length_le (by simp only [List.length_append, List.length_take]; omega), hAk]
  refine ⟨?_, ?_, hBl⟩
  · rw [h1, List.take_append_of_le_length (by simp only [List.length_append, List.length_take, List.length_drop]; omega), List.take_of_length_le (by simp only [List.length_append, List.length_take, List.length_drop]; omega)]
  · simp only [List.length_append, List.length_take, List.length_drop]; omega
theorem zero2_size (k : Nat) : (Builtin.zeroCells (Value.agg #[.int .i64 0, .slice none 0 0]).cells k).size = k * 2 := by
  have hc : (Value.agg #[.int .i64 0, .slice none 0 0]).cells = #[.int .i64 0, .slice none 0 0] := rfl
  rw [hc]
  simp [Builtin.zeroCells]
theorem zero2_len (k : Nat) : (Builtin.zeroCells (Value.agg #[.int .i64 0, .slice none 0 0]).cells k).toList.length = k * 2 := (Array.length_toList).trans (zero2_size k)

set_option maxRecDepth 4000 in
set_option maxHeartbeats 4000000 in
theorem insC_grow (g cap : Nat) (l : List P2) (i : Nat) (f : P2) (vb base : Nat) (cur : Array Value) (w : World) (hi : i < l.length) (hcap1 : l.length ≤ cap) (hroom : cap < l.length + 1) (hlen : l.length ≤ 1000) (hbase : base ≤ w.heap.size)
    (hg : w.heap[g]? = some (.cells cur 67 (0, 0))) (hsz : cur.size = cap * 2) (hcur : cur.toList.take (l.length * 2) = flat2 l) (hvb : Lies2 w vb f) :
    Calls Tryz.prog 60 #[.slice (some ⟨g, 0, none⟩) l.length cap, .int .i64 i, .slice (some ⟨vb, 0, none⟩) 1 1] w fun e w' => InsOut w base (.slice (some ⟨g, 0, none⟩) l.length cap) (insL l i f) e w' := by
  obtain ⟨i0, hi0, hz0, hz1, hz2⟩ := info_parts infoCh
  have hgw : g < w.heap.size := (Array.getElem?_eq_some_iff.1 hg).1
  have hvw : vb < w.heap.size := (Array.getElem?_eq_some_iff.1 hvb).1
  have hcell : ∀ j v, (flat2 l)[j]? = some v → w.cell? ⟨g, j, none⟩ = some v := fun j v hj => by
    rw [cell_row hg]
    have hjl : j < l.length * 2 := by have := (List.getElem?_eq_some_iff.1 hj).1; rw [flat2_len] at this; exact this
    rw [← hcur, List.getElem?_take, if_pos hjl] at hj
    rw [← hj, Array.getElem?_toList]
  obtain ⟨G, hG⟩ : ∃ G, G = grownCap w (l.length + 1) cap 67 := ⟨_, rfl⟩
  have hGn : l.length + 1 ≤ G := by rw [hG]; exact grownCap_ge w _ _ _
  have hGm : G ≤ maxLen := by rw [hG]; exact grownCap_le_maxLen w _ _ _ (by unfold maxLen; omega)
  obtain ⟨Z, hZ⟩ : ∃ Z, Z = (Builtin.zeroCells (Value.agg #[.int .i64 0, .slice none 0 0]).cells (l.length + 1 - i)).toList ++ (Builtin.zeroCells (Value.agg #[.int .i64 0, .slice none 0 0]).cells (G - (l.length + 1))).toList := ⟨_, rfl⟩
  have hZl : Z.length = (G - i) * 2 := by rw [hZ, List.length_append, zero2_len, zero2_len]; omega
  obtain ⟨A, hA⟩ : ∃ A, A = (flat2 l).take (i * 2) ++ Z := ⟨_, rfl⟩
  obtain ⟨B, hB⟩ : ∃ B, B = A.take (i * 2) ++ row2 f ++ A.drop (i * 2 + (row2 f).length) := ⟨_, rfl⟩
  have hR4 : (row2 f).length = 2 := rfl
  have hgl := grow_list (flat2 l) (row2 f) Z (i * 2) (l.length * 2) (flat2_len l) (by omega) (by omega) hR4
  simp only [← hA] at hgl
  simp only [← hB] at hgl
  obtain ⟨s1, s2, s3⟩ := hgl
  have hAl : A.length = G * 2 := by rw [hA, List.length_append, List.length_take, flat2_len, hZl]; omega
  have hdl : ((flat2 l).drop (i * 2)).length = (l.length - i) * 2 := by rw [List.length_drop, flat2_len]; omega
  have hkk : (l.length : Int) + 1 - (i : Int) = ((l.length + 1 - i : Nat) : Int) := by omega
  have hik : i + (l.length + 1 - i) = l.length + 1 := by omega
  have hrz : ∀ ty, (Builtin.append_ #[32, 3] ty #[.slice (some ⟨g, 0, none⟩) i cap, .int .i64 ((l.length : Int) + 1 - (i : Int))]).run Tryz.prog w = .ok (.slice (some ⟨w.heap.size, 0, none⟩) (l.length + 1) G) (w.drew.alloc (.cells A.toArray 67)) := fun ty => by
    have hold : (Builtin.firstCells i0.size i (.slice (some ⟨g, 0, none⟩) i cap)).run Tryz.prog w.drew = .ok ((flat2 l).take (i * 2)).toArray w.drew := by
      rw [hz1]
      exact run_firstCells_some w.drew 2 i ⟨g, 0, none⟩ i cap ((flat2 l).take (i * 2)) (by rw [List.length_take, flat2_len]; omega) (fun j v hj => by
        rw [add_off, Nat.zero_add]
        rw [List.getElem?_take] at hj
        split at hj
        · exact hcell j v hj
        · cases hj)
    have h := Lib.run_append_grow_zeros w 32 3 ty 67 i0 _ .i64 .i64 Tryz.underlying32 Tryz.underlying3 hi0 hz0 (some ⟨g, 0, none⟩) i cap ((flat2 l).take (i * 2)) hold (l.length + 1 - i) (by omega) (by omega) (by omega) (by omega) (by rw [hz2]; omega) (by rw [hz2, hik]; exact growslice_fits hroom (by omega))
    rw [hik, ← hG] at h
    rw [hkk, h, hA, hZ]
    congr 3
    simp
  obtain ⟨W1, hW1⟩ : ∃ W1, W1 = w.drew.alloc (.cells A.toArray 67) := ⟨_, rfl⟩
  obtain ⟨W2, hW2⟩ : ∃ W2, W2 = W1.setRow w.heap.size B.toArray := ⟨_, rfl⟩
  obtain ⟨W3, hW3⟩ : ∃ W3, W3 = W2.drew.setRow w.heap.size (B.take (i * 2 + 2) ++ (flat2 l).drop (i * 2) ++ B.drop (i * 2 + 2 + ((flat2 l).drop (i * 2)).length)).toArray := ⟨_, rfl⟩
  rw [← hW1] at hrz
  have hh1 : W1.heap[w.heap.size]? = some (.cells A.toArray 67 (0, 0)) := by rw [hW1]; exact heap_alloc_new w.drew _
  have hold1 : ∀ k, k < w.heap.size → W1.heap[k]? = w.heap[k]? := fun k hk => by rw [hW1]; exact ((Below.refl w.drew.heap.size w.drew).alloc (Nat.le_refl _) _).block k hk
  have hh2 : W2.heap[w.heap.size]? = some (.cells B.toArray 67 (0, 0)) := by rw [hW2]; exact setRow_heap _ _ _ _ _ _ hh1
  have hold2 : ∀ k, k < w.heap.size → W2.heap[k]? = w.heap[k]? := fun k hk => by rw [hW2, setRow_other _ _ _ _ (by omega)]; exact hold1 k hk
  have hv1 : Lies2 W1 vb f := by rw [Lies2, hold1 vb hvw]; exact hvb
  have hcp1 : ∀ ty dc, (Builtin.copy_ #[32, 32] ty #[.slice (some ⟨w.heap.size, i * 2, none⟩) (l.length + 1 - i) dc, .slice (some ⟨vb, 0, none⟩) 1 1]).run Tryz.prog W1 = .ok (goInt ((1 : Nat) : Int)) W2 := fun ty dc => by
    have := run_copy_rowK (P := Tryz.prog) W1 32 32 ty 67 w.heap.size (i * 2) (l.length + 1 - i) dc ⟨vb, 0, none⟩ 1 1 A.toArray 67 (row2 f) 2 1 Tryz.underlying32 infoC2 hh1 (by simp only [Nat.min_def]; split <;> omega) hR4
      (lies2_cells hv1) (by rw [List.size_toArray, hAl, hR4]; omega) (row2_one f)
    rw [this, hW2, hB]
  have hcp2 : ∀ ty dc sc, (Builtin.copy_ #[32, 32] ty #[.slice (some ⟨w.heap.size, (i + 1) * 2, none⟩) (l.length - i) dc, .slice (some ⟨g, i * 2, none⟩) (l.length - i) sc]).run Tryz.prog W2.drew = .ok (goInt ((l.length - i : Nat) : Int)) W3 := fun ty dc sc => by
    have := run_copy_rowK (P := Tryz.prog) W2.drew 32 32 ty 67 w.heap.size ((i + 1) * 2) (l.length - i) dc ⟨g, i * 2, none⟩ (l.length - i) sc B.toArray 67 ((flat2 l).drop (i * 2)) 2 (l.length - i) Tryz.underlying32 infoC2 hh2 (by simp only [Nat.min_def]; split <;> omega) hdl
      (fun j v hj => by
        rw [add_off]
        rw [List.getElem?_drop] at hj
        have hx := hcell (i * 2 + j) v hj
        rw [← hx]
        exact World.cell?_of_block (hold2 g hgw))
      (by rw [List.size_toArray, s3, hdl, hAl]; omega) (fun v hv => flat2_one l v (List.mem_of_mem_drop hv))
    rw [this, hW3, show (i + 1) * 2 = i * 2 + 2 by omega]
  have hh3 : W3.heap[w.heap.size]? = some (.cells (B.take (i * 2 + 2) ++ (flat2 l).drop (i * 2) ++ B.drop (i * 2 + 2 + ((flat2 l).drop (i * 2)).length)).toArray 67 (0, 0)) := by rw [hW3]; exact setRow_heap _ _ _ _ _ _ hh2
  have hil := insL_len l i f (by omega)
  have hown : W3.ownsRow base 67 2 (.slice (some ⟨w.heap.size, 0, none⟩) (l.length + 1) G) (l.length + 1) (flat2 (insL l i f)) := by
    refine ⟨by rw [flat2_len, hil], .inr ⟨w.heap.size, G, _, rfl, hbase, hh3, hGn, hGm, ?_, ?_⟩⟩
    · rw [List.size_toArray, s2, hAl]
    · rw [flat2_ins l i f (by omega), ← s1, List.toList_toArray]
      congr 1; omega
  have hgr : w.grownBy W3 (some g) := by
    refine ⟨?_, ?_, ?_, ?_, fun k hk _ => ?_⟩
    · rw [hW3, hW2, hW1]; rfl
    · rw [hW3, hW2, hW1]; rfl
    · rw [hW3, hW2, hW1]; rfl
    · rw [hW3, setRow_size]; show w.heap.size ≤ W2.heap.size; rw [hW2, setRow_size, hW1]; simp
    · rw [hW3, setRow_other _ _ _ _ (by omega)]; exact hold2 k hk
  have HOWN : Hid (World.ownsRow _ _ _ _ _ _ _) := hown
  have HGR : Hid _ := hgr
  have HIL : Hid (_ = _) := hil
  have hb0 : (0 : Int) ≤ (i : Int) + 1 := by omega
  have hz3 : ((i : Int) == (l.length : Int)) = false := beq_eq_false_iff_ne.mpr (by omega)
  have hz4 : (cap : Int) < (l.length : Int) + 1 := by omega
  have hi1 : (i : Int) ≤ (l.length : Int) := by omega
  have hi2 : (i : Int) + 1 ≤ (l.length : Int) + 1 := by omega
  have hi4 : (i : Int) ≤ (l.length : Int) + 1 := by omega
  have hi5 : (i : Int) ≤ (cap : Int) := by omega
  have htn : ((i : Int) + 1).toNat = i + 1 := by omega
  have htn2 : ((l.length : Int) + 1).toNat = l.length + 1 := by omega
  have hw1 : IntKind.i64.wrap ((i : Int) + 1) = (i : Int) + 1 := by rw [IntKind.wrap_i64]; omega
  have hw2 : IntKind.i64.wrap ((l.length : Int) + 1) = (l.length : Int) + 1 := by rw [IntKind.wrap_i64]; omega
  have hw3 : IntKind.i64.wrap ((l.length : Int) + 1 - (i : Int)) = (l.length : Int) + 1 - (i : Int) := by rw [IntKind.wrap_i64]; omega
  have hb2 : ¬ (G = i + 1) := by omega
  have hb3 : ¬ (G = i) := by omega
  have hb4 : ¬ (cap = i) := by omega
  unfold maxLen at hGm
  clear hB hdl s1 s2 s3 hW1 hW2 hW3 hh1 hh2 hh3 hold1 hold2 hv1 hown hgr hcur hvb hg hsz hil hR4 hA hAl hZ hZl hG hcell hkk hik hi0 hz0 hz1 hz2
  go_enter Tryz.func60, Tryz.ntmps60
  go_wp2_with (first | (at_builtin; refine Lib.wpList_append_run _ rfl _ _ 32 3 rfl _ _ rfl rfl _ _ (hrz _) ?_) | (at_builtin; refine wpList_copyK _ rfl _ _ 32 32 rfl _ _ rfl rfl (hcp1 _ _) ?_))
  go_region_law (refine step_copyK rfl _ _ 32 32 rfl _ _ (by simp [Act.eval, Act.put]) (by simp [Act.eval, Act.put]) (hcp2 _ _ _) ?_)
  go_wp2_with fail
  go_ret
  exact InsOut.mk _ rfl (by rw [HIL.out]; exact HOWN.out) HGR.out (.inr ⟨_, Nat.le_refl _, rfl⟩)

theorem insC_any (v : Value) (l : List P2) (i : Nat) (f : P2) (vb base : Nat) (w : World) (hown : w.ownsRow base 67 2 v l.length (flat2 l)) (hi : i ≤ l.length) (hlen : l.length ≤ 1000) (hbase : base ≤ w.heap.size) (hvb : Lies2 w vb f) (hne : ∀ g, v.ownBlock = some g → vb ≠ g) :
    Calls Tryz.prog 60 #[v, .int .i64 i, .slice (some ⟨vb, 0, none⟩) 1 1] w fun e w' => InsOut w base v (insL l i f) e w' := by
  rcases Nat.lt_or_ge i l.length with h | h
  · rcases hown.2 with ⟨_, h0⟩ | ⟨g, cap, cur, rfl, h2, h3, h4, h5, h6, h7⟩
    · omega
    · rcases Nat.lt_or_ge cap (l.length + 1) with hc | hc
      · exact insC_grow g cap l i f vb base cur w h h4 hc hlen hbase h3 h6 h7 hvb
      · exact insC_room g cap l i f vb base cur w h hc h5 hlen h2 h3 h6 h7 hvb (hne g rfl)
  · obtain rfl : i = l.length := by omega
    rw [insL_end]
    exact insC_end v l f vb base w hown hlen hbase hvb

end Go.Proofs.YtncpijfbbgipaaaGreatDoor.Co

/- What Install answers, said plainly; and rows of chains of which one is put in, or has one version more. -/
namespace Go.Proofs.YtncpijfbbgipaaaGreatDoor.Co
open Go.RowKit Tr
set_option linter.unusedVariables false

abbrev verW (t : Int) (x : Wrt) : Ver := ⟨t, x.gone, x.doc⟩
/-- The collection with one version more, the chain's place being known. -/
def insK (c : Col) (t : Int) (x : Wrt) (k : Nat) (b : Bool) : Col × Int :=
  if b = true then
    (match c.chs[k]? with
    | some y => if addC y.vs (verW t x) = 0 then (⟨c.name, c.chs.set k ⟨y.id, y.vs ++ [verW t x]⟩, c.dfs⟩, 0) else (c, addC y.vs (verW t x))
    | none => (c, 0))
  else (⟨c.name, c.chs.take k ++ ⟨x.id, [verW t x]⟩ :: c.chs.drop k, c.dfs⟩, 0)
def plN (id : Int) (l : List Chn) : Nat := (l.takeWhile (fun y => decide (y.id < id))).length
def hasN (id : Int) (l : List Chn) : Bool := match l[plN id l]? with | some y => decide (y.id = id) | none => false
def insR (c : Col) (t : Int) (x : Wrt) : Col × Int :=
  if collB c = true ∧ writeB x = true ∧ (x.coll.toList == c.name.toList) = true then (if timeB t = true then insK c t x (plN x.id c.chs) (hasN x.id c.chs) else (zCol, 4)) else (zCol, 1)
theorem place_n (id : Int) : ∀ (l : List Chn) (i : Nat) (b : Bool), PlaceC l id i b → i = plN id l
  | [], i, b, h => by have := h.le; simp at this; rw [this]; rfl
  | y :: r, i, b, h => by
    by_cases hy : y.id < id
    · have e : plN id (y :: r) = plN id r + 1 := by unfold plN; rw [List.takeWhile_cons, if_pos (by simpa using hy), List.length_cons]
      cases i with
      | zero => exact absurd (h.hi 0 (by simp) (Nat.le_refl _)) (by simp; omega)
      | succ i =>
        have hr : PlaceC r id i b := ⟨by have := h.le; simp at this; omega, fun q hq hlt => h.lo (q + 1) (by simp; omega) (by omega), fun q hq hge => h.hi (q + 1) (by simp; omega) (by omega), by
          rw [h.at_]
          constructor
          · rintro ⟨h1, h2⟩; exact ⟨by simpa using h1, by simpa using h2⟩
          · rintro ⟨h1, h2⟩; exact ⟨by simpa using h1, by simpa using h2⟩⟩
        rw [e, place_n id r i b hr]
    · have e : plN id (y :: r) = 0 := by unfold plN; rw [List.takeWhile_cons, if_neg (by simpa using hy)]; rfl
      cases i with
      | zero => exact e.symm
      | succ i => exact absurd (h.lo 0 (by simp) (by omega)) (by simpa using hy)
theorem place_has {id : Int} {l : List Chn} {i : Nat} {b : Bool} (h : PlaceC l id i b) : b = hasN id l := by
  have e := place_n id l i b h
  unfold hasN
  rw [← e]
  cases b with
  | true =>
    obtain ⟨h1, h2⟩ := h.at_.1 rfl
    rw [List.getElem?_eq_getElem h1]
    simp [h2]
  | false =>
    by_cases hi : i < l.length
    · rw [List.getElem?_eq_getElem hi]
      have : ¬ l[i].id = id := fun e2 => by have := h.at_.2 ⟨hi, e2⟩; cases this
      simp [this]
    · rw [List.getElem?_eq_none (by omega)]
theorem insR_bad {c : Col} {t : Int} {x : Wrt} (h : ¬ (collB c = true ∧ writeB x = true ∧ (x.coll.toList == c.name.toList) = true)) : insR c t x = (zCol, 1) := by unfold insR; rw [if_neg h]
theorem insR_time {c : Col} {t : Int} {x : Wrt} (h1 : collB c = true) (h2 : writeB x = true) (h3 : (x.coll.toList == c.name.toList) = true) (h4 : timeB t = false) : insR c t x = (zCol, 4) := by unfold insR; rw [if_pos ⟨h1, h2, h3⟩, if_neg (by rw [h4]; simp)]
theorem insR_at {c : Col} {t : Int} {x : Wrt} {k : Nat} {b : Bool} (h1 : collB c = true) (h2 : writeB x = true) (h3 : (x.coll.toList == c.name.toList) = true) (h4 : timeB t = true) (hp : PlaceC c.chs x.id k b) : insR c t x = insK c t x k b := by
  unfold insR; rw [if_pos ⟨h1, h2, h3⟩, if_pos h4, ← place_n _ _ _ _ hp, ← place_has hp]
theorem insK_some {c : Col} {t : Int} {x : Wrt} {k : Nat} (hk : k < c.chs.length) (ha : addC c.chs[k].vs (verW t x) = 0) : insK c t x k true = (⟨c.name, c.chs.set k ⟨c.chs[k].id, c.chs[k].vs ++ [verW t x]⟩, c.dfs⟩, 0) := by
  unfold insK; rw [if_pos rfl, List.getElem?_eq_getElem hk]; simp only; rw [if_pos ha]
theorem insK_code {c : Col} {t : Int} {x : Wrt} {k : Nat} (hk : k < c.chs.length) (ha : ¬ addC c.chs[k].vs (verW t x) = 0) : insK c t x k true = (c, addC c.chs[k].vs (verW t x)) := by
  unfold insK; rw [if_pos rfl, List.getElem?_eq_getElem hk]; simp only; rw [if_neg ha]
theorem insK_new (c : Col) (t : Int) (x : Wrt) (k : Nat) : insK c t x k false = (⟨c.name, c.chs.take k ++ ⟨x.id, [verW t x]⟩ :: c.chs.drop k, c.dfs⟩, 0) := by
  unfold insK; rw [if_neg (by simp)]
theorem addC_nil {t : Int} {x : Wrt} (h : timeB t = true) : addC [] (verW t x) = 0 := by
  have h1 : 1 ≤ t ∧ t ≤ 10000 := of_decide_eq_true h
  have h0 : newT [] = 0 := rfl
  unfold addC
  rw [h0, if_neg (by show ¬ t ≤ 0; omega)]
  rfl
/-- Small enough for the laws' helpers. -/
theorem insR_small (c : Col) (t : Int) (x : Wrt) : SmCol (insR c t x).1 := by
  unfold insR
  split
  · rename_i hh
    obtain ⟨hB, _, _⟩ := hh
    have hpt := collB_parts hB
    have hdf := collB_defs hB
    have h20 := hpt.2.2.2.1
    have hv := fun y hy => (hpt.2.2.2.2.2 y hy).2.2.1
    have hd1 := hdf.1
    split
    · unfold insK
      split
      · split
        · rename_i y hy
          have hm : y ∈ c.chs := List.mem_of_getElem? hy
          split
          · refine ⟨by simp; omega, fun p hp => ?_, by show c.dfs.length ≤ _; omega, fun p hp => by have := (hdf.2 p hp).2; omega⟩
            rcases List.mem_or_eq_of_mem_set hp with h | h
            · have := hv p h; omega
            · rw [h]; have := hv y hm; simp; omega
          · exact ⟨by show c.chs.length ≤ _; omega, fun p hp => by have := hv p hp; omega, by show c.dfs.length ≤ _; omega, fun p hp => by have := (hdf.2 p hp).2; omega⟩
        · exact ⟨by show c.chs.length ≤ _; omega, fun p hp => by have := hv p hp; omega, by show c.dfs.length ≤ _; omega, fun p hp => by have := (hdf.2 p hp).2; omega⟩
      · refine ⟨by simp; omega, fun p hp => ?_, by show c.dfs.length ≤ _; omega, fun p hp => by have := (hdf.2 p hp).2; omega⟩
        rcases List.mem_append.1 hp with h | h
        · have := hv p (List.mem_of_mem_take h); omega
        · rcases List.mem_cons.1 h with h | h
          · rw [h]; simp
          · have := hv p (List.mem_of_mem_drop h); omega
    · exact ⟨by simp [zCol], by simp [zCol], by simp [zCol], by simp [zCol]⟩
  · exact ⟨by simp [zCol], by simp [zCol], by simp [zCol], by simp [zCol]⟩

theorem off_flip {a : Option Nat} {b : Option Nat} (h : a = none ∨ a ≠ b) : b = none ∨ b ≠ a := by
  rcases h with h | h
  · cases b with
    | none => exact .inl rfl
    | some g => exact .inr (by rw [h]; simp)
  · exact .inr (fun e => h e.symm)
/-- One chain of a row has other versions. -/
theorem PartCh.addAt {w w1 : World} {base g c n : Nat} {f : List Chn} {vs : Nat → Value} {xs : List Value} (h : PartCh w base (.slice (some ⟨g, 0, none⟩) n c) n f n vs xs) (hn : f.length = n) {k : Nat} (hk : k < n) {u' : Value} {es : List Ver}
    (hg : w.grownBy w1 (vs k).ownBlock) (ho : OwnVr w1 base u' es) (hat : u'.ownBlock = (vs k).ownBlock ∨ ∃ b, w.heap.size ≤ b ∧ u'.ownBlock = some b) :
    PartCh (w1.setCell ⟨g, k * 2 + 1, none⟩ u') base (.slice (some ⟨g, 0, none⟩) n c) n (f.set k ⟨(f[k]'(by omega)).id, es⟩) n (fun i => if i = k then u' else vs i) (xs.set (k * 2 + 1) u') := by
  have hl : xs.length = n * 2 := h.row.1
  have hgl := (h.row.lt g rfl).2
  have hkr : w1.ownsRow base 67 2 (.slice (some ⟨g, 0, none⟩) n c) n xs := h.row.kept hg (off_flip (h.aside k (by omega) hk))
  have hug : u'.ownBlock = none ∨ u'.ownBlock ≠ some g := by
    rcases hat with e | ⟨b, hb, e⟩
    · rw [e]; exact h.aside k (by omega) hk
    · rw [e]; exact .inr (fun e2 => by injection e2 with e2; omega)
  have hnew : ∀ i, i < n → i ≠ k → ((vs i).ownBlock = none ∨ (vs i).ownBlock ≠ u'.ownBlock) := by
    intro i hi hne
    rcases hat with e | ⟨b, hb, e⟩
    · rw [e]; exact h.apart i k (by omega) (by omega) hi hk hne
    · cases hv : (vs i).ownBlock with
      | none => exact .inl rfl
      | some q => exact .inr (fun e2 => by rw [e] at e2; injection e2 with e2; have := (World.ownsRow.lt (h.ents i (by omega) hi) q hv).2; omega)
  refine ⟨(World.ownsRow.stored hkr (k * 2 + 1) u').1, ?_, ?_, ?_, ?_⟩
  · intro i hi0 hik
    have hi : i < f.length := by simpa using hi0
    have hai := h.at_ i hi hik
    by_cases e : i = k
    · subst e
      rw [List.getElem_set_self, List.getElem?_set_ne (by omega), List.getElem?_set_self (by omega), if_pos rfl]
      exact ⟨hai.1, rfl⟩
    · rw [List.getElem_set_ne (fun e' => e e'.symm), List.getElem?_set_ne (by omega), List.getElem?_set_ne (by omega), if_neg e]
      exact hai
  · intro i hi0 hik
    have hi : i < f.length := by simpa using hi0
    by_cases e : i = k
    · subst e
      rw [List.getElem_set_self]
      simp only [if_pos]
      exact World.ownsRow.kept ho grown_set hug
    · rw [List.getElem_set_ne (fun e' => e e'.symm)]
      simp only [if_neg e]
      exact World.ownsRow.kept (World.ownsRow.kept (h.ents i hi hik) hg (h.apart i k hi (by omega) hik hk e)) grown_set (h.aside i hi hik)
  · intro i j hi hj hik hjk hne
    rw [List.length_set] at hi hj
    by_cases e : i = k
    · subst e
      have e2 : ¬ j = i := fun e => hne e.symm
      simp only [if_pos, if_neg e2]
      exact off_flip (hnew j hjk e2)
    · by_cases e2 : j = k
      · subst e2
        simp only [if_pos, if_neg e]
        exact hnew i hik e
      · simp only [if_neg e, if_neg e2]
        exact h.apart i j hi hj hik hjk hne
  · intro i hi hik
    rw [List.length_set] at hi
    by_cases e : i = k
    · subst e; simp only [if_pos]; exact hug
    · simp only [if_neg e]; exact h.aside i hi hik
/-- A chain without versions put into a row. -/
theorem PartCh.ins {w w' : World} {base n : Nat} {v v' : Value} {f : List Chn} {vs : Nat → Value} {xs : List Value} (h : PartCh w base v n f n vs xs) (hn : f.length = n) {k : Nat} (hk : k ≤ n) {id : Int}
    (hr : w'.ownsRow base 67 2 v' (n + 1) (xs.take (k * 2) ++ [.int .i64 id, .slice none 0 0] ++ xs.drop (k * 2))) (hg : w.grownBy w' v.ownBlock) (hat : v'.ownBlock = v.ownBlock ∨ ∃ b, w.heap.size ≤ b ∧ v'.ownBlock = some b) :
    PartCh w' base v' (n + 1) (f.take k ++ ⟨id, []⟩ :: f.drop k) (n + 1) (fun i => if i < k then vs i else if i = k then .slice none 0 0 else vs (i - 1)) (xs.take (k * 2) ++ [.int .i64 id, .slice none 0 0] ++ xs.drop (k * 2)) := by
  have hl : xs.length = n * 2 := h.row.1
  have htl : (xs.take (k * 2)).length = k * 2 := by rw [List.length_take]; omega
  have hfl : (f.take k).length = k := by rw [List.length_take]; omega
  have hside : ∀ i, i < n → ((vs i).ownBlock = none ∨ (vs i).ownBlock ≠ v'.ownBlock) := by
    intro i hi
    rcases hat with e | ⟨b, hb, e⟩
    · rw [e]; exact h.aside i (by omega) hi
    · cases hv : (vs i).ownBlock with
      | none => exact .inl rfl
      | some q => exact .inr (fun e2 => by rw [e] at e2; injection e2 with e2; have := (World.ownsRow.lt (h.ents i (by omega) hi) q hv).2; omega)
  have hget : ∀ i (hi : i < (f.take k ++ ⟨id, []⟩ :: f.drop k).length), (f.take k ++ ⟨id, []⟩ :: f.drop k)[i]? = (if i < k then f[i]? else if i = k then some ⟨id, []⟩ else f[i - 1]?) := by
    intro i hi
    by_cases h1 : i < k
    · rw [if_pos h1, List.getElem?_append_left (by omega), List.getElem?_take, if_pos h1]
    · rw [if_neg h1, List.getElem?_append_right (by omega), hfl]
      by_cases h2 : i = k
      · subst h2; rw [if_pos rfl, Nat.sub_self]; rfl
      · rw [if_neg h2, show i - k = (i - k - 1) + 1 by omega, List.getElem?_cons_succ, List.getElem?_drop]
        congr 1; omega
  have hlen : (f.take k ++ ⟨id, []⟩ :: f.drop k).length = n + 1 := by rw [List.length_append, hfl, List.length_cons, List.length_drop]; omega
  have hg1 : ∀ i (hi : i < (f.take k ++ ⟨id, []⟩ :: f.drop k).length), i < k → ∃ h2 : i < f.length, (f.take k ++ ⟨id, []⟩ :: f.drop k)[i] = f[i] := by
    intro i hi h1
    have e := hget i hi
    rw [List.getElem?_eq_getElem hi, if_pos h1, List.getElem?_eq_getElem (show i < f.length by omega)] at e
    exact ⟨by omega, Option.some.inj e⟩
  have hg2 : ∀ i (hi : i < (f.take k ++ ⟨id, []⟩ :: f.drop k).length), i = k → (f.take k ++ ⟨id, []⟩ :: f.drop k)[i] = ⟨id, []⟩ := by
    intro i hi h1
    have e := hget i hi
    rw [List.getElem?_eq_getElem hi, if_neg (by omega), if_pos h1] at e
    exact Option.some.inj e
  have hg3 : ∀ i (hi : i < (f.take k ++ ⟨id, []⟩ :: f.drop k).length), ¬ i < k → ¬ i = k → ∃ h2 : i - 1 < f.length, (f.take k ++ ⟨id, []⟩ :: f.drop k)[i] = f[i - 1] := by
    intro i hi h1 h2
    have e := hget i hi
    rw [List.getElem?_eq_getElem hi, if_neg h1, if_neg h2, List.getElem?_eq_getElem (show i - 1 < f.length by omega)] at e
    exact ⟨by omega, Option.some.inj e⟩
  refine ⟨hr, ?_, ?_, ?_, ?_⟩
  · intro i hi hik
    by_cases h1 : i < k
    · obtain ⟨h2, e⟩ := hg1 i hi h1
      rw [e, if_pos h1, List.append_assoc, List.getElem?_append_left (by omega), List.getElem?_append_left (by omega), List.getElem?_take, List.getElem?_take, if_pos (by omega), if_pos (by omega)]
      exact h.at_ i h2 (by omega)
    · by_cases h2 : i = k
      · rw [hg2 i hi h2, if_neg h1, if_pos h2, List.append_assoc, h2]
        refine ⟨?_, ?_⟩
        · rw [List.getElem?_append_right (by omega), htl, Nat.sub_self]; rfl
        · rw [List.getElem?_append_right (by omega), htl, show k * 2 + 1 - k * 2 = 1 by omega]; rfl
      · obtain ⟨h3, e⟩ := hg3 i hi h1 h2
        have hll : (xs.take (k * 2) ++ [Value.int .i64 id, Value.slice none 0 0]).length = k * 2 + 2 := by rw [List.length_append, htl]; rfl
        rw [e, if_neg h1, if_neg h2, List.getElem?_append_right (by omega), List.getElem?_append_right (by omega), hll, List.getElem?_drop, List.getElem?_drop, show k * 2 + (i * 2 - (k * 2 + 2)) = (i - 1) * 2 by omega, show k * 2 + (i * 2 + 1 - (k * 2 + 2)) = (i - 1) * 2 + 1 by omega]
        exact h.at_ (i - 1) h3 (by omega)
  · intro i hi hik
    by_cases h1 : i < k
    · obtain ⟨h2, e⟩ := hg1 i hi h1
      rw [e]; simp only [if_pos h1]
      exact World.ownsRow.kept (h.ents i h2 (by omega)) hg (h.aside i h2 (by omega))
    · by_cases h2 : i = k
      · rw [hg2 i hi h2]; simp only [if_neg h1, if_pos h2]; exact ⟨rfl, .inl ⟨rfl, rfl⟩⟩
      · obtain ⟨h3, e⟩ := hg3 i hi h1 h2
        rw [e]; simp only [if_neg h1, if_neg h2]
        exact World.ownsRow.kept (h.ents (i - 1) h3 (by omega)) hg (h.aside (i - 1) h3 (by omega))
  · intro i j hi hj hik hjk hne
    by_cases h1 : i < k
    · simp only [if_pos h1]
      by_cases h2 : j < k
      · simp only [if_pos h2]; exact h.apart i j (by omega) (by omega) (by omega) (by omega) hne
      · by_cases h3 : j = k
        · simp only [if_neg h2, if_pos h3]; exact off_flip (.inl rfl)
        · simp only [if_neg h2, if_neg h3]; exact h.apart i (j - 1) (by omega) (by omega) (by omega) (by omega) (by omega)
    · by_cases h1' : i = k
      · simp only [if_neg h1, if_pos h1']; exact .inl rfl
      · simp only [if_neg h1, if_neg h1']
        by_cases h2 : j < k
        · simp only [if_pos h2]; exact h.apart (i - 1) j (by omega) (by omega) (by omega) (by omega) (by omega)
        · by_cases h3 : j = k
          · simp only [if_neg h2, if_pos h3]; exact off_flip (.inl rfl)
          · simp only [if_neg h2, if_neg h3]; exact h.apart (i - 1) (j - 1) (by omega) (by omega) (by omega) (by omega) (by omega)
  · intro i hi hik
    by_cases h1 : i < k
    · simp only [if_pos h1]; exact hside i (by omega)
    · by_cases h2 : i = k
      · simp only [if_neg h1, if_pos h2]; exact .inl rfl
      · simp only [if_neg h1, if_neg h2]; exact hside (i - 1) (by omega)
theorem PartCh.one {w : World} {base n : Nat} {v : Value} {f : List Chn} {vs : Nat → Value} {xs : List Value} (h : PartCh w base v n f n vs xs) (hn : f.length = n) : ∀ u ∈ xs, u.oneCell' = true := by
  intro u hu
  obtain ⟨j, hj, rfl⟩ := List.getElem_of_mem hu
  have hl : xs.length = n * 2 := h.row.1
  obtain ⟨a0, a1⟩ := h.at_ (j / 2) (by omega) (by omega)
  rcases Nat.mod_two_eq_zero_or_one j with e | e
  · rw [show j / 2 * 2 = j by omega, List.getElem?_eq_getElem hj] at a0
    rw [Option.some.inj a0]; rfl
  · rw [show j / 2 * 2 + 1 = j by omega, List.getElem?_eq_getElem hj] at a1
    rw [Option.some.inj a1]
    rcases (h.ents (j / 2) (by omega) (by omega)).2 with ⟨e, _⟩ | ⟨g, cap, cur, e, _⟩
    · rw [e]; rfl
    · rw [e]; rfl

end Go.Proofs.YtncpijfbbgipaaaGreatDoor.Co

/- The program's Install: the collection that it makes, step by step. -/
namespace Go.Proofs.YtncpijfbbgipaaaGreatDoor.Co
open Go.RowKit Tr
set_option linter.unusedVariables false

/-- The boxes of a collection and of a write, and the answer's cells. -/
structure MkI (w W : World) (nm v u : Value) (x : Wrt) : Prop where
  bel : Below w.heap.size w W
  lt : w.heap.size + 2 < W.heap.size
  c0 : W.cell? ⟨w.heap.size, 0, none⟩ = some nm
  c1 : W.cell? ⟨w.heap.size, 1, none⟩ = some v
  c2 : W.cell? ⟨w.heap.size, 2, none⟩ = some u
  wr : BxW W (w.heap.size + 1) x
  r0 : ∃ x, W.cell? ⟨w.heap.size + 2, 0, none⟩ = some x
  r1 : ∃ x, W.cell? ⟨w.heap.size + 2, 1, none⟩ = some x
  r2 : ∃ x, W.cell? ⟨w.heap.size + 2, 2, none⟩ = some x
  y0 : ∀ o, W.frozen? ⟨w.heap.size + 2, o, none⟩ = false
theorem MkI.start (w : World) (nm v u p q r : Value) (x : Wrt) (T T2 T3 : TypeId) : MkI w (((w.alloc (.cells #[nm, v, u] T)).alloc (.cells #[.string x.coll, .int .i64 x.id, .bool x.gone, .int .i64 x.doc.k, .int .i64 x.doc.n, .string x.doc.t] T2)).alloc (.cells #[p, q, r] T3)) nm v u x :=
  ⟨(((Below.refl _ _).alloc (Nat.le_refl _) _).alloc (by simp) _).alloc (by simp; omega) _, by simp, by simp [go_sem], by simp [go_sem], by simp [go_sem], ⟨by simp, by simp [go_sem], by simp [go_sem], by simp [go_sem], by simp [go_sem], by simp [go_sem], by simp [go_sem]⟩, ⟨p, by simp [go_sem]⟩, ⟨q, by simp [go_sem]⟩, ⟨r, by simp [go_sem]⟩, fun o => by simp [go_sem]⟩
theorem MkI.step {w W W' : World} {nm v u : Value} {x : Wrt} {B : Nat} (h : MkI w W nm v u x) (hb : Below B W W') (hB : w.heap.size + 3 ≤ B) : MkI w W' nm v u x := by
  have hc : ∀ b o, b < B → W'.cell? ⟨b, o, none⟩ = W.cell? ⟨b, o, none⟩ := fun b o hh => hb.cell (p := ⟨b, o, none⟩) hh
  have hf : ∀ b o, b < B → W'.frozen? ⟨b, o, none⟩ = W.frozen? ⟨b, o, none⟩ := fun b o hh => hb.frozen (p := ⟨b, o, none⟩) hh
  refine ⟨h.bel.trans (hb.mono (by omega)), Nat.lt_of_lt_of_le h.lt hb.size, (hc _ _ (by omega)).trans h.c0, (hc _ _ (by omega)).trans h.c1, (hc _ _ (by omega)).trans h.c2, h.wr.step hb (by omega), ?_, ?_, ?_, fun o => (hf _ _ (by omega)).trans (h.y0 o)⟩
  · rw [hc _ _ (by omega)]; exact h.r0
  · rw [hc _ _ (by omega)]; exact h.r1
  · rw [hc _ _ (by omega)]; exact h.r2
theorem MkI.next {w W W' : World} {nm v u : Value} {x : Wrt} (h : MkI w W nm v u x) (hb : Below W.heap.size W W') : MkI w W' nm v u x := h.step hb (by have := h.lt; omega)
theorem ansS_zero {w W : World} {e : Ending} {k : Int} (hb : Below w.heap.size w W) (he : e = .returned (.tuple #[.agg #[.string em, .slice none 0 0, .slice none 0 0], .int .i64 k])) : AnsS (zCol, k) w e W :=
  ⟨hb, none, none, 0, 0, W.heap.size, W.heap.size, he, hb.size, Nat.le_refl _, Nat.le_refl _, ⟨fun _ => .slice none 0 0, [], ⟨⟨rfl, .inl ⟨rfl, rfl⟩⟩, fun i h hi => absurd hi (by simp [zCol]), fun i h hi => absurd hi (by simp [zCol]), fun i j h h2 hi => absurd hi (by simp [zCol]), fun i h hi => absurd hi (by simp [zCol])⟩, fun b h => (by cases h), fun i h => absurd h (by simp [zCol])⟩, noDf _ _ _⟩
/-- What a store into a block that is none of a row's leaves of a row of chains. -/
theorem PartCh.off {w w' : World} {base : Nat} {v : Value} {n : Nat} {f : List Chn} {k : Nat} {vs : Nat → Value} {xs : List Value} {b : Nat} (h : PartCh w base v n f k vs xs) (hg : w.grownBy w' (some b)) (h1 : v.ownBlock ≠ some b) (h2 : ∀ i, i < f.length → i < k → (vs i).ownBlock ≠ some b) : PartCh w' base v n f k vs xs :=
  ⟨h.row.kept hg (.inr h1), h.at_, fun i hi hk => World.ownsRow.kept (h.ents i hi hk) hg (.inr (h2 i hi hk)), h.apart, h.aside⟩
theorem OwnDfH.far {w w' : World} {lo hi : Nat} {row : Option Nat} {v : Value} {d : List Dfn} (h : OwnDfH w lo hi v d) (hg : w.grownBy w' row) (hr : ∀ b, row = some b → b < lo ∨ hi ≤ b) : OwnDfH w' lo hi v d :=
  (ChgS.of_grown (S := fun b => row = some b) hg (fun b e => e)).away hr h
/-- The collection that is being made: its box, its rows. -/
structure StI (w W : World) (nm v u : Value) (c : Col) (x : Wrt) (bo lo mid hi g cp : Nat) (q : Option Addr) (cq : Nat) (F : List Chn) (vs : Nat → Value) (xs : List Value) : Prop where
  bx : MkI w W nm v u x
  lo3 : w.heap.size + 3 ≤ lo
  lm : lo ≤ mid
  mh : mid ≤ hi
  hb : hi ≤ bo
  lt : bo < W.heap.size
  o0 : W.cell? ⟨bo, 0, none⟩ = some (.string c.name)
  o1 : W.cell? ⟨bo, 1, none⟩ = some (.slice (some ⟨g, 0, none⟩) F.length cp)
  o2 : W.cell? ⟨bo, 2, none⟩ = some (.slice q c.dfs.length cq)
  part : PartCh W lo (.slice (some ⟨g, 0, none⟩) F.length cp) F.length F F.length vs xs
  inV : (lo ≤ g ∧ g < mid) ∨ bo < g
  inS : ∀ i, i < F.length → ∀ b, (vs i).ownBlock = some b → (lo ≤ b ∧ b < mid) ∨ bo < b
  df : OwnDfH W mid hi (.slice q c.dfs.length cq) c.dfs
theorem StI.next {w W W' : World} {nm v u : Value} {c : Col} {x : Wrt} {bo lo mid hi g cp : Nat} {q : Option Addr} {cq : Nat} {F : List Chn} {vs : Nat → Value} {xs : List Value} (h : StI w W nm v u c x bo lo mid hi g cp q cq F vs xs) (hb : Below W.heap.size W W') : StI w W' nm v u c x bo lo mid hi g cp q cq F vs xs :=
  ⟨h.bx.next hb, h.lo3, h.lm, h.mh, h.hb, Nat.lt_of_lt_of_le h.lt hb.size, (hb.cell h.lt).trans h.o0, (hb.cell h.lt).trans h.o1, (hb.cell h.lt).trans h.o2, h.part.next hb, h.inV, h.inS, h.df.next hb⟩
theorem StI.add {w W w1 : World} {nm v u : Value} {c : Col} {x : Wrt} {bo lo mid hi g cp : Nat} {q : Option Addr} {cq : Nat} {F : List Chn} {vs : Nat → Value} {xs : List Value} (h : StI w W nm v u c x bo lo mid hi g cp q cq F vs xs) {k : Nat} (hk : k < F.length) {u' : Value} {es : List Ver}
    (hg : W.grownBy w1 (vs k).ownBlock) (ho : OwnVr w1 lo u' es) (hat : u'.ownBlock = (vs k).ownBlock ∨ ∃ b, W.heap.size ≤ b ∧ u'.ownBlock = some b) :
    StI w (w1.setCell ⟨g, k * 2 + 1, none⟩ u') nm v u c x bo lo mid hi g cp q cq (F.set k ⟨F[k].id, es⟩) (fun i => if i = k then u' else vs i) (xs.set (k * 2 + 1) u') := by
  have hin := h.inS k hk
  have hlm := h.lm; have hmh := h.mh; have hhb := h.hb; have hbo := h.lt; have hV := h.inV; have hl3 := h.lo3
  have hgl := (h.part.row.lt g rfl)
  have hent := h.part.ents k hk hk
  have B1 : Below lo W w1 := Below.grown (Below.refl lo W) hg (by omega) (fun b e => (World.ownsRow.lt hent b e).1)
  have B2 : Below lo W (w1.setCell ⟨g, k * 2 + 1, none⟩ u') := B1.setCell hgl.1 _
  have hcell : ∀ j, (w1.setCell ⟨g, k * 2 + 1, none⟩ u').cell? ⟨bo, j, none⟩ = W.cell? ⟨bo, j, none⟩ := fun j => by
    have e1 : (w1.setCell ⟨g, k * 2 + 1, none⟩ u').heap[bo]? = w1.heap[bo]? := grown_set.block bo (by have := hg.size; omega) (fun e => by injection e with e; omega)
    have e2 : w1.heap[bo]? = W.heap[bo]? := hg.block bo hbo (fun e => by have := hin bo e.symm; omega)
    exact World.cell?_of_block (a := ⟨bo, j, none⟩) (e1.trans e2)
  have hlen : (F.set k ⟨F[k].id, es⟩).length = F.length := List.length_set
  refine ⟨h.bx.step B2 hl3, h.lo3, h.lm, h.mh, h.hb, by have := B2.size; omega, (hcell 0).trans h.o0, (hcell 1).trans (by rw [hlen]; exact h.o1), (hcell 2).trans h.o2, by rw [hlen]; exact h.part.addAt rfl hk hg ho hat, h.inV, ?_, ?_⟩
  · intro i hi b e
    rw [hlen] at hi
    by_cases hik : i = k
    · simp only [if_pos hik] at e
      rcases hat with e2 | ⟨b2, hb2, e2⟩
      · exact hin b (e2.symm.trans e)
      · rw [e2] at e; injection e with e; omega
    · simp only [if_neg hik] at e
      exact h.inS i hi b e
  · exact (h.df.far hg (fun b e => by have := hin b e; omega)).far grown_set (fun b e => by injection e with e; omega)
theorem OwnChS.low {w : World} {lo b o : Nat} {S : Nat → Prop} {v x : Value} {f : List Chn} (h : OwnChS w lo S v f) (hb : b < lo) : OwnChS (w.setCell ⟨b, o, none⟩ x) lo S v f := by
  obtain ⟨vs, xs, h, h1, h2⟩ := h
  exact ⟨vs, xs, h.grown grown_set hb, h1, h2⟩
theorem StI.fin {w W : World} {nm v u : Value} {c : Col} {x : Wrt} {bo lo mid hi g cp : Nat} {q : Option Addr} {cq : Nat} {F : List Chn} {vs : Nat → Value} {xs : List Value} (h : StI w W nm v u c x bo lo mid hi g cp q cq F vs xs) (code : Int) (y0 y1 y2 : Value) :
    AnsS (⟨c.name, F, c.dfs⟩, code) w (.returned (.tuple #[.agg #[.string c.name, .slice (some ⟨g, 0, none⟩) F.length cp, .slice q c.dfs.length cq], .int .i64 code])) (((W.setCell ⟨w.heap.size + 2, 0, none⟩ y0).setCell ⟨w.heap.size + 2, 1, none⟩ y1).setCell ⟨w.heap.size + 2, 2, none⟩ y2) := by
  have hlm := h.lm; have hmh := h.mh; have hhb := h.hb; have hbo := h.lt; have hV := h.inV; have hl3 := h.lo3
  have hS : OwnChS W lo (sS lo mid hi W.heap.size) (.slice (some ⟨g, 0, none⟩) F.length cp) F := ⟨vs, xs, h.part, fun b e => by
      have hh := (h.part.row.lt b e).2
      have e' : g = b := Option.some.inj (show some g = some b from e)
      unfold sS; omega, fun i hi b e => by
      have hh := (World.ownsRow.lt (h.part.ents i hi hi) b e).2
      have := h.inS i hi b e
      unfold sS; omega⟩
  have hz : (((W.setCell ⟨w.heap.size + 2, 0, none⟩ y0).setCell ⟨w.heap.size + 2, 1, none⟩ y1).setCell ⟨w.heap.size + 2, 2, none⟩ y2).heap.size = W.heap.size := by simp [World.setCell]
  refine ⟨((h.bx.bel.setCell (by show w.heap.size ≤ w.heap.size + 2; omega) _).setCell (by show w.heap.size ≤ w.heap.size + 2; omega) _).setCell (by show w.heap.size ≤ w.heap.size + 2; omega) _, _, _, _, _, mid, hi, rfl, by omega, h.mh, by rw [hz]; omega, ?_, ?_⟩
  · rw [hz]
    exact (((hS.low (by omega)).low (by omega)).low (by omega)).mono (by omega) (fun b hb => by unfold sS at hb ⊢; omega)
  · exact ((h.df.far grown_set (fun b e => by injection e with e; omega)).far grown_set (fun b e => by injection e with e; omega)).far grown_set (fun b e => by injection e with e; omega)
/-- After the copy: the box made behind the rows. -/
theorem StI.start {w W : World} {nm v u : Value} {c : Col} {x : Wrt} {lo mid g cp : Nat} {q : Option Addr} {cq : Nat} (hm : MkI w W nm v u x) (hl3 : w.heap.size + 3 ≤ lo) (hlm : lo ≤ mid) (hmh : mid ≤ W.heap.size) (hC : OwnChH W lo mid (.slice (some ⟨g, 0, none⟩) c.chs.length cp) c.chs) (hD : OwnDfH W mid W.heap.size (.slice q c.dfs.length cq) c.dfs) (T : TypeId) :
    ∃ vs xs, StI w (W.alloc (.cells #[.string c.name, .slice (some ⟨g, 0, none⟩) c.chs.length cp, .slice q c.dfs.length cq] T)) nm v u c x W.heap.size lo mid W.heap.size g cp q cq c.chs vs xs := by
  obtain ⟨vs, xs, hP, h1, h2⟩ := hC
  have hb : Below W.heap.size W (W.alloc (.cells #[.string c.name, .slice (some ⟨g, 0, none⟩) c.chs.length cp, .slice q c.dfs.length cq] T)) := (Below.refl _ _).alloc (Nat.le_refl _) _
  refine ⟨vs, xs, hm.next hb, hl3, hlm, hmh, Nat.le_refl _, by simp, by simp [go_sem], by simp [go_sem], by simp [go_sem], hP.next hb, .inl ⟨(hP.row.lt g rfl).1, h1 g rfl⟩, fun i hi b e => .inl ⟨(World.ownsRow.lt (hP.ents i hi hi) b e).1, h2 i hi b e⟩, hD.next hb⟩
/-- After a chain was put in: the box's second cell is written anew. -/
theorem StI.ins {w W W6 w7 : World} {nm v u : Value} {c : Col} {x : Wrt} {bo lo mid hi g cp : Nat} {q : Option Addr} {cq : Nat} {vs : Nat → Value} {xs : List Value} {vv : Value} {k : Nat} (hm : MkI w W nm v u x) (hl3 : w.heap.size + 3 ≤ lo) (hlm : lo ≤ mid) (hmh : mid ≤ hi) (hhb : hi ≤ bo) (hbo : bo < W.heap.size)
    (o0 : W.cell? ⟨bo, 0, none⟩ = some (.string c.name)) (o1 : ∃ y, W.cell? ⟨bo, 1, none⟩ = some y) (o2 : W.cell? ⟨bo, 2, none⟩ = some (.slice q c.dfs.length cq)) (hP : PartCh W lo vv c.chs.length c.chs c.chs.length vs xs) (hV : ∀ b, vv.ownBlock = some b → lo ≤ b ∧ b < mid) (hVS : ∀ i, i < c.chs.length → ∀ b, (vs i).ownBlock = some b → lo ≤ b ∧ b < mid) (hD : OwnDfH W mid hi (.slice q c.dfs.length cq) c.dfs)
    (hW6 : Below W.heap.size W W6) (hk : k ≤ c.chs.length) (hr : w7.ownsRow lo 67 2 (.slice (some ⟨g, 0, none⟩) (c.chs.length + 1) cp) (c.chs.length + 1) (xs.take (k * 2) ++ [.int .i64 x.id, .slice none 0 0] ++ xs.drop (k * 2))) (hg : W6.grownBy w7 vv.ownBlock) (hat : (Value.slice (some ⟨g, 0, none⟩) (c.chs.length + 1) cp).ownBlock = vv.ownBlock ∨ ∃ b, W6.heap.size ≤ b ∧ (Value.slice (some ⟨g, 0, none⟩) (c.chs.length + 1) cp).ownBlock = some b) :
    StI w (w7.setCell ⟨bo, 1, none⟩ (.slice (some ⟨g, 0, none⟩) (c.chs.length + 1) cp)) nm v u c x bo lo mid hi g cp q cq (c.chs.take k ++ ⟨x.id, []⟩ :: c.chs.drop k) (fun i => if i < k then vs i else if i = k then .slice none 0 0 else vs (i - 1)) (xs.take (k * 2) ++ [.int .i64 x.id, .slice none 0 0] ++ xs.drop (k * 2)) := by
  have hz6 := hW6.size
  have hz7 := hg.size
  have hlen : (c.chs.take k ++ (⟨x.id, []⟩ : Chn) :: c.chs.drop k).length = c.chs.length + 1 := by rw [List.length_append, List.length_take, List.length_cons, List.length_drop]; omega
  have hP7 := (hP.next hW6).ins rfl hk hr hg hat
  have hgv : (lo ≤ g ∧ g < mid) ∨ bo < g := by
    rcases hat with e | ⟨b, hb, e⟩
    · exact .inl (hV g (e.symm.trans rfl))
    · have e' : g = b := Option.some.inj (show some g = some b from e)
      omega
  have B1 : Below lo W w7 := Below.grown (hW6.mono (by omega)) hg (by omega) (fun b e => (hV b e).1)
  have B2 : Below lo W (w7.setCell ⟨bo, 1, none⟩ (.slice (some ⟨g, 0, none⟩) (c.chs.length + 1) cp)) := B1.setCell (by show lo ≤ bo; omega) _
  have hbk : w7.heap[bo]? = W.heap[bo]? := (hg.block bo (by omega) (fun e => by have := hV bo e.symm; omega)).trans (hW6.block bo hbo)
  have hcell : ∀ j, w7.cell? ⟨bo, j, none⟩ = W.cell? ⟨bo, j, none⟩ := fun j => World.cell?_of_block (a := ⟨bo, j, none⟩) hbk
  obtain ⟨y, hy⟩ := o1
  have p0 := (hcell 0).trans o0
  have p1 := (hcell 1).trans hy
  have p2 := (hcell 2).trans o2
  refine ⟨hm.step B2 hl3, hl3, hlm, hmh, hhb, by have := B2.size; omega, by simp [go_sem, p0], by rw [hlen]; simp [go_sem, p1], by simp [go_sem, p2], ?_, hgv, ?_, ?_⟩
  · rw [hlen]
    refine hP7.off grown_set (fun e => ?_) (fun i hi hik e => ?_)
    · have e' : g = bo := Option.some.inj (show some g = some bo from e)
      omega
    · rw [hlen] at hi
      by_cases h1 : i < k
      · simp only [if_pos h1] at e; have := hVS i (by omega) bo e; omega
      · by_cases h2 : i = k
        · simp only [if_neg h1, if_pos h2] at e; cases e
        · simp only [if_neg h1, if_neg h2] at e; have := hVS (i - 1) (by omega) bo e; omega
  · intro i hi b e
    rw [hlen] at hi
    by_cases h1 : i < k
    · simp only [if_pos h1] at e; exact .inl (hVS i (by omega) b e)
    · by_cases h2 : i = k
      · simp only [if_neg h1, if_pos h2] at e; cases e
      · simp only [if_neg h1, if_neg h2] at e; exact .inl (hVS (i - 1) (by omega) b e)
  · exact ((hD.next hW6).far hg (fun b e => by have := hV b e; omega)).far grown_set (fun b e => by injection e with e; omega)

end Go.Proofs.YtncpijfbbgipaaaGreatDoor.Co

/- take's own view of the collection that is being made: a write's box behind the collection's. -/
namespace Go.Proofs.YtncpijfbbgipaaaGreatDoor.Co
open Go.RowKit Tr
set_option linter.unusedVariables false

theorem BxW.same {W W' : World} {b : Nat} {x : Wrt} (h : BxW W b x) (hs : W.heap.size ≤ W'.heap.size) (hk : W'.heap[b]? = W.heap[b]?) : BxW W' b x := by
  have hc : ∀ o, W'.cell? ⟨b, o, none⟩ = W.cell? ⟨b, o, none⟩ := fun o => World.cell?_of_block (a := ⟨b, o, none⟩) hk
  exact ⟨Nat.lt_of_lt_of_le h.lt hs, (hc _).trans h.c0, (hc _).trans h.c1, (hc _).trans h.c2, (hc _).trans h.c3, (hc _).trans h.c4, (hc _).trans h.c5⟩
structure StT (w W : World) (nm v u : Value) (c : Col) (x : Wrt) (bo wb lo mid hi g cp : Nat) (q : Option Addr) (cq : Nat) (F : List Chn) (vs : Nat → Value) (xs : List Value) : Prop where
  st : StI w W nm v u c x bo lo mid hi g cp q cq F vs xs
  hw : bo < wb
  wr : BxW W wb x
  inV : g ≠ wb
  inS : ∀ i, i < F.length → (vs i).ownBlock ≠ some wb
theorem StT.next {w W W' : World} {nm v u : Value} {c : Col} {x : Wrt} {bo wb lo mid hi g cp : Nat} {q : Option Addr} {cq : Nat} {F : List Chn} {vs : Nat → Value} {xs : List Value} (h : StT w W nm v u c x bo wb lo mid hi g cp q cq F vs xs) (hb : Below W.heap.size W W') : StT w W' nm v u c x bo wb lo mid hi g cp q cq F vs xs :=
  ⟨h.st.next hb, h.hw, h.wr.next hb, h.inV, h.inS⟩
theorem StT.add {w W w1 : World} {nm v u : Value} {c : Col} {x : Wrt} {bo wb lo mid hi g cp : Nat} {q : Option Addr} {cq : Nat} {F : List Chn} {vs : Nat → Value} {xs : List Value} (h : StT w W nm v u c x bo wb lo mid hi g cp q cq F vs xs) {k : Nat} (hk : k < F.length) {u' : Value} {es : List Ver}
    (hg : W.grownBy w1 (vs k).ownBlock) (ho : OwnVr w1 lo u' es) (hat : u'.ownBlock = (vs k).ownBlock ∨ ∃ b, W.heap.size ≤ b ∧ u'.ownBlock = some b) :
    StT w (w1.setCell ⟨g, k * 2 + 1, none⟩ u') nm v u c x bo wb lo mid hi g cp q cq (F.set k ⟨F[k].id, es⟩) (fun i => if i = k then u' else vs i) (xs.set (k * 2 + 1) u') := by
  have hl := h.wr.lt
  have hz := hg.size
  have e2 : w1.heap[wb]? = W.heap[wb]? := hg.block wb hl (fun e => h.inS k hk e.symm)
  have e1 : (w1.setCell ⟨g, k * 2 + 1, none⟩ u').heap[wb]? = w1.heap[wb]? := grown_set.block wb (by omega) (fun e => h.inV (Option.some.inj e).symm)
  refine ⟨h.st.add hk hg ho hat, h.hw, h.wr.same (by simp [World.setCell]; exact hz) (e1.trans e2), h.inV, ?_⟩
  intro i hi
  rw [List.length_set] at hi
  by_cases hik : i = k
  · simp only [if_pos hik]
    rcases hat with e | ⟨b, hb, e⟩
    · rw [e]; exact h.inS k hk
    · rw [e]; intro e'; have := Option.some.inj e'; omega
  · simp only [if_neg hik]; exact h.inS i hi
theorem StT.of {w W W' : World} {nm v u : Value} {c : Col} {x : Wrt} {bo lo mid hi g cp : Nat} {q : Option Addr} {cq : Nat} {F : List Chn} {vs : Nat → Value} {xs : List Value} (h : StI w W nm v u c x bo lo mid hi g cp q cq F vs xs) {wb : Nat} (hw : W.heap.size ≤ wb) (hb : Below W.heap.size W W') (hx : BxW W' wb x) : StT w W' nm v u c x bo wb lo mid hi g cp q cq F vs xs := by
  have hlt := h.lt
  have hg := (h.part.row.lt g rfl).2
  refine ⟨h.next hb, by omega, hx, by omega, fun i hi e => ?_⟩
  have := (World.ownsRow.lt (h.part.ents i hi hi) wb e).2
  omega
theorem StT.ins {w W W6 w7 : World} {nm v u : Value} {c : Col} {x : Wrt} {bo wb lo mid hi g cp : Nat} {q : Option Addr} {cq : Nat} {vs : Nat → Value} {xs : List Value} {vv : Value} {k : Nat} (hm : MkI w W nm v u x) (hl3 : w.heap.size + 3 ≤ lo) (hlm : lo ≤ mid) (hmh : mid ≤ hi) (hhb : hi ≤ bo) (hbo : bo < W.heap.size)
    (hw : bo < wb) (hx : BxW W wb x)
    (o0 : W.cell? ⟨bo, 0, none⟩ = some (.string c.name)) (o1 : ∃ y, W.cell? ⟨bo, 1, none⟩ = some y) (o2 : W.cell? ⟨bo, 2, none⟩ = some (.slice q c.dfs.length cq)) (hP : PartCh W lo vv c.chs.length c.chs c.chs.length vs xs) (hV : ∀ b, vv.ownBlock = some b → lo ≤ b ∧ b < mid) (hVS : ∀ i, i < c.chs.length → ∀ b, (vs i).ownBlock = some b → lo ≤ b ∧ b < mid) (hD : OwnDfH W mid hi (.slice q c.dfs.length cq) c.dfs)
    (hW6 : Below W.heap.size W W6) (hk : k ≤ c.chs.length) (hr : w7.ownsRow lo 67 2 (.slice (some ⟨g, 0, none⟩) (c.chs.length + 1) cp) (c.chs.length + 1) (xs.take (k * 2) ++ [.int .i64 x.id, .slice none 0 0] ++ xs.drop (k * 2))) (hg : W6.grownBy w7 vv.ownBlock) (hat : (Value.slice (some ⟨g, 0, none⟩) (c.chs.length + 1) cp).ownBlock = vv.ownBlock ∨ ∃ b, W6.heap.size ≤ b ∧ (Value.slice (some ⟨g, 0, none⟩) (c.chs.length + 1) cp).ownBlock = some b) :
    StT w (w7.setCell ⟨bo, 1, none⟩ (.slice (some ⟨g, 0, none⟩) (c.chs.length + 1) cp)) nm v u c x bo wb lo mid hi g cp q cq (c.chs.take k ++ ⟨x.id, []⟩ :: c.chs.drop k) (fun i => if i < k then vs i else if i = k then .slice none 0 0 else vs (i - 1)) (xs.take (k * 2) ++ [.int .i64 x.id, .slice none 0 0] ++ xs.drop (k * 2)) := by
  have hz6 := hW6.size
  have hz7 := hg.size
  have hl := hx.lt
  have hlen : (c.chs.take k ++ (⟨x.id, []⟩ : Chn) :: c.chs.drop k).length = c.chs.length + 1 := by rw [List.length_append, List.length_take, List.length_cons, List.length_drop]; omega
  have e3 : W6.heap[wb]? = W.heap[wb]? := hW6.block wb hl
  have e2 : w7.heap[wb]? = W6.heap[wb]? := hg.block wb (by omega) (fun e => by have := hV wb e.symm; omega)
  have e1 : (w7.setCell ⟨bo, 1, none⟩ (.slice (some ⟨g, 0, none⟩) (c.chs.length + 1) cp)).heap[wb]? = w7.heap[wb]? := grown_set.block wb (by omega) (fun e => by have e' : wb = bo := Option.some.inj e; omega)
  refine ⟨StI.ins hm hl3 hlm hmh hhb hbo o0 o1 o2 hP hV hVS hD hW6 hk hr hg hat, hw, hx.same (by simp [World.setCell]; omega) ((e1.trans e2).trans e3), ?_, ?_⟩
  · rcases hat with e | ⟨b, hb, e⟩
    · have := hV g (e.symm.trans rfl); omega
    · have e' : g = b := Option.some.inj (show some g = some b from e)
      omega
  · intro i hi e
    rw [hlen] at hi
    by_cases h1 : i < k
    · simp only [if_pos h1] at e; have := hVS i (by omega) wb e; omega
    · by_cases h2 : i = k
      · simp only [if_neg h1, if_pos h2] at e; cases e
      · simp only [if_neg h1, if_neg h2] at e; have := hVS (i - 1) (by omega) wb e; omega

theorem keepT {w W w0 : World} {nm v u : Value} {c : Col} {x : Wrt} {bo wb lo mid hi g cp : Nat} {q : Option Addr} {cq : Nat} {F : List Chn} {vs : Nat → Value} {xs : List Value} (h : StT w W nm v u c x bo wb lo mid hi g cp q cq F vs xs) (hb : Below W.heap.size W w0) :
    w0.cell? ⟨bo, 1, none⟩ = some (.slice (some ⟨g, 0, none⟩) F.length cp) ∧ w0.cell? ⟨wb, 2, none⟩ = some (.bool x.gone) ∧ w0.cell? ⟨wb, 3, none⟩ = some (.int .i64 x.doc.k) ∧ w0.cell? ⟨wb, 4, none⟩ = some (.int .i64 x.doc.n) ∧ w0.cell? ⟨wb, 5, none⟩ = some (.string x.doc.t) :=
  have h' := h.next hb
  ⟨h'.st.o1, h'.wr.c2, h'.wr.c3, h'.wr.c4, h'.wr.c5⟩
theorem StT.addCall {w W : World} {nm v u : Value} {c : Col} {x : Wrt} {bo wb lo mid hi g cp : Nat} {q : Option Addr} {cq : Nat} {F : List Chn} {vs : Nat → Value} {xs : List Value} (h : StT w W nm v u c x bo wb lo mid hi g cp q cq F vs xs) {k : Nat} (hk : k < F.length) (hl : F[k].vs.length ≤ 1000) (y : Ver) :
    Calls Tryz.prog 61 #[.pointer (some ⟨g, k * 2, none⟩), .agg #[.int .i64 y.tm, .bool y.gone, .int .i64 y.doc.k, .int .i64 y.doc.n, .string y.doc.t]] W fun e w' => AddA g (k * 2) lo (vs k) F[k].vs y W e w' := by
  obtain ⟨a0, a1⟩ := h.st.part.at_ k hk hk
  have hlt := h.st.part.row.lt g rfl
  have h1 := h.st.lm; have h2 := h.st.mh; have h3 := h.st.hb; have h4 := h.st.lt
  exact add_any g (k * 2) lo F[k].id (vs k) F[k].vs y W hlt.2 (owns_cell h.st.part.row _ _ a0) (owns_cell h.st.part.row _ _ a1) (World.ownsRow.frozenAt h.st.part.row _) (h.st.part.ents k hk hk) (h.st.part.aside k hk hk) (by omega) hl
theorem StT.kept8 {w W w8 : World} {nm v u : Value} {c : Col} {x : Wrt} {bo wb lo mid hi g cp : Nat} {q : Option Addr} {cq : Nat} {F : List Chn} {vs : Nat → Value} {xs : List Value} (h : StT w W nm v u c x bo wb lo mid hi g cp q cq F vs xs) {k : Nat} (hk : k < F.length) {y : Ver} {e : Ending} (hA : AddA g (k * 2) lo (vs k) F[k].vs y W e w8) :
    w8.cell? ⟨bo, 1, none⟩ = some (.slice (some ⟨g, 0, none⟩) F.length cp) ∧ w8.cell? ⟨wb, 2, none⟩ = some (.bool x.gone) ∧ w8.cell? ⟨wb, 3, none⟩ = some (.int .i64 x.doc.k) ∧ w8.cell? ⟨wb, 4, none⟩ = some (.int .i64 x.doc.n) ∧ w8.cell? ⟨wb, 5, none⟩ = some (.string x.doc.t) := by
  by_cases hcode : addC F[k].vs y = 0
  · obtain ⟨w1, u', rfl, hg8, ho8, hat8⟩ := hA.ok hcode
    have Z := h.add hk hg8 ho8 hat8
    have z1 := Z.st.o1
    rw [List.length_set] at z1
    exact ⟨z1, Z.wr.c2, Z.wr.c3, Z.wr.c4, Z.wr.c5⟩
  · exact keepT h (hA.bad hcode)
theorem insF_len (l : List Chn) (y : Chn) (k : Nat) (hk : k ≤ l.length) : (l.take k ++ y :: l.drop k).length = l.length + 1 := by rw [List.length_append, List.length_take, List.length_cons, List.length_drop]; omega
theorem insF_get (l : List Chn) (y : Chn) (k : Nat) (hk : k ≤ l.length) (h : k < (l.take k ++ y :: l.drop k).length) : (l.take k ++ y :: l.drop k)[k] = y := by
  have hl : (l.take k).length = k := by rw [List.length_take]; omega
  rw [List.getElem_append_right (by omega)]
  simp [hl]
theorem insF_set (l : List Chn) (y z : Chn) (k : Nat) (hk : k ≤ l.length) : (l.take k ++ y :: l.drop k).set k z = l.take k ++ z :: l.drop k := by
  have hl : (l.take k).length = k := by rw [List.length_take]; omega
  rw [List.set_append_right _ _ (by omega), hl, Nat.sub_self]; rfl
/-- What take leaves: its code, and the collection in its box, as the answer wants it. -/
structure TakA (R : Col × Int) (w : World) (nm v u : Value) (c : Col) (x : Wrt) (bo lo mid hi : Nat) (q : Option Addr) (cq : Nat) (e : Ending) (w' : World) : Prop where
  out : ∃ (code : Int) (F : List Chn) (g cw : Nat) (vs : Nat → Value) (xs : List Value), e = .returned (.int .i64 code) ∧ R = (⟨c.name, F, c.dfs⟩, code) ∧ StI w w' nm v u c x bo lo mid hi g cw q cq F vs xs
/-- What stands in the collection's box before. -/
structure TakB (w W : World) (nm v u : Value) (c : Col) (x : Wrt) (bo lo mid : Nat) (p : Option Addr) (cp : Nat) (q : Option Addr) (cq : Nat) (vs : Nat → Value) (xs : List Value) : Prop where
  bx : MkI w W nm v u x
  l3 : w.heap.size + 3 ≤ lo
  lm : lo ≤ mid
  mb : mid ≤ bo
  lt : bo < W.heap.size
  o0 : W.cell? ⟨bo, 0, none⟩ = some (.string c.name)
  o1 : W.cell? ⟨bo, 1, none⟩ = some (.slice p c.chs.length cp)
  o2 : W.cell? ⟨bo, 2, none⟩ = some (.slice q c.dfs.length cq)
  of : ∀ o, W.frozen? ⟨bo, o, none⟩ = false
  part : PartCh W lo (.slice p c.chs.length cp) c.chs.length c.chs c.chs.length vs xs
  inV : ∀ b, (Value.slice p c.chs.length cp).ownBlock = some b → lo ≤ b ∧ b < mid
  inS : ∀ i, i < c.chs.length → ∀ b, (vs i).ownBlock = some b → lo ≤ b ∧ b < mid
  df : OwnDfH W mid bo (.slice q c.dfs.length cq) c.dfs
theorem TakB.next {w W W' : World} {nm v u : Value} {c : Col} {x : Wrt} {bo lo mid : Nat} {p : Option Addr} {cp : Nat} {q : Option Addr} {cq : Nat} {vs : Nat → Value} {xs : List Value} (h : TakB w W nm v u c x bo lo mid p cp q cq vs xs) (hb : Below W.heap.size W W') : TakB w W' nm v u c x bo lo mid p cp q cq vs xs :=
  ⟨h.bx.next hb, h.l3, h.lm, h.mb, Nat.lt_of_lt_of_le h.lt hb.size, (hb.cell h.lt).trans h.o0, (hb.cell h.lt).trans h.o1, (hb.cell h.lt).trans h.o2, fun o => (hb.frozen (p := ⟨bo, o, none⟩) h.lt).trans (h.of o), h.part.next hb, h.inV, h.inS, h.df.next hb⟩
theorem TakB.start {w W : World} {nm v u : Value} {c : Col} {x : Wrt} {lo mid : Nat} {p : Option Addr} {cp : Nat} {q : Option Addr} {cq : Nat} (hm : MkI w W nm v u x) (hl3 : w.heap.size + 3 ≤ lo) (hlm : lo ≤ mid) (hmh : mid ≤ W.heap.size) (hC : OwnChH W lo mid (.slice p c.chs.length cp) c.chs) (hD : OwnDfH W mid W.heap.size (.slice q c.dfs.length cq) c.dfs) (T : TypeId) :
    ∃ vs xs, TakB w (W.alloc (.cells #[.string c.name, .slice p c.chs.length cp, .slice q c.dfs.length cq] T)) nm v u c x W.heap.size lo mid p cp q cq vs xs := by
  obtain ⟨vs, xs, hP, h1, h2⟩ := hC
  have hb : Below W.heap.size W (W.alloc (.cells #[.string c.name, .slice p c.chs.length cp, .slice q c.dfs.length cq] T)) := (Below.refl _ _).alloc (Nat.le_refl _) _
  exact ⟨vs, xs, hm.next hb, hl3, hlm, hmh, by simp, by simp [go_sem], by simp [go_sem], by simp [go_sem], fun o => by simp [go_sem], hP.next hb, fun b e => ⟨(hP.row.lt b e).1, h1 b e⟩, fun i hi b e => ⟨(World.ownsRow.lt (hP.ents i hi hi) b e).1, h2 i hi b e⟩, hD.next hb⟩
/-- Where there are chains, the collection stands as it will be answered. -/
theorem TakB.st {w W : World} {nm v u : Value} {c : Col} {x : Wrt} {bo lo mid g cp : Nat} {q : Option Addr} {cq : Nat} {vs : Nat → Value} {xs : List Value} (h : TakB w W nm v u c x bo lo mid (some ⟨g, 0, none⟩) cp q cq vs xs) : StI w W nm v u c x bo lo mid bo g cp q cq c.chs vs xs :=
  ⟨h.bx, h.l3, h.lm, h.mb, Nat.le_refl _, h.lt, h.o0, h.o1, h.o2, h.part, .inl (h.inV g rfl), fun i hi b e => .inl (h.inS i hi b e), h.df⟩

end Go.Proofs.YtncpijfbbgipaaaGreatDoor.Co

/- The program's take: its walk. -/
namespace Go.Proofs.YtncpijfbbgipaaaGreatDoor.Co
open Go.RowKit Tr
set_option linter.unusedVariables false

/-- What Insert leaves: the row that is longer by one, and what else stays. -/
structure InsN (w w6 : World) (nm v u : Value) (c : Col) (x : Wrt) (bo wb lo mid k : Nat) (p9 : Option Addr) (cp9 : Nat) (q9 : Option Addr) (cq9 : Nat) (e : Ending) (w7 : World) : Prop where
  out : ∃ (g cw : Nat) (vs9 : Nat → Value) (xs9 : List Value), e = .returned (.slice (some ⟨g, 0, none⟩) (c.chs.length + 1) cw) ∧ (w7.cell? ⟨bo, 1, none⟩ = some (.slice p9 c.chs.length cp9) ∧ w7.cell? ⟨wb, 1, none⟩ = some (.int .i64 x.id)) ∧ w7.frozen? ⟨bo, 1, none⟩ = false ∧ bo < w7.heap.size ∧ StT w (w7.setCell ⟨bo, 1, none⟩ (.slice (some ⟨g, 0, none⟩) (c.chs.length + 1) cw)) nm v u c x bo wb lo mid bo g cw q9 cq9 (c.chs.take k ++ ⟨x.id, []⟩ :: c.chs.drop k) vs9 xs9
theorem insCall {w w6 : World} {nm v u : Value} {c : Col} {x : Wrt} {bo wb lo mid k : Nat} {p9 : Option Addr} {cp9 : Nat} {q9 : Option Addr} {cq9 : Nat} {vs0 : Nat → Value} {xs0 : List Value} (h : TakB w w6 nm v u c x bo lo mid p9 cp9 q9 cq9 vs0 xs0) (hx : BxW w6 wb x) (hw : bo < wb) (hk : k ≤ c.chs.length) (h20 : c.chs.length ≤ 20) (V : World) (hW : Below w6.heap.size w6 V) (hlay : V.heap[w6.heap.size]? = some (.cells #[.int .i64 x.id, .slice none 0 0] 67)) :
    Calls Tryz.prog 60 #[.slice p9 c.chs.length cp9, .int .i64 (k : Nat), .slice (some ⟨w6.heap.size, 0, none⟩) 1 1] V fun e w7 => InsN w w6 nm v u c x bo wb lo mid k p9 cp9 q9 cq9 e w7 := by
  have hV := h.inV
  have hVS := h.inS
  have P6 := h.part.next hW
  have hbl := h.lt
  have hmb := h.mb
  have hlm := h.lm
  have hz := hW.size
  have hbA : Below w6.heap.size w6 V := hW
  obtain ⟨l2, hl2, hfl2⟩ := to_pairs c.chs.length xs0 P6.row.1 (P6.one rfl)
  have hxl := hx.lt
  have HINS := insC_any (.slice p9 c.chs.length cp9) l2 k ⟨.int .i64 x.id, .slice none 0 0, rfl, rfl⟩ w6.heap.size lo V (by rw [hl2, hfl2]; exact P6.row) (by rw [hl2]; exact hk) (by rw [hl2]; omega) (by omega) hlay (fun g hg e => by have := (h.part.row.lt g hg).2; omega)
  refine HINS.mono ?_
  rintro e w7 ⟨v', rfl, ho7, hg7, hat7⟩
  rw [insL_len _ _ _ (by rw [hl2]; exact hk), flat2_ins _ _ _ (by rw [hl2]; exact hk), hfl2, hl2] at ho7
  obtain ⟨g, cw, hvv, _, _, _, _⟩ := rowForm ho7 (by omega)
  subst hvv
  have Z := StT.ins (c := c) (x := x) h.bx h.l3 h.lm h.mb (Nat.le_refl bo) hbl hw hx h.o0 ⟨_, h.o1⟩ h.o2 h.part hV hVS h.df hbA hk ho7 hg7 hat7
  have hbk : w7.heap[bo]? = w6.heap[bo]? := (hg7.block bo (by omega) (fun e => by have := hV bo e.symm; omega)).trans (hbA.block bo hbl)
  have hbk2 : w7.heap[wb]? = w6.heap[wb]? := (hg7.block wb (by omega) (fun e => by have := hV wb e.symm; omega)).trans (hbA.block wb hxl)
  have hz7 := hg7.size
  have hz8 := hbA.size
  exact ⟨⟨g, cw, _, _, rfl, ⟨(World.cell?_of_block (a := ⟨bo, 1, none⟩) hbk).trans h.o1, (World.cell?_of_block (a := ⟨wb, 1, none⟩) hbk2).trans hx.c1⟩, (frozen_of_block hbk).trans (h.of 1), by omega, Z⟩⟩
theorem keepN {w w6 w0 : World} {nm v u : Value} {c : Col} {x : Wrt} {bo wb lo mid : Nat} {p9 : Option Addr} {cp9 : Nat} {q9 : Option Addr} {cq9 : Nat} {vs0 : Nat → Value} {xs0 : List Value} (h : TakB w w6 nm v u c x bo lo mid p9 cp9 q9 cq9 vs0 xs0) (hx : BxW w6 wb x) (hb : Below w6.heap.size w6 w0) :
    w0.cell? ⟨bo, 1, none⟩ = some (.slice p9 c.chs.length cp9) ∧ w0.cell? ⟨wb, 1, none⟩ = some (.int .i64 x.id) := ⟨(h.next hb).o1, (hx.next hb).c1⟩
set_option maxRecDepth 8000 in
set_option maxHeartbeats 8000000 in
theorem take_any (c : Col) (t : Int) (x : Wrt) (w W : World) (nm v u : Value) (bo lo mid : Nat) (p9 : Option Addr) (cp9 : Nat) (q9 : Option Addr) (cq9 : Nat) (vs0 : Nat → Value) (xs0 : List Value) (hTB : TakB w W nm v u c x bo lo mid p9 cp9 q9 cq9 vs0 xs0) (hri : RiseC c.chs) (hpx : ∃ k b, PlaceC c.chs x.id k b) (h20 : c.chs.length ≤ 20) (hpt : ∀ y ∈ c.chs, y.vs.length ≤ 1000) (hx : SzW x) (hnil : addC [] (verW t x) = 0) (R : Col × Int) (hR : ∀ k b, PlaceC c.chs x.id k b → R = insK c t x k b) :
    Calls Tryz.prog 31 #[.pointer (some ⟨bo, 0, none⟩), .int .i64 t, .agg #[.string x.coll, .int .i64 x.id, .bool x.gone, .int .i64 x.doc.k, .int .i64 x.doc.n, .string x.doc.t]] W fun e w' => TakA R w nm v u c x bo lo mid bo q9 cq9 e w' := by
  have HOV : Hid (∀ W : World, Calls _ _ _ W _) := fun W => ownVer_any (verW t x) W hx.d
  simp only at HOV
  have hbA : Below W.heap.size W (W.alloc (.cells #[.string x.coll, .int .i64 x.id, .bool x.gone, .int .i64 x.doc.k, .int .i64 x.doc.n, .string x.doc.t] 41)) := (Below.refl _ _).alloc (Nat.le_refl _) _
  have B1 := hTB.next hbA
  have X1 := BxW.new W x 41
  have hI5 : InCh _ _ _ := rowInCh (show OwnChH _ lo mid (.slice p9 c.chs.length cp9) c.chs from ⟨vs0, xs0, B1.part, fun b e => (B1.inV b e).2, fun i hi b e => (B1.inS i hi b e).2⟩).row
  have hbl0 := hTB.lt
  have HTB : Hid (TakB _ _ _ _ _ _ _ _ _ _ _ _ _ _ _ _) := B1
  have HX1 : Hid (BxW _ _ _) := X1
  have HW0 : Hid (∀ y ∈ c.chs, y.vs.length ≤ 1000) := hpt
  have HRI : Hid (RiseC c.chs) := hri
  have HAT : Hid (∀ k b, PlaceC c.chs x.id k b → R = insK c t x k b) := hR
  have HNIL : Hid (addC [] (verW t x) = 0) := hnil
  obtain ⟨wb, hwb⟩ : ∃ wb, wb = W.heap.size := ⟨_, rfl⟩
  obtain ⟨k, b, hpl⟩ := hpx
  have hKC : ∀ u : Under (W.alloc (.cells #[.string x.coll, .int .i64 x.id, .bool x.gone, .int .i64 x.doc.k, .int .i64 x.doc.n, .string x.doc.t] 41)), Calls Tryz.prog 59 #[.slice p9 c.chs.length cp9, .int .i64 x.id] u.x fun e w' => e = .returned (.tuple #[.int .i64 (k : Nat), .bool b]) ∧ Below u.x.heap.size u.x w' := fun u =>
    (chainPlace_any p9 cp9 c.chs x.id u.x (hI5.step u.h) hri (by omega)).mono (fun e w' h => by
      obtain ⟨⟨⟨i, b2, he, hp⟩⟩, hb⟩ := h
      refine ⟨?_, hb⟩
      rw [he, place_n _ _ _ _ hp, place_has hp, ← place_n _ _ _ _ hpl, ← place_has hpl])
  clear hTB hbA hpt hx hri hR hnil
  have o1 := B1.o1
  have q1 := X1.c1
  have hbl1 := B1.lt
  have hxl := X1.lt
  go_enter Tryz.func31, Tryz.ntmps31
  go_wp2_with fail
  have HRR0 : Hid (R = insK c t x k b) := HAT.out k b hpl
  rw [← hwb] at HX1 X1 q1 hbl0 hxl ⊢
  generalize W.alloc (.cells #[.string x.coll, .int .i64 x.id, .bool x.gone, .int .i64 x.doc.k, .int .i64 x.doc.n, .string x.doc.t] 41) = W1 at HTB HX1 hKC o1 q1 hbl1 hxl B1 X1 hI5 ⊢
  have HKC : Hid (∀ u : Under W1, Calls _ _ _ u.x _) := hKC
  have o1u : ∀ u : Under W1, u.x.cell? ⟨bo, 1, none⟩ = some (.slice p9 c.chs.length cp9) := fun u => (u.h.cell (p := ⟨bo, 1, none⟩) hbl1).trans o1
  have q1u : ∀ u : Under W1, u.x.cell? ⟨wb, 1, none⟩ = some (.int .i64 x.id) := fun u => (u.h.cell (p := ⟨wb, 1, none⟩) hxl).trans q1
  have hnu : Nonempty (Under W1) := ⟨⟨W1, Below.refl _ _⟩⟩
  clear B1 X1 hI5 hKC o1 q1 hwb
  refine wp_region_under (by kernel_rfl) (by kernel_rfl) ?_
  repeat (go_big_quiet_step ((go_at_call 59; exact calls_under _ (HKC.out _))))
  refine wpQuiet_nil ?_
  rintro _ ⟨uu, rfl⟩
  have B6 := HTB.out.next uu.h
  have X6 := HX1.out.next uu.h
  obtain ⟨w6, hw6⟩ : ∃ w6, w6 = uu.x := ⟨_, rfl⟩
  rw [← hw6] at B6 X6 ⊢
  clear hw6 uu hnu o1u q1u HKC HTB HX1 hbl1 hxl
  cases b with
  | true =>
            obtain ⟨hk9, hid, _⟩ := hpl.some
            obtain ⟨g, cw, hgv, _, _, _, _⟩ := rowForm B6.part.row (by omega)
            injection hgv with e1 e2 e3
            subst e1
            have e3' := e3.symm
            subst e3'
            have Z : StT w w6 nm v u c x bo wb lo mid bo g cw q9 cq9 c.chs vs0 xs0 := ⟨B6.st, hbl0, X6, by have := (B6.inV g rfl).2; have := B6.mb; omega, fun i hi e => by have := (B6.inS i hi wb e).2; have := B6.mb; omega⟩
            have HRO : Hid (addC c.chs[k].vs (verW t x) = 0 → R = (⟨c.name, c.chs.set k ⟨c.chs[k].id, c.chs[k].vs ++ [verW t x]⟩, c.dfs⟩, 0)) := fun h => HRR0.out.trans (insK_some hk9 h)
            have HRN : Hid (¬ addC c.chs[k].vs (verW t x) = 0 → R = (⟨c.name, c.chs, c.dfs⟩, addC c.chs[k].vs (verW t x))) := fun h => HRR0.out.trans (insK_code hk9 h)
            have HFK : Hid (c.chs[k].vs.length ≤ 1000) := HW0.out c.chs[k] (List.getElem_mem _)
            clear B6 X6 hpl hid HRR0 HAT
            obtain ⟨WZ, hWZ⟩ : ∃ WZ, WZ = w6 := ⟨_, rfl⟩
            rw [← hWZ] at Z ⊢
            clear hWZ
            have Z1 := Z.wr
            have z1 := Z.st.o1
            have y2 := Z1.c2
            have y3 := Z1.c3
            have y4 := Z1.c4
            have y5 := Z1.c5
            have hzl := Z.st.lt
            have hzm := Z1.lt
            have HZ : Hid (StT _ _ _ _ _ _ _ _ _ _ _ _ _ _ _ _ _ _ _) := Z
            have hkI : (k : Int) < ((c.chs.length : Nat) : Int) := by omega
            clear Z Z1
            try go_wp2_with fail
            go_region_held3 (fun w0 => w0.cell? ⟨bo, 1, none⟩ = some (.slice (some ⟨g, 0, none⟩) c.chs.length cw) ∧ w0.cell? ⟨wb, 2, none⟩ = some (.bool x.gone) ∧ w0.cell? ⟨wb, 3, none⟩ = some (.int .i64 x.doc.k) ∧ w0.cell? ⟨wb, 4, none⟩ = some (.int .i64 x.doc.n) ∧ w0.cell? ⟨wb, 5, none⟩ = some (.string x.doc.t)) ((first | exact hkp8 | (refine keepT HZ.out ?_; (repeat (first | (with_reducible exact Below.refl _ _) | (with_reducible assumption) | (with_reducible apply below_drewN) | (with_reducible apply Below.drew) | ((with_reducible refine Below.setCell ?_ ?_ _); rotate_left; focus (first | (simp; done) | (simp; omega) | omega)) | ((with_reducible refine Below.alloc ?_ ?_ _); rotate_left; focus (first | (simp; done) | (simp; omega) | omega))))))) (first | (go_at_call 62; refine (HOV.out _).mono ?_; rintro e w7 ⟨rfl, hb⟩; have hB7 : Below WZ.heap.size WZ w7 := (show Below WZ.heap.size WZ _ by (repeat (first | (with_reducible exact Below.refl _ _) | (with_reducible assumption) | (with_reducible apply below_drewN) | (with_reducible apply Below.drew) | ((with_reducible refine Below.setCell ?_ ?_ _); rotate_left; focus (first | (simp; done) | (simp; omega) | omega)) | ((with_reducible refine Below.alloc ?_ ?_ _); rotate_left; focus (first | (simp; done) | (simp; omega) | omega))))).trans (hb.mono (by simp)); have HZ7 : Hid (StT _ _ _ _ _ _ _ _ _ _ _ _ _ _ _ _ _ _ _) := HZ.out.next hB7; clear hb) | (go_at_call 61; refine (HZ7.out.addCall hk9 HFK.out (verW t x)).mono ?_; rintro e w8 hA8; obtain rfl := hA8.ret; have hkp8 := HZ7.out.kept8 hk9 hA8; have HA8 : Hid (AddA _ _ _ _ _ _ _ _ _) := hA8; clear hA8))
            all_goals
              by_cases hcode : addC c.chs[k].vs (verW t x) = 0
              · obtain ⟨w1', u', rfl, hg8, ho8, hat8⟩ := HA8.out.ok hcode
                have HZ8 : Hid (StT _ _ _ _ _ _ _ _ _ _ _ _ _ _ _ _ _ _ _) := HZ7.out.add hk9 hg8 ho8 hat8
                have HRR : Hid (R = _) := HRO.out hcode
                rw [hcode]
                clear hg8 ho8 hat8 HA8 HZ7 HZ hkp8
                generalize w1'.setCell ⟨g, k * 2 + 1, none⟩ u' = W8 at *
                go_wp2_with fail
                go_ret
                exact ⟨⟨_, _, _, _, _, _, rfl, HRR.out, HZ8.out.st⟩⟩
              · have HZ8 : Hid (StT _ _ _ _ _ _ _ _ _ _ _ _ _ _ _ _ _ _ _) := HZ7.out.next (HA8.out.bad hcode)
                have HRR : Hid (R = _) := HRN.out hcode
                clear HA8 HZ7 HZ hcode hkp8
                go_wp2_with fail
                go_ret
                exact ⟨⟨_, _, _, _, _, _, rfl, HRR.out, HZ8.out.st⟩⟩
  | false =>
            have hk := hpl.le
            have o1 := B6.o1
            have hbl := B6.lt
            have hxl := X6.lt
            have q1 := X6.c1
            have HB6 : Hid (TakB _ _ _ _ _ _ _ _ _ _ _ _ _ _ _ _) := B6
            have HX6 : Hid (BxW _ _ _) := X6
            have HINS : Hid (∀ V : World, Below w6.heap.size w6 V → V.heap[w6.heap.size]? = some (.cells #[.int .i64 x.id, .slice none 0 0] 67) → Calls _ _ _ V _) := fun V hV hl => insCall B6 X6 hbl0 hk h20 V hV hl
            clear B6 X6
            go_wp2_with fail
            go_region_with (go_at_call 60; refine (HINS.out _ (by (repeat (first | (with_reducible exact Below.refl _ _) | (with_reducible assumption) | (with_reducible apply below_drewN) | (with_reducible apply Below.drew) | ((with_reducible refine Below.setCell ?_ ?_ _); rotate_left; focus (first | (simp; done) | (simp; omega) | omega)) | ((with_reducible refine Below.alloc ?_ ?_ _); rotate_left; focus (first | (simp; done) | (simp; omega) | omega))))) (by exact heap_alloc_new _ _)).mono ?_; rintro e w7 ⟨⟨g, cw, vs9, xs9, rfl, hkp7, pf, hbl7, Z0⟩⟩; have HZ0 : Hid (StT _ _ _ _ _ _ _ _ _ _ _ _ _ _ _ _ _ _ _) := Z0; have p1 := hkp7.1; clear Z0)
            all_goals
              have Z := HZ0.out
              clear HZ0
              have hF0 := insF_len c.chs ⟨x.id, []⟩ k hk
              have hF1 := insF_get c.chs ⟨x.id, []⟩ k hk (by omega)
              have HRO' : Hid (∀ z, R = (⟨c.name, (c.chs.take k ++ ⟨x.id, []⟩ :: c.chs.drop k).set k z, c.dfs⟩, 0) ∨ z ≠ ⟨x.id, [verW t x]⟩) := fun z => by
                by_cases hz : z = ⟨x.id, [verW t x]⟩
                · left; rw [hz, insF_set _ _ _ _ hk, HRR0.out, insK_new]
                · exact .inr hz
              obtain ⟨F, hF⟩ : ∃ F : List Chn, F = c.chs.take k ++ ⟨x.id, []⟩ :: c.chs.drop k := ⟨_, rfl⟩
              rw [← hF] at Z hF0 HRO'
              simp only [← hF] at hF1
              have hk9 : k < F.length := by omega
              have HFK : Hid (F[k].vs.length ≤ 1000) := by show F[k].vs.length ≤ 1000; rw [hF1]; simp
              have HRO : Hid (addC F[k].vs (verW t x) = 0 → R = (⟨c.name, F.set k ⟨F[k].id, F[k].vs ++ [verW t x]⟩, c.dfs⟩, 0)) := fun _ => by
                rcases HRO'.out ⟨F[k].id, F[k].vs ++ [verW t x]⟩ with h | h
                · exact h
                · exact absurd (by rw [hF1]; rfl) h
              have HRN : Hid (¬ addC F[k].vs (verW t x) = 0 → R = (⟨c.name, F, c.dfs⟩, addC F[k].vs (verW t x))) := fun h => absurd (by rw [hF1]; exact HNIL.out) h
              clear HB6 HX6 HRO' hF hF1 hpl HRR0 HAT HINS hk q1 o1
              obtain ⟨WZ, hWZ⟩ : ∃ WZ, WZ = w7.setCell ⟨bo, 1, none⟩ (.slice (some ⟨g, 0, none⟩) (c.chs.length + 1) cw) := ⟨_, rfl⟩
              rw [← hWZ] at Z ⊢
              clear hWZ p1 pf hkp7
              have Z1 := Z.wr
              have z1 := Z.st.o1
              have y2 := Z1.c2
              have y3 := Z1.c3
              have y4 := Z1.c4
              have y5 := Z1.c5
              have hzl := Z.st.lt
              have hzm := Z1.lt
              have HZ : Hid (StT _ _ _ _ _ _ _ _ _ _ _ _ _ _ _ _ _ _ _) := Z
              have hkI : (k : Int) < ((F.length : Nat) : Int) := by omega
              clear Z Z1 hF0
              try go_wp2_with fail
              go_region_held3 (fun w0 => w0.cell? ⟨bo, 1, none⟩ = some (.slice (some ⟨g, 0, none⟩) F.length cw) ∧ w0.cell? ⟨wb, 2, none⟩ = some (.bool x.gone) ∧ w0.cell? ⟨wb, 3, none⟩ = some (.int .i64 x.doc.k) ∧ w0.cell? ⟨wb, 4, none⟩ = some (.int .i64 x.doc.n) ∧ w0.cell? ⟨wb, 5, none⟩ = some (.string x.doc.t)) ((first | exact hkp8 | (refine keepT HZ.out ?_; (repeat (first | (with_reducible exact Below.refl _ _) | (with_reducible assumption) | (with_reducible apply below_drewN) | (with_reducible apply Below.drew) | ((with_reducible refine Below.setCell ?_ ?_ _); rotate_left; focus (first | (simp; done) | (simp; omega) | omega)) | ((with_reducible refine Below.alloc ?_ ?_ _); rotate_left; focus (first | (simp; done) | (simp; omega) | omega))))))) (first | (go_at_call 62; refine (HOV.out _).mono ?_; rintro e w7 ⟨rfl, hb⟩; have hB7 : Below WZ.heap.size WZ w7 := (show Below WZ.heap.size WZ _ by (repeat (first | (with_reducible exact Below.refl _ _) | (with_reducible assumption) | (with_reducible apply below_drewN) | (with_reducible apply Below.drew) | ((with_reducible refine Below.setCell ?_ ?_ _); rotate_left; focus (first | (simp; done) | (simp; omega) | omega)) | ((with_reducible refine Below.alloc ?_ ?_ _); rotate_left; focus (first | (simp; done) | (simp; omega) | omega))))).trans (hb.mono (by simp)); have HZ7 : Hid (StT _ _ _ _ _ _ _ _ _ _ _ _ _ _ _ _ _ _ _) := HZ.out.next hB7; clear hb) | (go_at_call 61; refine (HZ7.out.addCall hk9 HFK.out (verW t x)).mono ?_; rintro e w8 hA8; obtain rfl := hA8.ret; have hkp8 := HZ7.out.kept8 hk9 hA8; have HA8 : Hid (AddA _ _ _ _ _ _ _ _ _) := hA8; clear hA8))
              all_goals
                by_cases hcode : addC F[k].vs (verW t x) = 0
                · obtain ⟨w1', u', rfl, hg8, ho8, hat8⟩ := HA8.out.ok hcode
                  have HZ8 : Hid (StT _ _ _ _ _ _ _ _ _ _ _ _ _ _ _ _ _ _ _) := HZ7.out.add hk9 hg8 ho8 hat8
                  have HRR : Hid (R = _) := HRO.out hcode
                  rw [hcode]
                  clear hg8 ho8 hat8 HA8 HZ7 HZ hkp8
                  generalize w1'.setCell ⟨g, k * 2 + 1, none⟩ u' = W8 at *
                  go_wp2_with fail
                  go_ret
                  exact ⟨⟨_, _, _, _, _, _, rfl, HRR.out, HZ8.out.st⟩⟩
                · have HZ8 : Hid (StT _ _ _ _ _ _ _ _ _ _ _ _ _ _ _ _ _ _ _) := HZ7.out.next (HA8.out.bad hcode)
                  have HRR : Hid (R = _) := HRN.out hcode
                  clear HA8 HZ7 HZ hcode hkp8
                  go_wp2_with fail
                  go_ret
                  exact ⟨⟨_, _, _, _, _, _, rfl, HRR.out, HZ8.out.st⟩⟩

end Go.Proofs.YtncpijfbbgipaaaGreatDoor.Co

/- A region of open order whose last operation waits for all others: the others alone are walked, and the last behind them. -/
namespace Go.Proofs.YtncpijfbbgipaaaGreatDoor.Co
open Go.RowKit Tr
set_option linter.unusedVariables false

section
variable {P : Program} {md : Region.Mode} {Q : Exit → Act → World → Prop}
/-- The post of the others: behind them the last operation is run. -/
def LastQ (P : Program) (ops : Array Oper) (Q : Exit → Act → World → Prop) (n : Nat) : Exit → Act → World → Prop
  | .normal, a, w => wpOp P ops Q n (Q .normal) a w
  | e, a, w => Q e a w
/-- No operation has a guard, each waits for earlier ones alone, and the last waits for all. -/
def lastB (md : Region.Mode) (ops : Array Oper) (n : Nat) : Bool :=
  (List.range ops.size).all (fun j => match ops[j]? with
    | some o => o.guard.isNone && o.after.all (fun e => decide (e.on < j))
    | none => true) && Region.sinkB md ops n && Region.chainB md ops n
theorem lastB_at {ops : Array Oper} {n j : Nat} {o : Oper} (h : lastB md ops n = true) (hj : ops[j]? = some o) : o.guard = none ∧ ∀ e ∈ o.after, e.on < j := by
  simp only [lastB, Bool.and_eq_true] at h
  have h1 := List.all_eq_true.1 h.1.1 j (List.mem_range.2 (Array.getElem?_eq_some_iff.1 hj).1)
  simp only [hj, Bool.and_eq_true, Array.all_eq_true_iff_forall_mem, decide_eq_true_eq] at h1
  exact ⟨Option.isNone_iff_eq_none.1 h1.1, h1.2⟩
theorem wp_last {ops : Array Oper} {n : Nat} {o : Oper} {a : Act} {w : World} {K : Act → World → Prop} (h : o.wp P a w K (LastQ P ops Q n)) : o.wp P a w K Q := by
  unfold Oper.wp at *
  generalize (execOp a.eval o).run P w = r at *
  cases r with
  | ok x w' =>
    cases x <;> simp only [Oper.upon] at h ⊢ <;>
      first
        | exact h
        | exact Calls.mono h (fun e w'' he => by cases e <;> exact he)
  | halt x w' => cases x <;> simp only [Oper.upon] at h ⊢ <;> exact h
theorem wanted_none {o : Oper} (h : o.guard = none) (y : Nat → Option Bool) : Region.wanted o y = true := by
  unfold Region.wanted; rw [h]
theorem push_getD {listed : Array Bool} {j : Nat} : (listed.push false).getD j false = listed.getD j false := by
  rcases Nat.lt_trichotomy j listed.size with h | h | h
  · simp [Array.getElem?_push, h, Nat.ne_of_lt h]
  · subst h; simp
  · simp [Array.getElem?_push, Nat.ne_of_gt h, Array.getElem?_eq_none (Nat.le_of_lt h)]
theorem push_getD_lt {listed : Array Bool} {j : Nat} (h : j < listed.size) : (listed.push false).getD j true = listed.getD j true := by
  simp [Array.getElem?_push, h, Nat.ne_of_lt h]
theorem wpAny_last {pre ops : Array Oper} {o : Oper} {n : Nat} (hops : ops = pre.push o) (hn : pre.size = n) (hB : lastB md ops n = true) :
    ∀ (fuel : Nat) (listed : Array Bool) (a : Act) (w : World), listed.size = n → HeadInv md ops n (listed.push false) →
      wpAny P md pre (LastQ P ops Q n) fuel listed a w → wpAny P md ops Q (fuel + 1) (listed.push false) a w := by
  have hsz : ops.size = n + 1 := by rw [hops]; simp [hn]
  have hlt : ∀ j, j < n → ops[j]? = pre[j]? := fun j hj => by
    rw [hops, Array.getElem?_push, if_neg (by omega)]
  have hno : ops[n]? = some o := by rw [hops, Array.getElem?_push, if_pos hn.symm]
  have hsc : Region.sinkB md ops n = true ∧ Region.chainB md ops n = true := by
    simp only [lastB, Bool.and_eq_true] at hB; exact ⟨hB.1.2, hB.2⟩
  have hrd : ∀ (listed : Array Bool) (j : Nat), listed.size = n → j < n → (j ∈ Region.ready md ops (listed.push false) ↔ j ∈ Region.ready md pre listed) := fun listed j hl hj => by
    rw [mem_ready, mem_ready, push_getD_lt (by omega), hlt j hj]
    simp only [push_getD]
  have hdone : ∀ (listed : Array Bool), listed.size = n → Region.ready md pre listed = [] → ∀ j, j < n → listed.getD j false = true := fun listed hl he j => by
    induction j using Nat.strongRecOn with
    | _ j ih =>
      intro hj
      cases hg : listed.getD j false with
      | true => rfl
      | false =>
        exfalso
        have hp : j < pre.size := by omega
        have hoj : pre[j]? = some pre[j] := Array.getElem?_eq_getElem hp
        have : j ∈ Region.ready md pre listed := mem_ready.2 ⟨getD_in (by omega) hg, pre[j], hoj, fun e he _ => by
          have hlt' := (lastB_at hB ((hlt j hj).trans hoj)).2 e he
          exact ih e.on hlt' (by omega)⟩
        rw [he] at this; cases this
  have hcase : ∀ (fuel : Nat) (listed : Array Bool) (a : Act) (w : World), listed.size = n → Region.ready md pre listed = [] → LastQ P ops Q n .normal a w →
      wpAny P md ops Q (fuel + 1) (listed.push false) a w := fun fuel listed a w hl he hq => by
    have hall := hdone listed hl he
    have hnr : n ∈ Region.ready md ops (listed.push false) := mem_ready.2 ⟨by subst hl; simp, o, hno, fun e hm _ => by
      rw [push_getD]; exact hall _ ((lastB_at hB hno).2 e hm)⟩
    refine ⟨fun h => (by rw [h] at hnr; cases hnr), fun i hi => ?_⟩
    have hin : i = n := by
      obtain ⟨hu, oi, hoi, _⟩ := mem_ready.1 hi
      have := (Array.getElem?_eq_some_iff.1 hoi).1
      rcases Nat.lt_or_ge i n with h | h
      · rw [hrd listed i hl h, he] at hi; cases hi
      · omega
    subst hin
    refine wpOp_mono (fun a' w' h => wpAny_done ?_ h _) hq
    refine List.eq_nil_iff_forall_not_mem.2 fun j hj => ?_
    obtain ⟨hu, oj, hoj, _⟩ := mem_ready.1 hj
    have hjs := (Array.getElem?_eq_some_iff.1 hoj).1
    by_cases hji : i = j
    · subst hji
      simp [hl] at hu
    · rw [getD_set_ne true hji] at hu
      have h1 := hall j (by omega)
      rw [push_getD_lt (by omega)] at hu
      rw [getD_both hu] at h1; cases h1
  intro fuel
  induction fuel with
  | zero => intro listed a w hl _ h; exact hcase 0 listed a w hl h.1 h.2
  | succ fuel ih =>
    intro listed a w hl inv h
    by_cases he : Region.ready md pre listed = []
    · exact hcase _ listed a w hl he (h.1 he)
    · obtain ⟨j, hj⟩ := List.exists_mem_of_ne_nil _ he
      obtain ⟨hju, oj, hoj, _⟩ := mem_ready.1 hj
      have hjn : j < n := by have := (Array.getElem?_eq_some_iff.1 hoj).1; omega
      refine ⟨fun h0 => (by have := (hrd listed j hl hjn).2 hj; rw [h0] at this; cases this), fun i hi => ?_⟩
      have hin : i < n := by
        rcases Nat.lt_or_ge i n with h' | h'
        · exact h'
        · exact absurd hi (tail_waits hsc.1 hsc.2 (by omega) inv _ j rfl hjn (by rw [push_getD_lt (by omega)]; exact hju) i h')
      have h1 := h.2 i ((hrd listed i hl hin).1 hi)
      have inv' := inv.set hi hin
      have hset : (listed.push false).setIfInBounds i true = (listed.setIfInBounds i true).push false := by
        apply Array.ext_getElem?
        intro q
        simp only [Array.getElem?_setIfInBounds, Array.getElem?_push, Array.size_setIfInBounds, Array.size_push]
        by_cases hq : i = q
        · subst hq; simp [hl, hin, Nat.ne_of_lt hin]; omega
        · simp [hq]
      rw [hset] at inv' ⊢
      obtain ⟨oi, hoi⟩ : ∃ oi, pre[i]? = some oi := ⟨_, Array.getElem?_eq_getElem (by omega)⟩
      have hgu := (lastB_at hB ((hlt i hin).trans hoi)).1
      refine wpOp_mono (fun a' w' h' => ih (listed.setIfInBounds i true) a' w' (by simp [hl]) inv' h') ?_
      unfold wpOp at h1 ⊢
      rw [hlt i hin, hoi]
      simp only [hoi, wanted_none hgu, if_true] at h1 ⊢
      rcases h1 with h1 | ⟨hk, x, y, ho⟩
      · exact .inl (wp_last h1)
      · exact .inr ⟨hk, x, y, ho⟩
/-- The beginning. -/
theorem wp_region_last {id : Nat} {l : List Oper} {o : Oper} {a : Act} {w : World} {S : World → Prop} (hm : P.follows .mixedOrders = true) (hB : lastB .any (l ++ [o]).toArray l.length = true) (hS : S w.drew)
    (h : S w.drew → wpAnyH P .any l.toArray (LastQ P (l ++ [o]).toArray Q l.length) S l.length (Array.replicate l.length false) a w.drew) : (Code.region id (l ++ [o]).toArray true).wp P Q a w := by
  refine wp_region_any hm ?_
  have h1 := wpAny_last (P := P) (Q := Q) (pre := l.toArray) (ops := (l ++ [o]).toArray) (o := o) (by simp) (by simp) hB l.length (Array.replicate l.length false) a w.drew (by simp)
    ⟨by simp, fun j oj _ hl => (by rw [push_getD, getD_replicate_false] at hl; cases hl), fun t _ ht => getD_in (by simpa using ht) (by rw [push_getD]; exact getD_replicate_false _ _)⟩ (wpAny_of_held _ _ _ _ (h hS))
  have e : (Array.replicate l.length false).push false = Array.replicate (l ++ [o]).toArray.size false := by
    simp [Array.replicate_succ]
  rw [e] at h1
  have e2 : (l ++ [o]).toArray.size = l.length + 1 := by simp
  rw [e2] at h1 ⊢
  exact h1
theorem take_split {ls : List Oper} {n : Nat} {o : Oper} (h : ls.length = n + 1) (ho : ls[n]? = some o) : ls = ls.take n ++ [o] := by
  have h1 : n < ls.length := by omega
  rw [List.getElem?_eq_getElem h1] at ho
  have e := List.take_append_drop n ls
  rw [List.drop_eq_getElem_cons h1, List.drop_eq_nil_of_le (by omega), Option.some.inj ho] at e
  exact e.symm
/-- The beginning, of a region that is written out. -/
theorem wp_region_last2 {id : Nat} {ls : List Oper} {a : Act} {w : World} {S : World → Prop} (n : Nat) (hm : P.follows .mixedOrders = true) (hn : ls.length = n + 1) (hB : lastB .any ls.toArray n = true) (hS : S w.drew)
    (h : S w.drew → wpAnyH P .any (ls.take n).toArray (LastQ P ls.toArray Q n) S n (Array.replicate n false) a w.drew) : (Code.region id ls.toArray true).wp P Q a w := by
  have h1 : n < ls.length := by omega
  have e := take_split hn (List.getElem?_eq_getElem h1)
  have hl : (ls.take n).length = n := by rw [List.length_take]; omega
  have k := wp_region_last (P := P) (Q := Q) (id := id) (l := ls.take n) (o := ls[n]) (a := a) (w := w) (S := S) hm (by rw [hl, ← e]; exact hB) hS (by rw [hl, ← e]; exact h)
  rw [← e] at k
  exact k
/-- Operation number i of a list. -/
def OpAt : List Oper → Nat → Oper → Prop
  | [], _, _ => False
  | x :: _, 0, o => x = o
  | _ :: l, n + 1, o => OpAt l n o
theorem OpAt.zero {o : Oper} {l : List Oper} : OpAt (o :: l) 0 o := rfl
theorem OpAt.succ {o x : Oper} {l : List Oper} {n : Nat} (h : OpAt l n o) : OpAt (x :: l) (n + 1) o := h
theorem OpAt.get : ∀ {l : List Oper} {i : Nat} {o : Oper}, OpAt l i o → l.toArray[i]? = some o
  | [], _, _, h => h.elim
  | x :: l, 0, o, h => by rw [List.getElem?_toArray, List.getElem?_cons_zero]; exact congrArg some h
  | x :: l, n + 1, o, h => by
    have k := OpAt.get (l := l) (i := n) (o := o) h
    rw [List.getElem?_toArray] at k ⊢
    rw [List.getElem?_cons_succ]; exact k
theorem take_at {ls : List Oper} {S : World → Prop} {i : Nat} {oi : Oper} {v : Value} {fuel : Nat} {listed : Array Bool} {a : Act} {w : World} (hi : OpAt ls i oi)
    (hs : Region.noSelect ls.toArray = true) (hf : Region.free md ls.toArray listed i = true) (hr : (Region.ready md ls.toArray listed).contains i = true)
    (hQ : ∀ c a w, Q (.panic c) (a.put oi.dst v) w → Q (.panic c) a w) (hy : YieldsIf P ls.toArray S oi v a) (hS : S w)
    (h : wpAnyH P md ls.toArray Q S fuel (listed.setIfInBounds i true) (a.put oi.dst v) w) : wpAnyH P md ls.toArray Q S (fuel + 1) listed a w :=
  wpAnyH_take hi.get hs hf hr hQ hy hS h
theorem cons_at {ls : List Oper} {S : World → Prop} {fuel : Nat} {listed : Array Bool} {a : Act} {w : World} {i : Nat} {o : Oper} {rs : List Nat} (ho : OpAt ls i o)
    (h : ∀ K' : Act → World → Prop, Shut (∀ a w, S w → (S w → wpAnyH P md ls.toArray Q S fuel (listed.setIfInBounds i true) a w) → K' a w) → if Region.wanted o (yielded ls.toArray a.tmps) = true then Oper.wp P o a w K' Q else K' (a.put o.dst undef) w)
    (hs : AllReadyH P md ls.toArray Q S fuel listed a w rs) : AllReadyH P md ls.toArray Q S fuel listed a w (i :: rs) := AllReadyH.cons ho.get h hs
theorem last_at {ls : List Oper} {n : Nat} {o : Oper} {a : Act} {w : World} (ho : OpAt ls n o)
    (h : ∀ K' : Act → World → Prop, Shut (∀ a w, Q .normal a w → K' a w) → if Region.wanted o (yielded ls.toArray a.tmps) = true then Oper.wp P o a w K' Q else K' (a.put o.dst undef) w) : LastQ P ls.toArray Q n .normal a w :=
  wpOp_step ho.get h
end
end Go.Proofs.YtncpijfbbgipaaaGreatDoor.Co

/- The specification's Install: places, and rows of chains that it puts together. -/
namespace Go.Proofs.YtncpijfbbgipaaaGreatDoor.Co
open Go.RowKit Tr
set_option linter.unusedVariables false

theorem place_ex : ∀ (l : List Chn) (last : Int), chsB last l = true → ∀ id, ∃ k b, PlaceC l id k b
  | [], _, _, id => ⟨0, false, Nat.le_refl _, fun q h => absurd h (by simp), fun q h => absurd h (by simp), ⟨fun h => (by cases h), fun h => absurd h.1 (by simp)⟩⟩
  | y :: r, last, h, id => by
    have h' := h
    rw [chsB] at h
    simp only [Bool.and_eq_true, decide_eq_true_eq] at h
    obtain ⟨a1, a2, a3, a4⟩ := h
    have hf := chsB_first r y.id a4
    by_cases hy : y.id < id
    · obtain ⟨k, b, hp⟩ := place_ex r y.id a4 id
      refine ⟨k + 1, b, by have := hp.le; simp; omega, ?_, ?_, ?_⟩
      · intro q hq hlt
        cases q with
        | zero => exact hy
        | succ q => exact hp.lo q (by simpa using hq) (by omega)
      · intro q hq hge
        cases q with
        | zero => omega
        | succ q => exact hp.hi q (by simpa using hq) (by omega)
      · rw [hp.at_]
        constructor
        · rintro ⟨h1, h2⟩; exact ⟨by simp; omega, by simpa using h2⟩
        · rintro ⟨h1, h2⟩; exact ⟨by simpa using h1, by simpa using h2⟩
    · refine ⟨0, decide (y.id = id), Nat.zero_le _, fun q _ hlt => by omega, ?_, ?_⟩
      · intro q hq _
        cases q with
        | zero => show id ≤ y.id; omega
        | succ q =>
          have hq' : q < r.length := by simpa using hq
          have := hf r[q] (List.getElem_mem hq')
          show id ≤ r[q].id
          omega
      · rw [decide_eq_true_eq]
        constructor
        · intro e; exact ⟨by simp, e⟩
        · rintro ⟨_, e⟩; exact e
theorem lastS_at {c : Col} {id : Int} {k : Nat} (hB : ∀ x ∈ c.chs, topB x.id = true ∧ 1 ≤ x.vs.length ∧ x.vs.length ≤ 12 ∧ versB x.id 0 x.vs = true) (hp : PlaceC c.chs id k true) : ∃ hk : k < c.chs.length, c.chs[k].id = id ∧ (lastS c.chs id).tm = newT c.chs[k].vs := by
  obtain ⟨hk, e, hf⟩ := hp.some
  refine ⟨hk, e, ?_⟩
  unfold lastS newT
  rw [hf]
  show (atS 10000 zG c.chs[k].vs).tm = _
  rw [atS_trk c.chs[k].id 10000 c.chs[k].vs 0 zG (hB _ (List.getElem_mem _)).2.2.2]; rfl
theorem lastS_none {c : Col} {id : Int} {k : Nat} (hr : RiseC c.chs) (hp : PlaceC c.chs id k false) : (lastS c.chs id).tm = 0 := by
  unfold lastS
  rw [hp.none hr]; rfl
/-- The cells of a row of chains. -/
structure RawC (w : World) (g : Nat) (l : List Chn) (xs : List Value) : Prop where
  lt : g < w.heap.size
  len : xs.length = l.length * 2
  one : ∀ u ∈ xs, u.oneCell' = true
  cells : ∀ j u, xs[j]? = some u → w.cell? ⟨g, j, none⟩ = some u
  at_ : ∀ i (h : i < l.length), xs[i * 2]? = some (.int .i64 l[i].id) ∧ ∃ p cap, xs[i * 2 + 1]? = some (.slice p l[i].vs.length cap) ∧ InVr w p l[i].vs
theorem RawC.next {w w' : World} {g : Nat} {l : List Chn} {xs : List Value} (h : RawC w g l xs) (hb : Below w.heap.size w w') : RawC w' g l xs :=
  ⟨Nat.lt_of_lt_of_le h.lt hb.size, h.len, h.one, fun j u hj => (hb.cell h.lt).trans (h.cells j u hj), fun i hi => by
    obtain ⟨h0, p, cap, h1, h2⟩ := h.at_ i hi
    exact ⟨h0, p, cap, h1, h2.step hb⟩⟩
theorem rawC_of {w : World} {g : Nat} {l : List Chn} (h : ReadCc w g l) : ∃ xs, RawC w g l xs := by
  have hget : ∀ j, j < l.length * 2 → ((List.range (l.length * 2)).map (fun j => (w.cell? ⟨g, j, none⟩).getD (.int .i64 0)))[j]? = some ((w.cell? ⟨g, j, none⟩).getD (.int .i64 0)) := fun j hj => by
    rw [List.getElem?_map, List.getElem?_range hj]; rfl
  have hc : ∀ j, j < l.length * 2 → ∃ u, w.cell? ⟨g, j, none⟩ = some u ∧ u.oneCell' = true := fun j hj => by
    obtain ⟨x0, p, cv, x1, _, _⟩ := h.cells (j / 2) (by omega)
    rcases Nat.mod_two_eq_zero_or_one j with e | e
    · rw [show j / 2 * 2 = j by omega] at x0; exact ⟨_, x0, rfl⟩
    · rw [show j / 2 * 2 + 1 = j by omega] at x1; exact ⟨_, x1, rfl⟩
  refine ⟨(List.range (l.length * 2)).map (fun j => (w.cell? ⟨g, j, none⟩).getD (.int .i64 0)), h.lt, by simp, ?_, ?_, ?_⟩
  · intro u hu
    obtain ⟨j, hj, e⟩ := List.mem_map.1 hu
    obtain ⟨u', e1, e2⟩ := hc j (List.mem_range.1 hj)
    rw [← e, e1]; exact e2
  · intro j u hj
    have hjl : j < l.length * 2 := by have := (List.getElem?_eq_some_iff.1 hj).1; simpa using this
    rw [hget j hjl] at hj
    obtain ⟨u', e1, e2⟩ := hc j hjl
    rw [e1] at hj ⊢
    exact hj
  · intro i hi
    obtain ⟨x0, p, cv, x1, _, hT⟩ := h.cells i hi
    rw [hget _ (by omega), hget _ (by omega), x0, x1]
    exact ⟨rfl, p, cv, rfl, hT⟩
theorem insF_lt (l : List Chn) (y : Chn) (k i : Nat) (hk : k ≤ l.length) (h1 : i < k) (hi : i < (l.take k ++ y :: l.drop k).length) : ∃ h2 : i < l.length, (l.take k ++ y :: l.drop k)[i] = l[i] := by
  have hl : (l.take k).length = k := by rw [List.length_take]; omega
  refine ⟨by omega, ?_⟩
  rw [List.getElem_append_left (by omega)]
  simp
theorem insF_gt (l : List Chn) (y : Chn) (k i : Nat) (hk : k ≤ l.length) (h1 : ¬ i < k) (h2 : ¬ i = k) (hi : i < (l.take k ++ y :: l.drop k).length) : ∃ h2 : i - 1 < l.length, (l.take k ++ y :: l.drop k)[i] = l[i - 1] := by
  have hl : (l.take k).length = k := by rw [List.length_take]; omega
  have hn : (l.take k ++ y :: l.drop k).length = l.length + 1 := by rw [List.length_append, hl, List.length_cons, List.length_drop]; omega
  refine ⟨by omega, ?_⟩
  have e : (l.take k ++ y :: l.drop k)[i]? = l[i - 1]? := by
    rw [List.getElem?_append_right (by omega), hl, show i - k = (i - k - 1) + 1 by omega, List.getElem?_cons_succ, List.getElem?_drop]
    congr 1; omega
  rw [List.getElem?_eq_getElem hi, List.getElem?_eq_getElem (by omega)] at e
  exact Option.some.inj e
theorem insF_eq (l : List Chn) (y : Chn) (k : Nat) (hk : k ≤ l.length) (h : k < (l.take k ++ y :: l.drop k).length) : (l.take k ++ y :: l.drop k)[k] = y := by
  have hl : (l.take k).length = k := by rw [List.length_take]; omega
  rw [List.getElem_append_right (by omega)]
  simp [hl]
/-- A row that was put together: what stood ahead, the new chain, what stood behind. -/
theorem rowCh_ins {w : World} {base g c : Nat} {l : List Chn} {xs : List Value} {k : Nat} {id : Int} {vs1 : List Ver} {p1 : Option Addr} {c1 : Nat} (hk : k ≤ l.length) (hl : xs.length = l.length * 2)
    (hown : w.ownsRow base 67 2 (.slice (some ⟨g, 0, none⟩) (l.length + 1) c) (l.length + 1) (xs.take (k * 2) ++ [.int .i64 id, .slice p1 vs1.length c1] ++ xs.drop (k * 2)))
    (hx : ∀ i (h : i < l.length), xs[i * 2]? = some (.int .i64 l[i].id) ∧ ∃ p cap, xs[i * 2 + 1]? = some (.slice p l[i].vs.length cap) ∧ InVr w p l[i].vs) (hu : InVr w p1 vs1) : RowCh w (some ⟨g, 0, none⟩) (l.take k ++ ⟨id, vs1⟩ :: l.drop k) := by
  have htl : (xs.take (k * 2)).length = k * 2 := by rw [List.length_take]; omega
  have hn : (l.take k ++ (⟨id, vs1⟩ : Chn) :: l.drop k).length = l.length + 1 := by rw [List.length_append, List.length_take, List.length_cons, List.length_drop]; omega
  have hll : (xs.take (k * 2) ++ [Value.int .i64 id, Value.slice p1 vs1.length c1]).length = k * 2 + 2 := by rw [List.length_append, htl]; rfl
  refine .inr ⟨g, rfl, (hown.lt g rfl).2, fun i hi => ?_⟩
  by_cases h1 : i < k
  · obtain ⟨h2, e⟩ := insF_lt l ⟨id, vs1⟩ k i hk h1 hi
    obtain ⟨a0, p, cap, a1, a2⟩ := hx i h2
    rw [e]
    refine ⟨owns_cell hown _ _ ?_, p, cap, owns_cell hown _ _ ?_, a2⟩
    · rw [List.append_assoc, List.getElem?_append_left (by omega), List.getElem?_take, if_pos (by omega)]; exact a0
    · rw [List.append_assoc, List.getElem?_append_left (by omega), List.getElem?_take, if_pos (by omega)]; exact a1
  · by_cases h2 : i = k
    · subst h2
      rw [insF_eq l ⟨id, vs1⟩ i hk hi]
      refine ⟨owns_cell hown _ _ ?_, p1, c1, owns_cell hown _ _ ?_, hu⟩
      · rw [List.append_assoc, List.getElem?_append_right (by omega), htl, Nat.sub_self]; rfl
      · rw [List.append_assoc, List.getElem?_append_right (by omega), htl, show i * 2 + 1 - i * 2 = 1 by omega]; rfl
    · obtain ⟨h3, e⟩ := insF_gt l ⟨id, vs1⟩ k i hk h1 h2 hi
      obtain ⟨a0, p, cap, a1, a2⟩ := hx (i - 1) h3
      rw [e]
      refine ⟨owns_cell hown _ _ ?_, p, cap, owns_cell hown _ _ ?_, a2⟩
      · rw [List.getElem?_append_right (by omega), hll, List.getElem?_drop, show k * 2 + (i * 2 - (k * 2 + 2)) = (i - 1) * 2 by omega]; exact a0
      · rw [List.getElem?_append_right (by omega), hll, List.getElem?_drop, show k * 2 + (i * 2 + 1 - (k * 2 + 2)) = (i - 1) * 2 + 1 by omega]; exact a1
theorem cutHeadC (b off n ca q : Nat) (h : q ≤ ca) (W : World) : (Instr.slice 32 (.slice (some ⟨b, off, none⟩) n ca) none (some (.int .i64 q)) none).run Tryz.prog W = .ok (.slice (some ⟨b, off, none⟩) q ca) W := by
  have he : Tryz.prog.elem 32 = 67 := by kernel_rfl
  refine (run_slice_h (P := Tryz.prog) (w := W) 32 (some ⟨b, off, none⟩) n ca (by kernel_rfl) .i64 q (by omega) (by omega)).trans ?_
  rw [he, Tryz.sizeOf67]
  simp [sliced, Result.andThen, Addr.add]
theorem cutTailC (b off n ca q : Nat) (h : q ≤ n) (W : World) : (Instr.slice 32 (.slice (some ⟨b, off, none⟩) n ca) (some (.int .i64 q)) none none).run Tryz.prog W = .ok (.slice (some ⟨b, if ca = q then off else off + q * 2, none⟩) (n - q) (ca - q)) W := by
  have he : Tryz.prog.elem 32 = 67 := by kernel_rfl
  refine (run_slice_l (P := Tryz.prog) (w := W) 32 (some ⟨b, off, none⟩) n ca (by kernel_rfl) .i64 q (by omega) (by omega)).trans ?_
  rw [he, Tryz.sizeOf67]
  simp only [sliced, Result.andThen, Int.toNat_natCast]
  split <;> simp [Addr.add]
/-- What the specification's inner Install answers. -/
structure InsA (R : Col × Int) (w : World) (e : Ending) (w' : World) : Prop where
  bel : Below w.heap.size w w'
  own : ∃ p q cp cq, e = .returned (.tuple #[.agg #[.string R.1.name, .slice p R.1.chs.length cp, .slice q R.1.dfs.length cq], .int .i64 R.2]) ∧ RowCh w' p R.1.chs ∧ RowDf w' q R.1.dfs

end Go.Proofs.YtncpijfbbgipaaaGreatDoor.Co

/- The program's Install: its walk. -/
namespace Go.Proofs.YtncpijfbbgipaaaGreatDoor.Co
open Go.RowKit Tr
set_option linter.unusedVariables false

set_option maxRecDepth 8000 in
set_option maxHeartbeats 8000000 in
theorem install_any (c : Col) (t : Int) (x : Wrt) (g1 g2 : Nat) (cp cq : Nat) (w : World) (hr : RdC w g1 g2 c) (hs : SzCol c) (hx : SzW x) :
    Calls Tryz.prog 10 #[.agg #[.string c.name, .slice (some ⟨g1, 0, none⟩) c.chs.length cp, .slice (some ⟨g2, 0, none⟩) c.dfs.length cq], .int .i64 t, .agg #[.string x.coll, .int .i64 x.id, .bool x.gone, .int .i64 x.doc.k, .int .i64 x.doc.n, .string x.doc.t]] w fun e w' => AnsS (insR c t x) w e w' := by
  have M0 := MkI.start w (.string c.name) (.slice (some ⟨g1, 0, none⟩) c.chs.length cp) (.slice (some ⟨g2, 0, none⟩) c.dfs.length cq) (.string em) (.slice none 0 0) (.slice none 0 0) x 35 41 35
  have HC : Hid (∀ W : World, RdC W g1 g2 c → Calls _ _ _ W _) := fun W hW => collOK_any c (some ⟨g1, 0, none⟩) (some ⟨g2, 0, none⟩) cp cq W hW.ch.inCh hW.df hs
  have HW : Hid (∀ W : World, Calls _ _ _ W _) := fun W => writeOK_any x W hx
  have HT : Hid (∀ W : World, Calls _ _ _ W _) := fun W => timeOK_any t W
  have HR : Hid (RdC _ _ _ _) := hr
  have HSZ : Hid (SzCol c) := hs
  have HSX : Hid (SzW x) := hx
  clear hr hs hx
  have d0 := M0.c0
  have d1 := M0.c1
  have d2 := M0.c2
  cases hB : collB c
  · have HV : Hid (insR c t x = (zCol, 1)) := insR_bad (fun h => by rw [hB] at h; simp at h)
    rw [hB] at HC
    clear hB HW HT
    go_enter Tryz.func10, Tryz.ntmps10
    go_wp2_with fail
    generalize ((w.alloc (.cells #[.string c.name, .slice (some ⟨g1, 0, none⟩) c.chs.length cp, .slice (some ⟨g2, 0, none⟩) c.dfs.length cq] 35)).alloc (.cells #[.string x.coll, .int .i64 x.id, .bool x.gone, .int .i64 x.doc.k, .int .i64 x.doc.n, .string x.doc.t] 41)).alloc (.cells #[.string em, .slice none 0 0, .slice none 0 0] 35) = W0 at M0 d0 d1 d2 ⊢
    refine (HC.out _ (HR.out.next M0.bel)).mono ?_
    rintro e w1 ⟨rfl, hb⟩
    obtain ⟨mb, ml, mc0, mc1, mc2, mwr, ⟨r0, mr0⟩, ⟨r1, mr1⟩, ⟨r2, mr2⟩, my0⟩ := M0.next hb
    clear hb
    go_wp2_with fail
    refine bodyPost_ret (v := .tuple #[.agg #[.string em, .slice none 0 0, .slice none 0 0], .int .i64 1]) (by simp [results, Tryz.results10, go_sem, *]) rfl (by rw [HV.out]; exact ansS_zero (by (repeat (first | (with_reducible exact Below.refl _ _) | (with_reducible assumption) | (with_reducible apply below_drewN) | (with_reducible apply Below.drew) | ((with_reducible refine Below.setCell ?_ ?_ _); rotate_left; focus (first | (simp; done) | (simp; omega) | omega)) | ((with_reducible refine Below.alloc ?_ ?_ _); rotate_left; focus (first | (simp; done) | (simp; omega) | omega))))) rfl)
  · rw [hB] at HC
    cases hWB : writeB x
    · have HV : Hid (insR c t x = (zCol, 1)) := insR_bad (fun h => by rw [hWB] at h; simp at h)
      rw [hWB] at HW
      clear hB hWB HT
      go_enter Tryz.func10, Tryz.ntmps10
      go_wp2_with fail
      generalize ((w.alloc (.cells #[.string c.name, .slice (some ⟨g1, 0, none⟩) c.chs.length cp, .slice (some ⟨g2, 0, none⟩) c.dfs.length cq] 35)).alloc (.cells #[.string x.coll, .int .i64 x.id, .bool x.gone, .int .i64 x.doc.k, .int .i64 x.doc.n, .string x.doc.t] 41)).alloc (.cells #[.string em, .slice none 0 0, .slice none 0 0] 35) = W0 at M0 d0 d1 d2 ⊢
      refine (HC.out _ (HR.out.next M0.bel)).mono ?_
      rintro e w1 ⟨rfl, hb⟩
      have M1 := M0.next hb
      have a0 := M1.wr.c0
      have a1 := M1.wr.c1
      have a2 := M1.wr.c2
      have a3 := M1.wr.c3
      have a4 := M1.wr.c4
      have a5 := M1.wr.c5
      clear hb M0 d0 d1 d2 HC
      go_wp2_with fail
      refine (HW.out _).mono ?_
      rintro e w2 ⟨rfl, hb⟩
      clear a0 a1 a2 a3 a4 a5
      obtain ⟨mb, ml, mc0, mc1, mc2, mwr, ⟨r0, mr0⟩, ⟨r1, mr1⟩, ⟨r2, mr2⟩, my0⟩ := M1.next hb
      clear hb
      go_wp2_with fail
      refine bodyPost_ret (v := .tuple #[.agg #[.string em, .slice none 0 0, .slice none 0 0], .int .i64 1]) (by simp [results, Tryz.results10, go_sem, *]) rfl (by rw [HV.out]; exact ansS_zero (by (repeat (first | (with_reducible exact Below.refl _ _) | (with_reducible assumption) | (with_reducible apply below_drewN) | (with_reducible apply Below.drew) | ((with_reducible refine Below.setCell ?_ ?_ _); rotate_left; focus (first | (simp; done) | (simp; omega) | omega)) | ((with_reducible refine Below.alloc ?_ ?_ _); rotate_left; focus (first | (simp; done) | (simp; omega) | omega))))) rfl)
    · rw [hWB] at HW
      cases hNM : (x.coll.toList == c.name.toList)
      · have HV : Hid (insR c t x = (zCol, 1)) := insR_bad (fun h => by rw [hNM] at h; simp at h)
        clear hB hWB HT
        go_enter Tryz.func10, Tryz.ntmps10
        go_wp2_with fail
        generalize ((w.alloc (.cells #[.string c.name, .slice (some ⟨g1, 0, none⟩) c.chs.length cp, .slice (some ⟨g2, 0, none⟩) c.dfs.length cq] 35)).alloc (.cells #[.string x.coll, .int .i64 x.id, .bool x.gone, .int .i64 x.doc.k, .int .i64 x.doc.n, .string x.doc.t] 41)).alloc (.cells #[.string em, .slice none 0 0, .slice none 0 0] 35) = W0 at M0 d0 d1 d2 ⊢
        refine (HC.out _ (HR.out.next M0.bel)).mono ?_
        rintro e w1 ⟨rfl, hb⟩
        have M1 := M0.next hb
        have a0 := M1.wr.c0
        have a1 := M1.wr.c1
        have a2 := M1.wr.c2
        have a3 := M1.wr.c3
        have a4 := M1.wr.c4
        have a5 := M1.wr.c5
        clear hb M0 d0 d1 d2 HC
        go_wp2_with fail
        refine (HW.out _).mono ?_
        rintro e w2 ⟨rfl, hb⟩
        clear a0 a1 a2 a3 a4 a5
        obtain ⟨mb, ml, mc0, mc1, mc2, ⟨mwl, mw0, mw1, mw2, mw3, mw4, mw5⟩, ⟨r0, mr0⟩, ⟨r1, mr1⟩, ⟨r2, mr2⟩, my0⟩ := M1.next hb
        clear hb
        go_wp2_with fail
        refine bodyPost_ret (v := .tuple #[.agg #[.string em, .slice none 0 0, .slice none 0 0], .int .i64 1]) (by simp [results, Tryz.results10, go_sem, *]) rfl (by rw [HV.out]; exact ansS_zero (by (repeat (first | (with_reducible exact Below.refl _ _) | (with_reducible assumption) | (with_reducible apply below_drewN) | (with_reducible apply Below.drew) | ((with_reducible refine Below.setCell ?_ ?_ _); rotate_left; focus (first | (simp; done) | (simp; omega) | omega)) | ((with_reducible refine Below.alloc ?_ ?_ _); rotate_left; focus (first | (simp; done) | (simp; omega) | omega))))) rfl)
      · cases hTM : timeB t
        · have HV : Hid (insR c t x = (zCol, 4)) := insR_time hB hWB hNM hTM
          rw [hTM] at HT
          clear hB hWB hTM
          go_enter Tryz.func10, Tryz.ntmps10
          go_wp2_with fail
          generalize ((w.alloc (.cells #[.string c.name, .slice (some ⟨g1, 0, none⟩) c.chs.length cp, .slice (some ⟨g2, 0, none⟩) c.dfs.length cq] 35)).alloc (.cells #[.string x.coll, .int .i64 x.id, .bool x.gone, .int .i64 x.doc.k, .int .i64 x.doc.n, .string x.doc.t] 41)).alloc (.cells #[.string em, .slice none 0 0, .slice none 0 0] 35) = W0 at M0 d0 d1 d2 ⊢
          refine (HC.out _ (HR.out.next M0.bel)).mono ?_
          rintro e w1 ⟨rfl, hb⟩
          have M1 := M0.next hb
          have a0 := M1.wr.c0
          have a1 := M1.wr.c1
          have a2 := M1.wr.c2
          have a3 := M1.wr.c3
          have a4 := M1.wr.c4
          have a5 := M1.wr.c5
          clear hb M0 d0 d1 d2 HC
          go_wp2_with fail
          refine (HW.out _).mono ?_
          rintro e w2 ⟨rfl, hb⟩
          have M2 := M1.next hb
          have n0 := M2.c0
          have q0 := M2.wr.c0
          clear hb M1 a0 a1 a2 a3 a4 a5
          go_wp2_with fail
          refine (HT.out _).mono ?_
          rintro e w3 ⟨rfl, rfl⟩
          have hb : True := trivial
          obtain ⟨mb, ml, mc0, mc1, mc2, mwr, ⟨r0, mr0⟩, ⟨r1, mr1⟩, ⟨r2, mr2⟩, my0⟩ := M2
          clear hb
          go_wp2_with fail
          refine bodyPost_ret (v := .tuple #[.agg #[.string em, .slice none 0 0, .slice none 0 0], .int .i64 4]) (by simp [results, Tryz.results10, go_sem, *]) rfl (by rw [HV.out]; exact ansS_zero (by (repeat (first | (with_reducible exact Below.refl _ _) | (with_reducible assumption) | (with_reducible apply below_drewN) | (with_reducible apply Below.drew) | ((with_reducible refine Below.setCell ?_ ?_ _); rotate_left; focus (first | (simp; done) | (simp; omega) | omega)) | ((with_reducible refine Below.alloc ?_ ?_ _); rotate_left; focus (first | (simp; done) | (simp; omega) | omega))))) rfl)
        · rw [hTM] at HT
          have HAT : Hid (∀ k b, PlaceC c.chs x.id k b → insR c t x = insK c t x k b) := fun k b hp => insR_at hB hWB hNM hTM hp
          have HNIL : Hid (addC [] (verW t x) = 0) := addC_nil hTM
          have hpt := collB_parts hB
          have hdf := collB_defs hB
          have HDF : Hid (_ ∧ _) := hdf
          have h20 := hpt.2.2.2.1
          have HPX : Hid (∃ k b, PlaceC c.chs x.id k b) := place_ex _ _ (by unfold collB at hB; simp only [Bool.and_eq_true] at hB; exact hB.2.2) x.id
          have HRI : Hid (RiseC c.chs) := riseC_of _ _ (by unfold collB at hB; simp only [Bool.and_eq_true] at hB; exact hB.2.2)
          have HPT : Hid (∀ x ∈ c.chs, topB x.id = true ∧ 1 ≤ x.vs.length ∧ x.vs.length ≤ 12 ∧ versB x.id 0 x.vs = true) := hpt.2.2.2.2.2
          clear hB hWB hTM hpt hdf
          go_enter Tryz.func10, Tryz.ntmps10
          go_wp2_with fail
          generalize ((w.alloc (.cells #[.string c.name, .slice (some ⟨g1, 0, none⟩) c.chs.length cp, .slice (some ⟨g2, 0, none⟩) c.dfs.length cq] 35)).alloc (.cells #[.string x.coll, .int .i64 x.id, .bool x.gone, .int .i64 x.doc.k, .int .i64 x.doc.n, .string x.doc.t] 41)).alloc (.cells #[.string em, .slice none 0 0, .slice none 0 0] 35) = W0 at M0 d0 d1 d2 ⊢
          refine (HC.out _ (HR.out.next M0.bel)).mono ?_
          rintro e w1 ⟨rfl, hb⟩
          have M1 := M0.next hb
          have a0 := M1.wr.c0
          have a1 := M1.wr.c1
          have a2 := M1.wr.c2
          have a3 := M1.wr.c3
          have a4 := M1.wr.c4
          have a5 := M1.wr.c5
          clear hb M0 d0 d1 d2 HC
          go_wp2_with fail
          refine (HW.out _).mono ?_
          rintro e w2 ⟨rfl, hb⟩
          have M2 := M1.next hb
          have n0 := M2.c0
          have q0 := M2.wr.c0
          clear hb M1 a0 a1 a2 a3 a4 a5 HW
          go_wp2_with fail
          refine (HT.out _).mono ?_
          rintro e w3 ⟨rfl, rfl⟩
          have n1 := M2.c1
          have n2 := M2.c2
          clear HT q0 hNM
          go_wp2_with fail
          refine (ownColl_any c.name (some ⟨g1, 0, none⟩) (some ⟨g2, 0, none⟩) cp cq c.chs c.dfs _ (HR.out.next M2.bel).ch.inCh (rowInDf (HR.out.next M2.bel).df) HSZ.out.name (by omega) (fun p hp => ⟨by have := (HPT.out p hp).2.2.1; omega, fun e he => szVr_of HSZ.out hp he⟩) (by have := HDF.out.1; omega) (fun p hp => ⟨(HSZ.out.dfs p hp).1, by have := (HDF.out.2 p hp).2; omega, (HSZ.out.dfs p hp).2.2⟩)).mono ?_
          rintro e w4 ⟨⟨v9, u9, mid, rfl, hm1, hm2, hCh, hDf⟩, hb9⟩
          obtain ⟨pc9, cc9, rfl⟩ := hCh.slice
          obtain ⟨qd, cd, rfl⟩ := hDf.slice
          have hlo := M2.lt
          have M4 := M2.next hb9
          obtain ⟨lo, hloe⟩ : ∃ lo, lo = w3.heap.size := ⟨_, rfl⟩
          rw [← hloe] at hm1 hCh hlo
          obtain ⟨vs9, xs9, hTB⟩ := TakB.start (c := c) (x := x) M4 (by omega) hm1 hm2 hCh hDf 35
          have a0 := hTB.bx.wr.c0
          have a1 := hTB.bx.wr.c1
          have a2 := hTB.bx.wr.c2
          have a3 := hTB.bx.wr.c3
          have a4 := hTB.bx.wr.c4
          have a5 := hTB.bx.wr.c5
          have ql := hTB.bx.lt
          have qb := hTB.lt
          have g0 := M4.wr.c0
          have g1' := M4.wr.c1
          have g2' := M4.wr.c2
          have g3 := M4.wr.c3
          have g4 := M4.wr.c4
          have g5 := M4.wr.c5
          have gl := M4.wr.lt
          have HTK : Hid (Calls _ _ _ _ _) := take_any c t x w _ _ _ _ _ _ _ _ _ _ _ _ _ hTB HRI.out HPX.out (by omega) (fun y hy => by have := (HPT.out y hy).2.2.1; omega) HSX.out HNIL.out (insR c t x) HAT.out
          clear hb9 hCh hDf M2 n0 n1 n2 hloe M4 hTB
          go_wp2_with fail
          refine HTK.out.mono ?_
          rintro e w8 ⟨⟨CDk, F, g, cw, vs8, xs8, rfl, hRR, Z8⟩⟩
          obtain ⟨mb, ml, mc0, mc1, mc2, mwr, ⟨r0, mr0⟩, ⟨r1, mr1⟩, ⟨r2, mr2⟩, my0⟩ := Z8.bx
          have p0 := Z8.o0
          have p1 := Z8.o1
          have p2 := Z8.o2
          have hzl8 := Z8.lt
          have HRR : Hid (insR c t x = _) := hRR
          have HFIN : Hid (AnsS _ _ _ _) := Z8.fin CDk (.string c.name) (.slice (some ⟨g, 0, none⟩) F.length cw) (.slice qd c.dfs.length cd)
          clear Z8 hRR HTK a0 a1 a2 a3 a4 a5 g0 g1' g2' g3 g4 g5
          go_wp2_with fail
          refine bodyPost_ret (v := .tuple #[.agg #[.string c.name, .slice (some ⟨g, 0, none⟩) F.length cw, .slice qd c.dfs.length cd], .int .i64 CDk]) (by simp [results, Tryz.results10, go_sem, *]) rfl ?_
          rw [HRR.out]
          exact HFIN.out

end Go.Proofs.YtncpijfbbgipaaaGreatDoor.Co
