/- Writes: whether one is right, by both; the laws' own helpers on one; one that comes in, opened. -/
import Derived.Test.YtkafanjfjplakaaGreatDoorColS
import Derived.Test.YtkafanjfjplakaaGreatDoorColO
import Derived.Test.YtkafanjfjplakaaGreatDoorColU
namespace Go.Proofs.YtkafanjfjplakaaGreatDoor.Co
open Go.RowKit Go.Joins Go.Deep Go.ChangeShapes Go.WideShapes Go.ChangeAt Tr
set_option linter.unusedVariables false

/-- A write. -/
structure Wrt where
  coll : ByteArray
  id : Int
  gone : Bool
  doc : Val
/-- A write, as a value. -/
def Wrt.v (x : Wrt) : Value := .agg #[.string x.coll, .int .i64 x.id, .bool x.gone, .int .i64 x.doc.k, .int .i64 x.doc.n, .string x.doc.t]
def writeB (x : Wrt) : Bool := shortB x.coll && (topB x.id && stateB x.id x.gone x.doc)
structure SzW (x : Wrt) : Prop where
  c : x.coll.size ≤ 1048576
  d : x.doc.t.size ≤ 1048576
structure MaxW (x : Wrt) : Prop where
  c : x.coll.size ≤ maxLen
  d : x.doc.t.size ≤ maxLen
theorem SzW.mx {x : Wrt} (h : SzW x) : x.coll.size ≤ maxLen := by have := h.c; unfold maxLen; omega
/-- A box of six cells, anywhere. -/
structure BxW (W : World) (b : Nat) (x : Wrt) : Prop where
  lt : b < W.heap.size
  c0 : W.cell? ⟨b, 0, none⟩ = some (.string x.coll)
  c1 : W.cell? ⟨b, 1, none⟩ = some (.int .i64 x.id)
  c2 : W.cell? ⟨b, 2, none⟩ = some (.bool x.gone)
  c3 : W.cell? ⟨b, 3, none⟩ = some (.int .i64 x.doc.k)
  c4 : W.cell? ⟨b, 4, none⟩ = some (.int .i64 x.doc.n)
  c5 : W.cell? ⟨b, 5, none⟩ = some (.string x.doc.t)
theorem BxW.new (w : World) (x : Wrt) (T : TypeId) : BxW (w.alloc (.cells #[.string x.coll, .int .i64 x.id, .bool x.gone, .int .i64 x.doc.k, .int .i64 x.doc.n, .string x.doc.t] T)) w.heap.size x :=
  ⟨by simp, by simp [go_sem], by simp [go_sem], by simp [go_sem], by simp [go_sem], by simp [go_sem], by simp [go_sem]⟩
theorem BxW.step {W W' : World} {b B : Nat} {x : Wrt} (h : BxW W b x) (hb : Below B W W') (hB : b < B) : BxW W' b x :=
  ⟨Nat.lt_of_lt_of_le h.lt hb.size, (hb.cell hB).trans h.c0, (hb.cell hB).trans h.c1, (hb.cell hB).trans h.c2, (hb.cell hB).trans h.c3, (hb.cell hB).trans h.c4, (hb.cell hB).trans h.c5⟩
theorem BxW.next {W W' : World} {b : Nat} {x : Wrt} (h : BxW W b x) (hb : Below W.heap.size W W') : BxW W' b x := h.step hb h.lt
theorem BxW.chg {W W' : World} {b lo hi : Nat} {x : Wrt} (h : BxW W b x) (hc : Chg lo hi W W') (ho : b < lo ∨ hi ≤ b) : BxW W' b x :=
  ⟨Nat.lt_of_lt_of_le h.lt hc.size, (hc.cell h.lt ho).trans h.c0, (hc.cell h.lt ho).trans h.c1, (hc.cell h.lt ho).trans h.c2, (hc.cell h.lt ho).trans h.c3, (hc.cell h.lt ho).trans h.c4, (hc.cell h.lt ho).trans h.c5⟩

set_option maxRecDepth 4000 in
set_option maxHeartbeats 1000000 in
theorem writeOK_any (x : Wrt) (w : World) (hs : SzW x) :
    Calls Tryz.prog 67 #[.agg #[.string x.coll, .int .i64 x.id, .bool x.gone, .int .i64 x.doc.k, .int .i64 x.doc.n, .string x.doc.t]] w fun e w' => e = .returned (.bool (writeB x)) ∧ Below w.heap.size w w' := by
  have X0 := BxW.new w x 45
  have hbw : Below w.heap.size w (w.alloc (.cells #[.string x.coll, .int .i64 x.id, .bool x.gone, .int .i64 x.doc.k, .int .i64 x.doc.n, .string x.doc.t] 45)) := (Below.refl _ _).alloc (Nat.le_refl _) _
  have HN : Hid (∀ W : World, Calls _ _ _ W _) := fun W => shortNameOK_any x.coll W hs.mx
  have HT : Hid (∀ W : World, Calls _ _ _ W _) := fun W => topIdOK_any x.id W
  have HS : Hid (0 ≤ x.id → ∀ W : World, Calls _ _ _ W _) := fun h W => stateOK_any x.id x.gone x.doc W h hs.d
  clear hs
  unfold writeB
  cases hb1 : shortB x.coll
  · rw [hb1] at HN
    go_enter Tryz.func67, Tryz.ntmps67
    go_wp2_with fail
    refine (HN.out _).mono ?_
    rintro e w1 ⟨rfl, rfl⟩
    go_wp2_with fail
    go_ret
    exact ⟨rfl, hbw⟩
  · rw [hb1] at HN
    cases hb2 : topB x.id
    · rw [hb2] at HT
      go_enter Tryz.func67, Tryz.ntmps67
      go_wp2_with fail
      refine (HN.out _).mono ?_
      rintro e w1 ⟨rfl, rfl⟩
      go_wp2_with fail
      refine (HT.out _).mono ?_
      rintro e w1 ⟨rfl, rfl⟩
      go_wp2_with fail
      go_ret
      exact ⟨rfl, hbw⟩
    · have h0 : 0 ≤ x.id := by unfold topB at hb2; have := of_decide_eq_true hb2; omega
      rw [hb2] at HT
      have HS2 : Hid (∀ W : World, Calls _ _ _ W _) := HS.out h0
      clear hb1 hb2 HS h0
      go_enter Tryz.func67, Tryz.ntmps67
      go_wp2_with fail
      refine (HN.out _).mono ?_
      rintro e w1 ⟨rfl, rfl⟩
      go_wp2_with fail
      refine (HT.out _).mono ?_
      rintro e w1 ⟨rfl, rfl⟩
      go_wp2_with fail
      refine (HS2.out _).mono ?_
      rintro e w1 ⟨rfl, hb⟩
      have hbw2 := hbw.trans (hb.mono hbw.size)
      clear hb
      go_wp2_with fail
      go_ret
      exact ⟨rfl, hbw2⟩
set_option maxRecDepth 4000 in
set_option maxHeartbeats 1000000 in
theorem specWrite_any (x : Wrt) (w : World) (hs : SzW x) :
    Calls Tryz.prog 63 #[.agg #[.string x.coll, .int .i64 x.id, .bool x.gone, .int .i64 x.doc.k, .int .i64 x.doc.n, .string x.doc.t]] w fun e w' => e = .returned (.bool (writeB x)) ∧ Below w.heap.size w w' := by
  have X0 := BxW.new w x 45
  have hbw : Below w.heap.size w (w.alloc (.cells #[.string x.coll, .int .i64 x.id, .bool x.gone, .int .i64 x.doc.k, .int .i64 x.doc.n, .string x.doc.t] 45)) := (Below.refl _ _).alloc (Nat.le_refl _) _
  have HN : Hid (∀ W : World, Calls _ _ _ W _) := fun W => l01Name_any x.coll W hs.mx
  have HT : Hid (∀ W : World, Calls _ _ _ W _) := fun W => l01In_any x.id 0 19 W
  have HS : Hid (∀ W : World, Calls _ _ _ W _) := fun W => l08Doc_any x.id x.gone x.doc W hs.d
  clear hs
  unfold writeB topB
  cases hb1 : shortB x.coll
  · rw [hb1] at HN
    go_enter Tryz.func63, Tryz.ntmps63
    go_wp2_with fail
    refine (HN.out _).mono ?_
    rintro e w1 ⟨rfl, rfl⟩
    go_wp2_with fail
    go_ret
    exact ⟨rfl, hbw⟩
  · rw [hb1] at HN
    cases hb2 : decide (0 ≤ x.id ∧ x.id ≤ 19)
    · rw [hb2] at HT
      go_enter Tryz.func63, Tryz.ntmps63
      go_wp2_with fail
      refine (HN.out _).mono ?_
      rintro e w1 ⟨rfl, rfl⟩
      go_wp2_with fail
      refine (HT.out _).mono ?_
      rintro e w1 ⟨rfl, rfl⟩
      go_wp2_with fail
      go_ret
      exact ⟨rfl, hbw⟩
    · rw [hb2] at HT
      clear hb1 hb2
      go_enter Tryz.func63, Tryz.ntmps63
      go_wp2_with fail
      refine (HN.out _).mono ?_
      rintro e w1 ⟨rfl, rfl⟩
      go_wp2_with fail
      refine (HT.out _).mono ?_
      rintro e w1 ⟨rfl, rfl⟩
      go_wp2_with fail
      refine (HS.out _).mono ?_
      rintro e w1 ⟨rfl, hb⟩
      have hbw2 := hbw.trans (hb.mono hbw.size)
      clear hb
      go_wp2_with fail
      go_ret
      exact ⟨rfl, hbw2⟩
set_option maxRecDepth 4000 in
set_option maxHeartbeats 1000000 in
theorem szWrite_any (x : Wrt) (c0 : Int) (w : World) (hm : MaxW x) (h0 : 0 ≤ c0) (h1 : c0 ≤ 1048576) :
    Calls Tryz.prog 16 #[.agg #[.string x.coll, .int .i64 x.id, .bool x.gone, .int .i64 x.doc.k, .int .i64 x.doc.n, .string x.doc.t], .int .i64 c0] w fun e w' => (∃ r : Int, e = .returned (.int .i64 r) ∧ (r < 0 ∨ (0 ≤ r ∧ r ≤ c0 ∧ SzW x))) ∧ Below w.heap.size w w' := by
  have hbw : Below w.heap.size w (w.alloc (.cells #[.string x.coll, .int .i64 x.id, .bool x.gone, .int .i64 x.doc.k, .int .i64 x.doc.n, .string x.doc.t] 40)) := (Below.refl _ _).alloc (Nat.le_refl _) _
  have hmx := hm.c
  unfold maxLen at hmx
  by_cases hover : c0 < (x.coll.size : Int)
  · have hneg : c0 - (x.coll.size : Int) < 0 := by omega
    go_enter Tryz.func16, Tryz.ntmps16
    go_wp2_with fail
    go_ret
    exact ⟨⟨-1, rfl, .inl (by omega)⟩, hbw⟩
  · have hpos : ¬ c0 - (x.coll.size : Int) < 0 := by omega
    have HF : Hid (∀ W : World, Calls _ _ _ W _) := fun W => szValue_any x.doc.k x.doc.n x.doc.t (c0 - x.coll.size) W hm.d (by omega) (by omega)
    by_cases hd : c0 - (x.coll.size : Int) < (x.doc.t.size : Int)
    · rw [if_pos hd] at HF
      clear hm hd
      go_enter Tryz.func16, Tryz.ntmps16
      go_wp2_with fail
      refine (HF.out _).mono ?_
      rintro e w1 ⟨rfl, hb⟩
      have hbw1 := hbw.trans (hb.mono hbw.size)
      clear hb
      go_wp2_with fail
      go_ret
      exact ⟨⟨-1, rfl, .inl (by omega)⟩, hbw1⟩
    · rw [if_neg hd] at HF
      have hpos2 : ¬ c0 - (x.coll.size : Int) - (x.doc.t.size : Int) < 0 := by omega
      have HSW : Hid (SzW x) := ⟨by omega, by omega⟩
      clear hm hd
      go_enter Tryz.func16, Tryz.ntmps16
      go_wp2_with fail
      refine (HF.out _).mono ?_
      rintro e w1 ⟨rfl, hb⟩
      have hbw1 := hbw.trans (hb.mono hbw.size)
      clear hb
      go_wp2_with fail
      go_ret
      exact ⟨⟨_, rfl, .inr ⟨by omega, by omega, HSW.out⟩⟩, hbw1⟩
/-- Blocks of six cells that are being made. -/
structure Mk6 (w W : World) (x y : Array Value) (T U : TypeId) : Prop where
  bel : Below w.heap.size w W
  lt : w.heap.size + 2 < W.heap.size
  rb : W.heap[w.heap.size + 1]? = some (.cells x U)
  ob : W.heap[w.heap.size + 2]? = some (.cells y U)
theorem Mk6.start (w : World) (O : Obj) (x y : Array Value) (T U : TypeId) : Mk6 w (((w.alloc O).alloc (.cells x U)).alloc (.cells y U)) x y T U := by
  have s1 : (w.alloc O).heap.size = w.heap.size + 1 := by simp
  have s2 : ((w.alloc O).alloc (.cells x U)).heap.size = w.heap.size + 2 := by simp
  refine ⟨(((Below.refl _ _).alloc (Nat.le_refl _) _).alloc (by simp) _).alloc (by simp; omega) _, by simp, ?_, ?_⟩
  · rw [heap_alloc_old _ _ (by simp)]; rw [← s1]; exact heap_alloc_new _ _
  · rw [← s2]; exact heap_alloc_new _ _
theorem Mk6.next {w W W' : World} {x y : Array Value} {T U : TypeId} (h : Mk6 w W x y T U) (hb : Below W.heap.size W W') : Mk6 w W' x y T U := by
  have := h.lt
  exact ⟨h.bel.trans (hb.mono (by omega)), Nat.lt_of_lt_of_le h.lt hb.size, (hb.block _ (by omega)).trans h.rb, (hb.block _ h.lt).trans h.ob⟩
set_option maxRecDepth 4000 in
set_option maxHeartbeats 1000000 in
theorem toWrite_any (x : Wrt) (w : World) :
    Calls Tryz.prog 18 #[.agg #[.string x.coll, .int .i64 x.id, .bool x.gone, .int .i64 x.doc.k, .int .i64 x.doc.n, .string x.doc.t]] w fun e w' => e = .returned (.agg #[.string x.coll, .int .i64 x.id, .bool x.gone, .int .i64 x.doc.k, .int .i64 x.doc.n, .string x.doc.t]) ∧ Below w.heap.size w w' := by
  have M0 := Mk6.start w (.cells #[.string x.coll, .int .i64 x.id, .bool x.gone, .int .i64 x.doc.k, .int .i64 x.doc.n, .string x.doc.t] 40) #[.string em, .int .i64 0, .bool false, .int .i64 0, .int .i64 0, .string em] #[.string x.coll, .int .i64 x.id, .bool x.gone, .int .i64 0, .int .i64 0, .string em] 40 45
  have HC : Hid (∀ W : World, Calls _ _ _ W _) := fun W => toValue_any x.doc.k x.doc.n x.doc.t W
  go_enter Tryz.func18, Tryz.ntmps18
  go_wp2_with fail
  generalize ((w.alloc (.cells #[.string x.coll, .int .i64 x.id, .bool x.gone, .int .i64 x.doc.k, .int .i64 x.doc.n, .string x.doc.t] 40)).alloc (.cells #[.string em, .int .i64 0, .bool false, .int .i64 0, .int .i64 0, .string em] 45)).alloc (.cells #[.string x.coll, .int .i64 x.id, .bool x.gone, .int .i64 0, .int .i64 0, .string em] 45) = W0 at M0 ⊢
  refine (HC.out _).mono ?_
  rintro e w1 ⟨rfl, hb⟩
  have M1 := M0.next hb
  obtain ⟨a0, a1, a2, a3, a4, a5⟩ := six M1.rb
  obtain ⟨b0, b1, b2, b3, b4, b5⟩ := six M1.ob
  have fa := soft M1.rb
  have fb := soft M1.ob
  have hbw := M1.bel
  have hl := M1.lt
  clear hb M0 M1
  go_wp2_with fail
  refine bodyPost_ret (v := .agg #[.string x.coll, .int .i64 x.id, .bool x.gone, .int .i64 x.doc.k, .int .i64 x.doc.n, .string x.doc.t]) (by simp [results, Tryz.results18, go_sem, *]) rfl ⟨rfl, ?_⟩
  (repeat (first | (with_reducible exact Below.refl _ _) | (with_reducible assumption) | (with_reducible apply below_drewN) | (with_reducible apply Below.drew) | ((with_reducible refine Below.setCell ?_ ?_ _); rotate_left; focus (first | (simp; done) | (simp; omega) | omega)) | ((with_reducible refine Below.alloc ?_ ?_ _); rotate_left; focus (first | (simp; done) | (simp; omega) | omega))))
theorem cellsWr : Tryz.prog.cellsOf 40 = 6 := by kernel_rfl
theorem trod_struct4w {H : Type} {enc : TypeId × Value → H} {P : Program} {w : World} {base : Nat} {spare : Nat → Bool} {held : Bool} {t : TypeId} {f0 f1 f2 f3 : Field} {fuel : Nat} {cs : List Value} {x : DataW H × List MemPlace} (ht : P.underlying t = some (.struct #[f0, f1, f2, f3])) (h : DataW.trod enc P w base spare held fuel t cs = some x) :
    ∃ y0 y1 y2 y3 n, DataW.trod enc P w base spare held n f0.type ((cs.drop f0.offset).take (P.cellsOf f0.type)) = some y0 ∧
      DataW.trod enc P w base spare held n f1.type ((cs.drop f1.offset).take (P.cellsOf f1.type)) = some y1 ∧ DataW.trod enc P w base spare held n f2.type ((cs.drop f2.offset).take (P.cellsOf f2.type)) = some y2 ∧
      DataW.trod enc P w base spare held n f3.type ((cs.drop f3.offset).take (P.cellsOf f3.type)) = some y3 := by
  obtain ⟨xs, n, _, rfl, hl, hlen, hf⟩ := DataW.trod_struct ht h
  match xs, hlen with
  | [y0, y1, y2, y3], _ => exact ⟨y0, y1, y2, y3, n, by simpa using hf 0 f0 rfl, by simpa using hf 1 f1 rfl, by simpa using hf 2 f2 rfl, by simpa using hf 3 f3 rfl⟩
set_option maxRecDepth 100000 in
theorem open_write {H : Type} {enc : TypeId × Value → H} {w : World} {base b0 : Nat} {spare : Nat → Bool} {held : Bool} {r : Reach} {v : Value} {d : DataW H} {ps : List MemPlace}
    (hv : Value.okWide Tryz.prog w r b0 40 v) (h : DataW.Trod enc Tryz.prog w base spare held 40 v d ps) :
    ∃ x : Wrt, v = .agg #[.string x.coll, .int .i64 x.id, .bool x.gone, .int .i64 x.doc.k, .int .i64 x.doc.n, .string x.doc.t] ∧ MaxW x := by
  obtain ⟨cs, rfl, hsz⟩ := okWide_struct Tryz.underlying40 hv
  obtain ⟨fuel, hf⟩ := h
  rw [cellsWr] at hsz
  obtain ⟨l⟩ := cs
  match l, hsz with
  | [c0, c1, c2, c3, c4, c5], _ =>
    obtain ⟨y0, y1, y2, y3, n, t0, t1, t2, t3⟩ := trod_struct4w Tryz.underlying40 (show DataW.trod enc Tryz.prog w base spare held fuel 40 [c0, c1, c2, c3, c4, c5] = some _ by simpa [Value.cells] using hf)
    obtain ⟨z0, e0, _, h0⟩ := DataW.trod_string Tryz.underlying9 t0
    obtain ⟨z1, e1, _, _⟩ := DataW.trod_int Tryz.underlying3 t1
    obtain ⟨z2, e2, _⟩ := DataW.trod_bool Tryz.underlying4 t2
    obtain ⟨u0, u1, u2, m2, _, _, s0, s1, s2⟩ := trod_struct3 Tryz.underlying38 t3
    obtain ⟨z3, e3, _, _⟩ := DataW.trod_int Tryz.underlying3 s0
    obtain ⟨z4, e4, _, _⟩ := DataW.trod_int Tryz.underlying3 s1
    obtain ⟨z5, e5, _, h5⟩ := DataW.trod_string Tryz.underlying9 s2
    simp [cellsI1, cellsS1, cellsVv, cellsB1] at e0 e1 e2 e3 e4 e5
    subst e0 e1 e2 e3 e4 e5
    exact ⟨⟨z0, z1, z2, ⟨z3, z4, z5⟩⟩, rfl, ⟨h0, h5⟩⟩

end Go.Proofs.YtkafanjfjplakaaGreatDoor.Co
