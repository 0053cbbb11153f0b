/- The interval of a term: the program's answer. -/
import Derived.Test.YtkeghknceccdmaaGreatDoorTintM
import Derived.Test.YtkeghknceccdmaaGreatDoorBegI
import Derived.Deep.DeepCutAuto
import Derived.Deep.RegionHeld3
namespace Go.Proofs.YtkeghknceccdmaaGreatDoor
open Go.RowKit
set_option linter.unusedVariables false

/-- Three cells of a block that may be written. -/
structure I3 (W : World) (g : Nat) (x y z : Value) : Prop where
  lt : g < W.heap.size
  c0 : W.cell? ⟨g, 0, none⟩ = some x
  c1 : W.cell? ⟨g, 1, none⟩ = some y
  c2 : W.cell? ⟨g, 2, none⟩ = some z
  f0 : W.frozen? ⟨g, 0, none⟩ = false
  f1 : W.frozen? ⟨g, 1, none⟩ = false
  f2 : W.frozen? ⟨g, 2, none⟩ = false
theorem I3.new (W : World) (x y z : Value) (T : TypeId) : I3 (W.alloc (.cells #[x, y, z] T)) W.heap.size x y z :=
  ⟨by simp, by simp [go_sem], by simp [go_sem], by simp [go_sem], by simp [go_sem], by simp [go_sem], by simp [go_sem]⟩
theorem I3.step {W W' : World} {g : Nat} {x y z : Value} (h : I3 W g x y z) (hb : Below W.heap.size W W') : I3 W' g x y z :=
  ⟨Nat.lt_of_lt_of_le h.lt hb.size, (hb.cell h.lt).trans h.c0, (hb.cell h.lt).trans h.c1, (hb.cell h.lt).trans h.c2, (hb.frozen h.lt).trans h.f0, (hb.frozen h.lt).trans h.f1, (hb.frozen h.lt).trans h.f2⟩

set_option maxRecDepth 4000 in
set_option maxHeartbeats 1000000 in
theorem ofKind_any (k : Int) (desc : Bool) (w : World) (h0 : 0 ≤ k) (h5 : k ≤ 5) :
    Calls Tryz.prog 62 #[.int .i64 k, .bool desc] w fun e w' => e = .returned (.agg #[.string (kindI k desc).lo, .string (kindI k desc).hi, .bool (kindI k desc).op]) ∧ Below w.heap.size w w' := by
  have Y0 := I3.new w (.string em) (.string em) (.bool false) 24
  have hkn : ((kb k).toNat : Int) = k + 1 := by have := kb_lit k h0 h5; omega
  have O1 := own_one (w.alloc (.cells #[.string em, .string em, .bool false] 24)) (kb k) (w.alloc (.cells #[.string em, .string em, .bool false] 24)).heap.size (Nat.le_refl _)
  rw [hkn, heap_size_alloc] at O1
  have hD0 : Calls Tryz.prog 112 #[.slice (some ⟨w.heap.size + 1, 0, none⟩) 1 1, .bool desc] ((w.alloc (.cells #[.string em, .string em, .bool false] 24)).alloc (.cells #[.int .u8 (k + 1)] 5)) fun e w' => e = .returned (.string (mkB (dirK desc [kb k]))) ∧ Below (w.heap.size + 1) ((w.alloc (.cells #[.string em, .string em, .bool false] 24)).alloc (.cells #[.int .u8 (k + 1)] 5)) w' := directed_any (w.heap.size + 1) 1 (w.heap.size + 1) [kb k] desc _ O1 (by simp) (by simp)
  have hDl : (dirK desc [kb k]).length = 1 := by cases desc <;> rfl
  have hB0 := fun W : World => beginning_any (mkB (dirK desc [kb k])) W (by rw [mkB_size, hDl]; omega)
  rw [mkB_data, mkB_size] at hB0
  have hi : kindI k desc = ⟨mkB (dirK desc [kb k]), mkB (behN (dirK desc [kb k]) (dirK desc [kb k]).length).1, !(behN (dirK desc [kb k]) (dirK desc [kb k]).length).2⟩ := rfl
  rw [hi]
  simp only
  obtain ⟨L, hL⟩ : ∃ L, L = mkB (dirK desc [kb k]) := ⟨_, rfl⟩
  obtain ⟨⟨b1, b2⟩, hbb⟩ : ∃ b, b = behN (dirK desc [kb k]) (dirK desc [kb k]).length := ⟨_, rfl⟩
  rw [← hL, ← hbb] at hB0
  rw [← hL] at hD0
  rw [← hL, ← hbb]
  have HD : Hid (Calls _ _ _ _ _) := hD0
  have HB : Hid (∀ W : World, Calls _ _ _ W _) := hB0
  clear hD0 hB0 hL hbb hi O1 hDl
  go_enter Tryz.func62, Tryz.ntmps62
  go_wp2_with fail
  refine (firstByte_any k _ h0 h5).mono ?_
  rintro e wf ⟨rfl, rfl⟩
  go_wp2_with fail
  refine HD.out.mono ?_
  rintro e w2 ⟨rfl, hb⟩
  have hb' : Below (w.alloc (.cells #[.string em, .string em, .bool false] 24)).heap.size (w.alloc (.cells #[.string em, .string em, .bool false] 24)) w2 := by rw [heap_size_alloc]; exact ((Below.refl _ _).alloc (by simp) _).trans hb
  have Y1 := Y0.step hb'
  have hbw : Below w.heap.size w w2 := ((Below.refl _ _).alloc (Nat.le_refl _) _).trans (hb'.mono (by simp))
  clear hb hb' Y0
  go_wp2_with fail
  refine (HB.out _).mono ?_
  rintro e w3 ⟨rfl, hb⟩
  have Y2 := Y1.step hb
  have hbw2 := hbw.trans (hb.mono hbw.size)
  have c0 := Y2.c0
  have c1 := Y2.c1
  have c2 := Y2.c2
  have f0 := Y2.f0
  have f1 := Y2.f1
  have f2 := Y2.f2
  have hlt := Y2.lt
  clear hb Y1 Y2 hbw
  go_wp2_with fail
  refine bodyPost_ret (v := .agg #[.string L, .string (mkB b1), .bool (!b2)]) (by simp [results, Tryz.results62, go_sem, *]) rfl ⟨rfl, ?_⟩
  (repeat (first | (with_reducible exact Below.refl _ _) | (with_reducible assumption) | (with_reducible apply below_drewN) | (with_reducible apply Below.drew) | ((with_reducible refine Below.setCell ?_ ?_ _); rotate_left; focus (first | (simp; done) | (simp; omega) | omega)) | ((with_reducible refine Below.alloc ?_ ?_ _); rotate_left; focus (first | (simp; done) | (simp; omega) | omega))))

def turnO (op : Int) : Int := if op = 3 then 5 else if op = 4 then 6 else if op = 5 then 3 else 4
set_option maxHeartbeats 1000000 in
theorem turnedOp_any (op : Int) (w : World) (h : op = 3 ∨ op = 4 ∨ op = 5 ∨ op = 6) : Calls Tryz.prog 131 #[.int .i64 op] w fun e w' => e = .returned (.int .i64 (turnO op)) ∧ w' = w := by
  rcases h with rfl | rfl | rfl | rfl
  all_goals
    go_enter Tryz.func131, Tryz.ntmps131
    go_wp2_with fail
    go_ret
    exact ⟨rfl, rfl⟩
/-- A term's cells, and an empty interval that may be written. -/
structure Fr (w W : World) (a b c d e : Value) : Prop where
  box : Box5 w W a b c d e
  res : I3 W (w.heap.size + 1) (.string em) (.string em) (.bool false)
theorem Fr.start (w : World) (a b c d e : Value) (T U : TypeId) : Fr w ((w.alloc (.cells #[a, b, c, d, e] T)).alloc (.cells #[.string em, .string em, .bool false] U)) a b c d e :=
  ⟨(Box5.start w a b c d e T).step ((Below.refl _ _).alloc (Nat.le_refl _) _), by have := I3.new (w.alloc (.cells #[a, b, c, d, e] T)) (.string em) (.string em) (.bool false) U; rwa [heap_size_alloc] at this⟩
theorem Fr.step {w W W' : World} {a b c d e : Value} (h : Fr w W a b c d e) (hb : Below W.heap.size W W') : Fr w W' a b c d e := ⟨h.box.step hb, h.res.step hb⟩
theorem keepF {w W W' : World} {a b c d e : Value} (h : Fr w W a b c d e) (hb : Below W.heap.size W W') : W'.cell? ⟨w.heap.size, 2, none⟩ = some c ∧ W'.cell? ⟨w.heap.size, 3, none⟩ = some d ∧ W'.cell? ⟨w.heap.size, 4, none⟩ = some e :=
  have X := h.box.step hb
  ⟨X.c2, X.c3, X.c4⟩
theorem one3 {W w1 : World} {a b c : Value} {T : TypeId} (h : Below (W.alloc (.cells #[a, b, c] T)).heap.size (W.alloc (.cells #[a, b, c] T)) w1) : I3 w1 W.heap.size a b c := (I3.new W a b c T).step h
theorem one3d {W w1 : World} {a b c : Value} {T : TypeId} (h : Below (W.drew.alloc (.cells #[a, b, c] T)).heap.size (W.drew.alloc (.cells #[a, b, c] T)) w1) : I3 w1 W.heap.size a b c := one3 (W := W.drew) h
theorem one3e {W w1 : World} {a b c : Value} {T : TypeId} (h : Below (W.alloc (.cells #[a, b, c] T)).drew.heap.size (W.alloc (.cells #[a, b, c] T)).drew w1) : I3 w1 W.heap.size a b c := one3 (W := W.drew) h
theorem two3 {W w1 : World} {a b c a' b' c' : Value} {T T' : TypeId} (h : Below ((W.alloc (.cells #[a, b, c] T)).alloc (.cells #[a', b', c'] T')).heap.size ((W.alloc (.cells #[a, b, c] T)).alloc (.cells #[a', b', c'] T')) w1) : I3 w1 W.heap.size a b c ∧ I3 w1 (W.heap.size + 1) a' b' c' :=
  ⟨((I3.new W a b c T).step ((Below.refl _ _).alloc (Nat.le_refl _) _)).step h, by have := (I3.new (W.alloc (.cells #[a, b, c] T)) a' b' c' T').step h; rwa [heap_size_alloc] at this⟩
theorem two3d {W w1 : World} {a b c a' b' c' : Value} {T T' : TypeId} (h : Below ((W.drew.alloc (.cells #[a, b, c] T)).alloc (.cells #[a', b', c'] T')).heap.size ((W.drew.alloc (.cells #[a, b, c] T)).alloc (.cells #[a', b', c'] T')) w1) : I3 w1 W.heap.size a b c ∧ I3 w1 (W.heap.size + 1) a' b' c' := two3 (W := W.drew) h
theorem two3e {W w1 : World} {a b c a' b' c' : Value} {T T' : TypeId} (h : Below ((W.alloc (.cells #[a, b, c] T)).alloc (.cells #[a', b', c'] T')).drew.heap.size ((W.alloc (.cells #[a, b, c] T)).alloc (.cells #[a', b', c'] T')).drew w1) : I3 w1 W.heap.size a b c ∧ I3 w1 (W.heap.size + 1) a' b' c' := two3 (W := W.drew) h

end Go.Proofs.YtkeghknceccdmaaGreatDoor
