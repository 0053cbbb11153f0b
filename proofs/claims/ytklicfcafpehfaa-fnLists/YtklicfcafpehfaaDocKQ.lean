/- What the program's DocOf answers, for every row of fields. -/
import Derived.Test.YtklicfcafpehfaaDocIQ
import Derived.Test.YtklicfcafpehfaaDocSQ
import Derived.Test.YtklicfcafpehfaaRowF
import Derived.Test.YtklicfcafpehfaaDepthM
namespace Go.Proofs.Ytklicfcafpehfaa
open Go.RowKit
set_option linter.unusedVariables false

set_option maxRecDepth 4000 in
set_option maxHeartbeats 1000000 in
theorem implDoc_long (g cap : Nat) (l : List Fld) (w : World) (hl : l.length ≤ 1048576) (h : 4096 < l.length) :
    Calls Try.prog 21 #[.slice (some ⟨g, 0, none⟩) l.length cap] w fun e w' => e = .returned (.tuple #[.agg #[.int .i64 0, .int .i64 0, .string em], .int .i64 2]) ∧ Below w.heap.size w w' := by
  have hh : (4096 : Int) < (l.length : Int) := by omega
  go_enter Try.func21, Try.ntmps21
  go_wp2_with fail
  refine bodyPost_ret (v := .tuple #[.agg #[.int .i64 0, .int .i64 0, .string em], .int .i64 2]) (by simp [results, Try.results21, go_sem, *]) rfl ⟨rfl, ?_⟩
  (repeat (first | (with_reducible exact Below.refl _ _) | (with_reducible assumption) | (with_reducible apply below_drewN) | (with_reducible apply Below.drew) | ((with_reducible refine Below.setCell ?_ ?_ _); rotate_left; focus (first | (simp; done) | (simp; omega) | omega)) | ((with_reducible refine Below.alloc ?_ ?_ _); rotate_left; focus (first | (simp; done) | (simp; omega) | omega))))
set_option maxRecDepth 4000 in
set_option maxHeartbeats 1000000 in
theorem implDoc_many (g cap : Nat) (l : List Fld) (w : World) (h : ¬ 4096 < l.length) (h2 : 300 < l.length) :
    Calls Try.prog 21 #[.slice (some ⟨g, 0, none⟩) l.length cap] w fun e w' => e = .returned (.tuple #[.agg #[.int .i64 0, .int .i64 0, .string em], .int .i64 10]) ∧ Below w.heap.size w w' := by
  have hh : ¬ (4096 : Int) < (l.length : Int) := by omega
  have hh2 : (300 : Int) < (l.length : Int) := by omega
  go_enter Try.func21, Try.ntmps21
  go_wp2_with fail
  refine bodyPost_ret (v := .tuple #[.agg #[.int .i64 0, .int .i64 0, .string em], .int .i64 10]) (by simp [results, Try.results21, go_sem, *]) rfl ⟨rfl, ?_⟩
  (repeat (first | (with_reducible exact Below.refl _ _) | (with_reducible assumption) | (with_reducible apply below_drewN) | (with_reducible apply Below.drew) | ((with_reducible refine Below.setCell ?_ ?_ _); rotate_left; focus (first | (simp; done) | (simp; omega) | omega)) | ((with_reducible refine Below.alloc ?_ ?_ _); rotate_left; focus (first | (simp; done) | (simp; omega) | omega))))
set_option maxRecDepth 4000 in
set_option maxHeartbeats 2000000 in
theorem implDoc_few (g cap : Nat) (l : List Fld) (w : World) (hr : ReadF w g l) (h2 : ¬ 300 < l.length) (hts : ∀ f ∈ l, f.name.size ≤ 1048576 ∧ f.v.t.size ≤ 1048576) :
    Calls Try.prog 21 #[.slice (some ⟨g, 0, none⟩) l.length cap] w fun e w' => e = .returned (.tuple #[aggV (madeP l).1, .int .i64 (madeP l).2]) ∧ Below w.heap.size w w' := by
  have hh : ¬ (4096 : Int) < (l.length : Int) := by omega
  have hh2 : ¬ (300 : Int) < (l.length : Int) := by omega
  have hl : l.length ≤ 300 := by omega
  have X0 := Res3.start w (.int .i64 0) (.int .i64 0) (.string em) 27
  have HR : Hid _ := hr.next X0.bel
  have HT : Hid _ := hts
  rw [madeP_few l h2]
  clear hr hts
  cases hfo : foldD [] l with
  | error cd =>
    have HF : Hid (_ = _) := hfo
    clear hfo
    show Calls _ _ _ _ fun e w' => e = .returned (.tuple #[.agg #[.int .i64 0, .int .i64 0, .string em], .int .i64 cd]) ∧ Below w.heap.size w w'
    go_enter Try.func21, Try.ntmps21
    go_wp2_with fail
    refine (sortedFields_any g cap l _ HR.out hl HT.out).mono ?_
    rintro e w1 ⟨hout, hb⟩
    rw [HF.out] at hout
    obtain ⟨rfl, hc⟩ := hout
    have hc2 : (cd == 0) = false := beq_eq_false_iff_ne.mpr hc
    have Y := X0.step hb
    have g0 := Y.c0
    have g1 := Y.c1
    have g2 := Y.c2
    have z0 := Y.z0
    have z1 := Y.z1
    have z2 := Y.z2
    have hlt := Y.lt
    have hbw := Y.bel
    clear hb Y X0
    go_wp2_with fail
    refine bodyPost_ret (v := .tuple #[.agg #[.int .i64 0, .int .i64 0, .string em], .int .i64 cd]) (by simp [results, Try.results21, go_sem, *]) rfl ⟨rfl, ?_⟩
    (repeat (first | (with_reducible exact Below.refl _ _) | (with_reducible assumption) | (with_reducible apply below_drewN) | (with_reducible apply Below.drew) | ((with_reducible refine Below.setCell ?_ ?_ _); rotate_left; focus (first | (simp; done) | (simp; omega) | omega)) | ((with_reducible refine Below.alloc ?_ ?_ _); rotate_left; focus (first | (simp; done) | (simp; omega) | omega))))
  | ok s =>
    have HF : Hid (_ = _) := hfo
    clear hfo
    show Calls _ _ _ _ fun e w' => e = .returned (.tuple #[aggV (fitD s).1, .int .i64 (fitD s).2]) ∧ Below w.heap.size w w'
    go_enter Try.func21, Try.ntmps21
    go_wp2_with fail
    refine (sortedFields_any g cap l _ HR.out hl HT.out).mono ?_
    rintro e w1 ⟨hout, hb⟩
    rw [HF.out] at hout
    obtain ⟨p, c, rfl, hrow, hgood, hsl⟩ := hout
    have hsl2 : s.length ≤ 300 := by omega
    have HW : Hid (RowF _ _ _) := hrow
    have HG : Hid (GoodF _) := hgood
    have Y1 := X0.step hb
    clear hb X0 hrow hgood hsl
    go_wp2_with fail
    refine (docWith_any p c s _ HW.out hsl2 HG.out).mono ?_
    rintro e w2 ⟨rfl, hb⟩
    have Y2 := Y1.step hb
    clear hb Y1
    go_wp2_with fail
    refine (bounded_doc s _ hsl2 HG.out).mono ?_
    rintro e w3 ⟨rfl, hb⟩
    have Y := Y2.step hb
    have g0 := Y.c0
    have g1 := Y.c1
    have g2 := Y.c2
    have z0 := Y.z0
    have z1 := Y.z1
    have z2 := Y.z2
    have hlt := Y.lt
    have hbw := Y.bel
    clear hb Y Y2
    go_wp2_with fail
    refine bodyPost_ret (v := .tuple #[aggV (fitD s).1, .int .i64 (fitD s).2]) (by simp [results, Try.results21, go_sem, *]) rfl ⟨rfl, ?_⟩
    (repeat (first | (with_reducible exact Below.refl _ _) | (with_reducible assumption) | (with_reducible apply below_drewN) | (with_reducible apply Below.drew) | ((with_reducible refine Below.setCell ?_ ?_ _); rotate_left; focus (first | (simp; done) | (simp; omega) | omega)) | ((with_reducible refine Below.alloc ?_ ?_ _); rotate_left; focus (first | (simp; done) | (simp; omega) | omega))))
theorem implDoc_any (g cap : Nat) (l : List Fld) (w : World) (hr : ReadF w g l) (hl : l.length ≤ 1048576) (hts : ∀ f ∈ l, f.name.size ≤ 1048576 ∧ f.v.t.size ≤ 1048576) :
    Calls Try.prog 21 #[.slice (some ⟨g, 0, none⟩) l.length cap] w fun e w' => e = .returned (.tuple #[aggV (madeP l).1, .int .i64 (madeP l).2]) ∧ Below w.heap.size w w' := by
  by_cases h : 4096 < l.length
  · rw [madeP_long l h]; exact implDoc_long g cap l w hl h
  · by_cases h2 : 300 < l.length
    · rw [madeP_many l h h2]; exact implDoc_many g cap l w h h2
    · exact implDoc_few g cap l w hr h2 hts

end Go.Proofs.Ytklicfcafpehfaa

/- What the specification's DocOf answers, for every row of fields. -/
namespace Go.Proofs.Ytklicfcafpehfaa
open Go.RowKit

theorem specDoc_any (g cap : Nat) (l : List Fld) (w : World) (hr : ReadF w g l) (hl : l.length ≤ 1048576) (hts : ∀ f ∈ l, f.name.size ≤ 1048576 ∧ f.v.t.size ≤ 1048576) :
    Calls Try.prog 22 #[.slice (some ⟨g, 0, none⟩) l.length cap] w fun e w' => e = .returned (.tuple #[aggV (madeP l).1, .int .i64 (madeP l).2]) ∧ Below w.heap.size w w' := by
  by_cases h : 4096 < l.length
  · rw [madeP_long l h]; exact specDoc_long g cap l w hl h
  · by_cases h2 : 300 < l.length
    · rw [madeP_many l h h2]; exact specDoc_many g cap l w h h2
    · rw [madeP_few l h2]; exact specDoc_few g cap l w hr h2 hts

end Go.Proofs.Ytklicfcafpehfaa

/- What the two functions that tell a document's fields answer, for every value. -/
namespace Go.Proofs.Ytklicfcafpehfaa
open Go.RowKit
set_option linter.unusedVariables false

set_option maxRecDepth 4000 in
set_option maxHeartbeats 1000000 in
theorem implFields_bad (k n : Int) (t : ByteArray) (w : World) (hs : t.size ≤ maxLen) (hok : okB ⟨k, n, t⟩ = false) :
    Calls Try.prog 23 #[.agg #[.int .i64 k, .int .i64 n, .string t]] w fun e w' => e = .returned (.tuple #[.slice none 0 0, .int .i64 1]) ∧ Below w.heap.size w w' := by
  go_enter Try.func23, Try.ntmps23
  go_wp2_with (go_at_call 78; refine (valueOK_any k n t _ hs).mono ?_; rintro e w1 ⟨rfl, hb⟩; rw [hok])
  go_ret2
  exact ⟨rfl, ((Below.refl _ _).alloc (Nat.le_refl _) _).trans (hb.mono (by simp))⟩
set_option maxRecDepth 4000 in
set_option maxHeartbeats 1000000 in
theorem implFields_type (k n : Int) (t : ByteArray) (w : World) (hs : t.size ≤ maxLen) (hok : okB ⟨k, n, t⟩ = true) (h5 : k ≠ 5) :
    Calls Try.prog 23 #[.agg #[.int .i64 k, .int .i64 n, .string t]] w fun e w' => e = .returned (.tuple #[.slice none 0 0, .int .i64 8]) ∧ Below w.heap.size w w' := by
  have X0 := Boxed.start w (.int .i64 k) (.int .i64 n) (.string t) 27
  have e5 : (k == 5) = false := beq_eq_false_iff_ne.mpr h5
  go_enter Try.func23, Try.ntmps23
  go_wp2_with (go_at_call 78; refine (valueOK_any k n t _ hs).mono ?_; rintro e w1 ⟨rfl, hb⟩; rw [hok]; have X := Boxed.step (by assumption) hb; have g0 := X.c0; have g1 := X.c1; have g2 := X.c2; clear hb)
  go_ret2
  exact ⟨rfl, X.bel⟩
set_option maxRecDepth 4000 in
set_option maxHeartbeats 1000000 in
theorem implFields_none (n : Int) (t : ByteArray) (w : World) (hs : t.size ≤ 1048576) (hok : okB ⟨5, n, t⟩ = true) (hi : fields t = some []) :
    Calls Try.prog 23 #[.agg #[.int .i64 5, .int .i64 n, .string t]] w fun e w' => e = .returned (.tuple #[.slice none 0 0, .int .i64 0]) ∧ Below w.heap.size w w' := by
  have hm : t.size ≤ maxLen := by unfold maxLen; omega
  have X0 := Boxed.start w (.int .i64 5) (.int .i64 n) (.string t) 27
  have HI : Hid _ := hi
  clear hi
  go_enter Try.func23, Try.ntmps23
  go_wp2_with (first | (go_at_call 78; refine (valueOK_any 5 n t _ hm).mono ?_; rintro e w1 ⟨rfl, hb⟩; rw [hok]; have X := Boxed.step (by assumption) hb; have g0 := X.c0; have g1 := X.c1; have g2 := X.c2; clear hb) | (go_at_call 85; refine (fieldsIn_nil t _ hs HI.out).mono ?_; rintro e w2 ⟨rfl, hb⟩; have X := Boxed.step (by assumption) hb; have g0 := X.c0; have g1 := X.c1; have g2 := X.c2; clear hb))
  refine wp_loop_rounds 1 ?_
  rw [rounds_succ]
  go_wp2_with fail
  go_ret2
  exact ⟨rfl, X.bel⟩
theorem setCell_noop (w : World) (b off : Nat) (v : Value) (h : w.cell? ⟨b, off, none⟩ = some v) : w.setCell ⟨b, off, none⟩ v = w := by
  have hh : (w.setCell ⟨b, off, none⟩ v).heap = w.heap := by
    unfold World.setCell
    apply Array.ext_getElem?
    intro j
    rw [Array.getElem?_modify]
    split
    · rename_i e
      subst e
      unfold World.cell? at h
      cases hb : w.heap[b]? with
      | none => rfl
      | some o =>
        simp only [hb] at h
        cases o with
        | cells c t fr =>
          have hc : c[off]? = some v := by simpa using h
          have : c.setIfInBounds off v = c := by
            apply Array.ext_getElem?
            intro i
            rw [Array.getElem?_setIfInBounds]
            split
            · rename_i e; subst e
              split
              · exact hc.symm
              · rename_i hn; rw [Array.getElem?_eq_none (by omega)]
            · rfl
          simp [this]
        | _ => simp at h
    · rfl
  have e : w.setCell ⟨b, off, none⟩ v = { w with heap := (w.setCell ⟨b, off, none⟩ v).heap } := rfl
  rw [e, hh]
theorem set_sameF (l : List Fld) (k : Nat) (h : k < l.length) : l.set k l[k] = l := by simp

set_option maxRecDepth 4000 in
set_option maxHeartbeats 2000000 in
theorem implFields_some (n : Int) (t : ByteArray) (l : List Fld) (w : World) (hs : t.size ≤ 1048576) (hok : okB ⟨5, n, t⟩ = true) (hi : fields t = some l) (hl : l ≠ []) (hts : ∀ f ∈ l, f.name.size ≤ 1048576 ∧ f.v.t.size ≤ 1048576) (hlen : l.length ≤ 1048576) :
    Calls Try.prog 23 #[.agg #[.int .i64 5, .int .i64 n, .string t]] w fun e w' => (∃ g cap, e = .returned (.tuple #[.slice (some ⟨g, 0, none⟩) l.length cap, .int .i64 0]) ∧ w'.ownsRow w.heap.size 36 4 (.slice (some ⟨g, 0, none⟩) l.length cap) l.length (flatF l)) ∧ Below w.heap.size w w' := by
  have hm : t.size ≤ maxLen := by unfold maxLen; omega
  have X0 := Boxed.start w (.int .i64 5) (.int .i64 n) (.string t) 27
  have HI : Hid _ := hi
  have HN : Hid _ := hl
  have HT : Hid _ := hts
  clear hi hl hts
  go_enter Try.func23, Try.ntmps23
  go_wp2_with fail
  refine (valueOK_any 5 n t _ hm).mono ?_
  rintro e w1 ⟨rfl, hb⟩
  rw [hok]
  have X1 := X0.step hb
  have g0 := X1.c0
  have g2 := X1.c2
  clear hb X0
  go_wp2_with fail
  refine (fieldsIn_cons t l _ hs HI.out HN.out).mono ?_
  rintro e w2 ⟨⟨g, cap, rfl, hown0⟩, hb⟩
  have X2 := X1.step hb
  have hown : w2.ownsRow w.heap.size 36 4 (.slice (some ⟨g, 0, none⟩) l.length cap) l.length (flatF l) := by
    refine ⟨hown0.1, ?_⟩
    rcases hown0.2 with h | ⟨g', cap', cur, h, h2, h3⟩
    · exact .inl h
    · exact .inr ⟨g', cap', cur, h, Nat.le_trans X1.bel.size h2, h3⟩
  have hbw := X2.bel
  clear hb g0 g2 X1 X2 hown0
  go_wp2_with fail
  go_loopw [18] (fun i wr => ∃ k : Nat, k ≤ l.length ∧ i = .int .i64 k ∧ wr.ownsRow w.heap.size 36 4 (.slice (some ⟨g, 0, none⟩) l.length cap) l.length (flatF l) ∧ Below w.heap.size w wr) (fun i _ => l.length - (intOf i).toNat)
  case atStart => exact ⟨0, Nat.zero_le _, rfl, hown, hbw⟩
  case round =>
    obtain ⟨k, hk, rfl, hown2, hbel⟩ := hrel
    clear hown hbw
    have hz := hbel.size
    by_cases hlt : k < l.length
    · have R := ReadF.of_own hown2
      obtain ⟨x0, x1, x2, x3⟩ := R.cells k hlt
      have hgl := R.lt
      have hgb : w.heap.size ≤ g := (hown2.lt g rfl).1
      have hsz := HT.out l[k] (List.getElem_mem _)
      have HO : Hid _ := hown2
      have HB : Hid _ := hbel
      have z0 := World.ownsRow.frozenAt hown2 (k * 4)
      have z1 := World.ownsRow.frozenAt hown2 (k * 4 + 1)
      have z2 := World.ownsRow.frozenAt hown2 (k * 4 + 2)
      have z3 := World.ownsRow.frozenAt hown2 (k * 4 + 3)
      clear hown2 R hbel
      go_wp2_with fail
      obtain ⟨W1, hW1⟩ : ∃ W1, W1 = wr.alloc (.cells #[.string l[k].name, .int .i64 l[k].v.k, .int .i64 l[k].v.n, .string l[k].v.t] 36) := ⟨_, rfl⟩
      have hb1 : Below wr.heap.size wr W1 := by rw [hW1]; exact (Below.refl _ _).alloc (Nat.le_refl _) _
      have hlv : wr.heap.size < W1.heap.size := by rw [hW1]; simp
      have hgl1 : g < W1.heap.size := by omega
      have v0 : ∀ u : Under W1, u.x.cell? ⟨wr.heap.size, 0, none⟩ = some (.string l[k].name) := fun u => (u.h.cell hlv).trans (by rw [hW1]; simp [go_sem])
      have v1 : ∀ u : Under W1, u.x.cell? ⟨wr.heap.size, 1, none⟩ = some (.int .i64 l[k].v.k) := fun u => (u.h.cell hlv).trans (by rw [hW1]; simp [go_sem])
      have v2 : ∀ u : Under W1, u.x.cell? ⟨wr.heap.size, 2, none⟩ = some (.int .i64 l[k].v.n) := fun u => (u.h.cell hlv).trans (by rw [hW1]; simp [go_sem])
      have v3 : ∀ u : Under W1, u.x.cell? ⟨wr.heap.size, 3, none⟩ = some (.string l[k].v.t) := fun u => (u.h.cell hlv).trans (by rw [hW1]; simp [go_sem])
      have q0 : ∀ u : Under W1, u.x.cell? ⟨g, k * 4, none⟩ = some (.string l[k].name) := fun u => (u.h.cell hgl1).trans ((hb1.cell hgl).trans x0)
      have q1 : ∀ u : Under W1, u.x.cell? ⟨g, k * 4 + 1, none⟩ = some (.int .i64 l[k].v.k) := fun u => (u.h.cell hgl1).trans ((hb1.cell hgl).trans x1)
      have q2 : ∀ u : Under W1, u.x.cell? ⟨g, k * 4 + 2, none⟩ = some (.int .i64 l[k].v.n) := fun u => (u.h.cell hgl1).trans ((hb1.cell hgl).trans x2)
      have q3 : ∀ u : Under W1, u.x.cell? ⟨g, k * 4 + 3, none⟩ = some (.string l[k].v.t) := fun u => (u.h.cell hgl1).trans ((hb1.cell hgl).trans x3)
      have f0 : ∀ u : Under W1, u.x.frozen? ⟨g, k * 4, none⟩ = false := fun u => (u.h.frozen hgl1).trans ((hb1.frozen hgl).trans z0)
      have f1 : ∀ u : Under W1, u.x.frozen? ⟨g, k * 4 + 1, none⟩ = false := fun u => (u.h.frozen hgl1).trans ((hb1.frozen hgl).trans z1)
      have f2 : ∀ u : Under W1, u.x.frozen? ⟨g, k * 4 + 2, none⟩ = false := fun u => (u.h.frozen hgl1).trans ((hb1.frozen hgl).trans z2)
      have f3 : ∀ u : Under W1, u.x.frozen? ⟨g, k * 4 + 3, none⟩ = false := fun u => (u.h.frozen hgl1).trans ((hb1.frozen hgl).trans z3)
      have s0 : ∀ u : Under W1, u.x.setCell ⟨g, k * 4, none⟩ (.string l[k].name) = u.x := fun u => setCell_noop _ _ _ _ (q0 u)
      have s1 : ∀ u : Under W1, u.x.setCell ⟨g, k * 4 + 1, none⟩ (.int .i64 l[k].v.k) = u.x := fun u => setCell_noop _ _ _ _ (q1 u)
      have s2 : ∀ u : Under W1, u.x.setCell ⟨g, k * 4 + 2, none⟩ (.int .i64 l[k].v.n) = u.x := fun u => setCell_noop _ _ _ _ (q2 u)
      have s3 : ∀ u : Under W1, u.x.setCell ⟨g, k * 4 + 3, none⟩ (.string l[k].v.t) = u.x := fun u => setCell_noop _ _ _ _ (q3 u)
      have hnu : Nonempty (Under W1) := ⟨⟨W1, Below.refl _ _⟩⟩
      have hk1 : (k : Int) < (l.length : Int) := by omega
      have hO1 : W1.ownsRow w.heap.size 36 4 (.slice (some ⟨g, 0, none⟩) l.length cap) l.length (flatF l) := owns_below HO.out hb1
      have HO1 : Hid _ := hO1
      have HB1 : Hid _ := HB.out.trans (hb1.mono hz)
      rw [← hW1]
      obtain ⟨hn1, hn2⟩ := hsz
      clear hW1 x0 x1 x2 x3 z0 z1 z2 z3 hO1 hb1 HO HB
      refine wp_region_under (by kernel_rfl) (by kernel_rfl) ?_
      repeat (go_big_quiet_step ((first | (go_at_call 86; exact calls_under _ (strClone_any l[k].name _ hn1)) | (go_at_call 80; exact calls_under _ (ownValue_any l[k].v.k l[k].v.n l[k].v.t _ hn2)))))
      refine wpQuiet_nil ?_
      rintro _ ⟨u, rfl⟩
      go_wp2_with fail
      go_roundw
      case rel => exact ⟨k + 1, by omega, by go_num, owns_below HO1.out u.h, HB1.out.trans (u.h.mono HB1.out.size)⟩
      case measure => simp [intOf]; omega
    · go_wp2_with fail
      go_ret2
      exact ⟨⟨g, cap, rfl, hown2⟩, hbel⟩

theorem Boxed.keep {w W W' : World} {base : Nat} {a b c : Value} (h : Boxed w W a b c) (hb : Below base W W') (hlt : w.heap.size < base) : Boxed w W' a b c :=
  ⟨h.bel.trans (hb.mono (Nat.le_of_lt hlt)), Nat.lt_of_lt_of_le h.lt hb.size, (hb.cell hlt).trans h.c0, (hb.cell hlt).trans h.c1, (hb.cell hlt).trans h.c2⟩

end Go.Proofs.Ytklicfcafpehfaa
