/- The id of a document: what the program and the specification answer, for every value. -/
import Derived.Test.YtkafanjfjplakaaGreatDoorDocB
import Derived.Test.YtkafanjfjplakaaGreatDoorGetS
import Derived.Test.YtkafanjfjplakaaGreatDoorFindW
namespace Go.Proofs.YtkafanjfjplakaaGreatDoor
open Go.RowKit
set_option linter.unusedVariables false

def idN : ByteArray := ⟨#[105, 100]⟩
/-- A value that is an id. -/
def idGood (x : Val) : Prop := x.k = 2 ∧ 0 ≤ x.n ∧ x.n ≤ 99
instance (x : Val) : Decidable (idGood x) := by unfold idGood; infer_instance
/-- The id of a document, -1 without a right one. -/
def idP (v : Val) : Int := match fieldV idN (flds v) with | some x => if idGood x then x.n else -1 | none => -1
theorem idP_none (v : Val) (h : fieldV idN (flds v) = none) : idP v = -1 := by unfold idP; rw [h]
theorem idP_good (v x : Val) (h : fieldV idN (flds v) = some x) (hg : idGood x) : idP v = x.n := by unfold idP; rw [h]; exact if_pos hg
theorem idP_bad (v x : Val) (h : fieldV idN (flds v) = some x) (hg : ¬ idGood x) : idP v = -1 := by unfold idP; rw [h]; exact if_neg hg
theorem idP_range (v : Val) : -1 ≤ idP v ∧ idP v ≤ 99 := by
  unfold idP
  split
  · split
    · rename_i h; unfold idGood at h; omega
    · omega
  · omega
/-- The answer of IdOf: the id, and a code. -/
def idR (v : Val) : Int × Int := if docB v = true then (if idP v < 0 then (0, 5) else (idP v, 0)) else (0, 1)
theorem docB_five (v : Val) (h : docB v = true) : v.k = 5 := by unfold docB at h; rw [Bool.and_eq_true, decide_eq_true_eq] at h; exact h.1
theorem docB_parts (v : Val) (h : docB v = true) : v.t.size ≤ 300 ∧ fields v.t = some (flds v) ∧ (flds v).length ≤ 300 ∧ Rise (flds v) := by
  have := doc_parts 5 v (docB_ok v h) (docB_five v h)
  exact ⟨this.1, this.2.1, this.2.2.1, this.2.2.2.1⟩

set_option maxRecDepth 4000 in
set_option maxHeartbeats 1000000 in
theorem l06Id_any (v : Val) (w : World) (hd : docB v = true) :
    Calls Tryz.prog 157 #[.agg #[.int .i64 v.k, .int .i64 v.n, .string v.t]] w fun e w' => e = .returned (.int .i64 (idP v)) ∧ Below w.heap.size w w' := by
  obtain ⟨h1, h2, h3, _⟩ := docB_parts v hd
  have X0 := Boxed.start w (.int .i64 v.k) (.int .i64 v.n) (.string v.t) 43
  have HC : Hid (∀ W : World, Calls _ _ _ W _) := fun W => l02Field_any v.k v.n v.t idN (flds v) W (by omega) h2 (by omega)
  clear h1 h2 h3 hd
  cases hf : fieldV idN (flds v) with
  | none =>
    rw [idP_none v hf]
    rw [fieldR_none idN (flds v) hf] at HC
    clear hf
    go_enter Tryz.func157, Tryz.ntmps157
    go_wp2_with fail
    refine (HC.out _).mono ?_
    rintro e w1 ⟨rfl, hb⟩
    have hbw := (X0.step hb).bel
    have hz := hbw.size
    clear hb
    go_wp2_with fail
    go_ret
    exact ⟨rfl, by (repeat (first | (with_reducible exact Below.refl _ _) | (with_reducible assumption) | (with_reducible apply below_drewN) | (with_reducible apply Below.drew) | ((with_reducible refine Below.setCell ?_ ?_ _); rotate_left; focus (first | (simp; done) | (simp; omega) | omega)) | ((with_reducible refine Below.alloc ?_ ?_ _); rotate_left; focus (first | (simp; done) | (simp; omega) | omega))))⟩
  | some x =>
    rw [fieldR_some idN (flds v) x hf] at HC
    by_cases hk : x.k = 2
    · have e1 : (x.k == 2) = true := by simp [hk]
      have e1n : (x.k != 2) = false := by simp [hk]
      by_cases hn : 0 ≤ x.n ∧ x.n ≤ 99
      · rw [idP_good v x hf ⟨hk, hn.1, hn.2⟩]
        have e2 : decide (0 ≤ x.n ∧ x.n ≤ 99) = true := by simp [hn]
        clear hf
        go_enter Tryz.func157, Tryz.ntmps157
        go_wp2_with fail
        refine (HC.out _).mono ?_
        rintro e w1 ⟨rfl, hb⟩
        have hbw := (X0.step hb).bel
        have hz := hbw.size
        clear hb
        go_wp2_with fail
        refine (l01In_any x.n 0 99 _).mono ?_
        rintro e w2 ⟨rfl, rfl⟩
        go_wp2_with fail
        go_ret
        exact ⟨rfl, by (repeat (first | (with_reducible exact Below.refl _ _) | (with_reducible assumption) | (with_reducible apply below_drewN) | (with_reducible apply Below.drew) | ((with_reducible refine Below.setCell ?_ ?_ _); rotate_left; focus (first | (simp; done) | (simp; omega) | omega)) | ((with_reducible refine Below.alloc ?_ ?_ _); rotate_left; focus (first | (simp; done) | (simp; omega) | omega))))⟩
      · rw [idP_bad v x hf (fun h => hn ⟨h.2.1, h.2.2⟩)]
        have e2 : decide (0 ≤ x.n ∧ x.n ≤ 99) = false := by simp; omega
        clear hf
        go_enter Tryz.func157, Tryz.ntmps157
        go_wp2_with fail
        refine (HC.out _).mono ?_
        rintro e w1 ⟨rfl, hb⟩
        have hbw := (X0.step hb).bel
        have hz := hbw.size
        clear hb
        go_wp2_with fail
        refine (l01In_any x.n 0 99 _).mono ?_
        rintro e w2 ⟨rfl, rfl⟩
        go_wp2_with fail
        go_ret
        exact ⟨rfl, by (repeat (first | (with_reducible exact Below.refl _ _) | (with_reducible assumption) | (with_reducible apply below_drewN) | (with_reducible apply Below.drew) | ((with_reducible refine Below.setCell ?_ ?_ _); rotate_left; focus (first | (simp; done) | (simp; omega) | omega)) | ((with_reducible refine Below.alloc ?_ ?_ _); rotate_left; focus (first | (simp; done) | (simp; omega) | omega))))⟩
    · have e1 : (x.k == 2) = false := beq_eq_false_iff_ne.mpr hk
      have e1n : (x.k != 2) = true := by simp [hk]
      rw [idP_bad v x hf (fun h => hk h.1)]
      clear hf
      go_enter Tryz.func157, Tryz.ntmps157
      go_wp2_with fail
      refine (HC.out _).mono ?_
      rintro e w1 ⟨rfl, hb⟩
      have hbw := (X0.step hb).bel
      have hz := hbw.size
      clear hb
      go_wp2_with fail
      go_ret
      exact ⟨rfl, by (repeat (first | (with_reducible exact Below.refl _ _) | (with_reducible assumption) | (with_reducible apply below_drewN) | (with_reducible apply Below.drew) | ((with_reducible refine Below.setCell ?_ ?_ _); rotate_left; focus (first | (simp; done) | (simp; omega) | omega)) | ((with_reducible refine Below.alloc ?_ ?_ _); rotate_left; focus (first | (simp; done) | (simp; omega) | omega))))⟩

set_option maxRecDepth 4000 in
set_option maxHeartbeats 1000000 in
theorem idOf_any (v : Val) (w : World) (hs : v.t.size ≤ 1048576) :
    Calls Tryz.prog 168 #[.agg #[.int .i64 v.k, .int .i64 v.n, .string v.t]] w fun e w' => e = .returned (.tuple #[.int .i64 (idR v).1, .int .i64 (idR v).2]) ∧ Below w.heap.size w w' := by
  have X0 := Boxed.start w (.int .i64 v.k) (.int .i64 v.n) (.string v.t) 43
  have HC : Hid (∀ W : World, Calls _ _ _ W _) := fun W => documentOK_any v W hs
  obtain ⟨r, hr⟩ : ∃ r, r = idR v := ⟨_, rfl⟩
  rw [← hr]
  have HR : Hid (r = idR v) := hr
  clear hr
  cases hd : docB v with
  | false =>
    have e : idR v = (0, 1) := by unfold idR; rw [hd]; rfl
    rw [HR.out, e]
    rw [hd] at HC
    clear e hd HR
    go_enter Tryz.func168, Tryz.ntmps168
    go_wp2_with fail
    refine (HC.out _).mono ?_
    rintro e w1 ⟨rfl, hb⟩
    have hbw := (X0.step hb).bel
    clear hb
    go_wp2_with fail
    go_ret2
    exact ⟨rfl, hbw⟩
  | true =>
    obtain ⟨h1, h2, h3, h4⟩ := docB_parts v hd
    have HF : Hid (∀ W : World, Calls _ _ _ W _) := fun W => fieldsIn_row v.t (flds v) W (by omega) h2
    have HRI : Hid (Rise (flds v)) := h4
    have HD : Hid (docB v = true) := hd
    rw [hd] at HC
    clear hd h2 h4 h1
    go_enter Tryz.func168, Tryz.ntmps168
    go_wp2_with fail
    refine (HC.out _).mono ?_
    rintro e w1 ⟨rfl, hb⟩
    have X1 := X0.step hb
    have c2 := X1.c2
    clear hb
    go_wp2_with fail
    refine (HF.out _).mono ?_
    rintro e w2 ⟨⟨p, cap, rfl, hrow⟩, hb⟩
    have X2 := X1.step hb
    clear hb X1 c2
    go_wp2_with fail
    refine (fieldPlace_any p cap (flds v) idN _ hrow HRI.out (by omega)).mono ?_
    rintro e w3 ⟨⟨i, b, rfl, hp⟩, hb⟩
    have X3 := X2.step hb
    have hrow3 := hrow.next hb
    have hbw := X3.bel
    have hz := hbw.size
    clear hb X2 hrow
    cases b with
    | false =>
      have hf := hp.none HRI.out
      have e : r = (0, 5) := by rw [HR.out]; unfold idR; rw [HD.out, idP_none v hf]; rfl
      subst e
      clear hf hp X3 hrow3
      go_wp2_with fail
      go_ret2
      exact ⟨rfl, hbw⟩
    | true =>
      obtain ⟨hi, _, hf⟩ := hp.some
      rcases hrow3 with hn | ⟨g, rfl, R⟩
      · rw [hn] at hi; simp at hi
      obtain ⟨x0, x1, x2, x3⟩ := R.cells i hi
      have hgl := R.lt
      have hi2 : (i : Int) < ((flds v).length : Int) := by omega
      obtain ⟨x, hx⟩ : ∃ x, x = (flds v)[i].v := ⟨_, rfl⟩
      rw [← hx] at x1 x2 x3 hf
      have HX : Hid (fieldV idN (flds v) = some x) := hf
      clear hf hp hx R X3 x0
      by_cases hk : x.k = 2
      · have e1 : (x.k == 2) = true := by simp [hk]
        have e1n : (x.k != 2) = false := by simp [hk]
        by_cases hn1 : x.n < 0
        · have e : r = (0, 5) := by
            rw [HR.out]; unfold idR
            rw [HD.out, idP_bad v x HX.out (fun h => by have := h.2.1; omega)]; rfl
          subst e
          skip
          go_wp2_with fail
          go_ret2
          exact ⟨rfl, by (repeat (first | (with_reducible exact Below.refl _ _) | (with_reducible assumption) | (with_reducible apply below_drewN) | (with_reducible apply Below.drew) | ((with_reducible refine Below.setCell ?_ ?_ _); rotate_left; focus (first | (simp; done) | (simp; omega) | omega)) | ((with_reducible refine Below.alloc ?_ ?_ _); rotate_left; focus (first | (simp; done) | (simp; omega) | omega))))⟩
        · by_cases hn2 : (99 : Int) < x.n
          · have e : r = (0, 5) := by
              rw [HR.out]; unfold idR
              rw [HD.out, idP_bad v x HX.out (fun h => by have := h.2.2; omega)]; rfl
            subst e
            skip
            go_wp2_with fail
            go_ret2
            exact ⟨rfl, by (repeat (first | (with_reducible exact Below.refl _ _) | (with_reducible assumption) | (with_reducible apply below_drewN) | (with_reducible apply Below.drew) | ((with_reducible refine Below.setCell ?_ ?_ _); rotate_left; focus (first | (simp; done) | (simp; omega) | omega)) | ((with_reducible refine Below.alloc ?_ ?_ _); rotate_left; focus (first | (simp; done) | (simp; omega) | omega))))⟩
          · have e : r = (x.n, 0) := by
              rw [HR.out]; unfold idR
              rw [HD.out, idP_good v x HX.out ⟨hk, by omega, by omega⟩]
              exact (if_pos rfl).trans (if_neg hn1)
            subst e
            skip
            go_wp2_with fail
            go_ret2
            exact ⟨rfl, by (repeat (first | (with_reducible exact Below.refl _ _) | (with_reducible assumption) | (with_reducible apply below_drewN) | (with_reducible apply Below.drew) | ((with_reducible refine Below.setCell ?_ ?_ _); rotate_left; focus (first | (simp; done) | (simp; omega) | omega)) | ((with_reducible refine Below.alloc ?_ ?_ _); rotate_left; focus (first | (simp; done) | (simp; omega) | omega))))⟩
      · have e1 : (x.k == 2) = false := beq_eq_false_iff_ne.mpr hk
        have e1n : (x.k != 2) = true := by simp [hk]
        have e : r = (0, 5) := by
          rw [HR.out]; unfold idR
          rw [HD.out, idP_bad v x HX.out (fun h => hk h.1)]; rfl
        subst e
        skip
        go_wp2_with fail
        go_ret2
        exact ⟨rfl, by (repeat (first | (with_reducible exact Below.refl _ _) | (with_reducible assumption) | (with_reducible apply below_drewN) | (with_reducible apply Below.drew) | ((with_reducible refine Below.setCell ?_ ?_ _); rotate_left; focus (first | (simp; done) | (simp; omega) | omega)) | ((with_reducible refine Below.alloc ?_ ?_ _); rotate_left; focus (first | (simp; done) | (simp; omega) | omega))))⟩

end Go.Proofs.YtkafanjfjplakaaGreatDoor
