/- What the two functions that tell a list's items answer, for every value. -/
import Derived.Test.YtkdigdoomnafbaaMarks
import Derived.Test.YtkdigdoomnafbaaDepthM
namespace Go.Proofs.Ytkdigdoomnafbaa
open Go.RowKit
set_option linter.unusedVariables false

set_option maxRecDepth 4000 in
set_option maxHeartbeats 1000000 in
theorem implItems_bad (k n : Int) (t : ByteArray) (w : World) (hs : t.size ≤ maxLen) (hok : okB ⟨k, n, t⟩ = false) :
    Calls Try.prog 34 #[.agg #[.int .i64 k, .int .i64 n, .string t]] w fun e w' => e = .returned (.tuple #[.slice none 0 0, .int .i64 1]) ∧ Below w.heap.size w w' := by
  go_enter Try.func34, Try.ntmps34
  go_wp2_with (go_at_call 18; refine (valueOK_any k n t _ hs).mono ?_; rintro e w1 ⟨rfl, hb⟩; rw [hok])
  go_ret2
  exact ⟨rfl, ((Below.refl _ _).alloc (Nat.le_refl _) _).trans (hb.mono (by simp))⟩
set_option maxRecDepth 4000 in
set_option maxHeartbeats 1000000 in
theorem implItems_type (k n : Int) (t : ByteArray) (w : World) (hs : t.size ≤ maxLen) (hok : okB ⟨k, n, t⟩ = true) (h4 : k ≠ 4) :
    Calls Try.prog 34 #[.agg #[.int .i64 k, .int .i64 n, .string t]] w fun e w' => e = .returned (.tuple #[.slice none 0 0, .int .i64 8]) ∧ Below w.heap.size w w' := by
  have X0 := Boxed.start w (.int .i64 k) (.int .i64 n) (.string t) 27
  have e4 : (k == 4) = false := beq_eq_false_iff_ne.mpr h4
  go_enter Try.func34, Try.ntmps34
  go_wp2_with (go_at_call 18; refine (valueOK_any k n t _ hs).mono ?_; rintro e w1 ⟨rfl, hb⟩; rw [hok]; have X := Boxed.step (by assumption) hb; have g0 := X.c0; have g1 := X.c1; have g2 := X.c2; clear hb)
  go_ret2
  exact ⟨rfl, X.bel⟩
set_option maxRecDepth 4000 in
set_option maxHeartbeats 1000000 in
theorem implItems_none (n : Int) (t : ByteArray) (w : World) (hs : t.size ≤ 1048576) (hok : okB ⟨4, n, t⟩ = true) (hi : items t = some []) :
    Calls Try.prog 34 #[.agg #[.int .i64 4, .int .i64 n, .string t]] w fun e w' => e = .returned (.tuple #[.slice none 0 0, .int .i64 0]) ∧ Below w.heap.size w w' := by
  have hm : t.size ≤ maxLen := by unfold maxLen; omega
  have X0 := Boxed.start w (.int .i64 4) (.int .i64 n) (.string t) 27
  have HI : Hid _ := hi
  clear hi
  go_enter Try.func34, Try.ntmps34
  go_wp2_with (first | (go_at_call 18; refine (valueOK_any 4 n t _ hm).mono ?_; rintro e w1 ⟨rfl, hb⟩; rw [hok]; have X := Boxed.step (by assumption) hb; have g0 := X.c0; have g1 := X.c1; have g2 := X.c2; clear hb) | (go_at_call 66; refine (itemsIn_nil t _ hs HI.out).mono ?_; rintro e w2 ⟨rfl, hb⟩; have X := Boxed.step (by assumption) hb; have g0 := X.c0; have g1 := X.c1; have g2 := X.c2; clear hb))
  refine wp_loop_rounds 1 ?_
  rw [rounds_succ]
  go_wp2_with fail
  go_ret2
  exact ⟨rfl, X.bel⟩
theorem set_same (l : List Val) (k : Nat) (h : k < l.length) : l.set k l[k] = l := by simp
set_option maxRecDepth 4000 in
set_option maxHeartbeats 2000000 in
theorem implItems_some (n : Int) (t : ByteArray) (l : List Val) (w : World) (hs : t.size ≤ 1048576) (hok : okB ⟨4, n, t⟩ = true) (hi : items t = some l) (hl : l ≠ []) (hts : ∀ v ∈ l, v.t.size ≤ 1048576) (hlen : l.length ≤ 1048576) :
    Calls Try.prog 34 #[.agg #[.int .i64 4, .int .i64 n, .string t]] w fun e w' => (∃ g cap, e = .returned (.tuple #[.slice (some ⟨g, 0, none⟩) l.length cap, .int .i64 0]) ∧ w'.ownsRow w.heap.size 27 3 (.slice (some ⟨g, 0, none⟩) l.length cap) l.length (flat l)) ∧ Below w.heap.size w w' := by
  have hm : t.size ≤ maxLen := by unfold maxLen; omega
  have X0 := Boxed.start w (.int .i64 4) (.int .i64 n) (.string t) 27
  have HI : Hid _ := hi
  have HN : Hid _ := hl
  have HT : Hid _ := hts
  clear hi hl hts
  go_enter Try.func34, Try.ntmps34
  go_wp2_with fail
  refine (valueOK_any 4 n t _ hm).mono ?_
  rintro e w1 ⟨rfl, hb⟩
  rw [hok]
  have X1 := X0.step hb
  have g0 := X1.c0
  have g2 := X1.c2
  clear hb X0
  go_wp2_with fail
  refine (itemsIn_cons t l _ hs HI.out HN.out).mono ?_
  rintro e w2 ⟨⟨g, cap, rfl, hown0⟩, hb⟩
  have X2 := X1.step hb
  have hown : w2.ownsRow w.heap.size 27 3 (.slice (some ⟨g, 0, none⟩) l.length cap) l.length (flat l) := by
    refine ⟨hown0.1, ?_⟩
    rcases hown0.2 with h | ⟨g', cap', cur, h, h2, h3⟩
    · exact .inl h
    · exact .inr ⟨g', cap', cur, h, Nat.le_trans X1.bel.size h2, h3⟩
  have hbw := X2.bel
  clear hb g0 g2 X1 X2 hown0
  go_wp2_with fail
  go_loopw [18] (fun i wr => ∃ k : Nat, k ≤ l.length ∧ i = .int .i64 k ∧ wr.ownsRow w.heap.size 27 3 (.slice (some ⟨g, 0, none⟩) l.length cap) l.length (flat l) ∧ Below w.heap.size w wr) (fun i _ => l.length - (intOf i).toNat)
  case atStart => exact ⟨0, Nat.zero_le _, rfl, hown, hbw⟩
  case round =>
    obtain ⟨k, hk, rfl, hown2, hbel⟩ := hrel
    clear hown hbw
    have hz := hbel.size
    by_cases hlt : k < l.length
    · have R := ReadV.of_own hown2
      obtain ⟨x0, x1, x2⟩ := R.cells k hlt
      have hgl := R.lt
      have hgb : w.heap.size ≤ g := (hown2.lt g rfl).1
      have hsz := HT.out l[k] (List.getElem_mem _)
      have HO : Hid _ := hown2
      have HB : Hid _ := hbel
      clear hown2 R hbel
      go_wp2_with fail
      refine (ownValue_any _ _ _ _ hsz).mono ?_
      rintro e w3 ⟨rfl, hb⟩
      have hown3 := owns_below (World.ownsRow.alloc HO.out _) hb
      have y0 := owns_cell hown3 _ _ (flat_get l k hlt).1
      have y1 := owns_cell hown3 _ _ (flat_get l k hlt).2.1
      have y2 := owns_cell hown3 _ _ (flat_get l k hlt).2.2
      have f0 := World.ownsRow.frozenAt hown3 (k * 3)
      have f1 := World.ownsRow.frozenAt hown3 (k * 3 + 1)
      have f2 := World.ownsRow.frozenAt hown3 (k * 3 + 2)
      have hst := (World.ownsRow.stored ((World.ownsRow.stored ((World.ownsRow.stored hown3 (k * 3) (.int .i64 l[k].k)).1) (k * 3 + 1) (.int .i64 l[k].n)).1) (k * 3 + 2) (.string l[k].t)).1
      rw [flat_set _ _ _ hlt, set_same l k hlt] at hst
      have HS : Hid _ := hst
      have hb3 : Below w.heap.size w w3 := (HB.out.alloc hz _).trans (hb.mono (by simp; omega))
      have hz3 := hb3.size
      have HB3 : Hid _ := hb3
      clear hst hown3 hb hb3
      go_wp2_with fail
      go_roundw
      case rel => exact ⟨k + 1, by omega, by go_num, HS.out, ((HB3.out.setCell hgb _).setCell hgb _).setCell hgb _⟩
      case measure => simp [intOf]; omega
    · go_wp2_with fail
      go_ret2
      exact ⟨⟨g, cap, rfl, hown2⟩, hbel⟩

set_option maxRecDepth 4000 in
set_option maxHeartbeats 1000000 in
theorem specItems_bad (k n : Int) (t : ByteArray) (w : World) (hs : t.size ≤ 1048576) (hok : okB ⟨k, n, t⟩ = false) :
    Calls Try.prog 33 #[.agg #[.int .i64 k, .int .i64 n, .string t]] w fun e w' => (∃ g cap, e = .returned (.tuple #[.slice (some ⟨g, 0, none⟩) 0 cap, .int .i64 1])) ∧ Below w.heap.size w w' := by
  go_enter Try.func33, Try.ntmps33
  go_wp2_with (go_at_call 16; refine (specValueOK_any k n t _ hs).mono ?_; rintro e w1 ⟨rfl, hb⟩; rw [hok])
  go_ret2
  have hbw : Below w.heap.size w w1 := ((Below.refl _ _).alloc (Nat.le_refl _) _).trans (hb.mono (by simp))
  have hz := hbw.size
  clear hb
  exact ⟨⟨_, _, rfl⟩, by (repeat (first | (with_reducible exact Below.refl _ _) | (with_reducible assumption) | (with_reducible apply below_drewN) | (with_reducible apply Below.drew) | ((with_reducible refine Below.setCell ?_ ?_ _); rotate_left; focus (first | (simp; done) | (simp; omega) | omega)) | ((with_reducible refine Below.alloc ?_ ?_ _); rotate_left; focus (first | (simp; done) | (simp; omega) | omega))))⟩
set_option maxRecDepth 4000 in
set_option maxHeartbeats 1000000 in
theorem specItems_type (k n : Int) (t : ByteArray) (w : World) (hs : t.size ≤ 1048576) (hok : okB ⟨k, n, t⟩ = true) (h4 : k ≠ 4) :
    Calls Try.prog 33 #[.agg #[.int .i64 k, .int .i64 n, .string t]] w fun e w' => (∃ g cap, e = .returned (.tuple #[.slice (some ⟨g, 0, none⟩) 0 cap, .int .i64 8])) ∧ Below w.heap.size w w' := by
  have X0 := Boxed.start w (.int .i64 k) (.int .i64 n) (.string t) 27
  have e4 : (k == 4) = false := beq_eq_false_iff_ne.mpr h4
  go_enter Try.func33, Try.ntmps33
  go_wp2_with (go_at_call 16; refine (specValueOK_any k n t _ hs).mono ?_; rintro e w1 ⟨rfl, hb⟩; rw [hok]; have X := Boxed.step (by assumption) hb; have g0 := X.c0; have g1 := X.c1; have g2 := X.c2; clear hb)
  go_ret2
  have hbw := X.bel
  have hz := hbw.size
  clear X X0
  exact ⟨⟨_, _, rfl⟩, by (repeat (first | (with_reducible exact Below.refl _ _) | (with_reducible assumption) | (with_reducible apply below_drewN) | (with_reducible apply Below.drew) | ((with_reducible refine Below.setCell ?_ ?_ _); rotate_left; focus (first | (simp; done) | (simp; omega) | omega)) | ((with_reducible refine Below.alloc ?_ ?_ _); rotate_left; focus (first | (simp; done) | (simp; omega) | omega))))⟩
set_option maxRecDepth 4000 in
set_option maxHeartbeats 1000000 in
theorem specItems_some (n : Int) (t : ByteArray) (l : List Val) (w : World) (hs : t.size ≤ 1048576) (hok : okB ⟨4, n, t⟩ = true) (hi : items t = some l) :
    Calls Try.prog 33 #[.agg #[.int .i64 4, .int .i64 n, .string t]] w fun e w' => (∃ g cap, e = .returned (.tuple #[.slice (some ⟨g, 0, none⟩) l.length cap, .int .i64 0]) ∧ ReadV w' g l) ∧ Below w.heap.size w w' := by
  have X0 := Boxed.start w (.int .i64 4) (.int .i64 n) (.string t) 27
  have HI : Hid _ := hi
  clear hi
  go_enter Try.func33, Try.ntmps33
  go_wp2_with fail
  refine (specValueOK_any 4 n t _ hs).mono ?_
  rintro e w1 ⟨rfl, hb⟩
  rw [hok]
  have X1 := X0.step hb
  have g0 := X1.c0
  have g2 := X1.c2
  clear hb X0
  go_wp2_with fail
  refine (l01Items_any t _ hs).mono ?_
  rintro e w2 ⟨⟨g, m, cap, rfl, hown0⟩, hb⟩
  obtain ⟨rfl, hown⟩ := hown0 l HI.out
  clear hown0
  rw [HI.out]
  have X2 := X1.step hb
  clear hb g0 g2 X1
  go_wp2_with fail
  go_ret2
  exact ⟨⟨g, cap, rfl, ReadV.of_own hown⟩, X2.bel⟩

theorem Boxed.under {w W W' : World} {base : Nat} {a b c : Value} (h : Boxed w W a b c) (hb : Below base W W') (hlt : w.heap.size < base) : Boxed w W' a b c :=
  ⟨h.bel.trans (hb.mono (Nat.le_of_lt hlt)), Nat.lt_of_lt_of_le h.lt hb.size, (hb.cell hlt).trans h.c0, (hb.cell hlt).trans h.c1, (hb.cell hlt).trans h.c2⟩
theorem readMarks {w : World} {base g c : Nat} (n : Nat) (h : w.ownsRow base 27 3 (.slice (some ⟨g, 0, none⟩) n c) n (flat (marks n))) : ReadV w g (marks n) :=
  ReadV.of_own (l := marks n) (cap := c) (base := base) (by rw [marks_len]; exact h)

end Go.Proofs.Ytkdigdoomnafbaa
