/- What the two functions that tell a list's items answer, for every value. -/
import Derived.Test.YtklicfcafpehfaaMarks
import Derived.Test.YtklicfcafpehfaaDepthM
import Derived.Test.YtklicfcafpehfaaListS
import Derived.BigQuiet
namespace Go.Proofs.Ytklicfcafpehfaa
open Go.RowKit
set_option linter.unusedVariables false

set_option maxRecDepth 4000 in
set_option maxHeartbeats 1000000 in
theorem implItems_bad (k n : Int) (t : ByteArray) (w : World) (hs : t.size ≤ maxLen) (hok : okB ⟨k, n, t⟩ = false) :
    Calls Try.prog 19 #[.agg #[.int .i64 k, .int .i64 n, .string t]] w fun e w' => e = .returned (.tuple #[.slice none 0 0, .int .i64 1]) ∧ Below w.heap.size w w' := by
  go_enter Try.func19, Try.ntmps19
  go_wp2_with (go_at_call 78; refine (valueOK_any k n t _ hs).mono ?_; rintro e w1 ⟨rfl, hb⟩; rw [hok])
  go_ret2
  exact ⟨rfl, ((Below.refl _ _).alloc (Nat.le_refl _) _).trans (hb.mono (by simp))⟩
set_option maxRecDepth 4000 in
set_option maxHeartbeats 1000000 in
theorem implItems_type (k n : Int) (t : ByteArray) (w : World) (hs : t.size ≤ maxLen) (hok : okB ⟨k, n, t⟩ = true) (h4 : k ≠ 4) :
    Calls Try.prog 19 #[.agg #[.int .i64 k, .int .i64 n, .string t]] w fun e w' => e = .returned (.tuple #[.slice none 0 0, .int .i64 8]) ∧ Below w.heap.size w w' := by
  have X0 := Boxed.start w (.int .i64 k) (.int .i64 n) (.string t) 27
  have e4 : (k == 4) = false := beq_eq_false_iff_ne.mpr h4
  go_enter Try.func19, Try.ntmps19
  go_wp2_with (go_at_call 78; refine (valueOK_any k n t _ hs).mono ?_; rintro e w1 ⟨rfl, hb⟩; rw [hok]; have X := Boxed.step (by assumption) hb; have g0 := X.c0; have g1 := X.c1; have g2 := X.c2; clear hb)
  go_ret2
  exact ⟨rfl, X.bel⟩
set_option maxRecDepth 4000 in
set_option maxHeartbeats 1000000 in
theorem implItems_none (n : Int) (t : ByteArray) (w : World) (hs : t.size ≤ 1048576) (hok : okB ⟨4, n, t⟩ = true) (hi : items t = some []) :
    Calls Try.prog 19 #[.agg #[.int .i64 4, .int .i64 n, .string t]] w fun e w' => e = .returned (.tuple #[.slice none 0 0, .int .i64 0]) ∧ Below w.heap.size w w' := by
  have hm : t.size ≤ maxLen := by unfold maxLen; omega
  have X0 := Boxed.start w (.int .i64 4) (.int .i64 n) (.string t) 27
  have HI : Hid _ := hi
  clear hi
  go_enter Try.func19, Try.ntmps19
  go_wp2_with (first | (go_at_call 78; refine (valueOK_any 4 n t _ hm).mono ?_; rintro e w1 ⟨rfl, hb⟩; rw [hok]; have X := Boxed.step (by assumption) hb; have g0 := X.c0; have g1 := X.c1; have g2 := X.c2; clear hb) | (go_at_call 79; refine (itemsIn_nil t _ hs HI.out).mono ?_; rintro e w2 ⟨rfl, hb⟩; have X := Boxed.step (by assumption) hb; have g0 := X.c0; have g1 := X.c1; have g2 := X.c2; clear hb))
  refine wp_loop_rounds 1 ?_
  rw [rounds_succ]
  go_wp2_with fail
  go_ret2
  exact ⟨rfl, X.bel⟩
theorem set_same (l : List Val) (k : Nat) (h : k < l.length) : l.set k l[k] = l := by simp
set_option maxRecDepth 4000 in
set_option maxHeartbeats 2000000 in
theorem implItems_some (n : Int) (t : ByteArray) (l : List Val) (w : World) (hs : t.size ≤ 1048576) (hok : okB ⟨4, n, t⟩ = true) (hi : items t = some l) (hl : l ≠ []) (hts : ∀ v ∈ l, v.t.size ≤ 1048576) (hlen : l.length ≤ 1048576) :
    Calls Try.prog 19 #[.agg #[.int .i64 4, .int .i64 n, .string t]] w fun e w' => (∃ g cap, e = .returned (.tuple #[.slice (some ⟨g, 0, none⟩) l.length cap, .int .i64 0]) ∧ w'.ownsRow w.heap.size 27 3 (.slice (some ⟨g, 0, none⟩) l.length cap) l.length (flat l)) ∧ Below w.heap.size w w' := by
  have hm : t.size ≤ maxLen := by unfold maxLen; omega
  have X0 := Boxed.start w (.int .i64 4) (.int .i64 n) (.string t) 27
  have HI : Hid _ := hi
  have HN : Hid _ := hl
  have HT : Hid _ := hts
  clear hi hl hts
  go_enter Try.func19, Try.ntmps19
  go_wp2_with fail
  refine (valueOK_any 4 n t _ hm).mono ?_
  rintro e w1 ⟨rfl, hb⟩
  rw [hok]
  have X1 := X0.step hb
  have g0 := X1.c0
  have g2 := X1.c2
  clear hb X0
  go_wp2_with fail
  refine (itemsIn_cons t l _ hs HI.out HN.out).mono ?_
  rintro e w2 ⟨⟨g, cap, rfl, hown0⟩, hb⟩
  have X2 := X1.step hb
  have hown : w2.ownsRow w.heap.size 27 3 (.slice (some ⟨g, 0, none⟩) l.length cap) l.length (flat l) := by
    refine ⟨hown0.1, ?_⟩
    rcases hown0.2 with h | ⟨g', cap', cur, h, h2, h3⟩
    · exact .inl h
    · exact .inr ⟨g', cap', cur, h, Nat.le_trans X1.bel.size h2, h3⟩
  have hbw := X2.bel
  clear hb g0 g2 X1 X2 hown0
  go_wp2_with fail
  go_loopw [18] (fun i wr => ∃ k : Nat, k ≤ l.length ∧ i = .int .i64 k ∧ wr.ownsRow w.heap.size 27 3 (.slice (some ⟨g, 0, none⟩) l.length cap) l.length (flat l) ∧ Below w.heap.size w wr) (fun i _ => l.length - (intOf i).toNat)
  case atStart => exact ⟨0, Nat.zero_le _, rfl, hown, hbw⟩
  case round =>
    obtain ⟨k, hk, rfl, hown2, hbel⟩ := hrel
    clear hown hbw
    have hz := hbel.size
    by_cases hlt : k < l.length
    · have R := ReadV.of_own hown2
      obtain ⟨x0, x1, x2⟩ := R.cells k hlt
      have hgl := R.lt
      have hgb : w.heap.size ≤ g := (hown2.lt g rfl).1
      have hsz := HT.out l[k] (List.getElem_mem _)
      have HO : Hid _ := hown2
      have HB : Hid _ := hbel
      clear hown2 R hbel
      go_wp2_with fail
      refine (ownValue_any _ _ _ _ hsz).mono ?_
      rintro e w3 ⟨rfl, hb⟩
      have hown3 := owns_below (World.ownsRow.alloc HO.out _) hb
      have y0 := owns_cell hown3 _ _ (flat_get l k hlt).1
      have y1 := owns_cell hown3 _ _ (flat_get l k hlt).2.1
      have y2 := owns_cell hown3 _ _ (flat_get l k hlt).2.2
      have f0 := World.ownsRow.frozenAt hown3 (k * 3)
      have f1 := World.ownsRow.frozenAt hown3 (k * 3 + 1)
      have f2 := World.ownsRow.frozenAt hown3 (k * 3 + 2)
      have hst := (World.ownsRow.stored ((World.ownsRow.stored ((World.ownsRow.stored hown3 (k * 3) (.int .i64 l[k].k)).1) (k * 3 + 1) (.int .i64 l[k].n)).1) (k * 3 + 2) (.string l[k].t)).1
      rw [flat_set _ _ _ hlt, set_same l k hlt] at hst
      have HS : Hid _ := hst
      have hb3 : Below w.heap.size w w3 := (HB.out.alloc hz _).trans (hb.mono (by simp; omega))
      have hz3 := hb3.size
      have HB3 : Hid _ := hb3
      clear hst hown3 hb hb3
      go_wp2_with fail
      go_roundw
      case rel => exact ⟨k + 1, by omega, by go_num, HS.out, ((HB3.out.setCell hgb _).setCell hgb _).setCell hgb _⟩
      case measure => simp [intOf]; omega
    · go_wp2_with fail
      go_ret2
      exact ⟨⟨g, cap, rfl, hown2⟩, hbel⟩

theorem Boxed.under {w W W' : World} {base : Nat} {a b c : Value} (h : Boxed w W a b c) (hb : Below base W W') (hlt : w.heap.size < base) : Boxed w W' a b c :=
  ⟨h.bel.trans (hb.mono (Nat.le_of_lt hlt)), Nat.lt_of_lt_of_le h.lt hb.size, (hb.cell hlt).trans h.c0, (hb.cell hlt).trans h.c1, (hb.cell hlt).trans h.c2⟩
theorem readMarks {w : World} {base g c : Nat} (n : Nat) (h : w.ownsRow base 27 3 (.slice (some ⟨g, 0, none⟩) n c) n (flat (marks n))) : ReadV w g (marks n) :=
  ReadV.of_own (l := marks n) (cap := c) (base := base) (by rw [marks_len]; exact h)

end Go.Proofs.Ytklicfcafpehfaa

/- What the laws' comparison of rows of values answers of two rows that are alike; what is read back of a list that was made. -/
namespace Go.Proofs.Ytklicfcafpehfaa
open Go.RowKit
set_option linter.unusedVariables false

set_option maxRecDepth 4000 in
set_option maxHeartbeats 1000000 in
theorem sameValues_nil (a b : Option Addr) (c d : Nat) (w : World) : Calls Try.prog 20 #[.slice a 0 c, .slice b 0 d] w fun e w' => e = .returned (.bool true) ∧ Below w.heap.size w w' := by
  go_enter Try.func20, Try.ntmps20
  go_wp2_with fail
  refine wp_loop_rounds 1 ?_
  rw [rounds_succ]
  go_wp2_with fail
  go_ret
  exact ⟨rfl, Below.refl _ _⟩
set_option maxRecDepth 4000 in
set_option maxHeartbeats 1000000 in
theorem sameValues_same (g1 c1 g2 c2 : Nat) (l : List Val) (w : World) (h1 : ReadV w g1 l) (h2 : ReadV w g2 l) (hlen : l.length ≤ 1048576) :
    Calls Try.prog 20 #[.slice (some ⟨g1, 0, none⟩) l.length c1, .slice (some ⟨g2, 0, none⟩) l.length c2] w fun e w' => e = .returned (.bool true) ∧ Below w.heap.size w w' := by
  have H1 : Hid _ := h1
  have H2 : Hid _ := h2
  clear h1 h2
  go_enter Try.func20, Try.ntmps20
  go_wp2_with fail
  go_loopw [5] (fun i wr => ∃ k : Nat, k ≤ l.length ∧ i = .int .i64 k ∧ Below w.heap.size w wr) (fun i _ => l.length - (intOf i).toNat)
  case atStart => exact ⟨0, Nat.zero_le _, rfl, Below.refl _ _⟩
  case round =>
    obtain ⟨k, hk, rfl, hbel⟩ := hrel
    by_cases hlt : k < l.length
    · have x1 := (H1.out.next hbel).cells k hlt
      have x2 := (H2.out.next hbel).cells k hlt
      obtain ⟨p0, p1, p2⟩ := x1
      obtain ⟨q0, q1, q2⟩ := x2
      have l1 := (H1.out.next hbel).lt
      have l2 := (H2.out.next hbel).lt
      have hk1 : (k : Int) < (l.length : Int) := by omega
      go_wp2_with fail
      go_quiet (fail)
      go_wp2_with fail
      go_roundw
      case rel => exact ⟨k + 1, by omega, by go_num, by (repeat (first | (with_reducible exact Below.refl _ _) | (with_reducible assumption) | (with_reducible apply below_drewN) | (with_reducible apply Below.drew) | ((with_reducible refine Below.setCell ?_ ?_ _); rotate_left; focus (first | (simp; done) | (simp; omega) | omega)) | ((with_reducible refine Below.alloc ?_ ?_ _); rotate_left; focus (first | (simp; done) | (simp; omega) | omega))))⟩
      case measure => simp [intOf]; omega
    · go_wp2_with fail
      go_ret
      exact ⟨rfl, hbel⟩
/-- A list that was made with no code is right, and its items are those that it was made of. -/
theorem listP_back (l : List Val) (v : Val) (h : listP l = (v, 0)) : v = ⟨4, 0, txt (encL l)⟩ ∧ okB v = true ∧ items v.t = some l ∧ l.length ≤ 300 ∧ v.t.size ≤ 300 ∧ ∀ u ∈ l, okB u = true := by
  by_cases h1 : 4096 < l.length
  · rw [listP_long l h1] at h; simp at h
  · by_cases h2 : 300 < l.length
    · rw [listP_many l h1 h2] at h; simp at h
    · cases ha : l.all okB
      · unfold listP at h; rw [if_neg h1, if_neg h2, if_pos ha] at h; simp at h
      · have hall : ∀ u ∈ l, okB u = true := List.all_eq_true.mp ha
        rw [listP_ok l h2 hall] at h
        by_cases h3 : 300 < (encL l).length
        · rw [fitP_size l h3] at h; simp at h
        · by_cases h4 : 4 < dmax (depthV 5) l
          · rw [fitP_deep l h3 h4] at h; simp at h
          · rw [fitP_ok l h3 h4] at h
            obtain rfl : (⟨4, 0, txt (encL l)⟩ : Val) = v := congrArg Prod.fst h
            exact ⟨rfl, by rw [made_ok l hall h3]; exact decide_eq_true (by omega), items_enc l hall, by omega, by show (txt (encL l)).size ≤ 300; rw [txt_size]; omega, hall⟩

end Go.Proofs.Ytklicfcafpehfaa

/- What the specification's ListOf answers, for every row of values. -/
namespace Go.Proofs.Ytklicfcafpehfaa
open Go.RowKit
set_option linter.unusedVariables false

set_option maxRecDepth 4000 in
set_option maxHeartbeats 1000000 in
theorem specList_long (g cap : Nat) (l : List Val) (w : World) (hl : l.length ≤ 1048576) (h : 4096 < l.length) :
    Calls Try.prog 18 #[.slice (some ⟨g, 0, none⟩) l.length cap] w fun e w' => e = .returned (.tuple #[.agg #[.int .i64 0, .int .i64 0, .string em], .int .i64 2]) ∧ Below w.heap.size w w' := by
  have hh : (4096 : Int) < (l.length : Int) := by omega
  go_enter Try.func18, Try.ntmps18
  go_wp2_with fail
  refine bodyPost_ret (v := .tuple #[.agg #[.int .i64 0, .int .i64 0, .string em], .int .i64 2]) (by simp [results, Try.results18, go_sem, *]) rfl ⟨rfl, ?_⟩
  (repeat (first | (with_reducible exact Below.refl _ _) | (with_reducible assumption) | (with_reducible apply below_drewN) | (with_reducible apply Below.drew) | ((with_reducible refine Below.setCell ?_ ?_ _); rotate_left; focus (first | (simp; done) | (simp; omega) | omega)) | ((with_reducible refine Below.alloc ?_ ?_ _); rotate_left; focus (first | (simp; done) | (simp; omega) | omega))))
set_option maxRecDepth 4000 in
set_option maxHeartbeats 1000000 in
theorem specList_many (g cap : Nat) (l : List Val) (w : World) (h : ¬ 4096 < l.length) (h2 : 300 < l.length) :
    Calls Try.prog 18 #[.slice (some ⟨g, 0, none⟩) l.length cap] w fun e w' => e = .returned (.tuple #[.agg #[.int .i64 0, .int .i64 0, .string em], .int .i64 10]) ∧ Below w.heap.size w w' := by
  have hh : ¬ (4096 : Int) < (l.length : Int) := by omega
  have hh2 : (300 : Int) < (l.length : Int) := by omega
  go_enter Try.func18, Try.ntmps18
  go_wp2_with fail
  refine bodyPost_ret (v := .tuple #[.agg #[.int .i64 0, .int .i64 0, .string em], .int .i64 10]) (by simp [results, Try.results18, go_sem, *]) rfl ⟨rfl, ?_⟩
  (repeat (first | (with_reducible exact Below.refl _ _) | (with_reducible assumption) | (with_reducible apply below_drewN) | (with_reducible apply Below.drew) | ((with_reducible refine Below.setCell ?_ ?_ _); rotate_left; focus (first | (simp; done) | (simp; omega) | omega)) | ((with_reducible refine Below.alloc ?_ ?_ _); rotate_left; focus (first | (simp; done) | (simp; omega) | omega))))
set_option maxRecDepth 4000 in
set_option maxHeartbeats 2000000 in
theorem specList_few (g cap : Nat) (l : List Val) (w : World) (hr : ReadV w g l) (h2 : ¬ 300 < l.length) (hts : ∀ v ∈ l, v.t.size ≤ 1048576) :
    Calls Try.prog 18 #[.slice (some ⟨g, 0, none⟩) l.length cap] w fun e w' => e = .returned (.tuple #[aggV (listP l).1, .int .i64 (listP l).2]) ∧ Below w.heap.size w w' := by
  have hh : ¬ (4096 : Int) < (l.length : Int) := by omega
  have hh2 : ¬ (300 : Int) < (l.length : Int) := by omega
  obtain ⟨P, hP⟩ : ∃ P, P = listP l := ⟨_, rfl⟩
  rw [← hP]
  have HP : Hid _ := hP
  have HR : Hid _ := hr
  have HT : Hid _ := hts
  clear hr hts hP
  go_enter Try.func18, Try.ntmps18
  go_wp2_with fail
  go_loopw [4] (fun i wr => ∃ k : Nat, k ≤ l.length ∧ i = .int .i64 k ∧ (∀ v ∈ l.take k, okB v = true) ∧ Res3 w wr (.int .i64 0) (.int .i64 0) (.string em)) (fun i _ => l.length - (intOf i).toNat)
  case atStart => exact ⟨0, Nat.zero_le _, rfl, fun v hv => by simp at hv, Res3.start w _ _ _ _⟩
  case round =>
    obtain ⟨k, hk, rfl, hall, X0⟩ := hrel
    have HA : Hid _ := hall
    clear hall
    have hbel := X0.bel
    have hz := hbel.size
    by_cases hlt : k < l.length
    · obtain ⟨x0, x1, x2⟩ := (HR.out.next hbel).cells k hlt
      have hs := HT.out l[k] (List.getElem_mem _)
      cases hok : okB l[k]
      · have HK : Hid (okB ⟨l[k].k, l[k].n, l[k].t⟩ = false) := hok
        have e := HP.out
        rw [listP_bad l h2 k hlt hok] at e
        subst e
        clear hok HP
        go_wp2_with fail
        refine (specValueOK_any _ _ _ _ hs).mono ?_
        rintro e w1 ⟨rfl, hb⟩
        rw [HK.out]
        have Y := X0.step hb
        have g0 := Y.c0
        have g1 := Y.c1
        have g2 := Y.c2
        have z0 := Y.z0
        have z1 := Y.z1
        have z2 := Y.z2
        have hlt1 := Y.lt
        have hbw := Y.bel
        clear hb Y X0 hbel hz
        go_wp2_with fail
        refine bodyPost_ret (v := .tuple #[.agg #[.int .i64 0, .int .i64 0, .string em], .int .i64 1]) (by simp [results, Try.results18, go_sem, *]) rfl ⟨rfl, ?_⟩
        (repeat (first | (with_reducible exact Below.refl _ _) | (with_reducible assumption) | (with_reducible apply below_drewN) | (with_reducible apply Below.drew) | ((with_reducible refine Below.setCell ?_ ?_ _); rotate_left; focus (first | (simp; done) | (simp; omega) | omega)) | ((with_reducible refine Below.alloc ?_ ?_ _); rotate_left; focus (first | (simp; done) | (simp; omega) | omega))))
      · have HK : Hid (okB ⟨l[k].k, l[k].n, l[k].t⟩ = true) := hok
        clear hok
        go_wp2_with fail
        refine (specValueOK_any _ _ _ _ hs).mono ?_
        rintro e w1 ⟨rfl, hb⟩
        rw [HK.out]
        have Y := X0.step hb
        clear hb X0
        go_wp2_with fail
        go_roundw
        case rel => exact ⟨k + 1, by omega, by go_num, take_all _ l k hlt HA.out HK.out, Y⟩
        case measure => simp [intOf]; omega
    · have e : l.take k = l := List.take_of_length_le (by omega)
      have hall := HA.out
      rw [e] at hall
      have HA2 : Hid _ := hall
      have hp := HP.out
      rw [listP_ok l h2 hall] at hp
      subst hp
      have hl : l.length ≤ 300 := by omega
      have R := HR.out.next hbel
      have HR2 : Hid _ := R
      clear HA hall HP R e
      go_wp2_with fail
      refine (l01List_any g cap l _ HR2.out hl HA2.out).mono ?_
      rintro e w1 ⟨rfl, hb⟩
      have Y1 := X0.step hb
      clear hb X0 hbel hz
      go_wp2_with fail
      refine (l01Fit_list l _ hl HA2.out).mono ?_
      rintro e w2 ⟨rfl, hb⟩
      have Y := Y1.step hb
      have g0 := Y.c0
      have g1 := Y.c1
      have g2 := Y.c2
      have z0 := Y.z0
      have z1 := Y.z1
      have z2 := Y.z2
      have hlt1 := Y.lt
      have hbw := Y.bel
      clear hb Y Y1
      go_wp2_with fail
      refine bodyPost_ret (v := .tuple #[aggV (fitP l).1, .int .i64 (fitP l).2]) (by simp [results, Try.results18, go_sem, *]) rfl ⟨rfl, ?_⟩
      (repeat (first | (with_reducible exact Below.refl _ _) | (with_reducible assumption) | (with_reducible apply below_drewN) | (with_reducible apply Below.drew) | ((with_reducible refine Below.setCell ?_ ?_ _); rotate_left; focus (first | (simp; done) | (simp; omega) | omega)) | ((with_reducible refine Below.alloc ?_ ?_ _); rotate_left; focus (first | (simp; done) | (simp; omega) | omega))))
theorem specList_any (g cap : Nat) (l : List Val) (w : World) (hr : ReadV w g l) (hl : l.length ≤ 1048576) (hts : ∀ v ∈ l, v.t.size ≤ 1048576) :
    Calls Try.prog 18 #[.slice (some ⟨g, 0, none⟩) l.length cap] w fun e w' => e = .returned (.tuple #[aggV (listP l).1, .int .i64 (listP l).2]) ∧ Below w.heap.size w w' := by
  by_cases h : 4096 < l.length
  · rw [listP_long l h]; exact specList_long g cap l w hl h
  · by_cases h2 : 300 < l.length
    · rw [listP_many l h h2]; exact specList_many g cap l w h h2
    · exact specList_few g cap l w hr h2 hts

end Go.Proofs.Ytklicfcafpehfaa
