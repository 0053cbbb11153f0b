/- What the program's depth of a value answers, for every right value. -/
import Derived.Test.YtklicfcafpehfaaDepthM
import Derived.Test.YtklicfcafpehfaaListS
namespace Go.Proofs.Ytklicfcafpehfaa
open Go.RowKit
set_option linter.unusedVariables false

def depthOfAt (d : Nat) : Prop := ∀ (v : Val) (w : World), v.t.size ≤ 1048576 → fits d v = true →
    Calls Try.prog 134 #[.agg #[.int .i64 v.k, .int .i64 v.n, .string v.t]] w fun e w' => e = .returned (.int .i64 (depthV d v)) ∧ Below w.heap.size w w'

set_option maxHeartbeats 1000000 in
theorem depthOf_plain (k n : Int) (t : ByteArray) (w : World) (h4 : k ≠ 4) (h5 : k ≠ 5) :
    Calls Try.prog 134 #[.agg #[.int .i64 k, .int .i64 n, .string t]] w fun e w' => e = .returned (.int .i64 0) ∧ Below w.heap.size w w' := by
  have e4 : (k == 4) = false := beq_eq_false_iff_ne.mpr h4
  have e5 : (k == 5) = false := beq_eq_false_iff_ne.mpr h5
  clear h4 h5
  go_enter Try.func134, Try.ntmps134
  go_wp2_with fail
  go_ret
  exact ⟨rfl, by (repeat (first | (with_reducible exact Below.refl _ _) | (with_reducible assumption) | (with_reducible apply below_drewN) | (with_reducible apply Below.drew) | ((with_reducible refine Below.setCell ?_ ?_ _); rotate_left; focus (first | (simp; done) | (simp; omega) | omega)) | ((with_reducible refine Below.alloc ?_ ?_ _); rotate_left; focus (first | (simp; done) | (simp; omega) | omega))))⟩

set_option maxRecDepth 4000 in
set_option maxHeartbeats 1000000 in
theorem depthOf_list0 (n : Int) (t : ByteArray) (w : World) (hs : t.size ≤ 1048576) (hi : items t = some []) :
    Calls Try.prog 134 #[.agg #[.int .i64 4, .int .i64 n, .string t]] w fun e w' => e = .returned (.int .i64 1) ∧ Below w.heap.size w w' := by
  have HI : Hid _ := hi
  clear hi
  go_enter Try.func134, Try.ntmps134
  go_wp2_with (go_at_call 79; refine (itemsIn_nil t _ hs HI.out).mono ?_; rintro e w1 ⟨rfl, hb1⟩)
  refine wp_loop_rounds 1 ?_
  rw [rounds_succ]
  go_wp2_with fail
  go_ret
  exact ⟨rfl, ((Below.refl _ _).alloc (Nat.le_refl _) _).trans (hb1.mono (by simp))⟩

set_option maxRecDepth 4000 in
set_option maxHeartbeats 1000000 in
theorem depthOf_doc0 (n : Int) (t : ByteArray) (w : World) (hs : t.size ≤ 1048576) (hi : fields t = some []) :
    Calls Try.prog 134 #[.agg #[.int .i64 5, .int .i64 n, .string t]] w fun e w' => e = .returned (.int .i64 1) ∧ Below w.heap.size w w' := by
  have HI : Hid _ := hi
  clear hi
  go_enter Try.func134, Try.ntmps134
  go_wp2_with (go_at_call 85; refine (fieldsIn_nil t _ hs HI.out).mono ?_; rintro e w1 ⟨rfl, hb1⟩)
  refine wp_loop_rounds 1 ?_
  rw [rounds_succ]
  go_wp2_with fail
  go_ret
  exact ⟨rfl, ((Below.refl _ _).alloc (Nat.le_refl _) _).trans (hb1.mono (by simp))⟩

set_option maxRecDepth 4000 in
set_option maxHeartbeats 2000000 in
theorem depthOf_list (d : Nat) (ih : depthOfAt d) (hd : d ≤ 9) (n : Int) (t : ByteArray) (l : List Val) (w : World) (hs : t.size ≤ 1048576) (hi : items t = some l) (hl : l ≠ []) (hall : ∀ u ∈ l, fits d u = true ∧ u.t.size ≤ t.size) :
    Calls Try.prog 134 #[.agg #[.int .i64 4, .int .i64 n, .string t]] w fun e w' => e = .returned (.int .i64 (dmax (depthV d) l + 1)) ∧ Below w.heap.size w w' := by
  have hlen := (items_len t.size t l (Nat.le_refl _) hi).1
  have HB : Hid _ := dmax_bd (depthV d) d (by omega) (depthV_bd d)
  have HI : Hid _ := hi
  have HA : Hid _ := hall
  have HN : Hid _ := hl
  clear hi hall hl
  go_enter Try.func134, Try.ntmps134
  go_wp2_with (go_at_call 79; refine (itemsIn_cons t l _ hs HI.out HN.out).mono ?_; rintro e w1 ⟨⟨g, cap, rfl, hown⟩, hb1⟩)
  go_loopw [3, 16] (fun m i wr => ∃ k : Nat, k ≤ l.length ∧ i = .int .i64 k ∧ m = .int .i64 (dmax (depthV d) (l.take k)) ∧ wr.ownsRow (w.alloc (.cells #[.int .i64 4, .int .i64 n, .string t] 27)).heap.size 27 3 (.slice (some ⟨g, 0, none⟩) l.length cap) l.length (flat l) ∧ Below w.heap.size w wr) (fun _ i _ => l.length - (intOf i).toNat)
  case atStart => exact ⟨0, Nat.zero_le _, rfl, rfl, hown, ((Below.refl _ _).alloc (Nat.le_refl _) _).trans (hb1.mono (by simp))⟩
  case round =>
    obtain ⟨k, hk, rfl, rfl, hown2, hbel⟩ := hrel
    clear hown hb1
    have hz := hbel.size
    by_cases hlt : k < l.length
    · have hg := flat_get l k hlt
      have c0 := owns_cell hown2 _ _ hg.1
      have c1 := owns_cell hown2 _ _ hg.2.1
      have c2 := owns_cell hown2 _ _ hg.2.2
      have HO : Hid _ := hown2
      have hgl : g < wr.heap.size := (hown2.lt g rfl).2
      have hq := HA.out l[k] (List.getElem_mem _)
      have hts : l[k].t.size ≤ 1048576 := by omega
      have HF : Hid _ := hq.1
      have HD : Hid _ := dmax_take (depthV d) l k hlt
      have b1 := HB.out (l.take k)
      have b2 := depthV_bd d l[k]
      clear hg hown2 hq
      go_wp2_with (go_at_call 134; refine (ih l[k] _ hts HF.out).mono ?_; rintro e w2 ⟨rfl, hb2⟩)
      go_roundw
      case rel =>
        have hb3 : Below w.heap.size w w2 := by first | exact hbel.trans (hb2.mono hbel.size) | exact (hbel.alloc hz _).trans (hb2.mono (by simp; omega))
        have hb4 : Below wr.heap.size wr w2 := by first | exact hb2 | exact ((Below.refl _ _).alloc (Nat.le_refl _) _).trans (hb2.mono (by simp))
        exact ⟨k + 1, by omega, by go_num, by rw [HD.out]; congr 1; split <;> omega, owns_below HO.out hb4, hb3⟩
      case measure => simp [intOf]; omega
    · have b1 := HB.out (l.take k)
      go_wp2_with fail
      go_ret
      refine ⟨?_, hbel⟩
      rw [List.take_of_length_le (by omega)]; rfl

set_option maxRecDepth 4000 in
set_option maxHeartbeats 2000000 in
theorem depthOf_doc (d : Nat) (ih : depthOfAt d) (hd : d ≤ 9) (n : Int) (t : ByteArray) (l : List Fld) (w : World) (hs : t.size ≤ 1048576) (hi : fields t = some l) (hl : l ≠ []) (hall : ∀ f ∈ l, fits d f.v = true ∧ f.v.t.size ≤ t.size ∧ f.name.size ≤ t.size) :
    Calls Try.prog 134 #[.agg #[.int .i64 5, .int .i64 n, .string t]] w fun e w' => e = .returned (.int .i64 (dF (depthV d) l + 1)) ∧ Below w.heap.size w w' := by
  have hlen := (fields_len t.size t l (Nat.le_refl _) hi).1
  have HB : Hid _ := dF_bd (depthV d) d (by omega) (depthV_bd d)
  have HI : Hid _ := hi
  have HA : Hid _ := hall
  have HN : Hid _ := hl
  clear hi hall hl
  go_enter Try.func134, Try.ntmps134
  go_wp2_with (go_at_call 85; refine (fieldsIn_cons t l _ hs HI.out HN.out).mono ?_; rintro e w1 ⟨⟨g, cap, rfl, hown⟩, hb1⟩)
  go_loopw [3, 31] (fun m i wr => ∃ k : Nat, k ≤ l.length ∧ i = .int .i64 k ∧ m = .int .i64 (dF (depthV d) (l.take k)) ∧ wr.ownsRow (w.alloc (.cells #[.int .i64 5, .int .i64 n, .string t] 27)).heap.size 36 4 (.slice (some ⟨g, 0, none⟩) l.length cap) l.length (flatF l) ∧ Below w.heap.size w wr) (fun _ i _ => l.length - (intOf i).toNat)
  case atStart => exact ⟨0, Nat.zero_le _, rfl, rfl, hown, ((Below.refl _ _).alloc (Nat.le_refl _) _).trans (hb1.mono (by simp))⟩
  case round =>
    obtain ⟨k, hk, rfl, rfl, hown2, hbel⟩ := hrel
    clear hown hb1
    have hz := hbel.size
    by_cases hlt : k < l.length
    · have hg := flatF_get l k hlt
      have c0 := owns_cell hown2 _ _ hg.1
      have c1 := owns_cell hown2 _ _ hg.2.1
      have c2 := owns_cell hown2 _ _ hg.2.2.1
      have c3 := owns_cell hown2 _ _ hg.2.2.2
      have HO : Hid _ := hown2
      have hgl : g < wr.heap.size := (hown2.lt g rfl).2
      have hq := HA.out l[k] (List.getElem_mem _)
      have hts : l[k].v.t.size ≤ 1048576 := by omega
      have HF : Hid _ := hq.1
      have HD : Hid _ := dmax_takeF (depthV d) l k hlt
      have b1 := HB.out (l.take k)
      have b2 := depthV_bd d l[k].v
      clear hg hown2 hq
      go_wp2_with (go_at_call 134; refine (ih l[k].v _ hts HF.out).mono ?_; rintro e w2 ⟨rfl, hb2⟩)
      go_roundw
      case rel =>
        have hb3 : Below w.heap.size w w2 := by first | exact hbel.trans (hb2.mono hbel.size) | exact (hbel.alloc hz _).trans (hb2.mono (by simp; omega))
        have hb4 : Below wr.heap.size wr w2 := by first | exact hb2 | exact ((Below.refl _ _).alloc (Nat.le_refl _) _).trans (hb2.mono (by simp))
        exact ⟨k + 1, by omega, by go_num, by rw [HD.out]; congr 1; split <;> omega, owns_below HO.out hb4, hb3⟩
      case measure => simp [intOf]; omega
    · have b1 := HB.out (l.take k)
      go_wp2_with fail
      go_ret
      refine ⟨?_, hbel⟩
      rw [List.take_of_length_le (by omega)]; rfl

theorem depthOf_at : ∀ d : Nat, d ≤ 10 → depthOfAt d
  | d, hd => by
    intro v w hs hf
    obtain ⟨k, n, t⟩ := v
    by_cases h4 : k = 4
    · subst h4
      obtain ⟨e, l, rfl, hi, _, _, hall⟩ := fits_items rfl hf
      have ih := depthOf_at e (by omega)
      rw [depthV_list e _ l rfl hi]
      by_cases hl : l = []
      · subst hl; exact depthOf_list0 n t w hs hi
      · exact depthOf_list e ih (by omega) n t l w hs hi hl hall
    · by_cases h5 : k = 5
      · subst h5
        obtain ⟨e, l, rfl, hi, _, _, _, hall⟩ := fits_fields rfl hf
        have ih := depthOf_at e (by omega)
        rw [depthV_doc e _ l rfl hi]
        by_cases hl : l = []
        · subst hl; exact depthOf_doc0 n t w hs hi
        · exact depthOf_doc e ih (by omega) n t l w hs hi hl hall
      · rw [depthV_plain d ⟨k, n, t⟩ h4 h5]
        exact depthOf_plain k n t w h4 h5

end Go.Proofs.Ytklicfcafpehfaa

/- What the program's ListOf answers, for every row of values. -/
namespace Go.Proofs.Ytklicfcafpehfaa
open Go.RowKit
set_option linter.unusedVariables false

set_option maxHeartbeats 400000 in
theorem isWrong_any (k n : Int) (t : ByteArray) (w : World) (hs : t.size ≤ maxLen) :
    Calls Try.prog 72 #[.agg #[.int .i64 k, .int .i64 n, .string t]] w fun e w' => e = .returned (.bool (!okB ⟨k, n, t⟩)) ∧ Below w.heap.size w w' := by
  go_enter Try.func72, Try.ntmps72
  go_wp2_with (go_at_call 78; refine (valueOK_any k n t _ hs).mono ?_; rintro e w1 ⟨rfl, hb⟩)
  go_ret
  exact ⟨rfl, ((Below.refl _ _).alloc (Nat.le_refl _) _).trans (hb.mono (by simp))⟩

set_option maxRecDepth 4000 in
set_option maxHeartbeats 1000000 in
theorem indexWrong_any (g cap : Nat) (l : List Val) (w : World) (hr : ReadV w g l) (hl : l.length ≤ 1048576) (hts : ∀ v ∈ l, v.t.size ≤ 1048576) :
    Calls Try.prog 133 #[.slice (some ⟨g, 0, none⟩) l.length cap, .func (.func 72) #[] #[]] w fun e w' => (∃ i : Int, e = .returned (.int .i64 i) ∧ decide (0 ≤ i) = !(l.all okB)) ∧ Below w.heap.size w w' := by
  have HR : Hid _ := hr
  have HT : Hid _ := hts
  clear hr hts
  go_enter Try.func133, Try.ntmps133
  go_wp2_with fail
  go_loopw [8] (fun i wr => ∃ k : Nat, k ≤ l.length ∧ i = .int .i64 k ∧ (∀ v ∈ l.take k, okB v = true) ∧ Below w.heap.size w wr) (fun i _ => l.length - (intOf i).toNat)
  case atStart => exact ⟨0, Nat.zero_le _, rfl, fun v hv => by simp at hv, Below.refl _ _⟩
  case round =>
    obtain ⟨k, hk, rfl, hall, hbel⟩ := hrel
    have HA : Hid _ := hall
    clear hall
    by_cases hlt : k < l.length
    · obtain ⟨x0, x1, x2⟩ := (HR.out.next hbel).cells k hlt
      have hs : l[k].t.size ≤ maxLen := by have := HT.out l[k] (List.getElem_mem _); unfold maxLen; omega
      cases hok : okB l[k]
      · have HK : Hid (okB ⟨l[k].k, l[k].n, l[k].t⟩ = false) := hok
        have hal : l.all okB = false := by
          rw [Bool.eq_false_iff]; intro hh
          rw [List.all_eq_true] at hh
          have := hh l[k] (List.getElem_mem _)
          rw [hok] at this; cases this
        have HL : Hid _ := hal
        clear hok hal
        go_wp2_with fail
        refine (isWrong_any _ _ _ _ hs).mono ?_
        rintro e w1 ⟨rfl, hb⟩
        rw [HK.out]
        go_wp2_with fail
        go_ret
        exact ⟨⟨k, rfl, by rw [HL.out]; exact decide_eq_true (by omega)⟩, hbel.trans (hb.mono hbel.size)⟩
      · have HK : Hid (okB ⟨l[k].k, l[k].n, l[k].t⟩ = true) := hok
        clear hok
        go_wp2_with fail
        refine (isWrong_any _ _ _ _ hs).mono ?_
        rintro e w1 ⟨rfl, hb⟩
        rw [HK.out]
        go_wp2_with fail
        go_roundw
        case rel => exact ⟨k + 1, by omega, by go_num, take_all _ l k hlt HA.out HK.out, hbel.trans (hb.mono hbel.size)⟩
        case measure => simp [intOf]; omega
    · have e : l.take k = l := List.take_of_length_le (by omega)
      have hall := HA.out
      rw [e] at hall
      have hal : l.all okB = true := List.all_eq_true.mpr hall
      have HL : Hid _ := hal
      clear hal hall HA e
      go_wp2_with fail
      go_ret
      exact ⟨⟨-1, rfl, by rw [HL.out]; rfl⟩, hbel⟩

set_option maxHeartbeats 400000 in
theorem anyWrong_any (g cap : Nat) (l : List Val) (w : World) (hr : ReadV w g l) (hl : l.length ≤ 1048576) (hts : ∀ v ∈ l, v.t.size ≤ 1048576) :
    Calls Try.prog 71 #[.slice (some ⟨g, 0, none⟩) l.length cap, .func (.func 72) #[] #[]] w fun e w' => e = .returned (.bool (!(l.all okB))) ∧ Below w.heap.size w w' := by
  go_enter Try.func71, Try.ntmps71
  go_wp2_with fail
  refine (indexWrong_any g cap l w hr hl hts).mono ?_
  rintro e w1 ⟨⟨i, rfl, hi⟩, hb⟩
  go_wp2_with fail
  go_ret
  rw [← hi]
  exact ⟨rfl, hb⟩

end Go.Proofs.Ytklicfcafpehfaa

/- What the program's ListOf answers, for every row of values. -/
namespace Go.Proofs.Ytklicfcafpehfaa
open Go.RowKit
set_option linter.unusedVariables false

theorem convA (v : Value) (zs : List Int) (base : Nat) (w : World) (hown : OwnE w base v zs) : (convert 22 9 v).run Try.prog w = .ok (.string (txt zs)) w := by
  by_cases hv : v = .slice none 0 0
  · subst hv
    have hz : zs = [] := by
      rcases hown.2 with ⟨_, h⟩ | ⟨g, cap, cur, h, _⟩
      · exact List.eq_nil_of_length_eq_zero h
      · cases h
    subst hz
    exact run_convert_bytes_nil w 22 5 Try.underlying22 Try.underlying5 0 0 9 Try.underlying9
  · exact convE v zs base w hv hown

set_option maxRecDepth 4000 in
set_option maxHeartbeats 2000000 in
theorem listWith_any (g cap : Nat) (l : List Val) (w : World) (hr : ReadV w g l) (hl : l.length ≤ 300) (hall : ∀ v ∈ l, okB v = true) :
    Calls Try.prog 74 #[.slice (some ⟨g, 0, none⟩) l.length cap] w fun e w' => e = .returned (.agg #[.int .i64 4, .int .i64 0, .string (txt (encL l))]) ∧ Below w.heap.size w w' := by
  have HR : Hid _ := hr
  have HA : Hid _ := hall
  have X0 := Res3.start w (.int .i64 0) (.int .i64 0) (.string em) 27
  have HX : Hid _ := X0
  obtain ⟨w0, hw0⟩ : ∃ w0, w0 = w.alloc (.cells #[.int .i64 0, .int .i64 0, .string em] 27) := ⟨_, rfl⟩
  rw [← hw0] at HX
  have HW : Hid _ := hw0
  clear hr hall X0
  go_enter Try.func74, Try.ntmps74
  go_wp2_with fail
  clear hw0
  go_loopw [3, 8] (fun u i wr => ∃ k : Nat, k ≤ l.length ∧ i = .int .i64 k ∧ OwnE wr w0.heap.size u (encL (l.take k)) ∧ Below w0.heap.size w0 wr) (fun _ i _ => l.length - (intOf i).toNat)
  case atStart => exact ⟨0, Nat.zero_le _, rfl, World.ownsRow_nil _ _ _ _, by rw [← HW.out]; exact Below.refl _ _⟩
  case round =>
    obtain ⟨k, hk, rfl, hown, hbel⟩ := hrel
    have X1 := HX.out.step hbel
    have hz := hbel.size
    have hz0 := HX.out.lt
    by_cases hlt : k < l.length
    · obtain ⟨x0, x1, x2⟩ := (HR.out.next X1.bel).cells k hlt
      have hlen : (encL (l.take k)).length ≤ 1048000 := by have := encL_take_len l HA.out k hl; omega
      have HK : Hid _ := HA.out l[k] (List.getElem_mem _)
      have HO : Hid (OwnE _ _ _ _) := hown
      have HB : Hid _ := hbel
      have hgl := (HR.out.next X1.bel).lt
      clear hown hbel X1
      go_wp2_with fail
      refine (appendValue_any l[k] HK.out _ _ w0.heap.size _ (by have := HO.out; unfold OwnE at this ⊢; exact this.alloc _) (by simp; omega) hlen).mono ?_
      rintro e w1 ⟨v', rfl, hown1, hgrow, hnv⟩
      have hb : Below w0.heap.size w0 w1 := Below.grown (HB.out.alloc hz _) hgrow (by simp; omega) (owns_block HO.out)
      have HO1 : Hid (OwnE _ _ _ _) := hown1
      clear hgrow hnv hown1
      go_wp2_with fail
      go_roundw
      case rel => exact ⟨k + 1, by omega, by go_num, by rw [encL_take l k hlt]; exact HO1.out, hb⟩
      case measure => simp [intOf]; omega
    · have e : l.take k = l := List.take_of_length_le (by omega)
      rw [e] at hown
      have hconv := convA _ _ _ _ hown
      have g0 := X1.c0
      have g1 := X1.c1
      have g2 := X1.c2
      have z0 := X1.z0
      have z1 := X1.z1
      have z2 := X1.z2
      have hlt1 := X1.lt
      have hbw := X1.bel
      clear X1 hbel hown
      go_wp2_with fail
      refine bodyPost_ret (v := .agg #[.int .i64 4, .int .i64 0, .string (txt (encL l))]) (by simp [results, Try.results74, go_sem, *]) rfl ⟨rfl, ?_⟩
      (repeat (first | (with_reducible exact Below.refl _ _) | (with_reducible assumption) | (with_reducible apply below_drewN) | (with_reducible apply Below.drew) | ((with_reducible refine Below.setCell ?_ ?_ _); rotate_left; focus (first | (simp; done) | (simp; omega) | omega)) | ((with_reducible refine Below.alloc ?_ ?_ _); rotate_left; focus (first | (simp; done) | (simp; omega) | omega))))

theorem made_fits (l : List Val) (hall : ∀ v ∈ l, okB v = true) (h : ¬ 300 < (encL l).length) : fits 6 ⟨4, 0, txt (encL l)⟩ = true ∧ depthV 6 ⟨4, 0, txt (encL l)⟩ = dmax (depthV 5) l + 1 := by
  have hi : items (txt (encL l)) = some l := items_enc l hall
  constructor
  · rw [fits_list 5 _ rfl]
    show (decide ((0 : Int) = 0 ∧ (txt (encL l)).size ≤ 300) && itemsAll (fits 5) (items (txt (encL l)))) = true
    rw [hi, Bool.and_eq_true, decide_eq_true_eq]
    exact ⟨⟨rfl, by rw [txt_size]; omega⟩, by simp only [itemsAll, List.all_eq_true]; exact hall⟩
  · exact depthV_list 5 _ l rfl hi
set_option maxRecDepth 4000 in
set_option maxHeartbeats 1000000 in
theorem bounded_size (k n : Int) (t : ByteArray) (w : World) (hs : t.size ≤ 1048576) (h : 300 < t.size) :
    Calls Try.prog 73 #[.agg #[.int .i64 k, .int .i64 n, .string t]] w fun e w' => e = .returned (.tuple #[.agg #[.int .i64 0, .int .i64 0, .string em], .int .i64 10]) ∧ Below w.heap.size w w' := by
  have hh : (300 : Int) < (t.size : Int) := by omega
  go_enter Try.func73, Try.ntmps73
  go_wp2_with fail
  refine bodyPost_ret (v := .tuple #[.agg #[.int .i64 0, .int .i64 0, .string em], .int .i64 10]) (by simp [results, Try.results73, go_sem, *]) rfl ⟨rfl, ?_⟩
  (repeat (first | (with_reducible exact Below.refl _ _) | (with_reducible assumption) | (with_reducible apply below_drewN) | (with_reducible apply Below.drew) | ((with_reducible refine Below.setCell ?_ ?_ _); rotate_left; focus (first | (simp; done) | (simp; omega) | omega)) | ((with_reducible refine Below.alloc ?_ ?_ _); rotate_left; focus (first | (simp; done) | (simp; omega) | omega))))
set_option maxRecDepth 4000 in
set_option maxHeartbeats 1000000 in
theorem bounded_deep (v : Val) (w : World) (h : v.t.size ≤ 300) (hf : fits 6 v = true) (hd : 5 < depthV 6 v) :
    Calls Try.prog 73 #[.agg #[.int .i64 v.k, .int .i64 v.n, .string v.t]] w fun e w' => e = .returned (.tuple #[.agg #[.int .i64 0, .int .i64 0, .string em], .int .i64 9]) ∧ Below w.heap.size w w' := by
  have hh : ¬ (300 : Int) < (v.t.size : Int) := by omega
  have Y0 := Res3.start (w.alloc (.cells #[.int .i64 v.k, .int .i64 v.n, .string v.t] 27)) (.int .i64 0) (.int .i64 0) (.string em) 27
  go_enter Try.func73, Try.ntmps73
  go_wp2_with fail
  refine (depthOf_at 6 (by omega) v _ (by omega) hf).mono ?_
  rintro e w1 ⟨rfl, hb⟩
  have Y := Y0.step hb
  have g0 := Y.c0
  have g1 := Y.c1
  have g2 := Y.c2
  have z0 := Y.z0
  have z1 := Y.z1
  have z2 := Y.z2
  have hlt := Y.lt
  have hbw : Below w.heap.size w w1 := ((Below.refl _ _).alloc (Nat.le_refl _) _).trans (Y.bel.mono (by simp))
  simp only [heap_size_alloc] at g0 g1 g2 z0 z1 z2 hlt
  clear hb Y Y0
  go_wp2_with fail
  refine bodyPost_ret (v := .tuple #[.agg #[.int .i64 0, .int .i64 0, .string em], .int .i64 9]) (by simp [results, Try.results73, go_sem, *]) rfl ⟨rfl, ?_⟩
  (repeat (first | (with_reducible exact Below.refl _ _) | (with_reducible assumption) | (with_reducible apply below_drewN) | (with_reducible apply Below.drew) | ((with_reducible refine Below.setCell ?_ ?_ _); rotate_left; focus (first | (simp; done) | (simp; omega) | omega)) | ((with_reducible refine Below.alloc ?_ ?_ _); rotate_left; focus (first | (simp; done) | (simp; omega) | omega))))
set_option maxRecDepth 4000 in
set_option maxHeartbeats 1000000 in
theorem bounded_ok (v : Val) (w : World) (h : v.t.size ≤ 300) (hf : fits 6 v = true) (hd : ¬ 5 < depthV 6 v) :
    Calls Try.prog 73 #[.agg #[.int .i64 v.k, .int .i64 v.n, .string v.t]] w fun e w' => e = .returned (.tuple #[.agg #[.int .i64 v.k, .int .i64 v.n, .string v.t], .int .i64 0]) ∧ Below w.heap.size w w' := by
  have hh : ¬ (300 : Int) < (v.t.size : Int) := by omega
  have X0 := Boxed.start w (.int .i64 v.k) (.int .i64 v.n) (.string v.t) 27
  have Y0 := Res3.start (w.alloc (.cells #[.int .i64 v.k, .int .i64 v.n, .string v.t] 27)) (.int .i64 0) (.int .i64 0) (.string em) 27
  have X1 := X0.step Y0.bel
  go_enter Try.func73, Try.ntmps73
  go_wp2_with fail
  refine (depthOf_at 6 (by omega) v _ (by omega) hf).mono ?_
  rintro e w1 ⟨rfl, hb⟩
  have Y := Y0.step hb
  have X := X1.step hb
  have a0 := X.c0
  have a1 := X.c1
  have a2 := X.c2
  have g0 := Y.c0
  have g1 := Y.c1
  have g2 := Y.c2
  have z0 := Y.z0
  have z1 := Y.z1
  have z2 := Y.z2
  have hlt := Y.lt
  have hbw : Below w.heap.size w w1 := ((Below.refl _ _).alloc (Nat.le_refl _) _).trans (Y.bel.mono (by simp))
  simp only [heap_size_alloc] at g0 g1 g2 z0 z1 z2 hlt
  clear hb Y Y0 X X0 X1
  go_wp2_with fail
  refine bodyPost_ret (v := .tuple #[.agg #[.int .i64 v.k, .int .i64 v.n, .string v.t], .int .i64 0]) (by simp [results, Try.results73, go_sem, *]) rfl ⟨rfl, ?_⟩
  (repeat (first | (with_reducible exact Below.refl _ _) | (with_reducible assumption) | (with_reducible apply below_drewN) | (with_reducible apply Below.drew) | ((with_reducible refine Below.setCell ?_ ?_ _); rotate_left; focus (first | (simp; done) | (simp; omega) | omega)) | ((with_reducible refine Below.alloc ?_ ?_ _); rotate_left; focus (first | (simp; done) | (simp; omega) | omega))))
theorem bounded_list (l : List Val) (w : World) (hl : l.length ≤ 300) (hall : ∀ v ∈ l, okB v = true) :
    Calls Try.prog 73 #[.agg #[.int .i64 4, .int .i64 0, .string (txt (encL l))]] w fun e w' => e = .returned (.tuple #[aggV (fitP l).1, .int .i64 (fitP l).2]) ∧ Below w.heap.size w w' := by
  have hs : (txt (encL l)).size = (encL l).length := txt_size _
  have hm := encL_len l hall
  by_cases h : 300 < (encL l).length
  · rw [fitP_size l h]; exact bounded_size 4 0 _ w (by omega) (by omega)
  · obtain ⟨hf, hd⟩ := made_fits l hall h
    by_cases h2 : 4 < dmax (depthV 5) l
    · rw [fitP_deep l h h2]
      exact bounded_deep ⟨4, 0, txt (encL l)⟩ w (by show (txt (encL l)).size ≤ 300; omega) hf (by omega)
    · rw [fitP_ok l h h2]
      exact bounded_ok ⟨4, 0, txt (encL l)⟩ w (by show (txt (encL l)).size ≤ 300; omega) hf (by omega)

set_option maxRecDepth 4000 in
set_option maxHeartbeats 1000000 in
theorem implList_long (g cap : Nat) (l : List Val) (w : World) (hl : l.length ≤ 1048576) (h : 4096 < l.length) :
    Calls Try.prog 17 #[.slice (some ⟨g, 0, none⟩) l.length cap] w fun e w' => e = .returned (.tuple #[.agg #[.int .i64 0, .int .i64 0, .string em], .int .i64 2]) ∧ Below w.heap.size w w' := by
  have hh : (4096 : Int) < (l.length : Int) := by omega
  go_enter Try.func17, Try.ntmps17
  go_wp2_with fail
  refine bodyPost_ret (v := .tuple #[.agg #[.int .i64 0, .int .i64 0, .string em], .int .i64 2]) (by simp [results, Try.results17, go_sem, *]) rfl ⟨rfl, ?_⟩
  (repeat (first | (with_reducible exact Below.refl _ _) | (with_reducible assumption) | (with_reducible apply below_drewN) | (with_reducible apply Below.drew) | ((with_reducible refine Below.setCell ?_ ?_ _); rotate_left; focus (first | (simp; done) | (simp; omega) | omega)) | ((with_reducible refine Below.alloc ?_ ?_ _); rotate_left; focus (first | (simp; done) | (simp; omega) | omega))))
set_option maxRecDepth 4000 in
set_option maxHeartbeats 1000000 in
theorem implList_many (g cap : Nat) (l : List Val) (w : World) (h : ¬ 4096 < l.length) (h2 : 300 < l.length) :
    Calls Try.prog 17 #[.slice (some ⟨g, 0, none⟩) l.length cap] w fun e w' => e = .returned (.tuple #[.agg #[.int .i64 0, .int .i64 0, .string em], .int .i64 10]) ∧ Below w.heap.size w w' := by
  have hh : ¬ (4096 : Int) < (l.length : Int) := by omega
  have hh2 : (300 : Int) < (l.length : Int) := by omega
  go_enter Try.func17, Try.ntmps17
  go_wp2_with fail
  refine bodyPost_ret (v := .tuple #[.agg #[.int .i64 0, .int .i64 0, .string em], .int .i64 10]) (by simp [results, Try.results17, go_sem, *]) rfl ⟨rfl, ?_⟩
  (repeat (first | (with_reducible exact Below.refl _ _) | (with_reducible assumption) | (with_reducible apply below_drewN) | (with_reducible apply Below.drew) | ((with_reducible refine Below.setCell ?_ ?_ _); rotate_left; focus (first | (simp; done) | (simp; omega) | omega)) | ((with_reducible refine Below.alloc ?_ ?_ _); rotate_left; focus (first | (simp; done) | (simp; omega) | omega))))
set_option maxRecDepth 4000 in
set_option maxHeartbeats 2000000 in
theorem implList_few (g cap : Nat) (l : List Val) (w : World) (hr : ReadV w g l) (h2 : ¬ 300 < l.length) (hts : ∀ v ∈ l, v.t.size ≤ 1048576) :
    Calls Try.prog 17 #[.slice (some ⟨g, 0, none⟩) l.length cap] w fun e w' => e = .returned (.tuple #[aggV (listP l).1, .int .i64 (listP l).2]) ∧ Below w.heap.size w w' := by
  have hh : ¬ (4096 : Int) < (l.length : Int) := by omega
  have hh2 : ¬ (300 : Int) < (l.length : Int) := by omega
  have hl : l.length ≤ 300 := by omega
  have X0 := Res3.start w (.int .i64 0) (.int .i64 0) (.string em) 27
  have HR : Hid _ := hr.next X0.bel
  have HT : Hid _ := hts
  clear hr hts
  cases hal : l.all okB
  · have hbad : listP l = (zv, 1) := by unfold listP; rw [if_neg (by omega), if_neg h2, if_pos hal]
    rw [hbad]
    have HL : Hid _ := hal
    clear hal hbad
    go_enter Try.func17, Try.ntmps17
    go_wp2_with fail
    refine (anyWrong_any g cap l _ HR.out (by omega) HT.out).mono ?_
    rintro e w1 ⟨rfl, hb⟩
    rw [HL.out]
    have Y := X0.step hb
    have g0 := Y.c0
    have g1 := Y.c1
    have g2 := Y.c2
    have z0 := Y.z0
    have z1 := Y.z1
    have z2 := Y.z2
    have hlt := Y.lt
    have hbw := Y.bel
    clear hb Y X0
    go_wp2_with fail
    refine bodyPost_ret (v := .tuple #[.agg #[.int .i64 0, .int .i64 0, .string em], .int .i64 1]) (by simp [results, Try.results17, go_sem, *]) rfl ⟨rfl, ?_⟩
    (repeat (first | (with_reducible exact Below.refl _ _) | (with_reducible assumption) | (with_reducible apply below_drewN) | (with_reducible apply Below.drew) | ((with_reducible refine Below.setCell ?_ ?_ _); rotate_left; focus (first | (simp; done) | (simp; omega) | omega)) | ((with_reducible refine Below.alloc ?_ ?_ _); rotate_left; focus (first | (simp; done) | (simp; omega) | omega))))
  · have hall : ∀ v ∈ l, okB v = true := List.all_eq_true.mp hal
    rw [listP_ok l h2 hall]
    have HL : Hid _ := hal
    have HA : Hid _ := hall
    clear hal hall
    go_enter Try.func17, Try.ntmps17
    go_wp2_with fail
    refine (anyWrong_any g cap l _ HR.out (by omega) HT.out).mono ?_
    rintro e w1 ⟨rfl, hb⟩
    rw [HL.out]
    have Y1 := X0.step hb
    have HR1 : Hid _ := HR.out.next hb
    clear hb X0
    go_wp2_with fail
    refine (listWith_any g cap l _ HR1.out hl HA.out).mono ?_
    rintro e w2 ⟨rfl, hb⟩
    have Y2 := Y1.step hb
    clear hb Y1
    go_wp2_with fail
    refine (bounded_list l _ hl HA.out).mono ?_
    rintro e w3 ⟨rfl, hb⟩
    have Y := Y2.step hb
    have g0 := Y.c0
    have g1 := Y.c1
    have g2 := Y.c2
    have z0 := Y.z0
    have z1 := Y.z1
    have z2 := Y.z2
    have hlt := Y.lt
    have hbw := Y.bel
    clear hb Y Y2
    go_wp2_with fail
    refine bodyPost_ret (v := .tuple #[aggV (fitP l).1, .int .i64 (fitP l).2]) (by simp [results, Try.results17, go_sem, *]) rfl ⟨rfl, ?_⟩
    (repeat (first | (with_reducible exact Below.refl _ _) | (with_reducible assumption) | (with_reducible apply below_drewN) | (with_reducible apply Below.drew) | ((with_reducible refine Below.setCell ?_ ?_ _); rotate_left; focus (first | (simp; done) | (simp; omega) | omega)) | ((with_reducible refine Below.alloc ?_ ?_ _); rotate_left; focus (first | (simp; done) | (simp; omega) | omega))))
theorem implList_any (g cap : Nat) (l : List Val) (w : World) (hr : ReadV w g l) (hl : l.length ≤ 1048576) (hts : ∀ v ∈ l, v.t.size ≤ 1048576) :
    Calls Try.prog 17 #[.slice (some ⟨g, 0, none⟩) l.length cap] w fun e w' => e = .returned (.tuple #[aggV (listP l).1, .int .i64 (listP l).2]) ∧ Below w.heap.size w w' := by
  by_cases h : 4096 < l.length
  · rw [listP_long l h]; exact implList_long g cap l w hl h
  · by_cases h2 : 300 < l.length
    · rw [listP_many l h h2]; exact implList_many g cap l w h h2
    · exact implList_few g cap l w hr h2 hts

end Go.Proofs.Ytklicfcafpehfaa
