/- A new world: what the specification answers, whole. -/
import Derived.Test.YtlefpbgnkebmdaaGreatNwS
namespace Go.Proofs.YtlefpbgnkebmdaaGreat.Nw
open Go.RowKit Tr Co Ns
set_option linter.unusedVariables false

theorem s4_put1 {U : World} {b : Nat} {a0 a1 a2 a3 : Value} (h : S4 U b a0 a1 a2 a3) (v : Value) : S4 (U.setCell ⟨b, 1, none⟩ v) b a0 v a2 a3 := ⟨by simpa [World.setCell] using h.lt, by simp [World.setCell, Array.getElem?_modify, h.cb]⟩
theorem own_not {w : World} {base n b : Nat} {e : TypeId} {size : Nat} {v : Value} {xs : List Value} (h : w.ownsRow base e size v n xs) (hb : b < base) : v.ownBlock ≠ some b := fun e => by have := (World.ownsRow.lt h b e).1; omega
theorem kept1 {w : World} {base b o n : Nat} {e : TypeId} {size : Nat} {v x : Value} {xs : List Value} (h : w.ownsRow base e size v n xs) (hb : b < base) : (w.setCell ⟨b, o, none⟩ x).ownsRow base e size v n xs := World.ownsRow.kept h grown_set (.inr (own_not h hb))
theorem row_ne {w : World} {base n b : Nat} {e : TypeId} {size : Nat} {v : Value} {xs : List Value} (h : w.ownsRow base e size v n xs) (hb : b < base) : some b ≠ v.ownBlock := fun e => own_not h hb e.symm
set_option maxRecDepth 4000 in
set_option maxHeartbeats 4000000 in
theorem l11Own_new (p t q : Option Addr) (c x y : Nat) (ns : List NC) (w : World) (hin : InN3 w p ns) (hl : ns.length ≤ 3) :
    Calls Tryz.prog 20 #[.agg #[.slice p ns.length c, .slice t 0 x, .slice q 0 y, .int .i64 0]] w fun e w' => (∃ p' c' t' x' q' y' ns', e = .returned (.agg #[.slice p' ns'.length c', .slice t' 0 x', .slice q' 0 y', .int .i64 0]) ∧ ns'.map NC.n = ns.map NC.n ∧ OwnN w' w.heap.size (.slice p' ns'.length c') ns') ∧ Below w.heap.size w w' := by
  have HIN : Hid (InN3 _ _ _) := hin
  have X0 : S4 (((w.alloc (.cells #[.slice p ns.length c, .slice t 0 x, .slice q 0 y, .int .i64 0] 26)).alloc (.cells #[.slice none 0 0, .slice none 0 0, .slice none 0 0, .int .i64 0] 26)).alloc (.cells #[] 56)) w.heap.size _ _ _ _ := ((S4.new w (.slice p ns.length c) (.slice t 0 x) (.slice q 0 y) (.int .i64 0)).al _).al _
  have R0 : S4 (((w.alloc (.cells #[.slice p ns.length c, .slice t 0 x, .slice q 0 y, .int .i64 0] 26)).alloc (.cells #[.slice none 0 0, .slice none 0 0, .slice none 0 0, .int .i64 0] 26)).alloc (.cells #[] 56)) (w.heap.size + 1) (.slice none 0 0) (.slice none 0 0) (.slice none 0 0) (.int .i64 0) := by
    have h := S4.new (w.alloc (.cells #[.slice p ns.length c, .slice t 0 x, .slice q 0 y, .int .i64 0] 26)) (.slice none 0 0) (.slice none 0 0) (.slice none 0 0) (.int .i64 0)
    rw [heap_size_alloc] at h
    exact h.al _
  have O0 : OwnN (((w.alloc (.cells #[.slice p ns.length c, .slice t 0 x, .slice q 0 y, .int .i64 0] 26)).alloc (.cells #[.slice none 0 0, .slice none 0 0, .slice none 0 0, .int .i64 0] 26)).alloc (.cells #[] 56)) (w.heap.size + 2) (.slice (some ⟨w.heap.size + 1 + 1, 0, none⟩) 0 0) [] := by
    have h := World.ownsRow_made (size := 3) (e := 56) ((w.alloc (.cells #[.slice p ns.length c, .slice t 0 x, .slice q 0 y, .int .i64 0] 26)).alloc (.cells #[.slice none 0 0, .slice none 0 0, .slice none 0 0, .int .i64 0] 26)) #[] 0 (base := w.heap.size + 2) (by simp) (by unfold maxLen; omega) rfl
    rw [show ((w.alloc (.cells #[.slice p ns.length c, .slice t 0 x, .slice q 0 y, .int .i64 0] 26)).alloc (.cells #[.slice none 0 0, .slice none 0 0, .slice none 0 0, .int .i64 0] 26)).heap.size = w.heap.size + 1 + 1 by simp] at h
    exact h
  have B0 : Below w.heap.size w (((w.alloc (.cells #[.slice p ns.length c, .slice t 0 x, .slice q 0 y, .int .i64 0] 26)).alloc (.cells #[.slice none 0 0, .slice none 0 0, .slice none 0 0, .int .i64 0] 26)).alloc (.cells #[] 56)) := by (repeat (first | (with_reducible exact Below.refl _ _) | (with_reducible assumption) | (with_reducible apply below_drewN) | (with_reducible apply Below.drew) | ((with_reducible refine Below.setCell ?_ ?_ _); rotate_left; focus (first | (simp; done) | (simp; omega) | omega)) | ((with_reducible refine Below.alloc ?_ ?_ _); rotate_left; focus (first | (simp; done) | (simp; omega) | omega))))
  clear hin
  go_enter Tryz.func20, Tryz.ntmps20
  go_wp2_with fail
  generalize ((w.alloc (.cells #[.slice p ns.length c, .slice t 0 x, .slice q 0 y, .int .i64 0] 26)).alloc (.cells #[.slice none 0 0, .slice none 0 0, .slice none 0 0, .int .i64 0] 26)).alloc (.cells #[] 56) = W0 at X0 R0 O0 B0 ⊢
  go_loopw [3, 4] (fun u i wr => ∃ (k : Nat) (pv : Option Addr) (cv : Nat) (l : List NC), k ≤ ns.length ∧ i = .int .i64 k ∧ u = .slice pv k cv ∧ l.map NC.n = (ns.map NC.n).take k ∧ S4 wr w.heap.size (.slice p ns.length c) (.slice t 0 x) (.slice q 0 y) (.int .i64 0) ∧ S4 wr (w.heap.size + 1) (.slice none 0 0) (.slice none 0 0) (.slice none 0 0) (.int .i64 0) ∧ OwnN wr (w.heap.size + 2) (.slice pv k cv) l ∧ Below w.heap.size w wr) (fun _ i _ => ns.length - (intOf i).toNat)
  case atStart => exact ⟨0, _, 0, [], Nat.zero_le _, rfl, rfl, rfl, X0, R0, O0, B0⟩
  case round =>
    obtain ⟨k, pv, cv, l, hk, rfl, rfl, hns, X, R, hO, hbel⟩ := hrel
    have HO : Hid (OwnN _ _ _ _) := hO
    have HNS : Hid (_ = _) := hns
    have HB : Hid (Below _ _ _) := hbel
    have HR : Hid (S4 _ _ _ _ _ _) := R
    have HX : Hid (S4 _ _ _ _ _ _) := X
    have hnl : l.length = k := by have := congrArg List.length hns; simpa [Nat.min_eq_left hk] using this
    have hz := hbel.size
    obtain ⟨xl, xc0, xc1, xc2, xc3, xf0, xf1, xf2, xf3⟩ := X.all
    clear hO X0 R0 O0 B0 hns R X
    by_cases hlt : k < ns.length
    · have hlt2 : (k : Int) < (ns.length : Int) := by omega
      rcases HIN.out.step hbel with h0 | ⟨g, rfl, e1, hc⟩
      · omega
      obtain ⟨z0, z1, z2⟩ := hc k hlt
      have htk : (ns.map NC.n).take (k + 1) = (ns.map NC.n).take k ++ [ns[k].n] := by rw [List.take_succ_eq_append_getElem (by simpa using hlt)]; simp
      obtain ⟨en, hen⟩ : ∃ en, en = ns[k] := ⟨_, rfl⟩
      rw [← hen] at z0 z1 z2 htk
      have HTK : Hid _ := htk
      have HC : Hid (∀ W : World, Calls _ _ _ W _) := fun W => l08Own_new en.n en.pa en.pb en.ca en.cb W
      have HOA : Hid (wr.ownsRow (w.heap.size + 2) 56 3 (.slice pv k cv) k (flatN l)) := by have h := HO.out; unfold OwnN at h; rw [hnl] at h; exact h
      clear hc hen htk hbel HO
      go_wp2_with fail
      refine (HC.out _).mono ?_
      rintro e w6 ⟨⟨p1, c1, q1, d1, rfl⟩, hb6⟩
      have O6 : Hid (World.ownsRow _ _ _ _ _ _ _) := owns_below HOA.out hb6
      have X6 : Hid (S4 _ _ _ _ _ _) := HX.out.step hb6
      have R6 : Hid (S4 _ _ _ _ _ _) := HR.out.step hb6
      have B6 : Hid (Below w.heap.size w w6) := HB.out.trans (hb6.mono hz)
      have hz6 := hb6.size
      have hzz : w.heap.size + 2 ≤ w6.heap.size := by have := X6.out.lt; have := R6.out.lt; omega
      clear hb6 HOA HX HR HB HC xc0 xc1 xc2 xc3 xf0 xf1 xf2 xf3
      go_wp2_with (at_builtin; refine wpList_apqN rfl (.tmp 15) (.tmp 22) rfl (w.heap.size + 2) k (.slice pv k cv) (flatN l) rfl (O6.out.alloc _) ⟨w6.heap.size, 0, none⟩ 1 1 (rowN ⟨en.n, p1, c1, q1, d1⟩) rfl rfl (three_new _ _ _) (three_one _) (by omega) (by omega) (by simp; omega) ?_; intro v7 w7 o7 g7 at7; obtain ⟨gv, cw, hvv, hgv, hgl⟩ := Ns.rowAt o7 (by omega); subst hvv)
      have hO8 : OwnN w7 (w.heap.size + 2) (.slice (some ⟨gv, 0, none⟩) (k + 1) cw) (l ++ [⟨en.n, p1, c1, q1, d1⟩]) := by
        unfold OwnN
        rw [flatN_snoc, List.length_append, hnl]
        exact o7
      have HO8 : Hid (OwnN _ _ _ _) := hO8
      have HX8 : Hid (S4 w7 _ _ _ _ _) := (X6.out.al (.cells (rowN ⟨en.n, p1, c1, q1, d1⟩).toArray 56)).out g7 (row_ne O6.out (by omega))
      have HR8 : Hid (S4 w7 _ _ _ _ _) := (R6.out.al (.cells (rowN ⟨en.n, p1, c1, q1, d1⟩).toArray 56)).out g7 (row_ne O6.out (by omega))
      have HB8 : Hid (Below w.heap.size w w7) := (B6.out.alloc (by omega) (.cells (rowN ⟨en.n, p1, c1, q1, d1⟩).toArray 56)).grown g7 (by simp; omega) (fun b hb => by have := (O6.out.lt b hb).1; omega)
      have HMP : Hid ((l ++ [(⟨en.n, p1, c1, q1, d1⟩ : NC)]).map NC.n = (ns.map NC.n).take (k + 1)) := by show _ = _; rw [HTK.out, List.map_append, HNS.out]; rfl
      clear o7 g7 at7 hO8 O6 X6 R6 B6 HNS HTK
      go_wp2_with fail
      go_roundw
      case rel => exact ⟨k + 1, _, _, _, by omega, by go_num, rfl, HMP.out, HX8.out, HR8.out, HO8.out, HB8.out⟩
      case measure => simp [intOf]; omega
    · obtain rfl : k = ns.length := by omega
      have hmp : l.map NC.n = ns.map NC.n := by rw [HNS.out]; rw [List.take_of_length_le (by simp)]
      have HMP : Hid _ := hmp
      clear hmp HNS hbel
      go_wp2_with fail
      refine wp_loop_rounds 1 ?_
      rw [rounds_succ]
      go_wp2_with fail
      refine (l09Own_none q y _).mono ?_
      rintro e w6 ⟨⟨q', d', rfl⟩, hb6⟩
      have X5 := (s4_put1 (HX.out.put (.slice pv ns.length cv)) (.slice (some ⟨wr.heap.size, 0, none⟩) 0 0)).al (.cells #[] 73)
      have X6 := X5.step hb6
      have R5 := ((HR.out.off (c := w.heap.size) (k := 0) (.slice pv ns.length cv) (by omega)).off (c := w.heap.size) (k := 1) (.slice (some ⟨wr.heap.size, 0, none⟩) 0 0) (by omega)).al (.cells #[] 73)
      have R6 := R5.step hb6
      have O6 : OwnN w6 (w.heap.size + 2) (.slice pv ns.length cv) l := owns_below (World.ownsRow.alloc (kept1 (kept1 HO.out (by omega)) (by omega)) (.cells #[] 73)) hb6
      have hb5 : Below w.heap.size w (((wr.setCell ⟨w.heap.size, 0, none⟩ (.slice pv ns.length cv)).setCell ⟨w.heap.size, 1, none⟩ (.slice (some ⟨wr.heap.size, 0, none⟩) 0 0)).alloc (.cells #[] 73)) := ((HB.out.setCell (Nat.le_refl _) _).setCell (Nat.le_refl _) _).alloc (by simp [World.setCell]; exact hz) _
      have B6 : Below w.heap.size w w6 := hb5.trans (hb6.mono hb5.size)
      obtain ⟨yl, yc0, yc1, yc2, yc3, yf0, yf1, yf2, yf3⟩ := X6.all
      obtain ⟨sl, sc0, sc1, sc2, sc3, sf0, sf1, sf2, sf3⟩ := R6.all
      have HO6 : Hid (OwnN _ _ _ _) := O6
      clear xc0 xc1 xc2 xc3 xf0 xf1 xf2 xf3 X5 X6 R5 R6 hb5 hb6 O6 HO HX HR HB
      go_wp2_with fail
      refine bodyPost_ret (v := .agg #[.slice pv ns.length cv, .slice (some ⟨wr.heap.size, 0, none⟩) 0 0, .slice q' 0 d', .int .i64 0]) (by simp [results, Tryz.results20, go_sem, *]) rfl ⟨⟨pv, cv, _, _, _, _, l, by rw [hnl], HMP.out, ?_⟩, ?_⟩
      · rw [hnl]
        exact owns_mono (kept1 (kept1 (kept1 (kept1 (kept1 HO6.out (by omega)) (by omega)) (by omega)) (by omega)) (by omega)) (by omega)
      · (repeat (first | (with_reducible exact Below.refl _ _) | (with_reducible assumption) | (with_reducible apply below_drewN) | (with_reducible apply Below.drew) | ((with_reducible refine Below.setCell ?_ ?_ _); rotate_left; focus (first | (simp; done) | (simp; omega) | omega)) | ((with_reducible refine Below.alloc ?_ ?_ _); rotate_left; focus (first | (simp; done) | (simp; omega) | omega))))

end Go.Proofs.YtlefpbgnkebmdaaGreat.Nw
