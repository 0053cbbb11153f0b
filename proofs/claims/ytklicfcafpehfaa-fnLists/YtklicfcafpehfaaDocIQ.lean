/- How the program lays fields into the body of a document, and what it answers of the document made so. -/
import Derived.Test.YtklicfcafpehfaaDocM
import Derived.Test.YtklicfcafpehfaaGetMQ
import Derived.Test.YtklicfcafpehfaaDepthIQ
import Derived.Test.YtklicfcafpehfaaOrdSQ
import Derived.Lib.Hide
import Derived.Test.YtklicfcafpehfaaInsF
import Derived.Test.YtklicfcafpehfaaSpec
import Derived.Deep.RegionLaw
import Derived.BigQuiet
namespace Go.Proofs.Ytklicfcafpehfaa
open Go.RowKit
set_option linter.unusedVariables false

/-- A field as the program holds it. -/
abbrev aggF (f : Fld) : Value := .agg #[.string f.name, .int .i64 f.v.k, .int .i64 f.v.n, .string f.v.t]
def LaidF (w : World) (base : Nat) (zs : List Int) (e : Ending) (w' : World) : Prop := ∃ v', e = .returned v' ∧ OwnE w' base v' zs ∧ Below base w w'
theorem LaidF.mk {w : World} {base : Nat} {zs : List Int} {e : Ending} {w' : World} (v' : Value) (h : e = .returned v') (ho : OwnE w' base v' zs) (hb : Below base w w') : LaidF w base zs e w' := ⟨v', h, ho, hb⟩
theorem cellsE (t : ByteArray) : Lib.byteCells t.data.toList = rowE (bytesI t) := (rowE_text t).symm
set_option maxRecDepth 4000 in
set_option maxHeartbeats 2000000 in
theorem appendField_any (f : Fld) (h : okB f.v = true) (hn : f.name.size ≤ 12) (bv : Value) (zs : List Int) (base : Nat) (w : World) (hown : OwnE w base bv zs) (hbase : base ≤ w.heap.size) (hlen : zs.length ≤ 900000) :
    Calls Try.prog 143 #[bv, aggF f] w fun e w' => LaidF w base (zs ++ encF f) e w' := by
  have hw3 : IntKind.u8.wrap (f.name.size : Int) = f.name.size := by simp only [IntKind.wrap, IntKind.bits, IntKind.signed]; simp; omega
  have HO : Hid (World.ownsRow _ _ _ _ _ _ _) := World.ownsRow.alloc hown (.cells #[.string f.name, .int .i64 f.v.k, .int .i64 f.v.n, .string f.v.t] 36)
  have HK : Hid _ := h
  clear hown h
  go_enter Try.func143, Try.ntmps143
  go_wp2_with (at_builtin; refine app_byte rfl (.tmp 5) (.tmp 10) rfl base zs.length bv (rowE zs) (f.name.size : Int) _ rfl rfl (by simp) HO.out (by simp; omega) (by omega) ?_; intro v1 w1 o1 b1 k1; refine Hid.out ?_)
  refine Lib.hid ?_
  have HK1 : Hid (Kept _ _) := k1
  have HO1 : Hid (World.ownsRow _ _ _ _ _ _ _) := o1
  have c0 : w1.cell? ⟨w.heap.size, 0, none⟩ = some (.string f.name) := kept_new k1 (by decide) 0
  have hz1 := b1.size
  have HB1 : Hid (Below base w w1) := ((Below.refl _ _).alloc hbase _).trans b1
  rw [heap_size_alloc] at hz1
  clear o1 b1 k1
  go_wp2_with (at_builtin; refine app_str rfl (.tmp 12) (.tmp 14) rfl base _ _ _ f.name rfl rfl HO1.out (by omega) (by omega) (by omega) ?_; intro v2 w2 o2 b2 k2; refine Hid.out ?_)
  refine Lib.hid ?_
  have k3 := HK1.out.trans k2
  have c1 : w2.cell? ⟨w.heap.size, 1, none⟩ = some (.int .i64 f.v.k) := kept_new k3 (by decide) 1
  have c2 : w2.cell? ⟨w.heap.size, 2, none⟩ = some (.int .i64 f.v.n) := kept_new k3 (by decide) 2
  have c3 : w2.cell? ⟨w.heap.size, 3, none⟩ = some (.string f.v.t) := kept_new k3 (by decide) 3
  have hz2 := b2.size
  have HO2 : Hid (OwnE w2 base v2 (zs ++ [(f.name.size : Int)] ++ bytesI f.name)) := by
    show w2.ownsRow _ _ _ _ _ _
    rw [rowE_append, rowE_append, List.length_append, List.length_append, bytesI_len, ← cellsE]; exact o2
  have HB2 : Hid (Below base w w2) := HB1.out.trans b2
  clear o2 b2 k2 k3 c0
  go_wp2_with fail
  refine (appendValue_any f.v HK.out v2 _ base w2 HO2.out (by omega) (by simp only [List.length_append, bytesI_len, List.length_cons, List.length_nil]; omega)).mono ?_
  rintro e w3 ⟨v3, rfl, o3, g3, n3⟩
  have hb : Below base w w3 := Below.grown HB2.out g3 (by omega) (owns_block HO2.out)
  have e : zs ++ encF f = zs ++ [(f.name.size : Int)] ++ bytesI f.name ++ encB f.v := by
    unfold encF
    rw [numB_one, nb_zero, Int.emod_eq_of_lt (by omega) (by omega)]
    simp
  have HO3 : Hid (OwnE w3 base v3 (zs ++ encF f)) := by rw [e]; exact o3
  clear o3 g3 n3 e
  go_wp2_with fail
  go_ret
  exact LaidF.mk v3 rfl HO3.out hb

set_option maxRecDepth 4000 in
set_option maxHeartbeats 2000000 in
theorem docWith_any (p : Option Addr) (cap : Nat) (l : List Fld) (w : World) (hr : RowF w p l) (hl : l.length ≤ 300) (hg : GoodF l) :
    Calls Try.prog 82 #[.slice p l.length cap] w fun e w' => e = .returned (.agg #[.int .i64 5, .int .i64 0, .string (txt (encFL l))]) ∧ Below w.heap.size w w' := by
  have HR : Hid (RowF _ _ _) := hr
  have HA : Hid (GoodF _) := hg
  have X0 := Res3.start w (.int .i64 0) (.int .i64 0) (.string em) 27
  have HX : Hid _ := X0
  obtain ⟨w0, hw0⟩ : ∃ w0, w0 = w.alloc (.cells #[.int .i64 0, .int .i64 0, .string em] 27) := ⟨_, rfl⟩
  rw [← hw0] at HX
  have HW : Hid _ := hw0
  clear hr hg X0
  go_enter Try.func82, Try.ntmps82
  go_wp2_with fail
  clear hw0
  go_loopw [3, 8] (fun u i wr => ∃ k : Nat, k ≤ l.length ∧ i = .int .i64 k ∧ OwnE wr w0.heap.size u (encFL (l.take k)) ∧ Below w0.heap.size w0 wr) (fun _ i _ => l.length - (intOf i).toNat)
  case atStart => exact ⟨0, Nat.zero_le _, rfl, World.ownsRow_nil _ _ _ _, by rw [← HW.out]; exact Below.refl _ _⟩
  case round =>
    obtain ⟨k, hk, rfl, hown, hbel⟩ := hrel
    have X1 := HX.out.step hbel
    have hz := hbel.size
    have hz0 := HX.out.lt
    by_cases hlt : k < l.length
    · rcases HR.out.next X1.bel with h0 | ⟨g, rfl, R⟩
      · subst h0; simp at hlt
      · obtain ⟨x0, x1, x2, x3⟩ := R.cells k hlt
        have hlen : (encFL (l.take k)).length ≤ 900000 := by have := encFL_take_len l HA.out.names k hl; omega
        have hf := HA.out.all l[k] (List.getElem_mem _)
        have HK : Hid _ := hf.2
        have hns := short_size hf.1
        have HO : Hid (OwnE _ _ _ _) := hown
        have HB : Hid _ := hbel
        have hgl := R.lt
        clear hown hbel X1 hf R
        go_wp2_with fail
        refine (appendField_any l[k] HK.out hns _ _ w0.heap.size _ (by have := HO.out; unfold OwnE at this ⊢; exact this.alloc _) (by simp; omega) hlen).mono ?_
        rintro e w1 ⟨v', rfl, hown1, hb1⟩
        have hb : Below w0.heap.size w0 w1 := (HB.out.alloc hz _).trans hb1
        have HO1 : Hid (OwnE _ _ _ _) := hown1
        clear hb1 hown1
        go_wp2_with fail
        go_roundw
        case rel => exact ⟨k + 1, by omega, by go_num, by rw [encFL_take l k hlt]; exact HO1.out, hb⟩
        case measure => simp [intOf]; omega
    · have e : l.take k = l := List.take_of_length_le (by omega)
      rw [e] at hown
      have hconv := convA _ _ _ _ hown
      have g0 := X1.c0
      have g1 := X1.c1
      have g2 := X1.c2
      have z0 := X1.z0
      have z1 := X1.z1
      have z2 := X1.z2
      have hlt1 := X1.lt
      have hbw := X1.bel
      clear X1 hbel hown
      go_wp2_with fail
      refine bodyPost_ret (v := .agg #[.int .i64 5, .int .i64 0, .string (txt (encFL l))]) (by simp [results, Try.results82, go_sem, *]) rfl ⟨rfl, ?_⟩
      (repeat (first | (with_reducible exact Below.refl _ _) | (with_reducible assumption) | (with_reducible apply below_drewN) | (with_reducible apply Below.drew) | ((with_reducible refine Below.setCell ?_ ?_ _); rotate_left; focus (first | (simp; done) | (simp; omega) | omega)) | ((with_reducible refine Below.alloc ?_ ?_ _); rotate_left; focus (first | (simp; done) | (simp; omega) | omega))))

theorem bounded_doc (l : List Fld) (w : World) (hl : l.length ≤ 300) (hg : GoodF l) :
    Calls Try.prog 73 #[.agg #[.int .i64 5, .int .i64 0, .string (txt (encFL l))]] w fun e w' => e = .returned (.tuple #[aggV (fitD l).1, .int .i64 (fitD l).2]) ∧ Below w.heap.size w w' := by
  have hs : (txt (encFL l)).size = (encFL l).length := txt_size _
  have hm := encFL_len l hg.names
  by_cases h : 300 < (encFL l).length
  · rw [fitD_size l h]; exact bounded_size 5 0 _ w (by omega) (by omega)
  · obtain ⟨hf, hd⟩ := madeD_fits l hg h
    by_cases h2 : 4 < dF (depthV 5) l
    · rw [fitD_deep l h h2]
      exact bounded_deep ⟨5, 0, txt (encFL l)⟩ w (by show (txt (encFL l)).size ≤ 300; omega) hf (by omega)
    · rw [fitD_ok l h h2]
      exact bounded_ok ⟨5, 0, txt (encFL l)⟩ w (by show (txt (encFL l)).size ≤ 300; omega) hf (by omega)
theorem l01Fit_doc (l : List Fld) (w : World) (hl : l.length ≤ 300) (hg : GoodF l) :
    Calls Try.prog 76 #[.agg #[.int .i64 5, .int .i64 0, .string (txt (encFL l))]] w fun e w' => e = .returned (.tuple #[aggV (fitD l).1, .int .i64 (fitD l).2]) ∧ Below w.heap.size w w' := by
  have hs : (txt (encFL l)).size = (encFL l).length := txt_size _
  have hm := encFL_len l hg.names
  by_cases h : 300 < (encFL l).length
  · rw [fitD_size l h]; exact l01Fit_size 5 0 _ w (by omega) (by omega)
  · by_cases h2 : 4 < dF (depthV 5) l
    · rw [fitD_deep l h h2]
      exact l01Fit_bad 5 0 _ w (by omega) (by rw [madeD_ok l hg h]; exact decide_eq_false (by omega))
    · rw [fitD_ok l h h2]
      exact l01Fit_ok 5 0 _ w (by omega) (by rw [madeD_ok l hg h]; exact decide_eq_true (by omega))

end Go.Proofs.Ytklicfcafpehfaa

/- What the library's slices.Insert does to a row of fields of the call's own, ahead of its end. -/
namespace Go.Proofs.Ytklicfcafpehfaa
open Go.RowKit
set_option linter.unusedVariables false

theorem sizeF (w : World) : (Go.sizeOf 36).run Try.prog w = .ok 4 w := by
  obtain ⟨i0, hi, hz0, hz1, hz2⟩ := info_parts infoF
  simp [sizeOf, typeInfo, hi, hz1]
theorem infoF4 : (Try.prog.info? 36).map (·.size) = some 4 := by
  obtain ⟨i0, hi, hz0, hz1, hz2⟩ := info_parts infoF
  rw [hi]; simp [hz1]
/-- Cells shifted up by four, and four others put where they stood. -/
theorem shift_list (A F R : List Value) (k N : Nat) (hF : A.take N = F) (hk : k ≤ N) (hN : N + 4 ≤ A.length) (hR : R.length = 4) :
    let B := A.take (k + 4) ++ F.drop k ++ A.drop (k + 4 + (F.drop k).length)
    (B.take k ++ R ++ B.drop (k + R.length)).take (N + 4) = F.take k ++ R ++ F.drop k ∧ (B.take k ++ R ++ B.drop (k + R.length)).length = A.length ∧ B.length = A.length := by
  intro B
  have hFl : F.length = N := by rw [← hF, List.length_take]; omega
  have hBl : B.length = A.length := by
    show (A.take (k + 4) ++ F.drop k ++ A.drop (k + 4 + (F.drop k).length)).length = _
    simp only [List.length_append, List.length_take, List.length_drop]
    omega
  have h1 : B.take k = F.take k := by
    show (A.take (k + 4) ++ F.drop k ++ A.drop (k + 4 + (F.drop k).length)).take k = _
    rw [List.append_assoc, List.take_append_of_le_length (by rw [List.length_take]; omega), List.take_take, ← hF, List.take_take]
    congr 1; omega
  have h2 : B.drop (k + 4) = F.drop k ++ A.drop (k + 4 + (F.drop k).length) := by
    show (A.take (k + 4) ++ F.drop k ++ A.drop (k + 4 + (F.drop k).length)).drop (k + 4) = _
    rw [List.append_assoc, List.drop_append_of_le_length (by rw [List.length_take]; omega), List.drop_of_length_le (by rw [List.length_take]; omega), List.nil_append]
  refine ⟨?_, ?_, hBl⟩
  · rw [hR, h1, h2, ← List.append_assoc, List.take_append_of_le_length (by simp only [List.length_append, List.length_take, List.length_drop]; omega), List.take_of_length_le (by simp only [List.length_append, List.length_take, List.length_drop]; omega)]
  · simp only [List.length_append, List.length_take, List.length_drop]; omega

theorem cell_row {w : World} {g : Nat} {cur : Array Value} {t : TypeId} {fz : Nat × Nat} (hg : w.heap[g]? = some (.cells cur t fz)) (o : Nat) : w.cell? ⟨g, o, none⟩ = cur[o]? := by simp [World.cell?, hg]
theorem add_off (g o j : Nat) : (⟨g, o, none⟩ : Addr).add j = ⟨g, o + j, none⟩ := by
  by_cases h : j = 0
  · subst h; simp [Addr.add]
  · simp [Addr.add, h]

set_option maxRecDepth 4000 in
set_option maxHeartbeats 4000000 in
theorem insert_room (g cap : Nat) (l : List Fld) (i : Nat) (f : Fld) (vb base : Nat) (cur : Array Value) (w : World) (hi : i < l.length) (hroom : l.length + 1 ≤ cap) (hcap : cap ≤ maxLen) (hlen : l.length ≤ 1000) (hbg : base ≤ g)
    (hg : w.heap[g]? = some (.cells cur 36 (0, 0))) (hsz : cur.size = cap * 4) (hcur : cur.toList.take (l.length * 4) = flatF l) (hvb : LiesF w vb f) (hne : vb ≠ g) :
    Calls Try.prog 142 #[.slice (some ⟨g, 0, none⟩) l.length cap, .int .i64 i, .slice (some ⟨vb, 0, none⟩) 1 1] w fun e w' => InsOut w base (.slice (some ⟨g, 0, none⟩) l.length cap) (insL l i f) e w' := by
  obtain ⟨B, hB⟩ : ∃ B, B = cur.toList.take (i * 4 + 4) ++ (flatF l).drop (i * 4) ++ cur.toList.drop (i * 4 + 4 + ((flatF l).drop (i * 4)).length) := ⟨_, rfl⟩
  have hR4 : (rowF f).length = 4 := rfl
  have hcl : cur.toList.length = cap * 4 := by rw [Array.length_toList]; exact hsz
  have hsh := shift_list cur.toList (flatF l) (rowF f) (i * 4) (l.length * 4) hcur (by omega) (by rw [hcl]; omega) hR4
  simp only [← hB] at hsh
  obtain ⟨s1, s2, s3⟩ := hsh
  have hdl : ((flatF l).drop (i * 4)).length = (l.length - i) * 4 := by rw [List.length_drop, flatF_len]; omega
  have hov : ∀ lb cb, (callFunc 190 #[.slice (some ⟨vb, 0, none⟩) 1 1, .slice (some ⟨g, (i + 1) * 4, none⟩) lb cb]).run Try.prog w = .ok (.value (.bool false)) w := fun lb cb => by
    rw [run_callFunc_extern Try.func190 (by kernel_rfl) (by kernel_rfl) (by kernel_rfl) (e := Extern.SlicesOverlaps.overlaps #[33, 33] #[4]) (by kernel_rfl),
      Lib.run_overlaps_apart w 33 4 36 Try.underlying33 4 sizeF ⟨vb, 0, none⟩ ⟨g, (i + 1) * 4, none⟩ 1 1 lb cb hne 36 36 4 cur.size (by simp [World.shape?, hvb]) (by simp [World.shape?, hg]) (by omega) (by simp [World.frozen?, hvb]) (by simp [World.frozen?, hvb])]
    rfl
  obtain ⟨W1, hW1⟩ : ∃ W1, W1 = w.drew.setRow g B.toArray := ⟨_, rfl⟩
  obtain ⟨W2, hW2⟩ : ∃ W2, W2 = W1.setRow g (B.take (i * 4) ++ rowF f ++ B.drop (i * 4 + (rowF f).length)).toArray := ⟨_, rfl⟩
  have hgd : w.drew.heap[g]? = some (.cells cur 36 (0, 0)) := hg
  have hg1 : W1.heap[g]? = some (.cells B.toArray 36 (0, 0)) := by rw [hW1]; exact setRow_heap _ _ _ _ _ _ hgd
  have hv1 : LiesF W1 vb f := by rw [LiesF, hW1, setRow_other _ _ _ _ hne]; exact hvb
  have hcp1 : ∀ ty dc sc, (Builtin.copy_ #[33, 33] ty #[.slice (some ⟨g, (i + 1) * 4, none⟩) (l.length - i) dc, .slice (some ⟨g, i * 4, none⟩) (l.length + 1 - i) sc]).run Try.prog w.drew = .ok (goInt ((l.length - i : Nat) : Int)) W1 := fun ty dc sc => by
    have := run_copy_rowK (P := Try.prog) w.drew 33 33 ty 36 g ((i + 1) * 4) (l.length - i) dc ⟨g, i * 4, none⟩ (l.length + 1 - i) sc cur 36 ((flatF l).drop (i * 4)) 4 (l.length - i) Try.underlying33 infoF4 hgd (by simp only [Nat.min_def]; split <;> omega) hdl
      (fun j v hj => by
        rw [add_off, cell_row hgd]
        rw [List.getElem?_drop] at hj
        have hjl : i * 4 + j < l.length * 4 := by
          have := (List.getElem?_eq_some_iff.1 hj).1
          rw [flatF_len] at this; exact this
        rw [← hcur, List.getElem?_take, if_pos hjl] at hj
        rw [← hj, Array.getElem?_toList])
      (by rw [hdl, hsz]; omega) (fun v hv => flatF_one l v (List.mem_of_mem_drop hv))
    rw [this, hW1, hB, show (i + 1) * 4 = i * 4 + 4 by omega]
  have hcp2 : ∀ ty dc, (Builtin.copy_ #[33, 33] ty #[.slice (some ⟨g, i * 4, none⟩) (l.length + 1 - i) dc, .slice (some ⟨vb, 0, none⟩) 1 1]).run Try.prog W1 = .ok (goInt ((1 : Nat) : Int)) W2 := fun ty dc => by
    have := run_copy_rowK (P := Try.prog) W1 33 33 ty 36 g (i * 4) (l.length + 1 - i) dc ⟨vb, 0, none⟩ 1 1 B.toArray 36 (rowF f) 4 1 Try.underlying33 infoF4 hg1 (by simp only [Nat.min_def]; split <;> omega) hR4
      (liesF_cells hv1) (by rw [List.size_toArray, s3, hcl, hR4]; omega) (rowF_one f)
    rw [this, hW2]
  have hown : W2.ownsRow base 36 4 (.slice (some ⟨g, 0, none⟩) (insL l i f).length cap) (insL l i f).length (flatF (insL l i f)) := by
    refine ⟨flatF_len _, .inr ⟨g, cap, _, rfl, hbg, by rw [hW2]; exact setRow_heap _ _ _ _ _ _ hg1, ?_, hcap, ?_, ?_⟩⟩
    · rw [insL_len l i f (by omega)]; exact hroom
    · rw [List.size_toArray, s2, hcl]
    · rw [insL_len l i f (by omega), flatF_ins l i f (by omega), ← s1, List.toList_toArray]
      congr 1; omega
  have hgr : w.grownBy W2 (some g) := by
    have e1 : w.grownBy W1 (some g) := by
      have := grown_setRow w.drew g B.toArray
      rw [← hW1] at this
      exact ⟨this.os, this.tape, this.output, this.size, this.block⟩
    have e2 := grown_setRow W1 g (B.take (i * 4) ++ rowF f ++ B.drop (i * 4 + (rowF f).length)).toArray
    rw [← hW2] at e2
    exact e1.trans e2
  have hil := insL_len l i f (by omega)
  rw [hil] at hown
  have HOWN : Hid (World.ownsRow _ _ _ _ _ _ _) := hown
  have HGR : Hid _ := hgr
  have HIL : Hid (_ = _) := hil
  have hb0 : (0 : Int) ≤ (i : Int) + 1 := by omega
  have hz2 : ¬ ((i : Int) = (l.length : Int)) := by omega
  have hz3 : ((i : Int) == (l.length : Int)) = false := beq_eq_false_iff_ne.mpr hz2
  have hz4 : ¬ ((cap : Int) < (l.length : Int) + 1) := by omega
  have hi1 : (i : Int) ≤ (l.length : Int) := by omega
  have hi2 : (i : Int) + 1 ≤ (l.length : Int) + 1 := by omega
  have hi3 : (l.length : Int) + 1 ≤ (cap : Int) := by omega
  have hi4 : (i : Int) ≤ (l.length : Int) + 1 := by omega
  have htn : ((i : Int) + 1).toNat = i + 1 := by omega
  have htn2 : ((l.length : Int) + 1).toNat = l.length + 1 := by omega
  have hw1 : IntKind.i64.wrap ((i : Int) + 1) = (i : Int) + 1 := by rw [IntKind.wrap_i64]; omega
  have hw2 : IntKind.i64.wrap ((l.length : Int) + 1) = (l.length : Int) + 1 := by rw [IntKind.wrap_i64]; omega
  have hb2 : ¬ (cap = i + 1) := by omega
  have hb4 : ¬ (cap = i) := by omega
  unfold maxLen at hcap
  clear hB hdl s1 s2 s3 hW1 hW2 hgd hg1 hv1 hown hgr hcur hvb hg hsz hil hR4 hz2
  go_enter Try.func142, Try.ntmps142
  go_wp2_with (simp only [hov])
  go_region_law (refine step_copyK rfl _ _ 33 33 rfl _ _ (by simp [Act.eval, Act.put]) (by simp [Act.eval, Act.put]) (hcp1 _ _ _) ?_)
  go_wp2_with (at_builtin; refine wpList_copyK _ rfl _ _ 33 33 rfl _ _ rfl rfl (hcp2 _ _) ?_)
  go_ret
  exact InsOut.mk _ rfl (by rw [HIL.out]; exact HOWN.out) HGR.out (.inl rfl)

end Go.Proofs.Ytklicfcafpehfaa

/- What the library's slices.Insert does to a row of fields of the call's own: where a new row must be made; and in all cases. -/
namespace Go.Proofs.Ytklicfcafpehfaa
open Go.RowKit
set_option linter.unusedVariables false

theorem grow_list (F R Z : List Value) (k N : Nat) (hF : F.length = N) (hk : k ≤ N) (hZ : N + 4 ≤ k + Z.length) (hR : R.length = 4) :
    let A := F.take k ++ Z
    let B := A.take k ++ R ++ A.drop (k + R.length)
    (B.take (k + 4) ++ F.drop k ++ B.drop (k + 4 + (F.drop k).length)).take (N + 4) = F.take k ++ R ++ F.drop k ∧ (B.take (k + 4) ++ F.drop k ++ B.drop (k + 4 + (F.drop k).length)).length = A.length ∧ B.length = A.length := by
  intro A B
  have hAl : A.length = k + Z.length := by show (F.take k ++ Z).length = _; rw [List.length_append, List.length_take]; omega
  have hBl : B.length = A.length := by
    show (A.take k ++ R ++ A.drop (k + R.length)).length = _
    simp only [List.length_append, List.length_take, List.length_drop]; omega
  have hAk : A.take k = F.take k := by
    show (F.take k ++ Z).take k = _
    rw [List.take_append_of_le_length (by rw [List.length_take]; omega), List.take_take]; congr 1; omega
  have h1 : B.take (k + 4) = F.take k ++ R := by
    show (A.take k ++ R ++ A.drop (k + R.length)).take (k + 4) = _
    rw [List.take_append_of_le_length (by simp only [List.length_append, List.length_take]; omega), List.take_of_length_le (by simp only [List.length_append, List.length_take]; omega), hAk]
  refine ⟨?_, ?_, hBl⟩
  · rw [h1, List.take_append_of_le_length (by simp only [List.length_append, List.length_take, List.length_drop]; omega), List.take_of_length_le (by simp only [List.length_append, List.length_take, List.length_drop]; omega)]
  · simp only [List.length_append, List.length_take, List.length_drop]; omega
theorem zeroF_size (k : Nat) : (Builtin.zeroCells (Value.agg #[.string em, .int .i64 0, .int .i64 0, .string em]).cells k).size = k * 4 := by
  have hc : (Value.agg #[.string em, .int .i64 0, .int .i64 0, .string em]).cells = #[.string em, .int .i64 0, .int .i64 0, .string em] := rfl
  rw [hc]
  simp [Builtin.zeroCells]
theorem zeroF_len (k : Nat) : (Builtin.zeroCells (Value.agg #[.string em, .int .i64 0, .int .i64 0, .string em]).cells k).toList.length = k * 4 := (Array.length_toList).trans (zeroF_size k)

set_option maxRecDepth 4000 in
set_option maxHeartbeats 4000000 in
theorem insert_grow (g cap : Nat) (l : List Fld) (i : Nat) (f : Fld) (vb base : Nat) (cur : Array Value) (w : World) (hi : i < l.length) (hcap1 : l.length ≤ cap) (hroom : cap < l.length + 1) (hlen : l.length ≤ 1000) (hbase : base ≤ w.heap.size)
    (hg : w.heap[g]? = some (.cells cur 36 (0, 0))) (hsz : cur.size = cap * 4) (hcur : cur.toList.take (l.length * 4) = flatF l) (hvb : LiesF w vb f) :
    Calls Try.prog 142 #[.slice (some ⟨g, 0, none⟩) l.length cap, .int .i64 i, .slice (some ⟨vb, 0, none⟩) 1 1] w fun e w' => InsOut w base (.slice (some ⟨g, 0, none⟩) l.length cap) (insL l i f) e w' := by
  obtain ⟨i0, hi0, hz0, hz1, hz2⟩ := info_parts infoF
  have hgw : g < w.heap.size := (Array.getElem?_eq_some_iff.1 hg).1
  have hvw : vb < w.heap.size := (Array.getElem?_eq_some_iff.1 hvb).1
  have hcell : ∀ j v, (flatF l)[j]? = some v → w.cell? ⟨g, j, none⟩ = some v := fun j v hj => by
    rw [cell_row hg]
    have hjl : j < l.length * 4 := by have := (List.getElem?_eq_some_iff.1 hj).1; rw [flatF_len] at this; exact this
    rw [← hcur, List.getElem?_take, if_pos hjl] at hj
    rw [← hj, Array.getElem?_toList]
  obtain ⟨G, hG⟩ : ∃ G, G = grownCap w (l.length + 1) cap 36 := ⟨_, rfl⟩
  have hGn : l.length + 1 ≤ G := by rw [hG]; exact grownCap_ge w _ _ _
  have hGm : G ≤ maxLen := by rw [hG]; exact grownCap_le_maxLen w _ _ _ (by unfold maxLen; omega)
  obtain ⟨Z, hZ⟩ : ∃ Z, Z = (Builtin.zeroCells (Value.agg #[.string em, .int .i64 0, .int .i64 0, .string em]).cells (l.length + 1 - i)).toList ++ (Builtin.zeroCells (Value.agg #[.string em, .int .i64 0, .int .i64 0, .string em]).cells (G - (l.length + 1))).toList := ⟨_, rfl⟩
  have hZl : Z.length = (G - i) * 4 := by rw [hZ, List.length_append, zeroF_len, zeroF_len]; omega
  obtain ⟨A, hA⟩ : ∃ A, A = (flatF l).take (i * 4) ++ Z := ⟨_, rfl⟩
  obtain ⟨B, hB⟩ : ∃ B, B = A.take (i * 4) ++ rowF f ++ A.drop (i * 4 + (rowF f).length) := ⟨_, rfl⟩
  have hR4 : (rowF f).length = 4 := rfl
  have hgl := grow_list (flatF l) (rowF f) Z (i * 4) (l.length * 4) (flatF_len l) (by omega) (by omega) hR4
  simp only [← hA] at hgl
  simp only [← hB] at hgl
  obtain ⟨s1, s2, s3⟩ := hgl
  have hAl : A.length = G * 4 := by rw [hA, List.length_append, List.length_take, flatF_len, hZl]; omega
  have hdl : ((flatF l).drop (i * 4)).length = (l.length - i) * 4 := by rw [List.length_drop, flatF_len]; omega
  have hkk : (l.length : Int) + 1 - (i : Int) = ((l.length + 1 - i : Nat) : Int) := by omega
  have hik : i + (l.length + 1 - i) = l.length + 1 := by omega
  have hrz : ∀ ty, (Builtin.append_ #[33, 3] ty #[.slice (some ⟨g, 0, none⟩) i cap, .int .i64 ((l.length : Int) + 1 - (i : Int))]).run Try.prog w = .ok (.slice (some ⟨w.heap.size, 0, none⟩) (l.length + 1) G) (w.drew.alloc (.cells A.toArray 36)) := fun ty => by
    have hold : (Builtin.firstCells i0.size i (.slice (some ⟨g, 0, none⟩) i cap)).run Try.prog w.drew = .ok ((flatF l).take (i * 4)).toArray w.drew := by
      rw [hz1]
      exact run_firstCells_some w.drew 4 i ⟨g, 0, none⟩ i cap ((flatF l).take (i * 4)) (by rw [List.length_take, flatF_len]; omega) (fun j v hj => by
        rw [add_off, Nat.zero_add]
        rw [List.getElem?_take] at hj
        split at hj
        · exact hcell j v hj
        · cases hj)
    have h := Lib.run_append_grow_zeros w 33 3 ty 36 i0 _ .i64 .i64 Try.underlying33 Try.underlying3 hi0 hz0 (some ⟨g, 0, none⟩) i cap ((flatF l).take (i * 4)) hold (l.length + 1 - i) (by omega) (by omega) (by omega) (by omega) (by rw [hz2]; omega) (by rw [hz2, hik]; exact growslice_fits hroom (by omega))
    rw [hik, ← hG] at h
    rw [hkk, h, hA, hZ]
    congr 3
    simp
  obtain ⟨W1, hW1⟩ : ∃ W1, W1 = w.drew.alloc (.cells A.toArray 36) := ⟨_, rfl⟩
  obtain ⟨W2, hW2⟩ : ∃ W2, W2 = W1.setRow w.heap.size B.toArray := ⟨_, rfl⟩
  obtain ⟨W3, hW3⟩ : ∃ W3, W3 = W2.drew.setRow w.heap.size (B.take (i * 4 + 4) ++ (flatF l).drop (i * 4) ++ B.drop (i * 4 + 4 + ((flatF l).drop (i * 4)).length)).toArray := ⟨_, rfl⟩
  rw [← hW1] at hrz
  have hh1 : W1.heap[w.heap.size]? = some (.cells A.toArray 36 (0, 0)) := by rw [hW1]; exact heap_alloc_new w.drew _
  have hold1 : ∀ k, k < w.heap.size → W1.heap[k]? = w.heap[k]? := fun k hk => by rw [hW1]; exact ((Below.refl w.drew.heap.size w.drew).alloc (Nat.le_refl _) _).block k hk
  have hh2 : W2.heap[w.heap.size]? = some (.cells B.toArray 36 (0, 0)) := by rw [hW2]; exact setRow_heap _ _ _ _ _ _ hh1
  have hold2 : ∀ k, k < w.heap.size → W2.heap[k]? = w.heap[k]? := fun k hk => by rw [hW2, setRow_other _ _ _ _ (by omega)]; exact hold1 k hk
  have hv1 : LiesF W1 vb f := by rw [LiesF, hold1 vb hvw]; exact hvb
  have hcp1 : ∀ ty dc, (Builtin.copy_ #[33, 33] ty #[.slice (some ⟨w.heap.size, i * 4, none⟩) (l.length + 1 - i) dc, .slice (some ⟨vb, 0, none⟩) 1 1]).run Try.prog W1 = .ok (goInt ((1 : Nat) : Int)) W2 := fun ty dc => by
    have := run_copy_rowK (P := Try.prog) W1 33 33 ty 36 w.heap.size (i * 4) (l.length + 1 - i) dc ⟨vb, 0, none⟩ 1 1 A.toArray 36 (rowF f) 4 1 Try.underlying33 infoF4 hh1 (by simp only [Nat.min_def]; split <;> omega) hR4
      (liesF_cells hv1) (by rw [List.size_toArray, hAl, hR4]; omega) (rowF_one f)
    rw [this, hW2, hB]
  have hcp2 : ∀ ty dc sc, (Builtin.copy_ #[33, 33] ty #[.slice (some ⟨w.heap.size, (i + 1) * 4, none⟩) (l.length - i) dc, .slice (some ⟨g, i * 4, none⟩) (l.length - i) sc]).run Try.prog W2.drew = .ok (goInt ((l.length - i : Nat) : Int)) W3 := fun ty dc sc => by
    have := run_copy_rowK (P := Try.prog) W2.drew 33 33 ty 36 w.heap.size ((i + 1) * 4) (l.length - i) dc ⟨g, i * 4, none⟩ (l.length - i) sc B.toArray 36 ((flatF l).drop (i * 4)) 4 (l.length - i) Try.underlying33 infoF4 hh2 (by simp only [Nat.min_def]; split <;> omega) hdl
      (fun j v hj => by
        rw [add_off]
        rw [List.getElem?_drop] at hj
        have hx := hcell (i * 4 + j) v hj
        rw [← hx]
        exact World.cell?_of_block (hold2 g hgw))
      (by rw [List.size_toArray, s3, hdl, hAl]; omega) (fun v hv => flatF_one l v (List.mem_of_mem_drop hv))
    rw [this, hW3, show (i + 1) * 4 = i * 4 + 4 by omega]
  have hh3 : W3.heap[w.heap.size]? = some (.cells (B.take (i * 4 + 4) ++ (flatF l).drop (i * 4) ++ B.drop (i * 4 + 4 + ((flatF l).drop (i * 4)).length)).toArray 36 (0, 0)) := by rw [hW3]; exact setRow_heap _ _ _ _ _ _ hh2
  have hil := insL_len l i f (by omega)
  have hown : W3.ownsRow base 36 4 (.slice (some ⟨w.heap.size, 0, none⟩) (l.length + 1) G) (l.length + 1) (flatF (insL l i f)) := by
    refine ⟨by rw [flatF_len, hil], .inr ⟨w.heap.size, G, _, rfl, hbase, hh3, hGn, hGm, ?_, ?_⟩⟩
    · rw [List.size_toArray, s2, hAl]
    · rw [flatF_ins l i f (by omega), ← s1, List.toList_toArray]
      congr 1; omega
  have hgr : w.grownBy W3 (some g) := by
    refine ⟨?_, ?_, ?_, ?_, fun k hk _ => ?_⟩
    · rw [hW3, hW2, hW1]; rfl
    · rw [hW3, hW2, hW1]; rfl
    · rw [hW3, hW2, hW1]; rfl
    · rw [hW3, setRow_size]; show w.heap.size ≤ W2.heap.size; rw [hW2, setRow_size, hW1]; simp
    · rw [hW3, setRow_other _ _ _ _ (by omega)]; exact hold2 k hk
  have HOWN : Hid (World.ownsRow _ _ _ _ _ _ _) := hown
  have HGR : Hid _ := hgr
  have HIL : Hid (_ = _) := hil
  have hb0 : (0 : Int) ≤ (i : Int) + 1 := by omega
  have hz3 : ((i : Int) == (l.length : Int)) = false := beq_eq_false_iff_ne.mpr (by omega)
  have hz4 : (cap : Int) < (l.length : Int) + 1 := by omega
  have hi1 : (i : Int) ≤ (l.length : Int) := by omega
  have hi2 : (i : Int) + 1 ≤ (l.length : Int) + 1 := by omega
  have hi4 : (i : Int) ≤ (l.length : Int) + 1 := by omega
  have hi5 : (i : Int) ≤ (cap : Int) := by omega
  have htn : ((i : Int) + 1).toNat = i + 1 := by omega
  have htn2 : ((l.length : Int) + 1).toNat = l.length + 1 := by omega
  have hw1 : IntKind.i64.wrap ((i : Int) + 1) = (i : Int) + 1 := by rw [IntKind.wrap_i64]; omega
  have hw2 : IntKind.i64.wrap ((l.length : Int) + 1) = (l.length : Int) + 1 := by rw [IntKind.wrap_i64]; omega
  have hw3 : IntKind.i64.wrap ((l.length : Int) + 1 - (i : Int)) = (l.length : Int) + 1 - (i : Int) := by rw [IntKind.wrap_i64]; omega
  have hb2 : ¬ (G = i + 1) := by omega
  have hb3 : ¬ (G = i) := by omega
  have hb4 : ¬ (cap = i) := by omega
  unfold maxLen at hGm
  clear hB hdl s1 s2 s3 hW1 hW2 hW3 hh1 hh2 hh3 hold1 hold2 hv1 hown hgr hcur hvb hg hsz hil hR4 hA hAl hZ hZl hG hcell hkk hik hi0 hz0 hz1 hz2
  go_enter Try.func142, Try.ntmps142
  go_wp2_with (first | (at_builtin; refine Lib.wpList_append_run _ rfl _ _ 33 3 rfl _ _ rfl rfl _ _ (hrz _) ?_) | (at_builtin; refine wpList_copyK _ rfl _ _ 33 33 rfl _ _ rfl rfl (hcp1 _ _) ?_))
  go_region_law (refine step_copyK rfl _ _ 33 33 rfl _ _ (by simp [Act.eval, Act.put]) (by simp [Act.eval, Act.put]) (hcp2 _ _ _) ?_)
  go_wp2_with fail
  go_ret
  exact InsOut.mk _ rfl (by rw [HIL.out]; exact HOWN.out) HGR.out (.inr ⟨_, Nat.le_refl _, rfl⟩)

theorem insert_any (v : Value) (l : List Fld) (i : Nat) (f : Fld) (vb base : Nat) (w : World) (hown : w.ownsRow base 36 4 v l.length (flatF l)) (hi : i ≤ l.length) (hlen : l.length ≤ 1000) (hbase : base ≤ w.heap.size) (hvb : LiesF w vb f) (hne : ∀ g, v.ownBlock = some g → vb ≠ g) :
    Calls Try.prog 142 #[v, .int .i64 i, .slice (some ⟨vb, 0, none⟩) 1 1] w fun e w' => InsOut w base v (insL l i f) e w' := by
  rcases Nat.lt_or_ge i l.length with h | h
  · rcases hown.2 with ⟨_, h0⟩ | ⟨g, cap, cur, rfl, h2, h3, h4, h5, h6, h7⟩
    · omega
    · rcases Nat.lt_or_ge cap (l.length + 1) with hc | hc
      · exact insert_grow g cap l i f vb base cur w h h4 hc hlen hbase h3 h6 h7 hvb
      · exact insert_room g cap l i f vb base cur w h hc h5 hlen h2 h3 h6 h7 hvb (hne g rfl)
  · obtain rfl : i = l.length := by omega
    rw [insL_end]
    exact insert_end v l f vb base w hown hlen hbase hvb

end Go.Proofs.Ytklicfcafpehfaa

/- What the program's DocOf answers, for every row of fields. -/
namespace Go.Proofs.Ytklicfcafpehfaa
open Go.RowKit
set_option linter.unusedVariables false

/-- A field that lies in a block. -/
structure FB (W : World) (b : Nat) (f : Fld) : Prop where
  lt : b < W.heap.size
  c0 : W.cell? ⟨b, 0, none⟩ = some (.string f.name)
  c1 : W.cell? ⟨b, 1, none⟩ = some (.int .i64 f.v.k)
  c2 : W.cell? ⟨b, 2, none⟩ = some (.int .i64 f.v.n)
  c3 : W.cell? ⟨b, 3, none⟩ = some (.string f.v.t)
theorem FB.start (w : World) (f : Fld) (T : TypeId) : FB (w.alloc (.cells #[.string f.name, .int .i64 f.v.k, .int .i64 f.v.n, .string f.v.t] T)) w.heap.size f :=
  ⟨by simp, by simp [go_sem], by simp [go_sem], by simp [go_sem], by simp [go_sem]⟩
theorem FB.next {W W' : World} {b : Nat} {f : Fld} (h : FB W b f) (hb : Below W.heap.size W W') : FB W' b f :=
  ⟨Nat.lt_of_lt_of_le h.lt hb.size, (hb.cell h.lt).trans h.c0, (hb.cell h.lt).trans h.c1, (hb.cell h.lt).trans h.c2, (hb.cell h.lt).trans h.c3⟩
theorem own_rowF {w : World} {base : Nat} {v : Value} {l : List Fld} (h : w.ownsRow base 36 4 v l.length (flatF l)) : ∃ p c, v = .slice p l.length c ∧ RowF w p l := by
  rcases h.2 with ⟨rfl, h0⟩ | ⟨g, cap, cur, rfl, _⟩
  · exact ⟨none, 0, by rw [h0], .inl (List.eq_nil_of_length_eq_zero h0)⟩
  · exact ⟨_, cap, rfl, .inr ⟨g, rfl, ReadF.of_own h⟩⟩

/-- What putting fields in order answers. -/
def SortOut (r : Except Int (List Fld)) (n : Nat) (e : Ending) (w' : World) : Prop :=
  match r with
  | .error c => e = .returned (.tuple #[.slice none 0 0, .int .i64 c]) ∧ c ≠ 0
  | .ok s => ∃ p cap, e = .returned (.tuple #[.slice p s.length cap, .int .i64 0]) ∧ RowF w' p s ∧ GoodF s ∧ s.length = n
theorem SortOut.err {r : Except Int (List Fld)} {n : Nat} {e : Ending} {w' : World} (c : Int) (hr : r = .error c) (h : e = .returned (.tuple #[.slice none 0 0, .int .i64 c])) (hc : c ≠ 0) : SortOut r n e w' := by subst hr; exact ⟨h, hc⟩
theorem SortOut.ok {r : Except Int (List Fld)} {n : Nat} {e : Ending} {w' : World} (s : List Fld) (hr : r = .ok s) (p : Option Addr) (cap : Nat) (h : e = .returned (.tuple #[.slice p s.length cap, .int .i64 0])) (h1 : RowF w' p s) (h2 : GoodF s) (h3 : s.length = n) : SortOut r n e w' := by subst hr; exact ⟨p, cap, h, h1, h2, h3⟩

set_option maxRecDepth 4000 in
set_option maxHeartbeats 4000000 in
theorem sortedFields_any (g cap : Nat) (l : List Fld) (w : World) (hr : ReadF w g l) (hl : l.length ≤ 300) (hts : ∀ f ∈ l, f.name.size ≤ 1048576 ∧ f.v.t.size ≤ 1048576) :
    Calls Try.prog 81 #[.slice (some ⟨g, 0, none⟩) l.length cap] w fun e w' => SortOut (foldD [] l) l.length e w' ∧ Below w.heap.size w w' := by
  have HR : Hid (ReadF _ _ _) := hr
  have HT : Hid _ := hts
  clear hr hts
  go_enter Try.func81, Try.ntmps81
  go_wp2_with fail
  go_loopw [4, 11] (fun u i wr => ∃ (k : Nat) (acc : List Fld), k ≤ l.length ∧ i = .int .i64 k ∧ acc.length = k ∧ GoodF acc ∧ foldD [] l = foldD acc (l.drop k) ∧ wr.ownsRow w.heap.size 36 4 u acc.length (flatF acc) ∧ Below w.heap.size w wr) (fun _ i _ => l.length - (intOf i).toNat)
  case atStart => exact ⟨0, [], Nat.zero_le _, rfl, rfl, GoodF.nil, rfl, World.ownsRow_nil _ _ _ _, Below.refl _ _⟩
  case round =>
    obtain ⟨k, acc, hk, rfl, hal, hga, hfold, hown, hbel⟩ := hrel
    have hz := hbel.size
    have hac : acc.length ≤ 300 := by omega
    have HAL : Hid (acc.length = k) := hal
    have HO : Hid (World.ownsRow _ _ _ _ _ _ _) := hown
    obtain ⟨p, c, rfl, hrow⟩ := own_rowF hown
    have HG : Hid (GoodF _) := hga
    have HF : Hid (_ = _) := hfold
    have HW : Hid (RowF _ _ _) := hrow
    clear hown hga hfold hrow hal
    by_cases hlt : k < l.length
    · have R := HR.out.next hbel
      obtain ⟨x0, x1, x2, x3⟩ := R.cells k hlt
      have hgl := R.lt
      have ht := HT.out l[k] (List.getElem_mem _)
      have hns : l[k].name.size ≤ maxLen := by unfold maxLen; omega
      have hvs : l[k].v.t.size ≤ maxLen := by unfold maxLen; omega
      have F0 := FB.start wr l[k] 36
      have B0 : Below w.heap.size w (wr.alloc (.cells #[.string l[k].name, .int .i64 l[k].v.k, .int .i64 l[k].v.n, .string l[k].v.t] 36)) := hbel.alloc hz _
      have HB0 : Hid (Below _ _ _) := B0
      have HF0 : Hid (FB _ _ _) := F0
      clear R ht F0 B0
      cases hs : shortB l[k].name
      · have E : Hid (_ = _) := HF.out.trans (foldD_name acc l k hlt hs)
        have HS : Hid (_ = _) := hs
        clear hs
        go_wp2_with fail
        refine (shortNameOK_any _ _ hns).mono ?_
        rintro e w1 ⟨rfl, rfl⟩
        rw [HS.out]
        go_wp2_with fail
        go_ret2
        exact ⟨SortOut.err 11 E.out rfl (by decide), HB0.out⟩
      · cases ho : okB l[k].v
        · have E : Hid (_ = _) := HF.out.trans (foldD_bad acc l k hlt hs ho)
          have HS : Hid (_ = _) := hs
          have HV : Hid (okB ⟨l[k].v.k, l[k].v.n, l[k].v.t⟩ = false) := ho
          clear hs ho
          go_wp2_with fail
          refine (shortNameOK_any _ _ hns).mono ?_
          rintro e w1 ⟨rfl, rfl⟩
          rw [HS.out]
          go_wp2_with fail
          refine (valueOK_any _ _ _ _ hvs).mono ?_
          rintro e w1 ⟨rfl, hb1⟩
          rw [HV.out]
          go_wp2_with fail
          go_ret2
          exact ⟨SortOut.err 1 E.out rfl (by decide), HB0.out.trans (hb1.mono HB0.out.size)⟩
        · have HS : Hid (_ = _) := hs
          have HV : Hid (okB ⟨l[k].v.k, l[k].v.n, l[k].v.t⟩ = true) := ho
          clear hs ho
          go_wp2_with fail
          refine (shortNameOK_any _ _ hns).mono ?_
          rintro e w1 ⟨rfl, rfl⟩
          rw [HS.out]
          go_wp2_with fail
          refine (valueOK_any _ _ _ _ hvs).mono ?_
          rintro e w1 ⟨rfl, hb1⟩
          rw [HV.out]
          have F1 := HF0.out.next hb1
          have B1 : Below w.heap.size w w1 := HB0.out.trans (hb1.mono HB0.out.size)
          have hA : Below wr.heap.size wr (wr.alloc (.cells #[.string l[k].name, .int .i64 l[k].v.k, .int .i64 l[k].v.n, .string l[k].v.t] 36)) := (Below.refl _ _).alloc (Nat.le_refl _) _
          have hA1 : Below wr.heap.size wr w1 := hA.trans (hb1.mono hA.size)
          have HW1 : Hid (RowF _ _ _) := HW.out.next hA1
          have HO1 : Hid (World.ownsRow _ _ _ _ _ _ _) := owns_below HO.out hA1
          have c0 := F1.c0
          have hlt1 := F1.lt
          have HB1 : Hid (Below _ _ _) := B1
          have HF1 : Hid (FB _ _ _) := F1
          clear hb1 F1 B1 hA hA1 x0 x1 x2 x3
          go_wp2_with fail
          refine (fieldPlace_any p c acc l[k].name w1 HW1.out HG.out.rise (by omega)).mono ?_
          rintro e w2 ⟨⟨i, b, rfl, hp⟩, hb2⟩
          have F2 := HF1.out.next hb2
          have HB2 : Hid (Below w.heap.size w w2) := HB1.out.trans (hb2.mono HB1.out.size)
          have HO2 : Hid (World.ownsRow _ _ _ _ _ _ _) := owns_below HO1.out hb2
          have hz2 := HB2.out.size
          have d0 := F2.c0
          have d1 := F2.c1
          have d2 := F2.c2
          have d3 := F2.c3
          have hlt2 := F2.lt
          have HP : Hid (Place _ _ _ _) := hp
          clear hb2 F2 c0 hp
          cases b
          · have hpl := HP.out.le
            go_wp2_with fail
            refine (insert_any _ acc i l[k] w2.heap.size w.heap.size _ (HO2.out.alloc _) hpl (by omega) (by simp; omega) (heap_alloc_new _ _) (fun g' hg' => by have := (HO2.out.lt g' hg').2; omega)).mono ?_
            rintro e w3 ⟨v', rfl, hown3, hgrow3, _⟩
            have hb3 : Below w.heap.size w w3 := Below.grown (HB2.out.alloc hz2 _) hgrow3 (by simp; omega) (fun k hk => (HO2.out.lt k hk).1)
            have HO3 : Hid (World.ownsRow _ _ _ _ _ _ _) := hown3
            have E : Hid (_ = _) := HF.out.trans (foldD_next acc l k i hlt HS.out HV.out HG.out.rise HP.out)
            clear hown3 hgrow3
            go_wp2_with fail
            go_roundw
            case rel => exact ⟨k + 1, insL acc i l[k], by omega, by go_num, by rw [insL_len _ _ _ hpl, HAL.out], HG.out.ins HS.out HV.out HP.out, E.out, HO3.out, hb3⟩
            case measure => simp [intOf]; omega
          · have E : Hid (_ = _) := HF.out.trans (foldD_twice acc l k hlt HS.out HV.out (HP.out.has HG.out.rise))
            go_wp2_with fail
            go_ret2
            exact ⟨SortOut.err 12 E.out rfl (by decide), HB2.out⟩
    · have E : Hid (_ = _) := HF.out.trans (foldD_end acc l k (by omega))
      go_wp2_with fail
      go_ret2
      exact ⟨SortOut.ok acc E.out p c rfl HW.out HG.out (by have := HAL.out; omega), hbel⟩

end Go.Proofs.Ytklicfcafpehfaa

/- Three rows of fields laid behind one another, and the place that is found from behind. -/
namespace Go.Proofs.Ytklicfcafpehfaa
open Go.RowKit
set_option linter.unusedVariables false

theorem Place.back {l : List Fld} {nm : ByteArray} {j : Nat} (hr : Rise l) (hj : j ≤ l.length) (hhi : ∀ q (h : q < l.length), j ≤ q → ltB nm l[q].name = true) (hlo : ∀ i (h : i < l.length), j = i + 1 → ltB l[i].name nm = true) : Place l nm j false := by
  refine ⟨hj, fun q hq hlt => ?_, fun q hq hge => ltB_asym (hhi q hq hge), ⟨fun h => absurd h (by simp), fun ⟨h, e⟩ => ?_⟩⟩
  · obtain ⟨i, rfl⟩ : ∃ i, j = i + 1 := ⟨j - 1, by omega⟩
    have h1 := hlo i (by omega) rfl
    rcases Nat.lt_or_ge q i with h2 | h2
    · exact ltB_trans (hr q i hq (by omega) h2) h1
    · obtain rfl : q = i := by omega
      exact h1
  · have := hhi j h (Nat.le_refl _)
    rw [e, ltB_irrefl] at this; cases this
theorem step_appF {ops : Array Oper} {o : Oper} {a : Act} {w : World} {K : Act → World → Prop} {Q : Exit → Act → World → Prop} {E : Prop} (hgd : o.guard = none) (s x : Operand)
    (ho : o.op = .call { callee := .builtin .append, args := #[s, x], argTypes := #[33, 33] }) (base n : Nat) (v : Value) (xs : List Value)
    (hs : a.eval s = v) (hown : w.ownsRow base 36 4 v n xs) (ad : Addr) (m c : Nat) (news : List Value) (hx : a.eval x = .slice (some ad) m c) (hl : news.length = m * 4) (hnews : ∀ j u, news[j]? = some u → w.cell? (ad.add j) = some u) (h1 : ∀ u ∈ news, u.oneCell' = true)
    (hn : n ≤ 1000) (hm : m ≤ 1000) (hbase : base ≤ w.heap.size)
    (hK : ∀ v' w', w'.ownsRow base 36 4 v' (n + m) (xs ++ news) → w.grownBy w' v.ownBlock → (v' = .slice none 0 0 ↔ v = .slice none 0 0 ∧ m = 0) → K (a.put o.dst v') w') : if Region.wanted o (yielded ops a.tmps) = true then Oper.wp Try.prog o a w K Q else E := by
  have hw : Region.wanted o (yielded ops a.tmps) = true := by simp [Region.wanted, hgd]
  rw [if_pos hw]
  obtain ⟨i0, hi, hz0, hz1, hz2⟩ := info_parts infoF
  obtain ⟨v', w', hr, h2, h3, h4, h5⟩ := run_append_own_at (P := Try.prog) w base 33 o.type 36 i0 (.agg #[.string em, .int .i64 0, .int .i64 0, .string em]) 4 48 Try.underlying33 hi hz0 hz1 hz2 rfl (by decide) v n xs hown ad m c news hl hnews h1 (by unfold maxLen; omega) (by omega) hbase
  unfold Oper.wp execOp
  simp only [ho, resolve, invoke, builtin, Sem.run_bind, Sem.run_pure, Result.andThen_ok, List.map_toArray, List.map_cons, List.map_nil, hs, hx, hr]
  exact hK v' w' h2 h3 h4
theorem liesF_grown {W w1 : World} {vb b : Nat} {f : Fld} (h : LiesF W vb f) (hg : W.grownBy w1 (some b)) (hne : vb ≠ b) : LiesF w1 vb f := by
  have hlt : vb < W.heap.size := by
    rcases Nat.lt_or_ge vb W.heap.size with h' | h'
    · exact h'
    · rw [LiesF, Array.getElem?_eq_none h'] at h; cases h
  rw [LiesF, hg.block vb hlt (fun e => hne (by injection e))]; exact h
/-- A row of fields that lies in a block, cell by cell. -/
def SrcF (w : World) (g : Nat) (l : List Fld) : Prop := ∀ p u, (flatF l)[p]? = some u → w.cell? ⟨g, p, none⟩ = some u
theorem SrcF.of_own {w : World} {base g cap n : Nat} {l : List Fld} (h : w.ownsRow base 36 4 (.slice (some ⟨g, 0, none⟩) n cap) n (flatF l)) : SrcF w g l := fun p u hp => owns_cell h p u hp
theorem srcT {wx W : World} {g j : Nat} {l : List Fld} (h : SrcF wx g l) (hg : g < wx.heap.size) (hj : j ≤ l.length) (hb : Below wx.heap.size wx W) : ∀ p u, (flatF (l.take j))[p]? = some u → W.cell? ((⟨g, 0, none⟩ : Addr).add p) = some u := fun p u hp => by
  rw [add_off, Nat.zero_add, hb.cell (p := ⟨g, p, none⟩) hg]
  apply h
  rw [← flatF_take l j hj, List.getElem?_take] at hp
  split at hp
  · exact hp
  · cases hp
theorem srcD {wx W : World} {g j : Nat} {l : List Fld} (h : SrcF wx g l) (hg : g < wx.heap.size) (hj : j ≤ l.length) (hb : Below wx.heap.size wx W) : ∀ p u, (flatF (l.drop j))[p]? = some u → W.cell? ((⟨g, j * 4, none⟩ : Addr).add p) = some u := fun p u hp => by
  rw [add_off, hb.cell (p := ⟨g, j * 4 + p, none⟩) hg]
  apply h
  rw [← flatF_drop l j hj, List.getElem?_drop] at hp
  exact hp
theorem owns_base {w : World} {base b n : Nat} {v : Value} {xs : List Value} (h : w.ownsRow base 36 4 v n xs) (hb : b ≤ base) : w.ownsRow b 36 4 v n xs := by
  obtain ⟨h1, h2⟩ := h
  refine ⟨h1, ?_⟩
  rcases h2 with h2 | ⟨g, cap, cur, hv, hg, r⟩
  · exact .inl h2
  · exact .inr ⟨g, cap, cur, hv, Nat.le_trans hb hg, r⟩
theorem row3 {w : World} {base j : Nat} {v : Value} {l : List Fld} {f : Fld} (hj : j ≤ l.length) (h : w.ownsRow base 36 4 v (0 + j + 1 + (l.length - j)) ([] ++ flatF (l.take j) ++ rowF f ++ flatF (l.drop j))) : w.ownsRow base 36 4 v (insL l j f).length (flatF (insL l j f)) := by
  rw [flatF_ins l j f hj, insL_len l j f hj, flatF_take l j hj, flatF_drop l j hj]
  have e : l.length + 1 = 0 + j + 1 + (l.length - j) := by omega
  rw [e]; exact h

end Go.Proofs.Ytklicfcafpehfaa

/- What a document that was made holds, said plainly: its fields are those that were put in, in the order of their names. Nothing of the program is used here. -/
namespace Go.Proofs.Ytklicfcafpehfaa
open Go.RowKit
set_option linter.unusedVariables false

theorem takeWhile_facts {α : Type} (p : α → Bool) : ∀ (l : List α), (l.takeWhile p).length ≤ l.length ∧ (∀ q (h : q < l.length), q < (l.takeWhile p).length → p l[q] = true) ∧ (∀ h : (l.takeWhile p).length < l.length, p l[(l.takeWhile p).length] = false)
  | [] => ⟨by simp, fun q h => by simp at h, fun h => by simp at h⟩
  | x :: r => by
    have ih := takeWhile_facts p r
    cases hx : p x
    · have e : (x :: r).takeWhile p = [] := by simp [hx]
      rw [e]
      exact ⟨by simp, fun q h h2 => by simp at h2, fun h => by simpa using hx⟩
    · have e : ((x :: r).takeWhile p).length = (r.takeWhile p).length + 1 := by simp [hx]
      refine ⟨by rw [e, List.length_cons]; omega, fun q h h2 => ?_, fun h => ?_⟩
      · rw [e] at h2
        match q, h with
        | 0, _ => simpa using hx
        | q + 1, h => simpa using ih.2.1 q (by simpa using h) (by omega)
      · simp only [e]
        have h' : (r.takeWhile p).length < r.length := by rw [e] at h; simpa using h
        simpa using ih.2.2 h'
theorem pN_le (nm : ByteArray) (l : List Fld) : pN nm l ≤ l.length := (takeWhile_facts _ l).1
theorem pN_place {nm : ByteArray} {l : List Fld} (hr : Rise l) (hn : hasN nm l = false) : Place l nm (pN nm l) false := by
  have ht := takeWhile_facts (fun g => ltB g.name nm) l
  have hne : ∀ f ∈ l, f.name ≠ nm := fun f hf e => by rw [hasN_true f hf e] at hn; cases hn
  refine Place.back hr ht.1 (fun q h hge => ?_) (fun i h e => ht.2.1 i h (by unfold pN at e; omega))
  rcases Nat.lt_or_ge (pN nm l) q with hlt | hge2
  · have h0 : pN nm l < l.length := by omega
    have h1 : ltB l[pN nm l].name nm = false := ht.2.2 h0
    exact ltB_trans (ltB_of h1 (hne _ (List.getElem_mem h0))) (hr _ _ h0 h hlt)
  · obtain rfl : q = pN nm l := by omega
    have h1 : ltB l[pN nm l].name nm = false := ht.2.2 h
    exact ltB_of h1 (hne _ (List.getElem_mem h))
theorem foldD_ok : ∀ (l acc s : List Fld), GoodF acc → foldD acc l = .ok s → GoodF s ∧ s.length = acc.length + l.length ∧ ∀ f ∈ s, f ∈ acc ∨ f ∈ l
  | [], acc, s, hg, h => by
    simp only [foldD] at h
    injection h with h; subst h
    exact ⟨hg, by simp, fun f hf => .inl hf⟩
  | f :: r, acc, s, hg, h => by
    rw [foldD] at h
    cases h1 : shortB f.name
    · rw [if_pos h1] at h; cases h
    · cases h2 : okB f.v
      · rw [if_neg (by simp [h1]), if_pos h2] at h; cases h
      · cases h3 : hasN f.name acc
        · rw [if_neg (by simp [h1]), if_neg (by simp [h2]), if_neg (by simp [h3])] at h
          have hp := pN_place hg.rise h3
          obtain ⟨a, b, c⟩ := foldD_ok r _ s (hg.ins h1 h2 hp) h
          refine ⟨a, by rw [b, insL_len _ _ _ (pN_le _ _), List.length_cons]; omega, fun g hg => ?_⟩
          rcases c g hg with h4 | h4
          · unfold insL at h4
            rcases List.mem_append.mp h4 with h4 | h4
            · exact .inl (List.mem_of_mem_take h4)
            · rcases List.mem_cons.mp h4 with rfl | h4
              · exact .inr (by simp)
              · exact .inl (List.mem_of_mem_drop h4)
          · exact .inr (by simp [h4])
        · rw [if_neg (by simp [h1]), if_neg (by simp [h2]), if_pos h3] at h; cases h
theorem foldD_code : ∀ (l acc : List Fld) (c : Int), foldD acc l = .error c → c ≠ 0
  | [], acc, c, h => by simp [foldD] at h
  | f :: r, acc, c, h => by
    rw [foldD] at h
    split at h
    · injection h with h; omega
    · split at h
      · injection h with h; omega
      · split at h
        · injection h with h; omega
        · exact foldD_code r _ c h
/-- A document that was made with no code is right, and its fields are those that were put in, in order. -/
theorem madeP_back (l : List Fld) (v : Val) (h : madeP l = (v, 0)) : ∃ s, v = ⟨5, 0, txt (encFL s)⟩ ∧ okB v = true ∧ fields v.t = some s ∧ GoodF s ∧ s.length = l.length ∧ l.length ≤ 300 ∧ v.t.size ≤ 300 ∧ ∀ f ∈ s, f ∈ l := by
  by_cases h1 : 4096 < l.length
  · rw [madeP_long l h1] at h; simp at h
  · by_cases h2 : 300 < l.length
    · rw [madeP_many l h1 h2] at h; simp at h
    · rw [madeP_few l h2] at h
      cases hf : foldD [] l with
      | error c =>
        exfalso
        rw [hf] at h
        have hc : c = 0 := by simpa [foldP] using congrArg Prod.snd h
        exact foldD_code l [] c hf hc
      | ok s =>
        rw [hf] at h
        obtain ⟨hg, hlen, hmem⟩ := foldD_ok l [] s GoodF.nil hf
        have h' : fitD s = (v, 0) := h
        by_cases h3 : 300 < (encFL s).length
        · rw [fitD_size s h3] at h'; simp at h'
        · by_cases h4 : 4 < dF (depthV 5) s
          · rw [fitD_deep s h3 h4] at h'; simp at h'
          · rw [fitD_ok s h3 h4] at h'
            obtain rfl : (⟨5, 0, txt (encFL s)⟩ : Val) = v := congrArg Prod.fst h'
            refine ⟨s, rfl, ?_, fields_enc s hg.names, hg, by simpa using hlen, by omega, by show (txt (encFL s)).size ≤ 300; rw [txt_size]; omega, fun f hf => by rcases hmem f hf with h | h; cases h; exact h⟩
            rw [madeD_ok s hg h3]; exact decide_eq_true (by omega)

end Go.Proofs.Ytklicfcafpehfaa
