/- What the library's slices.Insert does to a row of fields of the call's own, ahead of its end. -/
import Derived.Test.YtkeghknceccdmaaGreatDoorInsF
namespace Go.Proofs.YtkeghknceccdmaaGreatDoor
open Go.RowKit
set_option linter.unusedVariables false

theorem sizeF (w : World) : (Go.sizeOf 39).run Tryz.prog w = .ok 4 w := by
  obtain ⟨i0, hi, hz0, hz1, hz2⟩ := info_parts infoF
  simp [sizeOf, typeInfo, hi, hz1]
theorem infoF4 : (Tryz.prog.info? 39).map (·.size) = some 4 := by
  obtain ⟨i0, hi, hz0, hz1, hz2⟩ := info_parts infoF
  rw [hi]; simp [hz1]
/-- Cells shifted up by four, and four others put where they stood. -/
theorem shift_list (A F R : List Value) (k N : Nat) (hF : A.take N = F) (hk : k ≤ N) (hN : N + 4 ≤ A.length) (hR : R.length = 4) :
    let B := A.take (k + 4) ++ F.drop k ++ A.drop (k + 4 + (F.drop k).length)
    (B.take k ++ R ++ B.drop (k + R.length)).take (N + 4) = F.take k ++ R ++ F.drop k ∧ (B.take k ++ R ++ B.drop (k + R.length)).length = A.length ∧ B.length = A.length := by
  intro B
  have hFl : F.length = N := by rw [← hF, List.length_take]; omega
  have hBl : B.length = A.length := by
    show (A.take (k + 4) ++ F.drop k ++ A.drop (k + 4 + (F.drop k).length)).length = _
    simp only [List.length_append, List.length_take, List.length_drop]
    omega
  have h1 : B.take k = F.take k := by
    show (A.take (k + 4) ++ F.drop k ++ A.drop (k + 4 + (F.drop k).length)).take k = _
    rw [List.append_assoc, List.take_append_of_le_length (by rw [List.length_take]; omega), List.take_take, ← hF, List.take_take]
    congr 1; omega
  have h2 : B.drop (k + 4) = F.drop k ++ A.drop (k + 4 + (F.drop k).length) := by
    show (A.take (k + 4) ++ F.drop k ++ A.drop (k + 4 + (F.drop k).length)).drop (k + 4) = _
    rw [List.append_assoc, List.drop_append_of_le_length (by rw [List.length_take]; omega), List.drop_of_length_le (by rw [List.length_take]; omega), List.nil_append]
  refine ⟨?_, ?_, hBl⟩
  · rw [hR, h1, h2, ← List.append_assoc, List.take_append_of_le_length (by simp only [List.length_append, List.length_take, List.length_drop]; omega), List.take_of_length_le (by simp only [List.length_append, List.length_take, List.length_drop]; omega)]
  · simp only [List.length_append, List.length_take, List.length_drop]; omega

theorem cell_row {w : World} {g : Nat} {cur : Array Value} {t : TypeId} {fz : Nat × Nat} (hg : w.heap[g]? = some (.cells cur t fz)) (o : Nat) : w.cell? ⟨g, o, none⟩ = cur[o]? := by simp [World.cell?, hg]
theorem add_off (g o j : Nat) : (⟨g, o, none⟩ : Addr).add j = ⟨g, o + j, none⟩ := by
  by_cases h : j = 0
  · subst h; simp [Addr.add]
  · simp [Addr.add, h]

set_option maxRecDepth 4000 in
set_option maxHeartbeats 4000000 in
theorem insert_room (g cap : Nat) (l : List Fld) (i : Nat) (f : Fld) (vb base : Nat) (cur : Array Value) (w : World) (hi : i < l.length) (hroom : l.length + 1 ≤ cap) (hcap : cap ≤ maxLen) (hlen : l.length ≤ 1000) (hbg : base ≤ g)
    (hg : w.heap[g]? = some (.cells cur 39 (0, 0))) (hsz : cur.size = cap * 4) (hcur : cur.toList.take (l.length * 4) = flatF l) (hvb : LiesF w vb f) (hne : vb ≠ g) :
    Calls Tryz.prog 119 #[.slice (some ⟨g, 0, none⟩) l.length cap, .int .i64 i, .slice (some ⟨vb, 0, none⟩) 1 1] w fun e w' => InsOut w base (.slice (some ⟨g, 0, none⟩) l.length cap) (insL l i f) e w' := by
  obtain ⟨B, hB⟩ : ∃ B, B = cur.toList.take (i * 4 + 4) ++ (flatF l).drop (i * 4) ++ cur.toList.drop (i * 4 + 4 + ((flatF l).drop (i * 4)).length) := ⟨_, rfl⟩
  have hR4 : (rowF f).length = 4 := rfl
  have hcl : cur.toList.length = cap * 4 := by rw [Array.length_toList]; exact hsz
  have hsh := shift_list cur.toList (flatF l) (rowF f) (i * 4) (l.length * 4) hcur (by omega) (by rw [hcl]; omega) hR4
  simp only [← hB] at hsh
  obtain ⟨s1, s2, s3⟩ := hsh
  have hdl : ((flatF l).drop (i * 4)).length = (l.length - i) * 4 := by rw [List.length_drop, flatF_len]; omega
  have hov : ∀ lb cb, (callFunc 187 #[.slice (some ⟨vb, 0, none⟩) 1 1, .slice (some ⟨g, (i + 1) * 4, none⟩) lb cb]).run Tryz.prog w = .ok (.value (.bool false)) w := fun lb cb => by
    rw [run_callFunc_extern Tryz.func187 (by kernel_rfl) (by kernel_rfl) (by kernel_rfl) (e := Extern.SlicesOverlaps.overlaps #[40, 40] #[4]) (by kernel_rfl),
      Lib.run_overlaps_apart w 40 4 39 Tryz.underlying40 4 sizeF ⟨vb, 0, none⟩ ⟨g, (i + 1) * 4, none⟩ 1 1 lb cb hne 39 39 4 cur.size (by simp [World.shape?, hvb]) (by simp [World.shape?, hg]) (by omega) (by simp [World.frozen?, hvb]) (by simp [World.frozen?, hvb])]
    rfl
  obtain ⟨W1, hW1⟩ : ∃ W1, W1 = w.drew.setRow g B.toArray := ⟨_, rfl⟩
  obtain ⟨W2, hW2⟩ : ∃ W2, W2 = W1.setRow g (B.take (i * 4) ++ rowF f ++ B.drop (i * 4 + (rowF f).length)).toArray := ⟨_, rfl⟩
  have hgd : w.drew.heap[g]? = some (.cells cur 39 (0, 0)) := hg
  have hg1 : W1.heap[g]? = some (.cells B.toArray 39 (0, 0)) := by rw [hW1]; exact setRow_heap _ _ _ _ _ _ hgd
  have hv1 : LiesF W1 vb f := by rw [LiesF, hW1, setRow_other _ _ _ _ hne]; exact hvb
  have hcp1 : ∀ ty dc sc, (Builtin.copy_ #[40, 40] ty #[.slice (some ⟨g, (i + 1) * 4, none⟩) (l.length - i) dc, .slice (some ⟨g, i * 4, none⟩) (l.length + 1 - i) sc]).run Tryz.prog w.drew = .ok (goInt ((l.length - i : Nat) : Int)) W1 := fun ty dc sc => by
    have := run_copy_rowK (P := Tryz.prog) w.drew 40 40 ty 39 g ((i + 1) * 4) (l.length - i) dc ⟨g, i * 4, none⟩ (l.length + 1 - i) sc cur 39 ((flatF l).drop (i * 4)) 4 (l.length - i) Tryz.underlying40 infoF4 hgd (by simp only [Nat.min_def]; split <;> omega) hdl
      (fun j v hj => by
        rw [add_off, cell_row hgd]
        rw [List.getElem?_drop] at hj
        have hjl : i * 4 + j < l.length * 4 := by
          have := (List.getElem?_eq_some_iff.1 hj).1
          rw [flatF_len] at this; exact this
        rw [← hcur, List.getElem?_take, if_pos hjl] at hj
        rw [← hj, Array.getElem?_toList])
      (by rw [hdl, hsz]; omega) (fun v hv => flatF_one l v (List.mem_of_mem_drop hv))
    rw [this, hW1, hB, show (i + 1) * 4 = i * 4 + 4 by omega]
  have hcp2 : ∀ ty dc, (Builtin.copy_ #[40, 40] ty #[.slice (some ⟨g, i * 4, none⟩) (l.length + 1 - i) dc, .slice (some ⟨vb, 0, none⟩) 1 1]).run Tryz.prog W1 = .ok (goInt ((1 : Nat) : Int)) W2 := fun ty dc => by
    have := run_copy_rowK (P := Tryz.prog) W1 40 40 ty 39 g (i * 4) (l.length + 1 - i) dc ⟨vb, 0, none⟩ 1 1 B.toArray 39 (rowF f) 4 1 Tryz.underlying40 infoF4 hg1 (by simp only [Nat.min_def]; split <;> omega) hR4
      (liesF_cells hv1) (by rw [List.size_toArray, s3, hcl, hR4]; omega) (rowF_one f)
    rw [this, hW2]
  have hown : W2.ownsRow base 39 4 (.slice (some ⟨g, 0, none⟩) (insL l i f).length cap) (insL l i f).length (flatF (insL l i f)) := by
    refine ⟨flatF_len _, .inr ⟨g, cap, _, rfl, hbg, by rw [hW2]; exact setRow_heap _ _ _ _ _ _ hg1, ?_, hcap, ?_, ?_⟩⟩
    · rw [insL_len l i f (by omega)]; exact hroom
    · rw [List.size_toArray, s2, hcl]
    · rw [insL_len l i f (by omega), flatF_ins l i f (by omega), ← s1, List.toList_toArray]
      congr 1; omega
  have hgr : w.grownBy W2 (some g) := by
    have e1 : w.grownBy W1 (some g) := by
      have := grown_setRow w.drew g B.toArray
      rw [← hW1] at this
      exact ⟨this.os, this.tape, this.output, this.size, this.block⟩
    have e2 := grown_setRow W1 g (B.take (i * 4) ++ rowF f ++ B.drop (i * 4 + (rowF f).length)).toArray
    rw [← hW2] at e2
    exact e1.trans e2
  have hil := insL_len l i f (by omega)
  rw [hil] at hown
  have HOWN : Hid (World.ownsRow _ _ _ _ _ _ _) := hown
  have HGR : Hid _ := hgr
  have HIL : Hid (_ = _) := hil
  have hb0 : (0 : Int) ≤ (i : Int) + 1 := by omega
  have hz2 : ¬ ((i : Int) = (l.length : Int)) := by omega
  have hz3 : ((i : Int) == (l.length : Int)) = false := beq_eq_false_iff_ne.mpr hz2
  have hz4 : ¬ ((cap : Int) < (l.length : Int) + 1) := by omega
  have hi1 : (i : Int) ≤ (l.length : Int) := by omega
  have hi2 : (i : Int) + 1 ≤ (l.length : Int) + 1 := by omega
  have hi3 : (l.length : Int) + 1 ≤ (cap : Int) := by omega
  have hi4 : (i : Int) ≤ (l.length : Int) + 1 := by omega
  have htn : ((i : Int) + 1).toNat = i + 1 := by omega
  have htn2 : ((l.length : Int) + 1).toNat = l.length + 1 := by omega
  have hw1 : IntKind.i64.wrap ((i : Int) + 1) = (i : Int) + 1 := by rw [IntKind.wrap_i64]; omega
  have hw2 : IntKind.i64.wrap ((l.length : Int) + 1) = (l.length : Int) + 1 := by rw [IntKind.wrap_i64]; omega
  have hb2 : ¬ (cap = i + 1) := by omega
  have hb4 : ¬ (cap = i) := by omega
  unfold maxLen at hcap
  clear hB hdl s1 s2 s3 hW1 hW2 hgd hg1 hv1 hown hgr hcur hvb hg hsz hil hR4 hz2
  go_enter Tryz.func119, Tryz.ntmps119
  go_wp2_with (simp only [hov])
  go_region_law (refine step_copyK rfl _ _ 40 40 rfl _ _ (by simp [Act.eval, Act.put]) (by simp [Act.eval, Act.put]) (hcp1 _ _ _) ?_)
  go_wp2_with (at_builtin; refine wpList_copyK _ rfl _ _ 40 40 rfl _ _ rfl rfl (hcp2 _ _) ?_)
  go_ret
  exact InsOut.mk _ rfl (by rw [HIL.out]; exact HOWN.out) HGR.out (.inl rfl)

end Go.Proofs.YtkeghknceccdmaaGreatDoor
