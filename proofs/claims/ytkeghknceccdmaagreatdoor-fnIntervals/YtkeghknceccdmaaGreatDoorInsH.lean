/- What the library's slices.Insert does to a row of fields of the call's own: where a new row must be made; and in all cases. -/
import Derived.Test.YtkeghknceccdmaaGreatDoorInsG
namespace Go.Proofs.YtkeghknceccdmaaGreatDoor
open Go.RowKit
set_option linter.unusedVariables false

theorem grow_list (F R Z : List Value) (k N : Nat) (hF : F.length = N) (hk : k ≤ N) (hZ : N + 4 ≤ k + Z.length) (hR : R.length = 4) :
    let A := F.take k ++ Z
    let B := A.take k ++ R ++ A.drop (k + R.length)
    (B.take (k + 4) ++ F.drop k ++ B.drop (k + 4 + (F.drop k).length)).take (N + 4) = F.take k ++ R ++ F.drop k ∧ (B.take (k + 4) ++ F.drop k ++ B.drop (k + 4 + (F.drop k).length)).length = A.length ∧ B.length = A.length := by
  intro A B
  have hAl : A.length = k + Z.length := by show (F.take k ++ Z).length = _; rw [List.length_append, List.length_take]; omega
  have hBl : B.length = A.length := by
    show (A.take k ++ R ++ A.drop (k + R.length)).length = _
    simp only [List.length_append, List.length_take, List.length_drop]; omega
  have hAk : A.take k = F.take k := by
    show (F.take k ++ Z).take k = _
    rw [List.take_append_of_le_length (by rw [List.length_take]; omega), List.take_take]; congr 1; omega
  have h1 : B.take (k + 4) = F.take k ++ R := by
    show (A.take k ++ R ++ A.drop (k + R.length)).take (k + 4) = _
    rw [List.take_append_of_le_length (by simp only [List.length_append, List.length_take]; omega), List.take_of_length_le (by simp only [List.length_append, List.length_take]; omega), hAk]
  refine ⟨?_, ?_, hBl⟩
  · rw [h1, List.take_append_of_le_length (by simp only [List.length_append, List.length_take, List.length_drop]; omega), List.take_of_length_le (by simp only [List.length_append, List.length_take, List.length_drop]; omega)]
  · simp only [List.length_append, List.length_take, List.length_drop]; omega
theorem zeroF_size (k : Nat) : (Builtin.zeroCells (Value.agg #[.string em, .int .i64 0, .int .i64 0, .string em]).cells k).size = k * 4 := by
  have hc : (Value.agg #[.string em, .int .i64 0, .int .i64 0, .string em]).cells = #[.string em, .int .i64 0, .int .i64 0, .string em] := rfl
  rw [hc]
  simp [Builtin.zeroCells]
theorem zeroF_len (k : Nat) : (Builtin.zeroCells (Value.agg #[.string em, .int .i64 0, .int .i64 0, .string em]).cells k).toList.length = k * 4 := (Array.length_toList).trans (zeroF_size k)

set_option maxRecDepth 4000 in
set_option maxHeartbeats 4000000 in
theorem insert_grow (g cap : Nat) (l : List Fld) (i : Nat) (f : Fld) (vb base : Nat) (cur : Array Value) (w : World) (hi : i < l.length) (hcap1 : l.length ≤ cap) (hroom : cap < l.length + 1) (hlen : l.length ≤ 1000) (hbase : base ≤ w.heap.size)
    (hg : w.heap[g]? = some (.cells cur 39 (0, 0))) (hsz : cur.size = cap * 4) (hcur : cur.toList.take (l.length * 4) = flatF l) (hvb : LiesF w vb f) :
    Calls Tryz.prog 119 #[.slice (some ⟨g, 0, none⟩) l.length cap, .int .i64 i, .slice (some ⟨vb, 0, none⟩) 1 1] w fun e w' => InsOut w base (.slice (some ⟨g, 0, none⟩) l.length cap) (insL l i f) e w' := by
  obtain ⟨i0, hi0, hz0, hz1, hz2⟩ := info_parts infoF
  have hgw : g < w.heap.size := (Array.getElem?_eq_some_iff.1 hg).1
  have hvw : vb < w.heap.size := (Array.getElem?_eq_some_iff.1 hvb).1
  have hcell : ∀ j v, (flatF l)[j]? = some v → w.cell? ⟨g, j, none⟩ = some v := fun j v hj => by
    rw [cell_row hg]
    have hjl : j < l.length * 4 := by have := (List.getElem?_eq_some_iff.1 hj).1; rw [flatF_len] at this; exact this
    rw [← hcur, List.getElem?_take, if_pos hjl] at hj
    rw [← hj, Array.getElem?_toList]
  obtain ⟨G, hG⟩ : ∃ G, G = grownCap w (l.length + 1) cap 39 := ⟨_, rfl⟩
  have hGn : l.length + 1 ≤ G := by rw [hG]; exact grownCap_ge w _ _ _
  have hGm : G ≤ maxLen := by rw [hG]; exact grownCap_le_maxLen w _ _ _ (by unfold maxLen; omega)
  obtain ⟨Z, hZ⟩ : ∃ Z, Z = (Builtin.zeroCells (Value.agg #[.string em, .int .i64 0, .int .i64 0, .string em]).cells (l.length + 1 - i)).toList ++ (Builtin.zeroCells (Value.agg #[.string em, .int .i64 0, .int .i64 0, .string em]).cells (G - (l.length + 1))).toList := ⟨_, rfl⟩
  have hZl : Z.length = (G - i) * 4 := by rw [hZ, List.length_append, zeroF_len, zeroF_len]; omega
  obtain ⟨A, hA⟩ : ∃ A, A = (flatF l).take (i * 4) ++ Z := ⟨_, rfl⟩
  obtain ⟨B, hB⟩ : ∃ B, B = A.take (i * 4) ++ rowF f ++ A.drop (i * 4 + (rowF f).length) := ⟨_, rfl⟩
  have hR4 : (rowF f).length = 4 := rfl
  have hgl := grow_list (flatF l) (rowF f) Z (i * 4) (l.length * 4) (flatF_len l) (by omega) (by omega) hR4
  simp only [← hA] at hgl
  simp only [← hB] at hgl
  obtain ⟨s1, s2, s3⟩ := hgl
  have hAl : A.length = G * 4 := by rw [hA, List.length_append, List.length_take, flatF_len, hZl]; omega
  have hdl : ((flatF l).drop (i * 4)).length = (l.length - i) * 4 := by rw [List.length_drop, flatF_len]; omega
  have hkk : (l.length : Int) + 1 - (i : Int) = ((l.length + 1 - i : Nat) : Int) := by omega
  have hik : i + (l.length + 1 - i) = l.length + 1 := by omega
  have hrz : ∀ ty, (Builtin.append_ #[40, 3] ty #[.slice (some ⟨g, 0, none⟩) i cap, .int .i64 ((l.length : Int) + 1 - (i : Int))]).run Tryz.prog w = .ok (.slice (some ⟨w.heap.size, 0, none⟩) (l.length + 1) G) (w.drew.alloc (.cells A.toArray 39)) := fun ty => by
    have hold : (Builtin.firstCells i0.size i (.slice (some ⟨g, 0, none⟩) i cap)).run Tryz.prog w.drew = .ok ((flatF l).take (i * 4)).toArray w.drew := by
      rw [hz1]
      exact run_firstCells_some w.drew 4 i ⟨g, 0, none⟩ i cap ((flatF l).take (i * 4)) (by rw [List.length_take, flatF_len]; omega) (fun j v hj => by
        rw [add_off, Nat.zero_add]
        rw [List.getElem?_take] at hj
        split at hj
        · exact hcell j v hj
        · cases hj)
    have h := Lib.run_append_grow_zeros w 40 3 ty 39 i0 _ .i64 .i64 Tryz.underlying40 Tryz.underlying3 hi0 hz0 (some ⟨g, 0, none⟩) i cap ((flatF l).take (i * 4)) hold (l.length + 1 - i) (by omega) (by omega) (by omega) (by omega) (by rw [hz2]; omega) (by rw [hz2, hik]; exact growslice_fits hroom (by omega))
    rw [hik, ← hG] at h
    rw [hkk, h, hA, hZ]
    congr 3
    simp
  obtain ⟨W1, hW1⟩ : ∃ W1, W1 = w.drew.alloc (.cells A.toArray 39) := ⟨_, rfl⟩
  obtain ⟨W2, hW2⟩ : ∃ W2, W2 = W1.setRow w.heap.size B.toArray := ⟨_, rfl⟩
  obtain ⟨W3, hW3⟩ : ∃ W3, W3 = W2.drew.setRow w.heap.size (B.take (i * 4 + 4) ++ (flatF l).drop (i * 4) ++ B.drop (i * 4 + 4 + ((flatF l).drop (i * 4)).length)).toArray := ⟨_, rfl⟩
  rw [← hW1] at hrz
  have hh1 : W1.heap[w.heap.size]? = some (.cells A.toArray 39 (0, 0)) := by rw [hW1]; exact heap_alloc_new w.drew _
  have hold1 : ∀ k, k < w.heap.size → W1.heap[k]? = w.heap[k]? := fun k hk => by rw [hW1]; exact ((Below.refl w.drew.heap.size w.drew).alloc (Nat.le_refl _) _).block k hk
  have hh2 : W2.heap[w.heap.size]? = some (.cells B.toArray 39 (0, 0)) := by rw [hW2]; exact setRow_heap _ _ _ _ _ _ hh1
  have hold2 : ∀ k, k < w.heap.size → W2.heap[k]? = w.heap[k]? := fun k hk => by rw [hW2, setRow_other _ _ _ _ (by omega)]; exact hold1 k hk
  have hv1 : LiesF W1 vb f := by rw [LiesF, hold1 vb hvw]; exact hvb
  have hcp1 : ∀ ty dc, (Builtin.copy_ #[40, 40] ty #[.slice (some ⟨w.heap.size, i * 4, none⟩) (l.length + 1 - i) dc, .slice (some ⟨vb, 0, none⟩) 1 1]).run Tryz.prog W1 = .ok (goInt ((1 : Nat) : Int)) W2 := fun ty dc => by
    have := run_copy_rowK (P := Tryz.prog) W1 40 40 ty 39 w.heap.size (i * 4) (l.length + 1 - i) dc ⟨vb, 0, none⟩ 1 1 A.toArray 39 (rowF f) 4 1 Tryz.underlying40 infoF4 hh1 (by simp only [Nat.min_def]; split <;> omega) hR4
      (liesF_cells hv1) (by rw [List.size_toArray, hAl, hR4]; omega) (rowF_one f)
    rw [this, hW2, hB]
  have hcp2 : ∀ ty dc sc, (Builtin.copy_ #[40, 40] ty #[.slice (some ⟨w.heap.size, (i + 1) * 4, none⟩) (l.length - i) dc, .slice (some ⟨g, i * 4, none⟩) (l.length - i) sc]).run Tryz.prog W2.drew = .ok (goInt ((l.length - i : Nat) : Int)) W3 := fun ty dc sc => by
    have := run_copy_rowK (P := Tryz.prog) W2.drew 40 40 ty 39 w.heap.size ((i + 1) * 4) (l.length - i) dc ⟨g, i * 4, none⟩ (l.length - i) sc B.toArray 39 ((flatF l).drop (i * 4)) 4 (l.length - i) Tryz.underlying40 infoF4 hh2 (by simp only [Nat.min_def]; split <;> omega) hdl
      (fun j v hj => by
        rw [add_off]
        rw [List.getElem?_drop] at hj
        have hx := hcell (i * 4 + j) v hj
        rw [← hx]
        exact World.cell?_of_block (hold2 g hgw))
      (by rw [List.size_toArray, s3, hdl, hAl]; omega) (fun v hv => flatF_one l v (List.mem_of_mem_drop hv))
    rw [this, hW3, show (i + 1) * 4 = i * 4 + 4 by omega]
  have hh3 : W3.heap[w.heap.size]? = some (.cells (B.take (i * 4 + 4) ++ (flatF l).drop (i * 4) ++ B.drop (i * 4 + 4 + ((flatF l).drop (i * 4)).length)).toArray 39 (0, 0)) := by rw [hW3]; exact setRow_heap _ _ _ _ _ _ hh2
  have hil := insL_len l i f (by omega)
  have hown : W3.ownsRow base 39 4 (.slice (some ⟨w.heap.size, 0, none⟩) (l.length + 1) G) (l.length + 1) (flatF (insL l i f)) := by
    refine ⟨by rw [flatF_len, hil], .inr ⟨w.heap.size, G, _, rfl, hbase, hh3, hGn, hGm, ?_, ?_⟩⟩
    · rw [List.size_toArray, s2, hAl]
    · rw [flatF_ins l i f (by omega), ← s1, List.toList_toArray]
      congr 1; omega
  have hgr : w.grownBy W3 (some g) := by
    refine ⟨?_, ?_, ?_, ?_, fun k hk _ => ?_⟩
    · rw [hW3, hW2, hW1]; rfl
    · rw [hW3, hW2, hW1]; rfl
    · rw [hW3, hW2, hW1]; rfl
    · rw [hW3, setRow_size]; show w.heap.size ≤ W2.heap.size; rw [hW2, setRow_size, hW1]; simp
    · rw [hW3, setRow_other _ _ _ _ (by omega)]; exact hold2 k hk
  have HOWN : Hid (World.ownsRow _ _ _ _ _ _ _) := hown
  have HGR : Hid _ := hgr
  have HIL : Hid (_ = _) := hil
  have hb0 : (0 : Int) ≤ (i : Int) + 1 := by omega
  have hz3 : ((i : Int) == (l.length : Int)) = false := beq_eq_false_iff_ne.mpr (by omega)
  have hz4 : (cap : Int) < (l.length : Int) + 1 := by omega
  have hi1 : (i : Int) ≤ (l.length : Int) := by omega
  have hi2 : (i : Int) + 1 ≤ (l.length : Int) + 1 := by omega
  have hi4 : (i : Int) ≤ (l.length : Int) + 1 := by omega
  have hi5 : (i : Int) ≤ (cap : Int) := by omega
  have htn : ((i : Int) + 1).toNat = i + 1 := by omega
  have htn2 : ((l.length : Int) + 1).toNat = l.length + 1 := by omega
  have hw1 : IntKind.i64.wrap ((i : Int) + 1) = (i : Int) + 1 := by rw [IntKind.wrap_i64]; omega
  have hw2 : IntKind.i64.wrap ((l.length : Int) + 1) = (l.length : Int) + 1 := by rw [IntKind.wrap_i64]; omega
  have hw3 : IntKind.i64.wrap ((l.length : Int) + 1 - (i : Int)) = (l.length : Int) + 1 - (i : Int) := by rw [IntKind.wrap_i64]; omega
  have hb2 : ¬ (G = i + 1) := by omega
  have hb3 : ¬ (G = i) := by omega
  have hb4 : ¬ (cap = i) := by omega
  unfold maxLen at hGm
  clear hB hdl s1 s2 s3 hW1 hW2 hW3 hh1 hh2 hh3 hold1 hold2 hv1 hown hgr hcur hvb hg hsz hil hR4 hA hAl hZ hZl hG hcell hkk hik hi0 hz0 hz1 hz2
  go_enter Tryz.func119, Tryz.ntmps119
  go_wp2_with (first | (at_builtin; refine Lib.wpList_append_run _ rfl _ _ 40 3 rfl _ _ rfl rfl _ _ (hrz _) ?_) | (at_builtin; refine wpList_copyK _ rfl _ _ 40 40 rfl _ _ rfl rfl (hcp1 _ _) ?_))
  go_region_law (refine step_copyK rfl _ _ 40 40 rfl _ _ (by simp [Act.eval, Act.put]) (by simp [Act.eval, Act.put]) (hcp2 _ _ _) ?_)
  go_wp2_with fail
  go_ret
  exact InsOut.mk _ rfl (by rw [HIL.out]; exact HOWN.out) HGR.out (.inr ⟨_, Nat.le_refl _, rfl⟩)

theorem insert_any (v : Value) (l : List Fld) (i : Nat) (f : Fld) (vb base : Nat) (w : World) (hown : w.ownsRow base 39 4 v l.length (flatF l)) (hi : i ≤ l.length) (hlen : l.length ≤ 1000) (hbase : base ≤ w.heap.size) (hvb : LiesF w vb f) (hne : ∀ g, v.ownBlock = some g → vb ≠ g) :
    Calls Tryz.prog 119 #[v, .int .i64 i, .slice (some ⟨vb, 0, none⟩) 1 1] w fun e w' => InsOut w base v (insL l i f) e w' := by
  rcases Nat.lt_or_ge i l.length with h | h
  · rcases hown.2 with ⟨_, h0⟩ | ⟨g, cap, cur, rfl, h2, h3, h4, h5, h6, h7⟩
    · omega
    · rcases Nat.lt_or_ge cap (l.length + 1) with hc | hc
      · exact insert_grow g cap l i f vb base cur w h h4 hc hlen hbase h3 h6 h7 hvb
      · exact insert_room g cap l i f vb base cur w h hc h5 hlen h2 h3 h6 h7 hvb (hne g rfl)
  · obtain rfl : i = l.length := by omega
    rw [insL_end]
    exact insert_end v l f vb base w hown hlen hbase hvb

end Go.Proofs.YtkeghknceccdmaaGreatDoor
