/- The library's Replace over rows of pointers to pages, where a new row must be made; and in all cases. -/
import Derived.Test.YtnmpfooegnmknaaRepA
namespace Go.Proofs.Ytnmpfooegnmknaa.Tr
open Go.RowKit
set_option linter.unusedVariables false

theorem grow_listQ (F R Z : List Value) (k N : Nat) (hF : F.length = N) (hk : k < N) (hZ : N + 1 ≤ k + Z.length) (hR : R.length = 2) :
    let A := F.take k ++ Z
    let B := A.take k ++ R ++ A.drop (k + R.length)
    (B.take (k + 2) ++ F.drop (k + 1) ++ B.drop (k + 2 + (F.drop (k + 1)).length)).take (N + 1) = F.take k ++ R ++ F.drop (k + 1) ∧ (B.take (k + 2) ++ F.drop (k + 1) ++ B.drop (k + 2 + (F.drop (k + 1)).length)).length = A.length ∧ B.length = A.length := by
  intro A B
  have hAl : A.length = k + Z.length := by show (F.take k ++ Z).length = _; rw [List.length_append, List.length_take]; omega
  have hBl : B.length = A.length := by
    show (A.take k ++ R ++ A.drop (k + R.length)).length = _
    simp only [List.length_append, List.length_take, List.length_drop]; omega
  have hAk : A.take k = F.take k := by
    show (F.take k ++ Z).take k = _
    rw [List.take_append_of_le_length (by rw [List.length_take]; omega), List.take_take]; congr 1; omega
  have h1 : B.take (k + 2) = F.take k ++ R := by
    show (A.take k ++ R ++ A.drop (k + R.length)).take (k + 2) = _
    rw [List.take_append_of_le_length (by simp only [List.length_append, List.length_take]; omega), List.take_of_length_le (by simp only [List.length_append, List.length_take]; omega), hAk]
  refine ⟨?_, ?_, hBl⟩
  · rw [h1, List.take_append_of_le_length (by simp only [List.length_append, List.length_take, List.length_drop]; omega), List.take_of_length_le (by simp only [List.length_append, List.length_take, List.length_drop]; omega)]
  · simp only [List.length_append, List.length_take, List.length_drop]; omega
theorem zeroQ_size (k : Nat) : (Builtin.zeroCells (Value.pointer none).cells k).size = k := by
  have hc : (Value.pointer none).cells = #[.pointer none] := rfl
  rw [hc]
  simp [Builtin.zeroCells]
theorem zeroQ_len (k : Nat) : (Builtin.zeroCells (Value.pointer none).cells k).toList.length = k := (Array.length_toList).trans (zeroQ_size k)

set_option maxRecDepth 4000 in
set_option maxHeartbeats 4000000 in
theorem grow_facts (g cap n k : Nat) (xs : List Value) (p q : Value) (vb base : Nat) (cur : Array Value) (w wd : World) (hk : k + 1 < n) (hcap1 : n ≤ cap) (hroom : cap < n + 1) (hlen : n ≤ 1000) (hbase : base ≤ w.heap.size)
    (hg0 : w.heap[g]? = some (.cells cur 91 (0, 0))) (hsz : cur.size = cap) (hcur : cur.toList.take n = xs) (h1 : ∀ u ∈ xs, u.oneCell' = true) (hvb0 : LiesQ w vb p q) (hp : p.oneCell' = true) (hq : q.oneCell' = true) (hwd : wd.heap = w.heap) (hgr0 : w.grownBy wd (some g)) :
    ∃ G W1 W2 W3, n + 1 ≤ G ∧ G ≤ maxLen ∧
      (∀ ty, (Builtin.append_ #[88, 3] ty #[.slice (some ⟨g, 0, none⟩) k cap, .int .i64 ((n : Int) + 1 - (k : Int))]).run Try.prog wd = .ok (.slice (some ⟨w.heap.size, 0, none⟩) (n + 1) G) W1) ∧
      (∀ ty dc, (Builtin.copy_ #[88, 88] ty #[.slice (some ⟨w.heap.size, k, none⟩) (n + 1 - k) dc, .slice (some ⟨vb, 0, none⟩) 2 2]).run Try.prog W1 = .ok (goInt ((2 : Nat) : Int)) W2) ∧
      (∀ ty dc sc, (Builtin.copy_ #[88, 88] ty #[.slice (some ⟨w.heap.size, k + 2, none⟩) (n - (k + 1)) dc, .slice (some ⟨g, k + 1, none⟩) (n - (k + 1)) sc]).run Try.prog W2.drew = .ok (goInt ((n - (k + 1) : Nat) : Int)) W3) ∧
      W3.ownsRow base 91 1 (.slice (some ⟨w.heap.size, 0, none⟩) (n + 1) G) (n + 1) (repQ xs k p q) ∧ w.grownBy W3 (some g) := by
  obtain ⟨i0, hi0, hz0, hz1, hz2⟩ := info_parts infoQ
  have h2 : ∀ u ∈ [p, q], u.oneCell' = true := by
    intro u hu; simp at hu; rcases hu with rfl | rfl
    · exact hp
    · exact hq
  have hg : wd.heap[g]? = some (.cells cur 91 (0, 0)) := by rw [hwd]; exact hg0
  have hvb : LiesQ wd vb p q := by rw [LiesQ, hwd]; exact hvb0
  have hws : w.heap.size = wd.heap.size := by rw [hwd]
  rw [hws]
  have hbase' : base ≤ wd.heap.size := by omega
  have hgw : g < wd.heap.size := (Array.getElem?_eq_some_iff.1 hg).1
  have hvw : vb < wd.heap.size := (Array.getElem?_eq_some_iff.1 hvb).1
  have hcl : cur.toList.length = cap := by rw [Array.length_toList]; exact hsz
  have hxl : xs.length = n := by rw [← hcur, List.length_take]; omega
  have hcell : ∀ j v, xs[j]? = some v → wd.cell? ⟨g, j, none⟩ = some v := fun j v hj => by
    rw [cell_row hg]
    have hjl : j < n := by have := (List.getElem?_eq_some_iff.1 hj).1; omega
    rw [← hcur, List.getElem?_take, if_pos hjl] at hj
    rw [← hj, Array.getElem?_toList]
  obtain ⟨G, hG⟩ : ∃ G, G = grownCap wd (n + 1) cap 91 := ⟨_, rfl⟩
  have hGn : n + 1 ≤ G := by rw [hG]; exact grownCap_ge wd _ _ _
  have hGm : G ≤ maxLen := by rw [hG]; exact grownCap_le_maxLen wd _ _ _ (by unfold maxLen; omega)
  obtain ⟨Z, hZ⟩ : ∃ Z, Z = (Builtin.zeroCells (Value.pointer none).cells (n + 1 - k)).toList ++ (Builtin.zeroCells (Value.pointer none).cells (G - (n + 1))).toList := ⟨_, rfl⟩
  have hZl : Z.length = G - k := by rw [hZ, List.length_append, zeroQ_len, zeroQ_len]; omega
  obtain ⟨A, hA⟩ : ∃ A, A = xs.take k ++ Z := ⟨_, rfl⟩
  obtain ⟨B, hB⟩ : ∃ B, B = A.take k ++ [p, q] ++ A.drop (k + [p, q].length) := ⟨_, rfl⟩
  have hR2 : [p, q].length = 2 := rfl
  have hgl := grow_listQ xs [p, q] Z k n hxl (by omega) (by omega) hR2
  simp only [← hA] at hgl
  simp only [← hB] at hgl
  obtain ⟨s1, s2, s3⟩ := hgl
  have hAl : A.length = G := by rw [hA, List.length_append, List.length_take, hxl, hZl]; omega
  have hdl : (xs.drop (k + 1)).length = n - (k + 1) := by rw [List.length_drop]; omega
  have hkk : (n : Int) + 1 - (k : Int) = ((n + 1 - k : Nat) : Int) := by omega
  have hik : k + (n + 1 - k) = n + 1 := by omega
  have hrz : ∀ ty, (Builtin.append_ #[88, 3] ty #[.slice (some ⟨g, 0, none⟩) k cap, .int .i64 ((n : Int) + 1 - (k : Int))]).run Try.prog wd = .ok (.slice (some ⟨wd.heap.size, 0, none⟩) (n + 1) G) (wd.drew.alloc (.cells A.toArray 91)) := fun ty => by
    have hold : (Builtin.firstCells i0.size k (.slice (some ⟨g, 0, none⟩) k cap)).run Try.prog wd.drew = .ok (xs.take k).toArray wd.drew := by
      rw [hz1]
      exact run_firstCells_some wd.drew 1 k ⟨g, 0, none⟩ k cap (xs.take k) (by rw [List.length_take, hxl]; omega) (fun j v hj => by
        rw [add_off, Nat.zero_add]
        rw [List.getElem?_take] at hj
        split at hj
        · exact hcell j v hj
        · cases hj)
    have h := Lib.run_append_grow_zeros wd 88 3 ty 91 i0 _ .i64 .i64 Try.underlying88 Try.underlying3 hi0 hz0 (some ⟨g, 0, none⟩) k cap (xs.take k) hold (n + 1 - k) (by omega) (by omega) (by omega) (by omega) (by rw [hz2]; omega) (by rw [hz2, hik]; exact growslice_fits hroom (by omega))
    rw [hik, ← hG] at h
    rw [hkk, h, hA, hZ]
    congr 3
    simp
  obtain ⟨W1, hW1⟩ : ∃ W1, W1 = wd.drew.alloc (.cells A.toArray 91) := ⟨_, rfl⟩
  obtain ⟨W2, hW2⟩ : ∃ W2, W2 = W1.setRow wd.heap.size B.toArray := ⟨_, rfl⟩
  obtain ⟨W3, hW3⟩ : ∃ W3, W3 = W2.drew.setRow wd.heap.size (B.take (k + 2) ++ xs.drop (k + 1) ++ B.drop (k + 2 + (xs.drop (k + 1)).length)).toArray := ⟨_, rfl⟩
  rw [← hW1] at hrz
  have hh1 : W1.heap[wd.heap.size]? = some (.cells A.toArray 91 (0, 0)) := by rw [hW1]; exact heap_alloc_new wd.drew _
  have hold1 : ∀ j, j < wd.heap.size → W1.heap[j]? = wd.heap[j]? := fun j hj => by rw [hW1]; exact ((Below.refl wd.drew.heap.size wd.drew).alloc (Nat.le_refl _) _).block j hj
  have hh2 : W2.heap[wd.heap.size]? = some (.cells B.toArray 91 (0, 0)) := by rw [hW2]; exact setRow_heap _ _ _ _ _ _ hh1
  have hold2 : ∀ j, j < wd.heap.size → W2.heap[j]? = wd.heap[j]? := fun j hj => by rw [hW2, setRow_other _ _ _ _ (by omega)]; exact hold1 j hj
  have hv1 : LiesQ W1 vb p q := by rw [LiesQ, hold1 vb hvw]; exact hvb
  have hcp1 : ∀ ty dc, (Builtin.copy_ #[88, 88] ty #[.slice (some ⟨wd.heap.size, k, none⟩) (n + 1 - k) dc, .slice (some ⟨vb, 0, none⟩) 2 2]).run Try.prog W1 = .ok (goInt ((2 : Nat) : Int)) W2 := fun ty dc => by
    have := run_copy_rowK (P := Try.prog) W1 88 88 ty 91 wd.heap.size k (n + 1 - k) dc ⟨vb, 0, none⟩ 2 2 A.toArray 91 [p, q] 1 2 Try.underlying88 infoQ1 hh1 (by simp only [Nat.min_def]; split <;> omega) rfl
      (liesQ_cells hv1) (by rw [List.size_toArray, hAl, hR2]; omega) h2
    rw [this, hW2, hB]
  have hcp2 : ∀ ty dc sc, (Builtin.copy_ #[88, 88] ty #[.slice (some ⟨wd.heap.size, k + 2, none⟩) (n - (k + 1)) dc, .slice (some ⟨g, k + 1, none⟩) (n - (k + 1)) sc]).run Try.prog W2.drew = .ok (goInt ((n - (k + 1) : Nat) : Int)) W3 := fun ty dc sc => by
    have := run_copy_rowK (P := Try.prog) W2.drew 88 88 ty 91 wd.heap.size (k + 2) (n - (k + 1)) dc ⟨g, k + 1, none⟩ (n - (k + 1)) sc B.toArray 91 (xs.drop (k + 1)) 1 (n - (k + 1)) Try.underlying88 infoQ1 hh2 (by simp only [Nat.min_def]; split <;> omega) (by omega)
      (fun j v hj => by
        rw [add_off]
        rw [List.getElem?_drop] at hj
        have hx := hcell (k + 1 + j) v hj
        rw [← hx]
        exact World.cell?_of_block (hold2 g hgw))
      (by rw [List.size_toArray, s3, hdl, hAl]; omega) (fun v hv => h1 v (List.mem_of_mem_drop hv))
    rw [this, hW3]
  have hh3 : W3.heap[wd.heap.size]? = some (.cells (B.take (k + 2) ++ xs.drop (k + 1) ++ B.drop (k + 2 + (xs.drop (k + 1)).length)).toArray 91 (0, 0)) := by rw [hW3]; exact setRow_heap _ _ _ _ _ _ hh2
  have hrl := repQ_len xs k p q (by omega)
  have hown : W3.ownsRow base 91 1 (.slice (some ⟨wd.heap.size, 0, none⟩) (n + 1) G) (n + 1) (repQ xs k p q) := by
    refine ⟨by rw [hrl, hxl]; omega, .inr ⟨wd.heap.size, G, _, rfl, hbase', hh3, hGn, hGm, ?_, ?_⟩⟩
    · rw [List.size_toArray, s2, hAl]; omega
    · rw [List.toList_toArray, Nat.mul_one, s1]; rfl
  have hgr : wd.grownBy W3 (some g) := by
    refine ⟨?_, ?_, ?_, ?_, fun j hj _ => ?_⟩
    · rw [hW3, hW2, hW1]; rfl
    · rw [hW3, hW2, hW1]; rfl
    · rw [hW3, hW2, hW1]; rfl
    · rw [hW3, setRow_size]; show wd.heap.size ≤ W2.heap.size; rw [hW2, setRow_size, hW1]; simp
    · rw [hW3, setRow_other _ _ _ _ (by omega)]; exact hold2 j hj
  exact ⟨G, W1, W2, W3, hGn, hGm, hrz, hcp1, hcp2, hown, hgr0.trans hgr⟩

set_option maxRecDepth 4000 in
set_option maxHeartbeats 4000000 in
theorem replace_grow (g cap n k : Nat) (xs : List Value) (p q : Value) (vb base : Nat) (cur : Array Value) (w : World) (hk : k + 1 < n) (hcap1 : n ≤ cap) (hroom : cap < n + 1) (hlen : n ≤ 1000) (hbase : base ≤ w.heap.size)
    (hg : w.heap[g]? = some (.cells cur 91 (0, 0))) (hsz : cur.size = cap) (hcur : cur.toList.take n = xs) (h1 : ∀ u ∈ xs, u.oneCell' = true) (hvb : LiesQ w vb p q) (hp : p.oneCell' = true) (hq : q.oneCell' = true) :
    Calls Try.prog 97 #[.slice (some ⟨g, 0, none⟩) n cap, .int .i64 k, .int .i64 ((k : Int) + 1), .slice (some ⟨vb, 0, none⟩) 2 2] w fun e w' => RepOut w base g n (repQ xs k p q) e w' := by
  have HRF : Hid (∀ wd : World, wd.heap = w.heap → w.grownBy wd (some g) → _) := fun wd e1 e2 => grow_facts g cap n k xs p q vb base cur w wd hk hcap1 hroom hlen hbase hg hsz hcur h1 hvb hp hq e1 e2
  have hz3 : ((k : Int) == (k : Int) + 1) = false := beq_eq_false_iff_ne.mpr (by omega)
  have hz4 : ((k : Int) + 1 == (n : Int)) = false := beq_eq_false_iff_ne.mpr (by omega)
  have hi1 : (k : Int) ≤ (cap : Int) := by omega
  have hi2 : (k : Int) + 1 ≤ (cap : Int) := by omega
  have hi5 : (k : Int) + 1 ≤ (n : Int) := by omega
  have hb4 : ¬ (cap = k) := by omega
  have hb5 : ¬ (cap = k + 1) := by omega
  have htn : ((k : Int) + 1).toNat = k + 1 := by omega
  have htot : (k : Int) + 2 + ((n - (k + 1) : Nat) : Int) = (n : Int) + 1 := by omega
  have hz6 : (cap : Int) < (n : Int) + 1 := by omega
  have htn2 : ((n : Int) + 1).toNat = n + 1 := by omega
  have htn3 : ((k : Int) + 2).toNat = k + 2 := by omega
  have hi7 : (k : Int) + 2 ≤ (n : Int) + 1 := by omega
  have hi8 : (k : Int) ≤ (n : Int) + 1 := by omega
  have hb0 : (0 : Int) ≤ (k : Int) + 2 := by omega
  have hb1 : (0 : Int) ≤ (k : Int) + 1 := by omega
  have hw1 : IntKind.i64.wrap ((k : Int) + 2) = (k : Int) + 2 := by rw [IntKind.wrap_i64]; omega
  have hw2 : IntKind.i64.wrap ((k : Int) + 2 + ((n - (k + 1) : Nat) : Int)) = (n : Int) + 1 := by rw [IntKind.wrap_i64]; omega
  have hw3 : IntKind.i64.wrap ((n : Int) + 1 - (k : Int)) = (n : Int) + 1 - (k : Int) := by rw [IntKind.wrap_i64]; omega
  clear hcur hvb hg hsz h1
  go_enter Try.func97, Try.ntmps97
  go_wp2_with fail
  go_quiet (fail)
  obtain ⟨G, W1, W2, W3, hGn, hGm, hrz, hcp1, hcp2, hown, hgr⟩ := HRF.out (w.drewN nq) rfl (grown_drewN _ _ _)
  generalize w.drewN nq = wd at hrz ⊢
  have HOWN : Hid (World.ownsRow _ _ _ _ _ _ _) := hown
  have HGR : Hid (w.grownBy W3 (some g)) := hgr
  have hb7 : ¬ (G = k) := by omega
  have hb8 : ¬ (G = k + 2) := by omega
  unfold maxLen at hGm
  clear hown hgr HRF
  go_wp2_with (first | (at_builtin; refine Lib.wpList_append_run _ rfl _ _ 88 3 rfl _ _ rfl rfl _ _ (hrz _) ?_) | (at_builtin; refine wpList_copyK _ rfl _ _ 88 88 rfl _ _ rfl rfl (hcp1 _ _) ?_))
  go_region_law (refine step_copyK rfl _ _ 88 88 rfl _ _ (by simp [Act.eval, Act.put]) (by simp [Act.eval, Act.put]) (hcp2 _ _ _) ?_)
  go_wp2_with fail
  go_ret
  exact RepOut.mk w.heap.size G rfl HOWN.out HGR.out (.inr (Nat.le_refl _))

theorem replace_any (g cap n k : Nat) (ps : List (Option Addr)) (p q : Option Addr) (vb base : Nat) (w : World) (hown : w.ownsRow base 91 1 (.slice (some ⟨g, 0, none⟩) n cap) n (ps.map Value.pointer)) (hk : k < n) (hlen : n ≤ 1000) (hbase : base ≤ w.heap.size) (hvb : LiesQ w vb (.pointer p) (.pointer q)) (hne : vb ≠ g) :
    Calls Try.prog 97 #[.slice (some ⟨g, 0, none⟩) n cap, .int .i64 k, .int .i64 ((k : Int) + 1), .slice (some ⟨vb, 0, none⟩) 2 2] w fun e w' => RepOut w base g n (repQ (ps.map Value.pointer) k (.pointer p) (.pointer q)) e w' := by
  have h1 : ∀ u ∈ ps.map Value.pointer, u.oneCell' = true := by
    intro u hu
    obtain ⟨a, _, rfl⟩ := List.mem_map.mp hu
    rfl
  obtain ⟨_, _, hv, hbg, _, hc1, hc2⟩ := owns_form hown (by omega)
  cases hv
  rcases Nat.lt_or_ge (k + 1) n with h | h
  · rcases hown.2 with ⟨h0, _⟩ | ⟨g', cap', cur, e, h2, h3, h4, h5, h6, h7⟩
    · cases h0
    · cases e
      rw [Nat.mul_one] at h6 h7
      rcases Nat.lt_or_ge cap (n + 1) with hc | hc
      · exact replace_grow g cap n k _ _ _ vb base cur w h h4 hc hlen hbase h3 h6 h7 h1 hvb rfl rfl
      · exact replace_room g cap n k _ _ _ vb base cur w h hc h5 hlen h2 h3 h6 h7 h1 hvb rfl rfl hne
  · exact replace_end g cap n k _ _ _ vb base w hown (by omega) hlen hc1 hc2 hbase hvb rfl rfl

end Go.Proofs.Ytnmpfooegnmknaa.Tr
