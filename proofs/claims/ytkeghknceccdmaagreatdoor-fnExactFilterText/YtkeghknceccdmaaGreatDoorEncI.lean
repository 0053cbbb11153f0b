/- How the program lays a value into bytes. -/
import Derived.Test.YtkeghknceccdmaaGreatDoorEncS
namespace Go.Proofs.YtkeghknceccdmaaGreatDoor
open Go.RowKit
set_option linter.unusedVariables false

theorem heap_size_alloc (w : World) (o : Obj) : (w.alloc o).heap.size = w.heap.size + 1 := by simp
theorem cell_new1 (w : World) (x : Value) (t : TypeId) (B : Nat) (hB : B = w.heap.size) : ∀ j u, [x][j]? = some u → (w.alloc (.cells #[x] t)).cell? ((⟨B, 0, none⟩ : Addr).add j) = some u := by
  subst hB; exact cell_one_new w x t
theorem numB_one (n : Int) : numB n 1 = [nb n 0] := rfl
theorem nb_zero (n : Int) : nb n 0 = n % 256 := by unfold nb; simp
theorem rowE_text (t : ByteArray) : rowE (bytesI t) = Lib.strCells t := by unfold rowE bytesI Lib.strCells; simp

/-- What laying a value behind bytes leaves. -/
def Laid1 (w w' : World) (base : Nat) (bv v' : Value) (zs : List Int) : Prop := OwnE w' base v' zs ∧ w.grownBy w' bv.ownBlock ∧ v' ≠ .slice none 0 0

set_option maxRecDepth 4000 in
set_option maxHeartbeats 2000000 in
theorem appendValue_null (bv : Value) (zs : List Int) (base : Nat) (n : Int) (t : ByteArray) (w : World) (hown : OwnE w base bv zs) (hbase : base ≤ w.heap.size) (hlen : zs.length ≤ 1048000) :
    Calls Tryz.prog 191 #[bv, .agg #[.int .i64 0, .int .i64 n, .string t]] w fun e w' => ∃ v', e = .returned v' ∧ Laid1 w w' base bv v' (zs ++ encB ⟨0, n, t⟩) := by
  obtain ⟨i0, hi, hz0, hz1, hz2⟩ := info_parts infoE
  have hob : some w.heap.size ≠ bv.ownBlock := fun h => by have := World.ownsRow.lt hown _ h.symm; omega
  have nbk : nb 0 0 = 0 := by decide
  go_enter Tryz.func191, Tryz.ntmps191
  go_wp2_with (at_builtin; refine wpList_append_own_at _ rfl (.tmp 5) (.tmp 9) 22 rfl base 5 i0 (.int .u8 0) 1 1 Tryz.underlying22 hi hz0 hz1 hz2 rfl (by decide) _ _ _ rfl (World.ownsRow.alloc (World.ownsRow.alloc hown _) _) ⟨w.heap.size + 1, 0, none⟩ 1 1 [.int .u8 0] rfl rfl (cell_new1 _ _ _ _ (heap_size_alloc _ _).symm) (by intro u hu; simp at hu; subst hu; rfl) (by unfold maxLen; omega) (by omega) (by simp; omega) ?_)
  intro v1 w1 hown1 hgrow1 hnil1 hat1
  have N1 : Hid (v1 ≠ .slice none 0 0) := by intro h; have := hnil1; simp [h] at this
  have G1 : Hid (Grew (w.alloc (.cells #[.int .i64 0, .int .i64 n, .string t] 28)) w1 bv v1) := ((Grew.refl _ _).alloc _).trans ⟨hgrow1, by rcases hat1 with h | h; exact .inl h; exact .inr ⟨w.heap.size + 1 + 1, by simp, h⟩⟩
  have O1 : Hid (OwnE w1 base v1 (zs ++ [0])) := by
    show w1.ownsRow _ _ _ _ _ _
    rw [List.length_append, rowE_append]; exact hown1
  have c0 : w1.cell? ⟨w.heap.size, 0, none⟩ = some (.int .i64 0) := G1.out.1.cell (by simp [go_sem]) hob
  have c1 : w1.cell? ⟨w.heap.size, 1, none⟩ = some (.int .i64 n) := G1.out.1.cell (by simp [go_sem]) hob
  have c2 : w1.cell? ⟨w.heap.size, 2, none⟩ = some (.string t) := G1.out.1.cell (by simp [go_sem]) hob
  have hz := G1.out.1.size
  rw [heap_size_alloc] at hz
  clear hown1 hgrow1 hnil1 hat1
  clear hown
  go_wp2_with fail
  go_ret
  have e : encB ⟨0, n, t⟩ = [0] := by unfold encB; rw [numB_one, nbk]; simp
  rw [e]
  exact ⟨v1, rfl, O1.out, ((World.grownBy_alloc w (.cells #[.int .i64 0, .int .i64 n, .string t] 28) _).trans G1.out.1), N1.out⟩

set_option maxRecDepth 4000 in
set_option maxHeartbeats 2000000 in
theorem appendValue_bool (bv : Value) (zs : List Int) (base : Nat) (n : Int) (t : ByteArray) (w : World) (hown : OwnE w base bv zs) (hbase : base ≤ w.heap.size) (hlen : zs.length ≤ 1048000) :
    Calls Tryz.prog 191 #[bv, .agg #[.int .i64 1, .int .i64 n, .string t]] w fun e w' => ∃ v', e = .returned v' ∧ Laid1 w w' base bv v' (zs ++ encB ⟨1, n, t⟩) := by
  obtain ⟨i0, hi, hz0, hz1, hz2⟩ := info_parts infoE
  have hob : some w.heap.size ≠ bv.ownBlock := fun h => by have := World.ownsRow.lt hown _ h.symm; omega
  have nbk : nb 1 0 = 1 := by decide
  go_enter Tryz.func191, Tryz.ntmps191
  go_wp2_with (at_builtin; refine wpList_append_own_at _ rfl (.tmp 5) (.tmp 9) 22 rfl base 5 i0 (.int .u8 0) 1 1 Tryz.underlying22 hi hz0 hz1 hz2 rfl (by decide) _ _ _ rfl (World.ownsRow.alloc (World.ownsRow.alloc hown _) _) ⟨w.heap.size + 1, 0, none⟩ 1 1 [.int .u8 1] rfl rfl (cell_new1 _ _ _ _ (heap_size_alloc _ _).symm) (by intro u hu; simp at hu; subst hu; rfl) (by unfold maxLen; omega) (by omega) (by simp; omega) ?_)
  intro v1 w1 hown1 hgrow1 hnil1 hat1
  have N1 : Hid (v1 ≠ .slice none 0 0) := by intro h; have := hnil1; simp [h] at this
  have G1 : Hid (Grew (w.alloc (.cells #[.int .i64 1, .int .i64 n, .string t] 28)) w1 bv v1) := ((Grew.refl _ _).alloc _).trans ⟨hgrow1, by rcases hat1 with h | h; exact .inl h; exact .inr ⟨w.heap.size + 1 + 1, by simp, h⟩⟩
  have O1 : Hid (OwnE w1 base v1 (zs ++ [1])) := by
    show w1.ownsRow _ _ _ _ _ _
    rw [List.length_append, rowE_append]; exact hown1
  have c0 : w1.cell? ⟨w.heap.size, 0, none⟩ = some (.int .i64 1) := G1.out.1.cell (by simp [go_sem]) hob
  have c1 : w1.cell? ⟨w.heap.size, 1, none⟩ = some (.int .i64 n) := G1.out.1.cell (by simp [go_sem]) hob
  have c2 : w1.cell? ⟨w.heap.size, 2, none⟩ = some (.string t) := G1.out.1.cell (by simp [go_sem]) hob
  have hz := G1.out.1.size
  rw [heap_size_alloc] at hz
  clear hown1 hgrow1 hnil1 hat1
  have hl1 : (zs ++ [(1 : Int)]).length = zs.length + 1 := by simp
  clear hown
  go_wp2_with (at_builtin; refine wpList_append_own_at _ rfl (.tmp 15) (.tmp 19) 22 rfl base 5 i0 (.int .u8 0) 1 1 Tryz.underlying22 hi hz0 hz1 hz2 rfl (by decide) _ _ _ rfl (World.ownsRow.alloc O1.out _) ⟨w1.heap.size, 0, none⟩ 1 1 [.int .u8 (n % 256)] rfl rfl (cell_one_new _ _ _) (by intro u hu; simp at hu; subst hu; rfl) (by rw [hl1]; unfold maxLen; omega) (by rw [hl1]; omega) (by simp; omega) ?_)
  intro v2 w2 hown2 hgrow2 hnil2 hat2
  have N2 : Hid (v2 ≠ .slice none 0 0) := by intro h; have := hnil2; simp [h] at this
  have G2 : Hid (Grew (w.alloc (.cells #[.int .i64 1, .int .i64 n, .string t] 28)) w2 bv v2) := (G1.out.alloc _).trans ⟨hgrow2, by rcases hat2 with h | h; exact .inl h; exact .inr ⟨w1.heap.size + 1, by simp, h⟩⟩
  have O2 : Hid (OwnE w2 base v2 (zs ++ [1] ++ [n % 256])) := by
    show w2.ownsRow _ _ _ _ _ _
    have el : (zs ++ [(1 : Int)] ++ [n % 256]).length = (zs ++ [(1 : Int)]).length + 1 := by simp
    rw [el, hl1, rowE_append (zs ++ [1]), show rowE [n % 256] = [Value.int .u8 (n % 256)] from rfl]
    exact hown2
  clear hown2 hgrow2 hnil2 hat2 G1 O1 N1 c0 c1 c2
  go_wp2_with fail
  go_ret
  have e : zs ++ encB ⟨1, n, t⟩ = zs ++ [1] ++ [n % 256] := by unfold encB; rw [numB_one, nbk]; simp [numB_one, nb_zero]
  rw [e]
  exact ⟨v2, rfl, O2.out, ((World.grownBy_alloc w (.cells #[.int .i64 1, .int .i64 n, .string t] 28) _).trans G2.out.1), N2.out⟩

set_option maxRecDepth 4000 in
set_option maxHeartbeats 2000000 in
theorem appendValue_int (bv : Value) (zs : List Int) (base : Nat) (n : Int) (t : ByteArray) (w : World) (hown : OwnE w base bv zs) (hbase : base ≤ w.heap.size) (hlen : zs.length ≤ 1048000) (h1 : -1000000000000 ≤ n) (h2 : n ≤ 1000000000000) :
    Calls Tryz.prog 191 #[bv, .agg #[.int .i64 2, .int .i64 n, .string t]] w fun e w' => ∃ v', e = .returned v' ∧ Laid1 w w' base bv v' (zs ++ encB ⟨2, n, t⟩) := by
  obtain ⟨i0, hi, hz0, hz1, hz2⟩ := info_parts infoE
  have hob : some w.heap.size ≠ bv.ownBlock := fun h => by have := World.ownsRow.lt hown _ h.symm; omega
  have nbk : nb 2 0 = 2 := by decide
  go_enter Tryz.func191, Tryz.ntmps191
  go_wp2_with (at_builtin; refine wpList_append_own_at _ rfl (.tmp 5) (.tmp 9) 22 rfl base 5 i0 (.int .u8 0) 1 1 Tryz.underlying22 hi hz0 hz1 hz2 rfl (by decide) _ _ _ rfl (World.ownsRow.alloc (World.ownsRow.alloc hown _) _) ⟨w.heap.size + 1, 0, none⟩ 1 1 [.int .u8 2] rfl rfl (cell_new1 _ _ _ _ (heap_size_alloc _ _).symm) (by intro u hu; simp at hu; subst hu; rfl) (by unfold maxLen; omega) (by omega) (by simp; omega) ?_)
  intro v1 w1 hown1 hgrow1 hnil1 hat1
  have N1 : Hid (v1 ≠ .slice none 0 0) := by intro h; have := hnil1; simp [h] at this
  have G1 : Hid (Grew (w.alloc (.cells #[.int .i64 2, .int .i64 n, .string t] 28)) w1 bv v1) := ((Grew.refl _ _).alloc _).trans ⟨hgrow1, by rcases hat1 with h | h; exact .inl h; exact .inr ⟨w.heap.size + 1 + 1, by simp, h⟩⟩
  have O1 : Hid (OwnE w1 base v1 (zs ++ [2])) := by
    show w1.ownsRow _ _ _ _ _ _
    rw [List.length_append, rowE_append]; exact hown1
  have c0 : w1.cell? ⟨w.heap.size, 0, none⟩ = some (.int .i64 2) := G1.out.1.cell (by simp [go_sem]) hob
  have c1 : w1.cell? ⟨w.heap.size, 1, none⟩ = some (.int .i64 n) := G1.out.1.cell (by simp [go_sem]) hob
  have c2 : w1.cell? ⟨w.heap.size, 2, none⟩ = some (.string t) := G1.out.1.cell (by simp [go_sem]) hob
  have hz := G1.out.1.size
  rw [heap_size_alloc] at hz
  clear hown1 hgrow1 hnil1 hat1
  have hl1 : (zs ++ [(2 : Int)]).length = zs.length + 1 := by simp
  clear hown
  go_wp2_with fail
  refine (appendNumber_any v1 (zs ++ [2]) base (n + 4611686018427387904) 8 _ O1.out (by omega) (by rw [hl1]; omega) (by omega)).mono ?_
  rintro e w2 ⟨v2, rfl, hO2, hG2⟩
  have G2 : Hid (Grew (w.alloc (.cells #[.int .i64 2, .int .i64 n, .string t] 28)) w2 bv v2) := G1.out.trans hG2
  have O2 : Hid (OwnE w2 base v2 (zs ++ [2] ++ numB (n + 4611686018427387904) 8)) := hO2
  have N2 : Hid (v2 ≠ .slice none 0 0) := by
    intro h
    rcases hO2.2 with h2 | ⟨g, cap, cur, h2, _⟩
    · have := h2.2; rw [List.length_append, hl1] at this; omega
    · rw [h] at h2; cases h2
  have c2 : w2.cell? ⟨w.heap.size, 2, none⟩ = some (.string t) := G2.out.1.cell (by simp [go_sem]) hob
  have hz2' := G2.out.1.size
  rw [heap_size_alloc] at hz2'
  clear hO2 hG2 G1 O1 N1 c0 c1
  go_wp2_with fail
  go_ret
  have e : zs ++ encB ⟨2, n, t⟩ = zs ++ [2] ++ numB (n + 4611686018427387904) 8 := by unfold encB; rw [numB_one, nbk]; simp
  rw [e]
  exact ⟨v2, rfl, O2.out, ((World.grownBy_alloc w (.cells #[.int .i64 2, .int .i64 n, .string t] 28) _).trans G2.out.1), N2.out⟩

set_option maxRecDepth 4000 in
set_option maxHeartbeats 2000000 in
theorem appendValue_3 (bv : Value) (zs : List Int) (base : Nat) (n : Int) (t : ByteArray) (w : World) (hown : OwnE w base bv zs) (hbase : base ≤ w.heap.size) (hlen : zs.length ≤ 1048000) (hs : t.size ≤ 65536) :
    Calls Tryz.prog 191 #[bv, .agg #[.int .i64 3, .int .i64 n, .string t]] w fun e w' => ∃ v', e = .returned v' ∧ Laid1 w w' base bv v' (zs ++ encB ⟨3, n, t⟩) := by
  obtain ⟨i0, hi, hz0, hz1, hz2⟩ := info_parts infoE
  have hob : some w.heap.size ≠ bv.ownBlock := fun h => by have := World.ownsRow.lt hown _ h.symm; omega
  have nbk : nb 3 0 = 3 := by decide
  go_enter Tryz.func191, Tryz.ntmps191
  go_wp2_with (at_builtin; refine wpList_append_own_at _ rfl (.tmp 5) (.tmp 9) 22 rfl base 5 i0 (.int .u8 0) 1 1 Tryz.underlying22 hi hz0 hz1 hz2 rfl (by decide) _ _ _ rfl (World.ownsRow.alloc (World.ownsRow.alloc hown _) _) ⟨w.heap.size + 1, 0, none⟩ 1 1 [.int .u8 3] rfl rfl (cell_new1 _ _ _ _ (heap_size_alloc _ _).symm) (by intro u hu; simp at hu; subst hu; rfl) (by unfold maxLen; omega) (by omega) (by simp; omega) ?_)
  intro v1 w1 hown1 hgrow1 hnil1 hat1
  have N1 : Hid (v1 ≠ .slice none 0 0) := by intro h; have := hnil1; simp [h] at this
  have G1 : Hid (Grew (w.alloc (.cells #[.int .i64 3, .int .i64 n, .string t] 28)) w1 bv v1) := ((Grew.refl _ _).alloc _).trans ⟨hgrow1, by rcases hat1 with h | h; exact .inl h; exact .inr ⟨w.heap.size + 1 + 1, by simp, h⟩⟩
  have O1 : Hid (OwnE w1 base v1 (zs ++ [3])) := by
    show w1.ownsRow _ _ _ _ _ _
    rw [List.length_append, rowE_append]; exact hown1
  have c0 : w1.cell? ⟨w.heap.size, 0, none⟩ = some (.int .i64 3) := G1.out.1.cell (by simp [go_sem]) hob
  have c1 : w1.cell? ⟨w.heap.size, 1, none⟩ = some (.int .i64 n) := G1.out.1.cell (by simp [go_sem]) hob
  have c2 : w1.cell? ⟨w.heap.size, 2, none⟩ = some (.string t) := G1.out.1.cell (by simp [go_sem]) hob
  have hz := G1.out.1.size
  rw [heap_size_alloc] at hz
  clear hown1 hgrow1 hnil1 hat1
  have hl1 : (zs ++ [(3 : Int)]).length = zs.length + 1 := by simp
  clear hown
  go_wp2_with fail
  refine (appendNumber_any v1 (zs ++ [3]) base (t.size : Int) 2 _ O1.out (by omega) (by rw [hl1]; omega) (by omega)).mono ?_
  rintro e w2 ⟨v2, rfl, hO2, hG2⟩
  have G2 : Hid (Grew (w.alloc (.cells #[.int .i64 3, .int .i64 n, .string t] 28)) w2 bv v2) := G1.out.trans hG2
  have O2 : Hid (OwnE w2 base v2 (zs ++ [3] ++ numB (t.size : Int) 2)) := hO2
  have N2 : Hid (v2 ≠ .slice none 0 0) := by
    intro h
    rcases hO2.2 with h2 | ⟨g, cap, cur, h2, _⟩
    · have := h2.2; rw [List.length_append, hl1] at this; omega
    · rw [h] at h2; cases h2
  have d2 : w2.cell? ⟨w.heap.size, 2, none⟩ = some (.string t) := G2.out.1.cell (by simp [go_sem]) hob
  have hz2' := G2.out.1.size
  rw [heap_size_alloc] at hz2'
  clear hO2 hG2 G1 O1 N1 c0 c1 c2
  have hl2 : (zs ++ [3] ++ numB (t.size : Int) 2).length = zs.length + 1 + 2 := by rw [List.length_append, hl1, numB_len]
  go_wp2_with (at_builtin; refine Lib.wpList_append_own_string _ rfl (.tmp 37) (.tmp 39) 22 9 rfl base 5 i0 Tryz.underlying22 Tryz.underlying9 hi hz0 hz1 hz2 _ _ _ rfl O2.out t rfl (by rw [hl2]; unfold maxLen; omega) (by rw [hl2]; omega) (by omega) ?_)
  intro v3 w3 hown3 hgrow3 hnil3
  have N3 : Hid (v3 ≠ .slice none 0 0) := by intro h; exact N2.out (hnil3.mp h).1
  have G3 : Hid ((w.alloc (.cells #[.int .i64 3, .int .i64 n, .string t] 28)).grownBy w3 bv.ownBlock) := G2.out.1.andThen hgrow3 (fun j hj => by
    rcases G2.out.2 with h | ⟨g, hg, h⟩
    · exact .inr (h.symm.trans hj)
    · rw [h] at hj; injection hj with hj; subst hj; exact .inl hg)
  have O3 : Hid (OwnE w3 base v3 (zs ++ [3] ++ numB (t.size : Int) 2 ++ bytesI t)) := by
    show w3.ownsRow _ _ _ _ _ _
    rw [List.length_append, bytesI_len, rowE_append (zs ++ [3] ++ numB (t.size : Int) 2), rowE_text]
    have er : zs ++ [3] ++ numB (t.size : Int) 2 = zs ++ 3 :: numB (t.size : Int) 2 := by simp
    have el : (zs ++ [3] ++ numB (t.size : Int) 2).length = zs.length + ((numB (t.size : Int) 2).length + 1) := by simp
    rw [el, er]
    exact hown3
  clear hown3 hgrow3 hnil3 G2 O2 N2 d2
  go_wp2_with fail
  go_ret
  have e : zs ++ encB ⟨3, n, t⟩ = zs ++ [3] ++ numB (t.size : Int) 2 ++ bytesI t := by unfold encB; rw [numB_one, nbk]; simp
  rw [e]
  exact ⟨v3, rfl, O3.out, ((World.grownBy_alloc w (.cells #[.int .i64 3, .int .i64 n, .string t] 28) _).trans G3.out), N3.out⟩

set_option maxRecDepth 4000 in
set_option maxHeartbeats 2000000 in
theorem appendValue_4 (bv : Value) (zs : List Int) (base : Nat) (n : Int) (t : ByteArray) (w : World) (hown : OwnE w base bv zs) (hbase : base ≤ w.heap.size) (hlen : zs.length ≤ 1048000) (hs : t.size ≤ 65536) :
    Calls Tryz.prog 191 #[bv, .agg #[.int .i64 4, .int .i64 n, .string t]] w fun e w' => ∃ v', e = .returned v' ∧ Laid1 w w' base bv v' (zs ++ encB ⟨4, n, t⟩) := by
  obtain ⟨i0, hi, hz0, hz1, hz2⟩ := info_parts infoE
  have hob : some w.heap.size ≠ bv.ownBlock := fun h => by have := World.ownsRow.lt hown _ h.symm; omega
  have nbk : nb 4 0 = 4 := by decide
  go_enter Tryz.func191, Tryz.ntmps191
  go_wp2_with (at_builtin; refine wpList_append_own_at _ rfl (.tmp 5) (.tmp 9) 22 rfl base 5 i0 (.int .u8 0) 1 1 Tryz.underlying22 hi hz0 hz1 hz2 rfl (by decide) _ _ _ rfl (World.ownsRow.alloc (World.ownsRow.alloc hown _) _) ⟨w.heap.size + 1, 0, none⟩ 1 1 [.int .u8 4] rfl rfl (cell_new1 _ _ _ _ (heap_size_alloc _ _).symm) (by intro u hu; simp at hu; subst hu; rfl) (by unfold maxLen; omega) (by omega) (by simp; omega) ?_)
  intro v1 w1 hown1 hgrow1 hnil1 hat1
  have N1 : Hid (v1 ≠ .slice none 0 0) := by intro h; have := hnil1; simp [h] at this
  have G1 : Hid (Grew (w.alloc (.cells #[.int .i64 4, .int .i64 n, .string t] 28)) w1 bv v1) := ((Grew.refl _ _).alloc _).trans ⟨hgrow1, by rcases hat1 with h | h; exact .inl h; exact .inr ⟨w.heap.size + 1 + 1, by simp, h⟩⟩
  have O1 : Hid (OwnE w1 base v1 (zs ++ [4])) := by
    show w1.ownsRow _ _ _ _ _ _
    rw [List.length_append, rowE_append]; exact hown1
  have c0 : w1.cell? ⟨w.heap.size, 0, none⟩ = some (.int .i64 4) := G1.out.1.cell (by simp [go_sem]) hob
  have c1 : w1.cell? ⟨w.heap.size, 1, none⟩ = some (.int .i64 n) := G1.out.1.cell (by simp [go_sem]) hob
  have c2 : w1.cell? ⟨w.heap.size, 2, none⟩ = some (.string t) := G1.out.1.cell (by simp [go_sem]) hob
  have hz := G1.out.1.size
  rw [heap_size_alloc] at hz
  clear hown1 hgrow1 hnil1 hat1
  have hl1 : (zs ++ [(4 : Int)]).length = zs.length + 1 := by simp
  clear hown
  go_wp2_with fail
  refine (appendNumber_any v1 (zs ++ [4]) base (t.size : Int) 2 _ O1.out (by omega) (by rw [hl1]; omega) (by omega)).mono ?_
  rintro e w2 ⟨v2, rfl, hO2, hG2⟩
  have G2 : Hid (Grew (w.alloc (.cells #[.int .i64 4, .int .i64 n, .string t] 28)) w2 bv v2) := G1.out.trans hG2
  have O2 : Hid (OwnE w2 base v2 (zs ++ [4] ++ numB (t.size : Int) 2)) := hO2
  have N2 : Hid (v2 ≠ .slice none 0 0) := by
    intro h
    rcases hO2.2 with h2 | ⟨g, cap, cur, h2, _⟩
    · have := h2.2; rw [List.length_append, hl1] at this; omega
    · rw [h] at h2; cases h2
  have d2 : w2.cell? ⟨w.heap.size, 2, none⟩ = some (.string t) := G2.out.1.cell (by simp [go_sem]) hob
  have hz2' := G2.out.1.size
  rw [heap_size_alloc] at hz2'
  clear hO2 hG2 G1 O1 N1 c0 c1 c2
  have hl2 : (zs ++ [4] ++ numB (t.size : Int) 2).length = zs.length + 1 + 2 := by rw [List.length_append, hl1, numB_len]
  go_wp2_with (at_builtin; refine Lib.wpList_append_own_string _ rfl (.tmp 37) (.tmp 39) 22 9 rfl base 5 i0 Tryz.underlying22 Tryz.underlying9 hi hz0 hz1 hz2 _ _ _ rfl O2.out t rfl (by rw [hl2]; unfold maxLen; omega) (by rw [hl2]; omega) (by omega) ?_)
  intro v3 w3 hown3 hgrow3 hnil3
  have N3 : Hid (v3 ≠ .slice none 0 0) := by intro h; exact N2.out (hnil3.mp h).1
  have G3 : Hid ((w.alloc (.cells #[.int .i64 4, .int .i64 n, .string t] 28)).grownBy w3 bv.ownBlock) := G2.out.1.andThen hgrow3 (fun j hj => by
    rcases G2.out.2 with h | ⟨g, hg, h⟩
    · exact .inr (h.symm.trans hj)
    · rw [h] at hj; injection hj with hj; subst hj; exact .inl hg)
  have O3 : Hid (OwnE w3 base v3 (zs ++ [4] ++ numB (t.size : Int) 2 ++ bytesI t)) := by
    show w3.ownsRow _ _ _ _ _ _
    rw [List.length_append, bytesI_len, rowE_append (zs ++ [4] ++ numB (t.size : Int) 2), rowE_text]
    have er : zs ++ [4] ++ numB (t.size : Int) 2 = zs ++ 4 :: numB (t.size : Int) 2 := by simp
    have el : (zs ++ [4] ++ numB (t.size : Int) 2).length = zs.length + ((numB (t.size : Int) 2).length + 1) := by simp
    rw [el, er]
    exact hown3
  clear hown3 hgrow3 hnil3 G2 O2 N2 d2
  go_wp2_with fail
  go_ret
  have e : zs ++ encB ⟨4, n, t⟩ = zs ++ [4] ++ numB (t.size : Int) 2 ++ bytesI t := by unfold encB; rw [numB_one, nbk]; simp
  rw [e]
  exact ⟨v3, rfl, O3.out, ((World.grownBy_alloc w (.cells #[.int .i64 4, .int .i64 n, .string t] 28) _).trans G3.out), N3.out⟩

set_option maxRecDepth 4000 in
set_option maxHeartbeats 2000000 in
theorem appendValue_5 (bv : Value) (zs : List Int) (base : Nat) (n : Int) (t : ByteArray) (w : World) (hown : OwnE w base bv zs) (hbase : base ≤ w.heap.size) (hlen : zs.length ≤ 1048000) (hs : t.size ≤ 65536) :
    Calls Tryz.prog 191 #[bv, .agg #[.int .i64 5, .int .i64 n, .string t]] w fun e w' => ∃ v', e = .returned v' ∧ Laid1 w w' base bv v' (zs ++ encB ⟨5, n, t⟩) := by
  obtain ⟨i0, hi, hz0, hz1, hz2⟩ := info_parts infoE
  have hob : some w.heap.size ≠ bv.ownBlock := fun h => by have := World.ownsRow.lt hown _ h.symm; omega
  have nbk : nb 5 0 = 5 := by decide
  go_enter Tryz.func191, Tryz.ntmps191
  go_wp2_with (at_builtin; refine wpList_append_own_at _ rfl (.tmp 5) (.tmp 9) 22 rfl base 5 i0 (.int .u8 0) 1 1 Tryz.underlying22 hi hz0 hz1 hz2 rfl (by decide) _ _ _ rfl (World.ownsRow.alloc (World.ownsRow.alloc hown _) _) ⟨w.heap.size + 1, 0, none⟩ 1 1 [.int .u8 5] rfl rfl (cell_new1 _ _ _ _ (heap_size_alloc _ _).symm) (by intro u hu; simp at hu; subst hu; rfl) (by unfold maxLen; omega) (by omega) (by simp; omega) ?_)
  intro v1 w1 hown1 hgrow1 hnil1 hat1
  have N1 : Hid (v1 ≠ .slice none 0 0) := by intro h; have := hnil1; simp [h] at this
  have G1 : Hid (Grew (w.alloc (.cells #[.int .i64 5, .int .i64 n, .string t] 28)) w1 bv v1) := ((Grew.refl _ _).alloc _).trans ⟨hgrow1, by rcases hat1 with h | h; exact .inl h; exact .inr ⟨w.heap.size + 1 + 1, by simp, h⟩⟩
  have O1 : Hid (OwnE w1 base v1 (zs ++ [5])) := by
    show w1.ownsRow _ _ _ _ _ _
    rw [List.length_append, rowE_append]; exact hown1
  have c0 : w1.cell? ⟨w.heap.size, 0, none⟩ = some (.int .i64 5) := G1.out.1.cell (by simp [go_sem]) hob
  have c1 : w1.cell? ⟨w.heap.size, 1, none⟩ = some (.int .i64 n) := G1.out.1.cell (by simp [go_sem]) hob
  have c2 : w1.cell? ⟨w.heap.size, 2, none⟩ = some (.string t) := G1.out.1.cell (by simp [go_sem]) hob
  have hz := G1.out.1.size
  rw [heap_size_alloc] at hz
  clear hown1 hgrow1 hnil1 hat1
  have hl1 : (zs ++ [(5 : Int)]).length = zs.length + 1 := by simp
  clear hown
  go_wp2_with fail
  refine (appendNumber_any v1 (zs ++ [5]) base (t.size : Int) 2 _ O1.out (by omega) (by rw [hl1]; omega) (by omega)).mono ?_
  rintro e w2 ⟨v2, rfl, hO2, hG2⟩
  have G2 : Hid (Grew (w.alloc (.cells #[.int .i64 5, .int .i64 n, .string t] 28)) w2 bv v2) := G1.out.trans hG2
  have O2 : Hid (OwnE w2 base v2 (zs ++ [5] ++ numB (t.size : Int) 2)) := hO2
  have N2 : Hid (v2 ≠ .slice none 0 0) := by
    intro h
    rcases hO2.2 with h2 | ⟨g, cap, cur, h2, _⟩
    · have := h2.2; rw [List.length_append, hl1] at this; omega
    · rw [h] at h2; cases h2
  have d2 : w2.cell? ⟨w.heap.size, 2, none⟩ = some (.string t) := G2.out.1.cell (by simp [go_sem]) hob
  have hz2' := G2.out.1.size
  rw [heap_size_alloc] at hz2'
  clear hO2 hG2 G1 O1 N1 c0 c1 c2
  have hl2 : (zs ++ [5] ++ numB (t.size : Int) 2).length = zs.length + 1 + 2 := by rw [List.length_append, hl1, numB_len]
  go_wp2_with (at_builtin; refine Lib.wpList_append_own_string _ rfl (.tmp 37) (.tmp 39) 22 9 rfl base 5 i0 Tryz.underlying22 Tryz.underlying9 hi hz0 hz1 hz2 _ _ _ rfl O2.out t rfl (by rw [hl2]; unfold maxLen; omega) (by rw [hl2]; omega) (by omega) ?_)
  intro v3 w3 hown3 hgrow3 hnil3
  have N3 : Hid (v3 ≠ .slice none 0 0) := by intro h; exact N2.out (hnil3.mp h).1
  have G3 : Hid ((w.alloc (.cells #[.int .i64 5, .int .i64 n, .string t] 28)).grownBy w3 bv.ownBlock) := G2.out.1.andThen hgrow3 (fun j hj => by
    rcases G2.out.2 with h | ⟨g, hg, h⟩
    · exact .inr (h.symm.trans hj)
    · rw [h] at hj; injection hj with hj; subst hj; exact .inl hg)
  have O3 : Hid (OwnE w3 base v3 (zs ++ [5] ++ numB (t.size : Int) 2 ++ bytesI t)) := by
    show w3.ownsRow _ _ _ _ _ _
    rw [List.length_append, bytesI_len, rowE_append (zs ++ [5] ++ numB (t.size : Int) 2), rowE_text]
    have er : zs ++ [5] ++ numB (t.size : Int) 2 = zs ++ 5 :: numB (t.size : Int) 2 := by simp
    have el : (zs ++ [5] ++ numB (t.size : Int) 2).length = zs.length + ((numB (t.size : Int) 2).length + 1) := by simp
    rw [el, er]
    exact hown3
  clear hown3 hgrow3 hnil3 G2 O2 N2 d2
  go_wp2_with fail
  go_ret
  have e : zs ++ encB ⟨5, n, t⟩ = zs ++ [5] ++ numB (t.size : Int) 2 ++ bytesI t := by unfold encB; rw [numB_one, nbk]; simp
  rw [e]
  exact ⟨v3, rfl, O3.out, ((World.grownBy_alloc w (.cells #[.int .i64 5, .int .i64 n, .string t] 28) _).trans G3.out), N3.out⟩


end Go.Proofs.YtkeghknceccdmaaGreatDoor
