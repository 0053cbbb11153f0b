/- What the two functions that lay a value into bytes answer, for every value. -/
import Derived.Test.YtfjahgnennnncagEncI
import Derived.Laws.IdiomStrings
namespace Go.Proofs.Ytfjahgnennnncag
open Go.RowKit
set_option linter.unusedVariables false

theorem ok_kinds (v : Val) (h : okB v = true) : v.k = 0 ∨ v.k = 1 ∨ (v.k = 2 ∧ -1000000000000 ≤ v.n ∧ v.n ≤ 1000000000000) ∨ ((v.k = 3 ∨ v.k = 4 ∨ v.k = 5) ∧ v.t.size ≤ 300) := by
  have hs : v.t.size ≤ 300 := by
    rcases Nat.lt_or_ge 300 v.t.size with h' | h'
    · rw [ok_big v h'] at h; cases h
    · exact h'
  by_cases h4 : v.k = 4
  · exact .inr (.inr (.inr ⟨.inr (.inl h4), hs⟩))
  · by_cases h5 : v.k = 5
    · exact .inr (.inr (.inr ⟨.inr (.inr h5), hs⟩))
    · unfold okB at h
      rw [fits_base 5 v h4 h5] at h
      unfold base at h
      by_cases k0 : v.k = 0
      · exact .inl k0
      · rw [if_neg k0] at h
        by_cases k1 : v.k = 1
        · exact .inr (.inl k1)
        · rw [if_neg k1] at h
          by_cases k2 : v.k = 2
          · rw [if_pos k2, decide_eq_true_eq] at h
            exact .inr (.inr (.inl ⟨k2, h.1, h.2.1⟩))
          · rw [if_neg k2] at h
            by_cases k3 : v.k = 3
            · exact .inr (.inr (.inr ⟨.inl k3, hs⟩))
            · rw [if_neg k3] at h; cases h

theorem l01Encode_any (v : Val) (h : okB v = true) (w : World) :
    Calls Try.prog 22 #[.agg #[.int .i64 v.k, .int .i64 v.n, .string v.t]] w fun e w' => e = .returned (.string (txt (encB v))) ∧ Below w.heap.size w w' := by
  obtain ⟨k, n, t⟩ := v
  rcases ok_kinds _ h with h | h | h | ⟨h, hs⟩
  · exact l01Encode_plain k n t w (.inl h)
  · exact l01Encode_plain k n t w (.inr (.inl h))
  · exact l01Encode_plain k n t w (.inr (.inr h))
  · exact l01Encode_text k n t w h (by simp at hs; omega)

theorem appendValue_any (v : Val) (h : okB v = true) (bv : Value) (zs : List Int) (base : Nat) (w : World) (hown : OwnE w base bv zs) (hbase : base ≤ w.heap.size) (hlen : zs.length ≤ 1048000) :
    Calls Try.prog 23 #[bv, .agg #[.int .i64 v.k, .int .i64 v.n, .string v.t]] w fun e w' => ∃ v', e = .returned v' ∧ Laid1 w w' base bv v' (zs ++ encB v) := by
  obtain ⟨k, n, t⟩ := v
  rcases ok_kinds _ h with h | h | ⟨h, h1, h2⟩ | ⟨h, hs⟩
  · simp at h; subst h; exact appendValue_null bv zs base n t w hown hbase hlen
  · simp at h; subst h; exact appendValue_bool bv zs base n t w hown hbase hlen
  · simp at h h1 h2; subst h; exact appendValue_int bv zs base n t w hown hbase hlen h1 h2
  · simp at h hs
    rcases h with rfl | rfl | rfl
    · exact appendValue_3 bv zs base n t w hown hbase hlen (by omega)
    · exact appendValue_4 bv zs base n t w hown hbase hlen (by omega)
    · exact appendValue_5 bv zs base n t w hown hbase hlen (by omega)

theorem encB_len (v : Val) (h : okB v = true) : 1 ≤ (encB v).length ∧ (encB v).length ≤ 400 := by
  obtain ⟨k, n, t⟩ := v
  rcases ok_kinds _ h with h | h | ⟨h, _⟩ | ⟨h, hs⟩
  · simp at h; subst h; unfold encB; simp [numB_len]
  · simp at h; subst h; unfold encB; simp [numB_len]
  · simp at h; subst h; unfold encB; simp [numB_len]
  · simp at h hs
    rcases h with rfl | rfl | rfl <;> (unfold encB; simp [numB_len, bytesI_len]; omega)

/-- The bytes zs can be read at the head of block g. -/
def ReadE (w : World) (g : Nat) (zs : List Int) : Prop := g < w.heap.size ∧ ∀ i, i < zs.length → w.cell? ⟨g, i, none⟩ = some (.int .u8 (zs.getD i 0))
theorem ReadE.step {w w' : World} {g : Nat} {zs : List Int} (h : ReadE w g zs) (hb : Below w.heap.size w w') : ReadE w' g zs :=
  ⟨Nat.lt_of_lt_of_le h.1 hb.size, fun i hi => (hb.cell h.1).trans (h.2 i hi)⟩
theorem ReadE.of_own {w : World} {base g cap : Nat} {zs : List Int} (h : OwnE w base (.slice (some ⟨g, 0, none⟩) zs.length cap) zs) : ReadE w g zs := by
  refine ⟨(World.ownsRow.lt h g rfl).2, fun i hi => owns_cell h i _ ?_⟩
  unfold rowE; rw [List.getElem?_map, List.getElem?_eq_getElem hi, List.getD_eq_getElem?_getD, List.getElem?_eq_getElem hi]; rfl

theorem nb_range (n : Int) (j : Nat) : 0 ≤ nb n j ∧ nb n j < 256 := by unfold nb; omega
theorem numB_range (n : Int) (wd : Nat) : ∀ z ∈ numB n wd, 0 ≤ z ∧ z < 256 := by
  intro z hz
  unfold numB numK at hz
  obtain ⟨j, _, rfl⟩ := List.mem_map.mp hz
  exact nb_range _ _
theorem bytesI_range (t : ByteArray) : ∀ z ∈ bytesI t, 0 ≤ z ∧ z < 256 := by
  intro z hz
  unfold bytesI at hz
  obtain ⟨c, _, rfl⟩ := List.mem_map.mp hz
  have := c.toNat_lt
  omega
theorem encB_range (v : Val) : ∀ z ∈ encB v, 0 ≤ z ∧ z < 256 := by
  intro z hz
  unfold encB at hz
  rcases List.mem_append.mp hz with h | h
  · exact numB_range _ _ z h
  · split at h
    · cases h
    · split at h
      · exact numB_range _ _ z h
      · split at h
        · exact numB_range _ _ z h
        · rcases List.mem_append.mp h with h | h
          · exact numB_range _ _ z h
          · exact bytesI_range _ z h
theorem bytesRow_get (zs : List Int) (hr : ∀ z ∈ zs, 0 ≤ z ∧ z < 256) (cap i : Nat) (hi : i < zs.length) : (bytesRow (txt zs) cap)[i]? = some (.int .u8 (zs.getD i 0)) := by
  have e1 : (txt zs).data.size = zs.length := by simp [txt, strOfNums]
  unfold bytesRow
  rw [Array.getElem?_append_left (by simp [e1]; exact hi), Array.getElem?_map]
  have e2 : (txt zs).data[i]? = some (UInt8.ofNat (zs[i]).toNat) := by simp [txt, strOfNums, hi]
  rw [e2, List.getD_eq_getElem?_getD, List.getElem?_eq_getElem hi]
  have := hr zs[i] (List.getElem_mem _)
  simp only [Option.map_some, Option.getD_some]
  congr 2
  rw [UInt8.toNat_ofNat_of_lt' (by show (zs[i]).toNat < 256; omega)]
  omega

theorem cell_new_drew (w : World) (C : Array Value) (T : TypeId) (fr : Nat × Nat) (i : Nat) : ((w.alloc (.cells C T fr)).drew).cell? ⟨w.heap.size, i, none⟩ = C[i]? := by
  show (w.alloc (.cells C T fr)).cell? _ = _
  have h : (w.alloc (.cells C T fr)).heap[w.heap.size]? = some (.cells C T fr) := by
    show (w.heap.push (.cells C T fr))[w.heap.size]? = _
    simp
  unfold World.cell?
  simp only [h]
  rfl

set_option maxHeartbeats 400000 in
theorem enc_bad (k n : Int) (t : ByteArray) (w : World) (hs : t.size ≤ maxLen) (hok : okB ⟨k, n, t⟩ = false) :
    Calls Try.prog 13 #[.agg #[.int .i64 k, .int .i64 n, .string t]] w fun e w' => e = .returned (.tuple #[.slice none 0 0, .int .i64 1]) ∧ Below w.heap.size w w' := by
  go_enter Try.func13, Try.ntmps13
  go_wp2_with (go_at_call 11; refine (valueOK_any k n t _ hs).mono ?_; rintro e w1 ⟨rfl, hb⟩; rw [hok])
  go_ret2
  exact ⟨rfl, ((Below.refl _ _).alloc (Nat.le_refl _) _).trans (hb.mono (by simp))⟩
set_option maxHeartbeats 400000 in
theorem enc_ok (k n : Int) (t : ByteArray) (w : World) (hs : t.size ≤ 1048576) (hok : okB ⟨k, n, t⟩ = true) :
    Calls Try.prog 13 #[.agg #[.int .i64 k, .int .i64 n, .string t]] w fun e w' => ∃ g cap, e = .returned (.tuple #[.slice (some ⟨g, 0, none⟩) (encB ⟨k, n, t⟩).length cap, .int .i64 0]) ∧ OwnE w' w.heap.size (.slice (some ⟨g, 0, none⟩) (encB ⟨k, n, t⟩).length cap) (encB ⟨k, n, t⟩) ∧ Below w.heap.size w w' := by
  have hm : t.size ≤ maxLen := by unfold maxLen; omega
  have X0 := Boxed.start w (.int .i64 k) (.int .i64 n) (.string t) 27
  go_enter Try.func13, Try.ntmps13
  go_wp2_with (go_at_call 11; refine (valueOK_any k n t _ hm).mono ?_; rintro e w1 ⟨rfl, hb⟩; rw [hok]; have X := Boxed.step (by assumption) hb; have g0 := X.c0; have g1 := X.c1; have g2 := X.c2; clear hb)
  refine (appendValue_any ⟨k, n, t⟩ hok (.slice none 0 0) [] w.heap.size w1 (World.ownsRow_nil _ _ _ _) X.bel.size (by simp)).mono ?_
  rintro e w2 ⟨v2, rfl, hO, hG, hN⟩
  rw [List.nil_append] at hO
  obtain ⟨g, cap, rfl⟩ := owns_shape hO hN
  have hb2 : Below w.heap.size w w2 := Below.grown X.bel hG X.bel.size (fun j hj => by cases hj)
  have HO : Hid (OwnE _ _ _ _) := hO
  have HB : Hid _ := hb2
  clear hO hG hN hb2 g0 g1 g2
  go_wp2_with fail
  go_ret2
  exact ⟨g, cap, rfl, HO.out, HB.out⟩
set_option maxHeartbeats 400000 in
theorem specEnc_bad (k n : Int) (t : ByteArray) (w : World) (hs : t.size ≤ 1048576) (hok : okB ⟨k, n, t⟩ = false) :
    Calls Try.prog 12 #[.agg #[.int .i64 k, .int .i64 n, .string t]] w fun e w' => ∃ g, e = .returned (.tuple #[.slice (some ⟨g, 0, none⟩) 0 0, .int .i64 1]) ∧ Below w.heap.size w w' := by
  go_enter Try.func12, Try.ntmps12
  go_wp2_with (go_at_call 9; refine (specValueOK_any k n t _ hs).mono ?_; rintro e w1 ⟨rfl, hb⟩; rw [hok])
  go_ret2
  exact ⟨_, rfl, (((Below.refl _ _).alloc (Nat.le_refl _) _).trans (hb.mono (by simp))).alloc (by have := hb.size; simp at this; omega) _⟩
set_option maxHeartbeats 400000 in
theorem specEnc_ok (k n : Int) (t : ByteArray) (w : World) (hs : t.size ≤ 1048576) (hok : okB ⟨k, n, t⟩ = true) :
    Calls Try.prog 12 #[.agg #[.int .i64 k, .int .i64 n, .string t]] w fun e w' => ∃ g cap, e = .returned (.tuple #[.slice (some ⟨g, 0, none⟩) (encB ⟨k, n, t⟩).length cap, .int .i64 0]) ∧ ReadE w' g (encB ⟨k, n, t⟩) ∧ Below w.heap.size w w' := by
  have X0 := Boxed.start w (.int .i64 k) (.int .i64 n) (.string t) 27
  go_enter Try.func12, Try.ntmps12
  go_wp2_with (first | (go_at_call 9; refine (specValueOK_any k n t _ hs).mono ?_; rintro e w1 ⟨rfl, hb⟩; rw [hok]; have X := Boxed.step (by assumption) hb; have g0 := X.c0; have g1 := X.c1; have g2 := X.c2; clear hb) | (go_at_call 22; refine (l01Encode_any ⟨k, n, t⟩ hok _).mono ?_; rintro e w2 ⟨rfl, hb⟩; have X := Boxed.step (by assumption) hb; have g0 := X.c0; have g1 := X.c1; have g2 := X.c2; clear hb; have hcv := run_bytes_of_string (P := Try.prog) w2 9 30 5 (txt (encB ⟨k, n, t⟩)) Try.underlying9 Try.underlying30 Try.underlying5))
  go_ret2
  refine ⟨w2.heap.size, _, by rw [← txt_size]; rfl, ⟨by simp, fun i hi => ?_⟩, (X.bel.alloc X.bel.size _).drew⟩
  have := bytesRow_get _ (encB_range ⟨k, n, t⟩) (grownCap w2 (txt (encB ⟨k, n, t⟩)).size 0 5) i hi
  rw [cell_new_drew]; exact this

end Go.Proofs.Ytfjahgnennnncag
