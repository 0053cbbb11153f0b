/- What the two functions that lay a value into bytes answer, for every value. -/
import Derived.Test.YtgjknfbkkfidbaaEncU
namespace Go.Proofs.Ytgjknfbkkfidbaa
open Go.RowKit
set_option linter.unusedVariables false

/-- The bytes zs can be read at the head of block g. -/
def ReadE (w : World) (g : Nat) (zs : List Int) : Prop := g < w.heap.size ∧ ∀ i, i < zs.length → w.cell? ⟨g, i, none⟩ = some (.int .u8 (zs.getD i 0))
theorem ReadE.step {w w' : World} {g : Nat} {zs : List Int} (h : ReadE w g zs) (hb : Below w.heap.size w w') : ReadE w' g zs :=
  ⟨Nat.lt_of_lt_of_le h.1 hb.size, fun i hi => (hb.cell h.1).trans (h.2 i hi)⟩
theorem ReadE.of_own {w : World} {base g cap : Nat} {zs : List Int} (h : OwnE w base (.slice (some ⟨g, 0, none⟩) zs.length cap) zs) : ReadE w g zs := by
  refine ⟨(World.ownsRow.lt h g rfl).2, fun i hi => owns_cell h i _ ?_⟩
  unfold rowE; rw [List.getElem?_map, List.getElem?_eq_getElem hi, List.getD_eq_getElem?_getD, List.getElem?_eq_getElem hi]; rfl

theorem cell_new_drew (w : World) (C : Array Value) (T : TypeId) (fr : Nat × Nat) (i : Nat) : ((w.alloc (.cells C T fr)).drew).cell? ⟨w.heap.size, i, none⟩ = C[i]? := by
  show (w.alloc (.cells C T fr)).cell? _ = _
  have h : (w.alloc (.cells C T fr)).heap[w.heap.size]? = some (.cells C T fr) := by
    show (w.heap.push (.cells C T fr))[w.heap.size]? = _
    simp
  unfold World.cell?
  simp only [h]
  rfl

set_option maxHeartbeats 400000 in
theorem enc_bad (k n : Int) (t : ByteArray) (w : World) (hs : t.size ≤ maxLen) (hok : okB ⟨k, n, t⟩ = false) :
    Calls Try.prog 7 #[.agg #[.int .i64 k, .int .i64 n, .string t]] w fun e w' => e = .returned (.tuple #[.slice none 0 0, .int .i64 1]) ∧ Below w.heap.size w w' := by
  go_enter Try.func7, Try.ntmps7
  go_wp2_with (go_at_call 9; refine (valueOK_any k n t _ hs).mono ?_; rintro e w1 ⟨rfl, hb⟩; rw [hok])
  go_ret2
  exact ⟨rfl, ((Below.refl _ _).alloc (Nat.le_refl _) _).trans (hb.mono (by simp))⟩
set_option maxHeartbeats 400000 in
theorem enc_ok (k n : Int) (t : ByteArray) (w : World) (hs : t.size ≤ 1048576) (hok : okB ⟨k, n, t⟩ = true) :
    Calls Try.prog 7 #[.agg #[.int .i64 k, .int .i64 n, .string t]] w fun e w' => ∃ g cap, e = .returned (.tuple #[.slice (some ⟨g, 0, none⟩) (encB ⟨k, n, t⟩).length cap, .int .i64 0]) ∧ OwnE w' w.heap.size (.slice (some ⟨g, 0, none⟩) (encB ⟨k, n, t⟩).length cap) (encB ⟨k, n, t⟩) ∧ Below w.heap.size w w' := by
  have hm : t.size ≤ maxLen := by unfold maxLen; omega
  have X0 := Boxed.start w (.int .i64 k) (.int .i64 n) (.string t) 24
  go_enter Try.func7, Try.ntmps7
  go_wp2_with (go_at_call 9; refine (valueOK_any k n t _ hm).mono ?_; rintro e w1 ⟨rfl, hb⟩; rw [hok]; have X := Boxed.step (by assumption) hb; have g0 := X.c0; have g1 := X.c1; have g2 := X.c2; clear hb)
  refine (appendValue_any ⟨k, n, t⟩ hok (.slice none 0 0) [] w.heap.size w1 (World.ownsRow_nil _ _ _ _) X.bel.size (by simp)).mono ?_
  rintro e w2 ⟨v2, rfl, hO, hG, hN⟩
  rw [List.nil_append] at hO
  obtain ⟨g, cap, rfl⟩ := owns_shape hO hN
  have hb2 : Below w.heap.size w w2 := Below.grown X.bel hG X.bel.size (fun j hj => by cases hj)
  have HO : Hid (OwnE _ _ _ _) := hO
  have HB : Hid _ := hb2
  clear hO hG hN hb2 g0 g1 g2
  go_wp2_with fail
  go_ret2
  exact ⟨g, cap, rfl, HO.out, HB.out⟩
set_option maxHeartbeats 400000 in
theorem specEnc_bad (k n : Int) (t : ByteArray) (w : World) (hs : t.size ≤ 1048576) (hok : okB ⟨k, n, t⟩ = false) :
    Calls Try.prog 8 #[.agg #[.int .i64 k, .int .i64 n, .string t]] w fun e w' => ∃ g, e = .returned (.tuple #[.slice (some ⟨g, 0, none⟩) 0 0, .int .i64 1]) ∧ Below w.heap.size w w' := by
  go_enter Try.func8, Try.ntmps8
  go_wp2_with (go_at_call 29; refine (specValueOK_any k n t _ hs).mono ?_; rintro e w1 ⟨rfl, hb⟩; rw [hok])
  go_ret2
  exact ⟨_, rfl, (((Below.refl _ _).alloc (Nat.le_refl _) _).trans (hb.mono (by simp))).alloc (by have := hb.size; simp at this; omega) _⟩
set_option maxHeartbeats 400000 in
theorem specEnc_ok (k n : Int) (t : ByteArray) (w : World) (hs : t.size ≤ 1048576) (hok : okB ⟨k, n, t⟩ = true) :
    Calls Try.prog 8 #[.agg #[.int .i64 k, .int .i64 n, .string t]] w fun e w' => ∃ g cap, e = .returned (.tuple #[.slice (some ⟨g, 0, none⟩) (encB ⟨k, n, t⟩).length cap, .int .i64 0]) ∧ ReadE w' g (encB ⟨k, n, t⟩) ∧ Below w.heap.size w w' := by
  have X0 := Boxed.start w (.int .i64 k) (.int .i64 n) (.string t) 24
  go_enter Try.func8, Try.ntmps8
  go_wp2_with (first | (go_at_call 29; refine (specValueOK_any k n t _ hs).mono ?_; rintro e w1 ⟨rfl, hb⟩; rw [hok]; have X := Boxed.step (by assumption) hb; have g0 := X.c0; have g1 := X.c1; have g2 := X.c2; clear hb) | (go_at_call 30; refine (l01Encode_any ⟨k, n, t⟩ hok _).mono ?_; rintro e w2 ⟨rfl, hb⟩; have X := Boxed.step (by assumption) hb; have g0 := X.c0; have g1 := X.c1; have g2 := X.c2; clear hb; have hcv := run_bytes_of_string (P := Try.prog) w2 9 22 5 (txt (encB ⟨k, n, t⟩)) Try.underlying9 Try.underlying22 Try.underlying5))
  go_ret2
  refine ⟨w2.heap.size, _, by rw [← txt_size]; rfl, ⟨by simp, fun i hi => ?_⟩, (X.bel.alloc X.bel.size _).drew⟩
  have := bytesRow_get _ (encB_range ⟨k, n, t⟩) (grownCap w2 (txt (encB ⟨k, n, t⟩)).size 0 5) i hi
  rw [cell_new_drew]; exact this

end Go.Proofs.Ytgjknfbkkfidbaa
