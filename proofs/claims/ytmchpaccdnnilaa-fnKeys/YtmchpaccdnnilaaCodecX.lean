/- The law on values and their bytes returns true for every two codes. -/
import Derived.Test.YtmchpaccdnnilaaCodecW
namespace Go.Proofs.Ytmchpaccdnnilaa
open Go.RowKit
set_option linter.unusedVariables false

/-- Some block holds a value. -/
structure V3 (U : World) (b : Nat) (v : Val) : Prop where
  lt : b < U.heap.size
  c0 : U.cell? ⟨b, 0, none⟩ = some (.int .i64 v.k)
  c1 : U.cell? ⟨b, 1, none⟩ = some (.int .i64 v.n)
  c2 : U.cell? ⟨b, 2, none⟩ = some (.string v.t)
theorem V3.step {U U' : World} {b : Nat} {v : Val} (h : V3 U b v) (hb : Below U.heap.size U U') : V3 U' b v :=
  ⟨Nat.lt_of_lt_of_le h.lt hb.size, (hb.cell h.lt).trans h.c0, (hb.cell h.lt).trans h.c1, (hb.cell h.lt).trans h.c2⟩
theorem V3.stepB {U U' : World} {b B : Nat} {v : Val} (h : V3 U b v) (hb : Below B U U') (hlt : b < B) : V3 U' b v :=
  ⟨Nat.lt_of_lt_of_le h.lt hb.size, (hb.cell hlt).trans h.c0, (hb.cell hlt).trans h.c1, (hb.cell hlt).trans h.c2⟩
theorem V3.new (U : World) (v : Val) (T : TypeId) : V3 (U.alloc (.cells #[.int .i64 v.k, .int .i64 v.n, .string v.t] T)) U.heap.size v :=
  ⟨by simp, by simp [go_sem], by simp [go_sem], by simp [go_sem]⟩
theorem txt_nil : txt [] = em := by apply ByteArray.ext; apply Array.ext'; rw [txt_list]; rfl
theorem decR_same (v : Val) (h : okB v = true) : decR (encB v) = (v, 0) := by
  have hl := encB_len v h
  have hc := cutV_enc v h []
  rw [List.append_nil, txt_nil] at hc
  unfold decR
  rw [if_neg (by omega)]
  have hc' : cutV (strOfNums (encB v)) = some (v, em) := hc
  rw [hc']
  simp only
  rw [if_neg (by decide), h]; rfl
theorem decR_head (v : Val) (h : okB v = true) (m : Nat) (hm : m < (encB v).length) : decR ((encB v).take m) = (⟨0, 0, em⟩, 3) := by
  have hl := encB_len v h
  have hc : cutV (strOfNums ((encB v).take m)) = none := cutV_head v h m hm
  unfold decR
  rw [if_neg (by simp; omega), hc]
theorem decR_more (v : Val) (h : okB v = true) : decR (encB v ++ [0]) = (⟨0, 0, em⟩, 3) := by
  have hl := encB_len v h
  have hc : cutV (strOfNums (encB v ++ [0])) = some (v, txt [0]) := cutV_enc v h [0]
  unfold decR
  rw [if_neg (by simp; omega), hc]
  simp only
  rw [if_pos (by rw [txt_size]; decide)]

end Go.Proofs.Ytmchpaccdnnilaa
