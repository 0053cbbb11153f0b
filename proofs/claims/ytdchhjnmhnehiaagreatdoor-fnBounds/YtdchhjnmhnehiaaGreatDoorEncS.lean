/- How the specification lays a value into bytes. -/
import Derived.Test.YtdchhjnmhnehiaaGreatDoorEnc
import Derived.Test.YtdchhjnmhnehiaaGreatDoorUnder
import Derived.Test.YtdchhjnmhnehiaaGreatDoorLawVal
import Derived.Lib.AppendStr
namespace Go.Proofs.YtdchhjnmhnehiaaGreatDoor
open Go.RowKit
set_option linter.unusedVariables false

def bytesI (t : ByteArray) : List Int := t.data.toList.map fun c => (c.toNat : Int)
/-- A value's bytes. -/
def encB (v : Val) : List Int :=
  numB v.k 1 ++ (if v.k = 0 then [] else if v.k = 1 then numB v.n 1 else if v.k = 2 then numB (v.n + 4611686018427387904) 8 else numB v.t.size 2 ++ bytesI v.t)
theorem txt_append (a b : List Int) : txt (a ++ b) = txt a ++ txt b := by
  apply ByteArray.ext; simp [txt, strOfNums]
theorem txt_bytes (t : ByteArray) : txt (bytesI t) = t := by
  apply ByteArray.ext
  simp [txt, strOfNums, bytesI, Function.comp_def]
theorem bytesI_len (t : ByteArray) : (bytesI t).length = t.size := by unfold bytesI; simp
theorem txt_size (zs : List Int) : (txt zs).size = zs.length := strOfNums_size zs
theorem numB_len (n : Int) (wd : Nat) : (numB n wd).length = wd := numK_len _ _ _

set_option maxHeartbeats 1000000 in
theorem l01Encode_plain (k n : Int) (t : ByteArray) (w : World) (hk : k = 0 ∨ k = 1 ∨ (k = 2 ∧ -1000000000000 ≤ n ∧ n ≤ 1000000000000)) :
    Calls Tryz.prog 88 #[.agg #[.int .i64 k, .int .i64 n, .string t]] w fun e w' => e = .returned (.string (txt (encB ⟨k, n, t⟩))) ∧ Below w.heap.size w w' := by
  have X0 := Boxed.start w (.int .i64 k) (.int .i64 n) (.string t) 38
  have s1 : ∀ m, (txt (numB m 1)).size = 1 := fun m => by rw [txt_size, numB_len]
  have s8 : ∀ m, (txt (numB m 8)).size = 8 := fun m => by rw [txt_size, numB_len]
  rcases hk with rfl | rfl | ⟨rfl, h1, h2⟩
  · have e : txt (encB ⟨0, n, t⟩) = txt (numB 0 1) := by unfold encB; simp
    rw [e]
    go_enter Tryz.func88, Tryz.ntmps88
    go_wp2_with (go_at_call 87; refine (l01Number_any _ 1 _ (by omega)).mono ?_; rintro e w1 ⟨rfl, hb⟩; have X := Boxed.step (by assumption) hb; have g0 := X.c0; have g1 := X.c1; have g2 := X.c2; clear hb)
    go_ret
    exact ⟨rfl, X.bel⟩
  · have e : txt (encB ⟨1, n, t⟩) = txt (numB 1 1) ++ txt (numB n 1) := by rw [← txt_append]; unfold encB; simp
    rw [e]
    go_enter Tryz.func88, Tryz.ntmps88
    go_wp2_with (go_at_call 87; refine (l01Number_any _ 1 _ (by omega)).mono ?_; rintro e w1 ⟨rfl, hb⟩; have X := Boxed.step (by assumption) hb; have g0 := X.c0; have g1 := X.c1; have g2 := X.c2; clear hb)
    go_ret
    exact ⟨rfl, X.bel⟩
  · have e : txt (encB ⟨2, n, t⟩) = txt (numB 2 1) ++ txt (numB (n + 4611686018427387904) 8) := by rw [← txt_append]; unfold encB; simp
    rw [e]
    go_enter Tryz.func88, Tryz.ntmps88
    go_wp2_with fail
    refine (l01Number_any 2 1 _ (by omega)).mono ?_
    rintro e w1 ⟨rfl, hb⟩
    have X := X0.step hb
    have g0 := X.c0
    have g1 := X.c1
    have g2 := X.c2
    clear hb
    go_wp2_with fail
    refine (l01Number_any (n + 4611686018427387904) 8 _ (by omega)).mono ?_
    rintro e w2 ⟨rfl, hb⟩
    have X2 := X.step hb
    clear hb g0 g1 g2
    go_wp2_with fail
    go_ret
    exact ⟨rfl, X2.bel⟩

set_option maxHeartbeats 1000000 in
theorem l01Encode_text (k n : Int) (t : ByteArray) (w : World) (hk : k = 3 ∨ k = 4 ∨ k = 5) (hs : t.size ≤ 1048576) :
    Calls Tryz.prog 88 #[.agg #[.int .i64 k, .int .i64 n, .string t]] w fun e w' => e = .returned (.string (txt (encB ⟨k, n, t⟩))) ∧ Below w.heap.size w w' := by
  have X0 := Boxed.start w (.int .i64 k) (.int .i64 n) (.string t) 38
  have s1 : ∀ m, (txt (numB m 1)).size = 1 := fun m => by rw [txt_size, numB_len]
  have s2 : ∀ m, (txt (numB m 2)).size = 2 := fun m => by rw [txt_size, numB_len]
  have e : txt (encB ⟨k, n, t⟩) = txt (numB k 1) ++ txt (numB t.size 2) ++ t := by
    have e2 : encB ⟨k, n, t⟩ = numB k 1 ++ numB t.size 2 ++ bytesI t := by
      unfold encB
      rcases hk with rfl | rfl | rfl <;> simp
    rw [e2, txt_append, txt_append, txt_bytes]
  rw [e]; clear e
  rcases hk with rfl | rfl | rfl
  all_goals
    go_enter Tryz.func88, Tryz.ntmps88
    go_wp2_with (go_at_call 87; refine (l01Number_any _ 1 _ (by omega)).mono ?_; rintro e w1 ⟨rfl, hb⟩; have X := Boxed.step (by assumption) hb; have g0 := X.c0; have g1 := X.c1; have g2 := X.c2; clear hb)
    have hnu : Nonempty (Under w1) := ⟨⟨w1, Below.refl _ _⟩⟩
    have q2 : ∀ u : Under w1, u.x.cell? ⟨w.heap.size, 2, none⟩ = some (.string t) := fun u => (u.h.cell X.lt).trans g2
    refine wp_region_under (by kernel_rfl) (by kernel_rfl) ?_
    repeat (go_big_quiet_step ((go_at_call 87; exact calls_under _ (l01Number_any _ 2 _ (by omega)))))
    refine wpQuiet_nil ?_
    rintro _ ⟨u, rfl⟩
    go_wp2_with fail
    go_ret
    exact ⟨rfl, X.bel.trans (u.h.mono X.bel.size)⟩

end Go.Proofs.YtdchhjnmhnehiaaGreatDoor
