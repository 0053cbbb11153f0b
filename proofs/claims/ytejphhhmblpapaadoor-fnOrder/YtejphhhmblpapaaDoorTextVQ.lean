import Derived.Test.YtejphhhmblpapaaDoorTextIQ
import Derived.Test.YtejphhhmblpapaaDoorTextSQ
/- What the two functions that tell a value's text answer, for every value. -/
namespace Go.Proofs.YtejphhhmblpapaaDoor
open Go.RowKit
set_option linter.unusedVariables false

/-- A value's text, and a code. -/
def vtP (v : Val) : ByteArray × Int := if okB v = true then (mkB (textV 5 v), 0) else (em, 1)
theorem vtP_ok (v : Val) (h : okB v = true) : vtP v = (mkB (textV 5 v), 0) := by unfold vtP; rw [if_pos h]
theorem vtP_bad (v : Val) (h : okB v = false) : vtP v = (em, 1) := by unfold vtP; rw [h]; rfl

set_option maxRecDepth 4000 in
set_option maxHeartbeats 1000000 in
theorem specVT_any (k n : Int) (t : ByteArray) (w : World) (hs : t.size ≤ 1048576) :
    Calls Tryd.prog 10 #[.agg #[.int .i64 k, .int .i64 n, .string t]] w fun e w' => e = .returned (.tuple #[.string (vtP ⟨k, n, t⟩).1, .int .i64 (vtP ⟨k, n, t⟩).2]) ∧ Below w.heap.size w w' := by
  have X0 := Boxed.start w (.int .i64 k) (.int .i64 n) (.string t) 26
  cases hok : okB ⟨k, n, t⟩
  · rw [vtP_bad _ hok]
    have HK : Hid _ := hok
    clear hok
    go_enter Tryd.func10, Tryd.ntmps10
    go_wp2_with (go_at_call 24; refine (specValueOK_any k n t _ hs).mono ?_; rintro e w1 ⟨rfl, hb⟩; rw [HK.out])
    go_ret2
    exact ⟨rfl, X0.bel.trans (hb.mono X0.bel.size)⟩
  · rw [vtP_ok _ hok]
    have HK : Hid _ := hok
    clear hok
    go_enter Tryd.func10, Tryd.ntmps10
    go_wp2_with fail
    refine (specValueOK_any k n t _ hs).mono ?_
    rintro e w1 ⟨rfl, hb⟩
    rw [HK.out]
    have X1 := X0.step hb
    have g0 := X1.c0
    have g1 := X1.c1
    have g2 := X1.c2
    clear hb X0
    go_wp2_with fail
    refine (txt_at 5 ⟨k, n, t⟩ _ HK.out).mono ?_
    rintro e w2 ⟨rfl, hb⟩
    have X2 := X1.step hb
    clear hb X1
    go_wp2_with fail
    go_ret2
    exact ⟨rfl, X2.bel⟩
set_option maxRecDepth 4000 in
set_option maxHeartbeats 1000000 in
theorem implVT_any (k n : Int) (t : ByteArray) (w : World) (hs : t.size ≤ 1048576) (B : Nat) (hB : B ≤ w.heap.size) (htab : Tab B w) :
    Calls Tryd.prog 9 #[.agg #[.int .i64 k, .int .i64 n, .string t]] w fun e w' => e = .returned (.tuple #[.string (vtP ⟨k, n, t⟩).1, .int .i64 (vtP ⟨k, n, t⟩).2]) ∧ Below w.heap.size w w' := by
  have hsm : t.size ≤ maxLen := by unfold maxLen; omega
  have X0 := Boxed.start w (.int .i64 k) (.int .i64 n) (.string t) 26
  cases hok : okB ⟨k, n, t⟩
  · rw [vtP_bad _ hok]
    have HK : Hid _ := hok
    clear hok
    go_enter Tryd.func9, Tryd.ntmps9
    go_wp2_with (go_at_call 22; refine (valueOK_any k n t _ hsm).mono ?_; rintro e w1 ⟨rfl, hb⟩; rw [HK.out])
    go_ret2
    exact ⟨rfl, X0.bel.trans (hb.mono X0.bel.size)⟩
  · rw [vtP_ok _ hok]
    have HK : Hid _ := hok
    have HT : Hid (Tab _ _) := htab
    clear hok htab
    go_enter Tryd.func9, Tryd.ntmps9
    go_wp2_with fail
    refine (valueOK_any k n t _ hsm).mono ?_
    rintro e w1 ⟨rfl, hb⟩
    rw [HK.out]
    have X1 := X0.step hb
    have g0 := X1.c0
    have g1 := X1.c1
    have g2 := X1.c2
    have hbw := X1.bel
    have hzw := hbw.size
    have T1 : Tab w1.heap.size w1 := fun w' hb' => HT.out w' ((hbw.mono hB).trans (hb'.mono (by omega)))
    have HT1 : Hid (Tab _ _) := T1
    clear hb X0 T1
    go_wp2_with fail
    refine (app_at 5 ⟨k, n, t⟩ w1.heap.size 0 _ [] _ HK.out (World.ownsRow_nil _ _ _ _) (Nat.le_refl _) (by omega) HT1.out).mono ?_
    rintro e w2 ⟨v2, rfl, o2, b2, k2⟩
    rw [Nat.zero_add, List.nil_append] at o2
    have hcv := convT w2 v2 (textV 5 ⟨k, n, t⟩) _ o2
    have X2 := X1.step b2
    clear o2 k2 b2 X1
    go_wp2_with fail
    go_ret2
    exact ⟨rfl, X2.bel⟩

end Go.Proofs.YtejphhhmblpapaaDoor
