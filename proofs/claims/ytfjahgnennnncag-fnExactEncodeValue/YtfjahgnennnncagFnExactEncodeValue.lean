/- At every value the program's bytes of a value are the specification's, its answer owns its memory, and the value reads as before; no condition. -/
import Derived.Test.YtfjahgnennnncagEncL
import Derived.ProofKit
import Derived.OpenShut
import Derived.ShutString
import Derived.ChangeOld
import Derived.Below
import Derived.Lib.SmallJoins
namespace Go.Proofs.Ytfjahgnennnncag
open Go.ChangeShapes Go.WideShapes Go.ChangeAt Go.RowKit Go.Joins
open Go.ChangeMaps (open_string shut_string)
set_option linter.unusedVariables false
namespace PEncode

theorem Boxed.grown {w W W' : World} {a b c : Value} {g : Nat} (h : Boxed w W a b c) (hg : W.grownBy W' (some g)) (hlt : w.heap.size < g) : Boxed w W' a b c :=
  ⟨Below.grown h.bel hg h.bel.size (fun j hj => by injection hj with hj; omega), Nat.lt_of_lt_of_le h.lt hg.size, hg.cell h.c0 (by intro e; injection e with e; simp at e; omega), hg.cell h.c1 (by intro e; injection e with e; simp at e; omega), hg.cell h.c2 (by intro e; injection e with e; simp at e; omega)⟩
theorem ReadE.grown {W W' : World} {g1 g : Nat} {zs : List Int} (h : ReadE W g1 zs) (hg : W.grownBy W' (some g)) (hne : g1 < g) : ReadE W' g1 zs :=
  ⟨Nat.lt_of_lt_of_le h.1 hg.size, fun i hi => hg.cell (h.2 i hi) (by intro e; injection e with e; simp at e; omega)⟩
/-- The marks lie in block g. -/
def Marks (W : World) (g n : Nat) : Prop := g < W.heap.size ∧ ∀ i, i < n → W.cell? ⟨g, i, none⟩ = some (.int .u8 (mk1 i))
theorem Marks.step {W W' : World} {g n : Nat} (h : Marks W g n) (hb : Below W.heap.size W W') : Marks W' g n :=
  ⟨Nat.lt_of_lt_of_le h.1 hb.size, fun i hi => (hb.cell h.1).trans (h.2 i hi)⟩
theorem Marks.of_own {W : World} {base g c : Nat} {zs : List Int} (h : OwnE W base (.slice (some ⟨g, 0, none⟩) (marked zs zs.length).length c) (marked zs zs.length)) : Marks W g zs.length := by
  have hr := ReadE.of_own h
  refine ⟨hr.1, fun i hi => ?_⟩
  have := hr.2 i (by rw [marked_len zs zs.length (Nat.le_refl _)]; exact hi)
  rw [marked_get zs i hi] at this
  exact this

set_option maxRecDepth 8000 in
set_option maxHeartbeats 2000000 in
theorem walk (k n : Int) (t : ByteArray) (hs : t.size ≤ maxLen) (_ : (Lit.int .i64 k).wf = true) (_ : (Lit.int .i64 n).wf = true) (w : World) :
    Calls Try.prog 5 #[.agg #[.int .i64 k, .int .i64 n, .string t]] w fun e w' => e = .returned (.bool true) ∧ Below w.heap.size w w' := by
  by_cases hbig : (1048576 : Int) < t.size
  · go_enter Try.func5, Try.ntmps5
    go_wp2_with (go_at_call 8; refine (szValue_any k n t _ _ hs (by omega) (by omega)).mono ?_; rintro e w1 ⟨rfl, hb1⟩; rw [if_pos hbig])
    go_ret
    exact ⟨rfl, ((Below.refl _ _).alloc (Nat.le_refl _) _).trans (hb1.mono (by simp))⟩
  · have hs1 : t.size ≤ 1048576 := by omega
    have X0 := Boxed.start w (.int .i64 k) (.int .i64 n) (.string t) 24
    have hpos : ¬ ((1048576 : Int) - (t.size : Int) < 0) := by omega
    cases hB : okB ⟨k, n, t⟩
    · have HB : Hid _ := hB
      clear hB
      go_enter Try.func5, Try.ntmps5
      go_wp2_with (first | (go_at_call 8; refine (szValue_any k n t _ _ hs (by omega) (by omega)).mono ?_; rintro e w1 ⟨rfl, hb⟩; rw [if_neg hbig]; have X := Boxed.step (by assumption) hb; have g0 := X.c0; have g1 := X.c1; have g2 := X.c2; clear hb) | (go_at_call 10; refine (toValue_any k n t _).mono ?_; rintro e w2 ⟨rfl, hb⟩; have X := Boxed.step (by assumption) hb; have g0 := X.c0; have g1 := X.c1; have g2 := X.c2; clear hb) | (go_at_call 12; refine (specEnc_bad k n t _ hs1 HB.out).mono ?_; rintro e w3 ⟨gS, rfl, hb⟩; have X := Boxed.step (by assumption) hb; have g0 := X.c0; have g1 := X.c1; have g2 := X.c2; clear hb) | (go_at_call 13; refine (enc_bad k n t _ hs HB.out).mono ?_; rintro e w4 ⟨rfl, hb⟩; have X := Boxed.step (by assumption) hb; have g0 := X.c0; have g1 := X.c1; have g2 := X.c2; clear hb) | (go_at_call 14; refine (eqByteS_nil _ _ _).mono ?_; rintro e w5 ⟨rfl, hb⟩; have X := Boxed.step (by assumption) hb; have g0 := X.c0; have g1 := X.c1; have g2 := X.c2; clear hb) | (go_at_call 15; refine (markByteS_nil _).mono ?_; rintro e w6 ⟨rfl, hb⟩; have X := Boxed.step (by assumption) hb; have g0 := X.c0; have g1 := X.c1; have g2 := X.c2; clear hb) | (go_at_call 16; refine (heldByteS_nil _).mono ?_; rintro e w7 ⟨rfl, hb⟩; have X := Boxed.step (by assumption) hb; have g0 := X.c0; have g1 := X.c1; have g2 := X.c2; clear hb))
      go_ret
      exact ⟨rfl, X.bel⟩
    · have HB : Hid _ := hB
      clear hB
      obtain ⟨Z, hZ⟩ : ∃ Z, Z = encB ⟨k, n, t⟩ := ⟨_, rfl⟩
      have HZ : Hid _ := hZ
      have hZl : 1 ≤ Z.length ∧ Z.length ≤ 400 := by rw [hZ]; exact encB_len _ HB.out
      clear hZ
      go_enter Try.func5, Try.ntmps5
      go_wp2_with (first | (go_at_call 8; refine (szValue_any k n t _ _ hs (by omega) (by omega)).mono ?_; rintro e w1 ⟨rfl, hb⟩; rw [if_neg hbig]; have X := Boxed.step (by assumption) hb; have g0 := X.c0; have g1 := X.c1; have g2 := X.c2; clear hb) | (go_at_call 10; refine (toValue_any k n t _).mono ?_; rintro e w2 ⟨rfl, hb⟩; have X := Boxed.step (by assumption) hb; have g0 := X.c0; have g1 := X.c1; have g2 := X.c2; clear hb))
      -- the specification's bytes
      refine (specEnc_ok k n t _ hs1 HB.out).mono ?_
      rintro e w3 ⟨gS, cS, rfl, hR3, hb⟩
      rw [← HZ.out] at hR3
      rw [← HZ.out]
      have X3 := X.step hb
      have R3 : Hid (ReadE _ _ _) := hR3
      have g0 := X3.c0
      have g1 := X3.c1
      have g2 := X3.c2
      clear hb hR3 X
      go_wp2_with fail
      refine (toValue_any k n t _).mono ?_
      rintro e w4 ⟨rfl, hb⟩
      have X4 := X3.step hb
      have R4 : Hid (ReadE _ _ _) := R3.out.step hb
      clear hb g0 g1 g2 R3 X3
      go_wp2_with fail
      -- the program's bytes
      refine (enc_ok k n t _ hs1 HB.out).mono ?_
      rintro e w5 ⟨gI, cI, rfl, hO5, hb⟩
      rw [← HZ.out] at hO5
      rw [← HZ.out]
      have hlt1 : w.heap.size < gI := Nat.lt_of_lt_of_le X4.lt (World.ownsRow.lt hO5 gI rfl).1
      have hlt2 : gS < gI := Nat.lt_of_lt_of_le R4.out.1 (World.ownsRow.lt hO5 gI rfl).1
      have X5 := X4.step hb
      have R5 : Hid (ReadE _ _ _) := R4.out.step hb
      have O5 : Hid (OwnE _ _ _ _) := hO5
      clear hb hO5 R4 X4
      go_wp2_with fail
      refine (eqByteS_read _ _ _ _ Z _ (ReadE.of_own O5.out) R5.out (by omega)).mono ?_
      rintro e w6 ⟨rfl, hb⟩
      have X6 := X5.step hb
      have R6 : Hid (ReadE _ _ _) := R5.out.step hb
      have O6 : Hid (OwnE _ _ _ _) := owns_below O5.out hb
      clear hb O5 R5 X5
      go_wp2_with fail
      -- marked
      refine (markByteS_any gI cI _ Z _ O6.out (by omega)).mono ?_
      rintro e w7 ⟨rfl, hO7, hG⟩
      have X7 := Boxed.grown X6 hG hlt1
      have R7 : Hid (ReadE _ _ _) := ReadE.grown R6.out hG hlt2
      have C7 : Hid (Marks _ _ _) := Marks.of_own hO7
      clear hG hO7 O6 R6 X6
      go_wp2_with fail
      refine (heldByteS_any gI cI Z.length _ C7.out.2 (by omega)).mono ?_
      rintro e w8 ⟨rfl, hb⟩
      have X8 := X7.step hb
      have R8 : Hid (ReadE _ _ _) := R7.out.step hb
      have C8 : Hid (Marks _ _ _) := C7.out.step hb
      have g0 := X8.c0
      have g1 := X8.c1
      have g2 := X8.c2
      have hp1 : ¬ (1 + (Z.length : Int) < 0) := by omega
      clear hb C7 R7 X7
      go_wp2_with fail
      refine (toValue_any k n t _).mono ?_
      rintro e w9 ⟨rfl, hb⟩
      have X9 := X8.step hb
      have R9 : Hid (ReadE _ _ _) := R8.out.step hb
      have C9 : Hid (Marks _ _ _) := C8.out.step hb
      clear hb g0 g1 g2 C8 R8 X8
      go_wp2_with fail
      refine (enc_ok k n t _ hs1 HB.out).mono ?_
      rintro e w10 ⟨gJ, cJ, rfl, hO10, hb⟩
      rw [← HZ.out] at hO10
      rw [← HZ.out]
      have X10 := X9.step hb
      have R10 : Hid (ReadE _ _ _) := R9.out.step hb
      have C10 : Hid (Marks _ _ _) := C9.out.step hb
      have O10 : Hid (OwnE _ _ _ _) := hO10
      clear hb hO10 C9 R9 X9
      go_wp2_with fail
      refine (eqByteS_read _ _ _ _ Z _ (ReadE.of_own O10.out) R10.out (by omega)).mono ?_
      rintro e w11 ⟨rfl, hb⟩
      have X11 := X10.step hb
      have C11 : Hid (Marks _ _ _) := C10.out.step hb
      clear hb C10 R10 O10 X10
      go_wp2_with fail
      refine (heldByteS_any gI cI Z.length _ C11.out.2 (by omega)).mono ?_
      rintro e w12 ⟨rfl, hb⟩
      have X12 := X11.step hb
      clear hb C11 X11
      go_wp2_with fail
      go_ret
      exact ⟨rfl, X12.bel⟩

theorem own : ownKnob Try.prog.godebug = none := by kernel_rfl
theorem laidOut : laidOutB Try.prog = true := by kernel_rfl
theorem cellsV : Try.prog.cellsOf 24 = 3 := by kernel_rfl

set_option maxRecDepth 100000 in
theorem lifted (os : Os) (started : os.Started) (H : Type) (enc : TypeId × Value → H) :
    ReturnsInHanded {} Try.checked os 5 .any (Rows.fnExactEncodeValueSpec.pre6 enc Try.prog Try.f5 Rows.fnExactEncodeValueRow.domain false) (Rows.fnExactEncodeValueSpec.post enc Try.prog Try.f5 false true false false) := by
  refine returnsInHanded_of_change (C := Try.checked) own started (by kernel_rfl) Try.func5
    (ChangeSpec.witness6 (enc := enc) (C := Try.checked) false ⟨#[], #[.agg #[.int .i64 0, .int .i64 0, .string ByteArray.empty]], []⟩ 8 (by kernel_rfl) (by kernel_rfl) (by kernel_rfl) (by kernel_rfl)) ?_
  intro W base args ds gs before hval0 hW hcnd _
  have hval : ∀ (j : Nat) t v, Try.f5.params[j]? = some t → args[j]? = some v → Value.okWide Try.prog W .any base t v := hval0
  have hW' := hW
  obtain ⟨p, q, hA0, hV, rfl, hfz, hnd⟩ := hW
  have hA : DataW.TrodAll enc Try.prog W 0 (fun _ => true) true Try.f5.params.toList args.toList ds p := hA0
  rw [Try.params5] at hA hval
  obtain ⟨v0, vs0, d0, ds0, p0, q0, hargs, rfl, rfl, h0, r0⟩ := trodAll_cons hA
  obtain ⟨rfl, rfl, rfl⟩ := trodAll_nil r0
  obtain rfl : args = #[v0] := by cases args; simp_all
  obtain ⟨rfl, rfl⟩ := trodVars_none hV
  have k0 := h0
  have lt0 : ∀ x ∈ p0, x.block < W.heap.size := by obtain ⟨m, hm⟩ := k0; exact DataW.trod_lt m _ _ _ hm
  obtain ⟨c00, c01, c02, y00, y01, y02, m0, rfl, hd0, hp0, hy00, hy01, hy02⟩ := open_agg3 Try.underlying24 (by kernel_rfl) cellsV (hval 0 24 v0 rfl rfl) h0
  obtain ⟨a0, e00, _, wa0⟩ := DataW.trod_int Try.underlying3 hy00
  obtain ⟨b0, e01, _, wb0⟩ := DataW.trod_int Try.underlying3 hy01
  obtain ⟨s0, e02, _, ws0⟩ := DataW.trod_string Try.underlying9 hy02
  simp at e00 e01 e02
  subst e00 e01 e02
  clear hA0 hval0
  refine (walk a0 b0 s0 ws0 wa0 wb0 W).mono fun e W' ⟨he, bel⟩ => ?_
  subst he
  exact ⟨_, rfl, _, _, _, [], _, [], hW', trodAll_mk1 (shut_bool Try.underlying4 _), (trodAll_cons_mk (Below.trod laidOut (by kernel_rfl) (of_decide_eq_true (by kernel_rfl)) k0 bel lt0) trodAll_mk0), rfl, bel.frame _, fun h => by cases h⟩
end PEncode

theorem fnExactEncodeValue_holds : Rows.FnExactEncodeValueSaid :=
  OpenClaim.holds_of_wide 5 Try.f5 rfl rfl rfl rfl rfl rfl rfl ⟨rfl, rfl, rfl, rfl, rfl⟩ rfl rfl rfl rfl rfl (by kernel_rfl) Try.func5 (by kernel_rfl)
    (of_decide_eq_true (by kernel_rfl)) (by unfold Func.isWrapper; first | (rw [if_pos (by decide +kernel)]; kernel_rfl) | (rw [if_neg (by decide +kernel)]; exact ⟨rfl, rfl⟩))
    (fun os started H enc _ => PEncode.lifted os started H enc)
#print axioms fnExactEncodeValue_holds
end Go.Proofs.Ytfjahgnennnncag
