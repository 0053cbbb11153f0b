/- At every value the program's telling of a document's fields answers as the specification's does, and its answer owns its memory; no condition. -/
import Derived.Test.YtkdigdoomnafbaaFieldsO
import Derived.ProofKit
import Derived.OpenShut
import Derived.ShutString
import Derived.ChangeOld
import Derived.Below
import Derived.Lib.SmallJoins
namespace Go.Proofs.Ytkdigdoomnafbaa
open Go.ChangeShapes Go.WideShapes Go.ChangeAt Go.RowKit Go.Joins
open Go.ChangeMaps (open_string shut_string)
set_option linter.unusedVariables false
namespace PFields

set_option maxRecDepth 8000 in
set_option maxHeartbeats 2000000 in
theorem walk_none (k n : Int) (t : ByteArray) (hs : t.size ≤ maxLen) (hbig : ¬ (1048576 : Int) < t.size) (c : Int)
    (hS : ∀ W : World, Calls Try.prog 42 #[.agg #[.int .i64 k, .int .i64 n, .string t]] W fun e w' => (∃ g cap, e = .returned (.tuple #[.slice (some ⟨g, 0, none⟩) 0 cap, .int .i64 c])) ∧ Below W.heap.size W w')
    (hI : ∀ W : World, Calls Try.prog 43 #[.agg #[.int .i64 k, .int .i64 n, .string t]] W fun e w' => e = .returned (.tuple #[.slice none 0 0, .int .i64 c]) ∧ Below W.heap.size W w') (w : World) :
    Calls Try.prog 10 #[.agg #[.int .i64 k, .int .i64 n, .string t]] w fun e w' => e = .returned (.bool true) ∧ Below w.heap.size w w' := by
  have X0 := Boxed.start w (.int .i64 k) (.int .i64 n) (.string t) 24
  have hpos : ¬ ((1048576 : Int) - (t.size : Int) < 0) := by omega
  have HS : Hid _ := hS
  have HI : Hid _ := hI
  clear hS hI
  go_enter Try.func10, Try.ntmps10
  go_wp2_with (first | (go_at_call 15; refine (szValue_any k n t _ _ hs (by omega) (by omega)).mono ?_; rintro e w1 ⟨rfl, hb⟩; rw [if_neg hbig]; have X := Boxed.step (by assumption) hb; have g0 := X.c0; have g1 := X.c1; have g2 := X.c2; clear hb) | (go_at_call 17; refine (toValue_any k n t _).mono ?_; rintro e w2 ⟨rfl, hb⟩; have X := Boxed.step (by assumption) hb; have g0 := X.c0; have g1 := X.c1; have g2 := X.c2; clear hb) | (go_at_call 42; refine (HS.out _).mono ?_; rintro e w3 ⟨⟨g, cap, rfl⟩, hb⟩; have X := Boxed.step (by assumption) hb; have g0 := X.c0; have g1 := X.c1; have g2 := X.c2; clear hb) | (go_at_call 43; refine (HI.out _).mono ?_; rintro e w4 ⟨rfl, hb⟩; have X := Boxed.step (by assumption) hb; have g0 := X.c0; have g1 := X.c1; have g2 := X.c2; clear hb) | (go_at_call 41; refine (eqFieldS_nil _ _ _ _ _).mono ?_; rintro e w5 ⟨rfl, hb⟩; have X := Boxed.step (by assumption) hb; have g0 := X.c0; have g1 := X.c1; have g2 := X.c2; clear hb) | (go_at_call 44; refine (markFieldS_nil _ _ _).mono ?_; rintro e w6 ⟨rfl, hb⟩; have X := Boxed.step (by assumption) hb; have g0 := X.c0; have g1 := X.c1; have g2 := X.c2; clear hb) | (go_at_call 45; refine (heldFieldS_nil _ _ _).mono ?_; rintro e w7 ⟨rfl, hb⟩; have X := Boxed.step (by assumption) hb; have g0 := X.c0; have g1 := X.c1; have g2 := X.c2; clear hb))
  go_ret
  exact ⟨rfl, X.bel⟩
set_option maxRecDepth 8000 in
set_option maxHeartbeats 4000000 in
theorem walk_some (n : Int) (t : ByteArray) (l : List Fld) (hs : t.size ≤ maxLen) (hbig : ¬ (1048576 : Int) < t.size) (hl : l.length ≤ 1000)
    (hS : ∀ W : World, Calls Try.prog 42 #[.agg #[.int .i64 5, .int .i64 n, .string t]] W fun e w' => (∃ g cap, e = .returned (.tuple #[.slice (some ⟨g, 0, none⟩) l.length cap, .int .i64 0]) ∧ ReadF w' g l) ∧ Below W.heap.size W w')
    (hI : ∀ W : World, Calls Try.prog 43 #[.agg #[.int .i64 5, .int .i64 n, .string t]] W fun e w' => (∃ g cap, e = .returned (.tuple #[.slice (some ⟨g, 0, none⟩) l.length cap, .int .i64 0]) ∧ w'.ownsRow W.heap.size 82 4 (.slice (some ⟨g, 0, none⟩) l.length cap) l.length (flatF l)) ∧ Below W.heap.size W w') (w : World) :
    Calls Try.prog 10 #[.agg #[.int .i64 5, .int .i64 n, .string t]] w fun e w' => e = .returned (.bool true) ∧ Below w.heap.size w w' := by
  have X0 := Boxed.start w (.int .i64 5) (.int .i64 n) (.string t) 24
  have hpos : ¬ ((1048576 : Int) - (t.size : Int) < 0) := by omega
  have hq : ¬ (1 + 4 * (l.length : Int) < 0) := by omega
  have HS : Hid _ := hS
  have HI : Hid _ := hI
  clear hS hI
  go_enter Try.func10, Try.ntmps10
  go_wp2_with fail
  refine (szValue_any 5 n t _ _ hs (by omega) (by omega)).mono ?_
  rintro e w1 ⟨rfl, hb⟩
  rw [if_neg (by omega)]
  have X1 := X0.step hb
  have a0 := X1.c0
  have a1 := X1.c1
  have a2 := X1.c2
  clear hb X0
  go_wp2_with fail
  refine (toValue_any 5 n t _).mono ?_
  rintro e w2 ⟨rfl, hb⟩
  have X2 := X1.step hb
  clear hb X1 a0 a1 a2
  go_wp2_with fail
  refine (HS.out _).mono ?_
  rintro e w3 ⟨⟨gs, cs, rfl, R3⟩, hb⟩
  have X3 := X2.step hb
  have S3 : Hid _ := R3
  have a0 := X3.c0
  have a1 := X3.c1
  have a2 := X3.c2
  clear hb X2 R3
  go_wp2_with fail
  refine (toValue_any 5 n t _).mono ?_
  rintro e w4 ⟨rfl, hb⟩
  have X4 := X3.step hb
  have S4 : Hid _ := S3.out.next hb
  clear hb X3 a0 a1 a2 S3
  go_wp2_with fail
  refine (HI.out _).mono ?_
  rintro e w5 ⟨⟨g, cap, rfl, own5⟩, hb⟩
  have X5 := X4.step hb
  have S5 : Hid _ := S4.out.next hb
  have O5 : Hid _ := own5
  have z45 := hb.size
  clear hb own5
  go_wp2_with fail
  refine (eqFieldS_same g cap gs cs l _ (ReadF.of_own O5.out) S5.out (by omega)).mono ?_
  rintro e w6 ⟨rfl, hb⟩
  have X6 := X5.step hb
  have S6 : Hid _ := S5.out.next hb
  have own6 := owns_below O5.out hb
  have O6 : Hid _ := own6
  have z56 := hb.size
  clear hb X5 S5 O5 own6
  go_wp2_with fail
  refine (markFieldS_any w4.heap.size g cap l _ O6.out hl (by omega)).mono ?_
  rintro e w7 ⟨rfl, own7, hb⟩
  have X7 := X6.keep hb X4.lt
  have S7 : Hid _ := S6.out.step hb S4.out.lt
  have M7 : Hid _ := readMarksF l.length own7
  clear hb X6 S6 O6 own7 S4 X4
  go_wp2_with fail
  refine (heldFieldS_any g cap l.length _ M7.out hl).mono ?_
  rintro e w8 ⟨rfl, hb⟩
  have X8 := X7.step hb
  have S8 : Hid _ := S7.out.next hb
  have M8 : Hid _ := M7.out.next hb
  have a0 := X8.c0
  have a1 := X8.c1
  have a2 := X8.c2
  clear hb X7 S7 M7
  go_wp2_with fail
  refine (toValue_any 5 n t _).mono ?_
  rintro e w9 ⟨rfl, hb⟩
  have X9 := X8.step hb
  have S9 : Hid _ := S8.out.next hb
  have M9 : Hid _ := M8.out.next hb
  clear hb X8 S8 M8 a0 a1 a2
  go_wp2_with fail
  refine (HI.out _).mono ?_
  rintro e wa ⟨⟨g2, cap2, rfl, owna⟩, hb⟩
  have Xa := X9.step hb
  have Sa : Hid _ := S9.out.next hb
  have Ma : Hid _ := M9.out.next hb
  have Ra : Hid _ := ReadF.of_own owna
  clear hb X9 S9 M9 owna
  go_wp2_with fail
  refine (eqFieldS_same g2 cap2 gs cs l _ Ra.out Sa.out (by omega)).mono ?_
  rintro e wb ⟨rfl, hb⟩
  have Xb := Xa.step hb
  have Mb : Hid _ := Ma.out.next hb
  clear hb Xa Sa Ma Ra
  go_wp2_with fail
  refine (heldFieldS_any g cap l.length _ Mb.out hl).mono ?_
  rintro e wc ⟨rfl, hb⟩
  have Xc := Xb.step hb
  clear hb Xb Mb
  go_wp2_with fail
  go_ret
  exact ⟨rfl, Xc.bel⟩
theorem walk (k n : Int) (t : ByteArray) (hs : t.size ≤ maxLen) (_ : (Lit.int .i64 k).wf = true) (_ : (Lit.int .i64 n).wf = true) (w : World) :
    Calls Try.prog 10 #[.agg #[.int .i64 k, .int .i64 n, .string t]] w fun e w' => e = .returned (.bool true) ∧ Below w.heap.size w w' := by
  by_cases hbig : (1048576 : Int) < t.size
  · go_enter Try.func10, Try.ntmps10
    go_wp2_with (go_at_call 15; refine (szValue_any k n t _ _ hs (by omega) (by omega)).mono ?_; rintro e w1 ⟨rfl, hb1⟩; rw [if_pos hbig])
    go_ret
    exact ⟨rfl, ((Below.refl _ _).alloc (Nat.le_refl _) _).trans (hb1.mono (by simp))⟩
  · have hs1 : t.size ≤ 1048576 := by omega
    cases hB : okB ⟨k, n, t⟩
    · exact walk_none k n t hs hbig 1 (fun W => specFields_bad k n t W hs1 hB) (fun W => implFields_bad k n t W hs hB) w
    · by_cases h5 : k = 5
      · subst h5
        obtain ⟨e, l, _, hi, _, hsz, _, hall⟩ := fits_fields (v := ⟨5, n, t⟩) rfl hB
        have hlen := (fields_len t.size t l (Nat.le_refl _) hi).1
        have hsz' : t.size ≤ 300 := hsz
        have hts : ∀ f ∈ l, f.name.size ≤ 1048576 ∧ f.v.t.size ≤ 1048576 := fun f hf => by have := (hall f hf).2; simp at this; omega
        by_cases hl : l = []
        · subst hl
          refine walk_none 5 n t hs hbig 0 (fun W => (specFields_some n t [] W hs1 hB hi).mono ?_) (fun W => implFields_none n t W hs1 hB hi) w
          rintro e w' ⟨⟨g, cap, he, _⟩, hb⟩
          exact ⟨⟨g, cap, he⟩, hb⟩
        · exact walk_some n t l hs hbig (by omega) (fun W => specFields_some n t l W hs1 hB hi) (fun W => implFields_some n t l W hs1 hB hi hl hts (by omega)) w
      · exact walk_none k n t hs hbig 8 (fun W => specFields_type k n t W hs1 hB h5) (fun W => implFields_type k n t W hs hB h5) w

theorem own : ownKnob Try.prog.godebug = none := by kernel_rfl
theorem laidOut : laidOutB Try.prog = true := by kernel_rfl
theorem cellsV : Try.prog.cellsOf 24 = 3 := by kernel_rfl

set_option maxRecDepth 100000 in
theorem lifted (os : Os) (started : os.Started) (H : Type) (enc : TypeId × Value → H) :
    ReturnsInHanded {} Try.checked os 10 .any (Rows.fnExactFieldsOfSpec.pre6 enc Try.prog Try.f10 Rows.fnExactFieldsOfRow.domain false) (Rows.fnExactFieldsOfSpec.post enc Try.prog Try.f10 false true false false) := by
  refine returnsInHanded_of_change (C := Try.checked) own started (by kernel_rfl) Try.func10
    (ChangeSpec.witness6 (enc := enc) (C := Try.checked) false ⟨#[], #[.agg #[.int .i64 0, .int .i64 0, .string ByteArray.empty]], []⟩ 8 (by kernel_rfl) (by kernel_rfl) (by kernel_rfl) (by kernel_rfl)) ?_
  intro W base args ds gs before hval0 hW hcnd _
  have hval : ∀ (j : Nat) t v, Try.f10.params[j]? = some t → args[j]? = some v → Value.okWide Try.prog W .any base t v := hval0
  have hW' := hW
  obtain ⟨p, q, hA0, hV, rfl, hfz, hnd⟩ := hW
  have hA : DataW.TrodAll enc Try.prog W 0 (fun _ => true) true Try.f10.params.toList args.toList ds p := hA0
  rw [Try.params10] at hA hval
  obtain ⟨v0, vs0, d0, ds0, p0, q0, hargs, rfl, rfl, h0, r0⟩ := trodAll_cons hA
  obtain ⟨rfl, rfl, rfl⟩ := trodAll_nil r0
  obtain rfl : args = #[v0] := by cases args; simp_all
  obtain ⟨rfl, rfl⟩ := trodVars_none hV
  have k0 := h0
  have lt0 : ∀ x ∈ p0, x.block < W.heap.size := by obtain ⟨m, hm⟩ := k0; exact DataW.trod_lt m _ _ _ hm
  obtain ⟨c00, c01, c02, y00, y01, y02, m0, rfl, hd0, hp0, hy00, hy01, hy02⟩ := open_agg3 Try.underlying24 (by kernel_rfl) cellsV (hval 0 24 v0 rfl rfl) h0
  obtain ⟨a0, e00, _, wa0⟩ := DataW.trod_int Try.underlying3 hy00
  obtain ⟨b0, e01, _, wb0⟩ := DataW.trod_int Try.underlying3 hy01
  obtain ⟨s0, e02, _, ws0⟩ := DataW.trod_string Try.underlying9 hy02
  simp at e00 e01 e02
  subst e00 e01 e02
  clear hA0 hval0
  refine (walk a0 b0 s0 ws0 wa0 wb0 W).mono fun e W' ⟨he, bel⟩ => ?_
  subst he
  exact ⟨_, rfl, _, _, _, [], _, [], hW', trodAll_mk1 (shut_bool Try.underlying4 _), (trodAll_cons_mk (Below.trod laidOut (by kernel_rfl) (of_decide_eq_true (by kernel_rfl)) k0 bel lt0) trodAll_mk0), rfl, bel.frame _, fun h => by cases h⟩
end PFields

theorem fnExactFieldsOf_holds : Rows.FnExactFieldsOfSaid :=
  OpenClaim.holds_of_wide 10 Try.f10 rfl rfl rfl rfl rfl rfl rfl ⟨rfl, rfl, rfl, rfl, rfl⟩ rfl rfl rfl rfl rfl (by kernel_rfl) Try.func10 (by kernel_rfl)
    (of_decide_eq_true (by kernel_rfl)) (by unfold Func.isWrapper; first | (rw [if_pos (by decide +kernel)]; kernel_rfl) | (rw [if_neg (by decide +kernel)]; exact ⟨rfl, rfl⟩))
    (fun os started H enc _ => PFields.lifted os started H enc)
#print axioms fnExactFieldsOf_holds
end Go.Proofs.Ytkdigdoomnafbaa
