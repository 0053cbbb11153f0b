/- At every query the program's QueryOK answers as the specification's; it writes into no argument; the library's tables that the row lists are as its text lays them. -/
import Derived.Test.YtnmpfooegnmknaaDoorQryO
import Derived.Test.YtnmpfooegnmknaaDoorRows
import Derived.Test.YtnmpfooegnmknaaDoorTie
import Derived.Test.YtnmpfooegnmknaaDoorCards
import Derived.LaidMore
import Derived.Lay
import Derived.Stop.Joined
import Derived.SevenTiedAt
import Derived.ProofKit
import Derived.OpenShut
import Derived.ShutString
import Derived.ChangeOld
import Derived.Below
import Derived.Lib.SmallJoins
namespace Go.Proofs.YtnmpfooegnmknaaDoor
open Go.ChangeShapes Go.WideShapes Go.ChangeAt Go.RowKit Go.Joins
open Go.ChangeMaps (open_string shut_string)
set_option linter.unusedVariables false
namespace QueryOKf
open Tr Qr

set_option maxRecDepth 8000 in
set_option maxHeartbeats 4000000 in
theorem walk (af as_ ak : Option Addr) (cf cs ck : Nat) (q : Qry) (hm : MaxQ q) (w : World) (hin : InQ w af as_ ak q) :
    Calls Tryd.prog 3 #[.agg #[.slice af q.f.length cf, .slice as_ q.so.length cs, .int .i64 q.skip, .int .i64 q.lim, .slice ak q.keep.length ck, .string q.hint]] w fun e w' => e = .returned (.bool true) ∧ Below w.heap.size w w' := by
  have X0 := Bx6.start w (.slice af q.f.length cf) (.slice as_ q.so.length cs) (.int .i64 q.skip) (.int .i64 q.lim) (.slice ak q.keep.length ck) (.string q.hint) 28
  have HIN : Hid (InQ w af as_ ak q) := hin
  have HZ : Hid (∀ W : World, InQ W af as_ ak q → Calls _ _ _ W _) := fun W hW => szQuery_any af as_ ak cf cs ck q W hW hm
  clear hin hm
  go_enter Tryd.func3, Tryd.ntmps3
  go_wp2_with fail
  refine (HZ.out _ (HIN.out.step X0.bel)).mono ?_
  rintro e w1 ⟨⟨r, rfl, hr⟩, hb⟩
  have X1 := X0.step hb
  clear hb HZ X0
  rcases hr with hneg | ⟨hr0, hsz⟩
  · have hbw := X1.bel
    go_wp2_with fail
    go_ret
    exact ⟨rfl, hbw⟩
  have hnn : ¬ r < 0 := by omega
  have HTQ : Hid (∀ W : World, InQ W af as_ ak q → Calls _ _ _ W _) := fun W hW => toQuery_any af as_ ak cf cs ck q W hW hsz
  have HS : Hid (∀ (gf gs gk : Nat) (W : World), RdQ W (some ⟨gf, 0, none⟩) (some ⟨gs, 0, none⟩) gk q → Calls _ _ _ W _) := fun gf gs gk W hW => specQuery_any (some ⟨gf, 0, none⟩) (some ⟨gs, 0, none⟩) gk q.f.length q.so.length q.keep.length q W hW hsz
  have HI : Hid (∀ (gf gs gk : Nat) (W : World), RdQ W (some ⟨gf, 0, none⟩) (some ⟨gs, 0, none⟩) gk q → Calls _ _ _ W _) := fun gf gs gk W hW => queryOK_any (some ⟨gf, 0, none⟩) (some ⟨gs, 0, none⟩) gk q.f.length q.so.length q.keep.length q W hW hsz
  have HSZ : Hid (SzQ q) := hsz
  obtain ⟨P, hP⟩ : ∃ P, P = qryB q := ⟨_, rfl⟩
  rw [← hP] at HS HI
  clear hsz hP
  have c0 := X1.c0
  have c1 := X1.c1
  have c2 := X1.c2
  have c3 := X1.c3
  have c4 := X1.c4
  have c5 := X1.c5
  go_wp2_with fail
  refine (HTQ.out _ (HIN.out.step X1.bel)).mono ?_
  rintro e w2 ⟨⟨gf2, gs2, gk2, rfl, R2⟩, hb⟩
  have X2 := X1.step hb
  have HR2 : Hid (RdQ _ _ _ _ _) := R2
  clear hb X1 c0 c1 c2 c3 c4 c5 R2
  go_wp2_with fail
  refine (HS.out gf2 gs2 gk2 _ HR2.out).mono ?_
  rintro e w3 ⟨rfl, hb⟩
  have X3 := X2.step hb
  clear hb X2 HR2
  have c0 := X3.c0
  have c1 := X3.c1
  have c2 := X3.c2
  have c3 := X3.c3
  have c4 := X3.c4
  have c5 := X3.c5
  go_wp2_with fail
  refine (HTQ.out _ (HIN.out.step X3.bel)).mono ?_
  rintro e w4 ⟨⟨gf, gs, gk, rfl, R4⟩, hb⟩
  have hbA : Below w4.heap.size w4 (w4.alloc (.cells #[.slice (some ⟨gf, 0, none⟩) q.f.length q.f.length, .slice (some ⟨gs, 0, none⟩) q.so.length q.so.length, .int .i64 q.skip, .int .i64 q.lim, .slice (some ⟨gk, 0, none⟩) q.keep.length q.keep.length, .string q.hint] 36)) := (Below.refl _ _).alloc (Nat.le_refl _) _
  have X5 := (X3.step hb).step hbA
  have Y5 := Bx6.start w4 (.slice (some ⟨gf, 0, none⟩) q.f.length q.f.length) (.slice (some ⟨gs, 0, none⟩) q.so.length q.so.length) (.int .i64 q.skip) (.int .i64 q.lim) (.slice (some ⟨gk, 0, none⟩) q.keep.length q.keep.length) (.string q.hint) 36
  have HR5 : Hid (RdQ _ _ _ _ _) := R4.next hbA
  clear hb X3 c0 c1 c2 c3 c4 c5 R4 hbA
  go_wp2_with fail
  generalize w4.alloc (.cells #[.slice (some ⟨gf, 0, none⟩) q.f.length q.f.length, .slice (some ⟨gs, 0, none⟩) q.so.length q.so.length, .int .i64 q.skip, .int .i64 q.lim, .slice (some ⟨gk, 0, none⟩) q.keep.length q.keep.length, .string q.hint] 36) = W5 at X5 Y5 HR5 ⊢
  refine (HI.out gf gs gk _ HR5.out).mono ?_
  rintro e w6 ⟨rfl, hb⟩
  have X6 := X5.step hb
  have Y6 := Y5.step hb
  have HR6 : Hid (RdQ _ _ _ _ _) := HR5.out.next hb
  clear hb X5 Y5 HR5
  obtain ⟨yb, m6, x0, x1, x2, x3, x4, x5⟩ := Y6
  clear yb
  obtain ⟨bx, hbx⟩ : ∃ bx, bx = w4.heap.size := ⟨_, rfl⟩
  rw [← hbx] at x0 x1 x2 x3 x4 x5 m6 ⊢
  clear hbx
  cases P
  all_goals
    go_wp2_with fail
    go_region_held3 (fun w0 => w0.cell? ⟨w.heap.size, 0, none⟩ = some (.slice af q.f.length cf) ∧ w0.cell? ⟨w.heap.size, 1, none⟩ = some (.slice as_ q.so.length cs) ∧ w0.cell? ⟨w.heap.size, 2, none⟩ = some (.int .i64 q.skip) ∧ w0.cell? ⟨w.heap.size, 3, none⟩ = some (.int .i64 q.lim) ∧ w0.cell? ⟨w.heap.size, 4, none⟩ = some (.slice ak q.keep.length ck) ∧ w0.cell? ⟨w.heap.size, 5, none⟩ = some (.string q.hint) ∧ w0.cell? ⟨bx, 0, none⟩ = some (.slice (some ⟨gf, 0, none⟩) q.f.length q.f.length) ∧ w0.cell? ⟨bx, 1, none⟩ = some (.slice (some ⟨gs, 0, none⟩) q.so.length q.so.length) ∧ w0.cell? ⟨bx, 2, none⟩ = some (.int .i64 q.skip) ∧ w0.cell? ⟨bx, 3, none⟩ = some (.int .i64 q.lim) ∧ w0.cell? ⟨bx, 4, none⟩ = some (.slice (some ⟨gk, 0, none⟩) q.keep.length q.keep.length) ∧ w0.cell? ⟨bx, 5, none⟩ = some (.string q.hint)) ((refine keepQ6 X6 m6 x0 x1 x2 x3 x4 x5 ?_; (repeat (first | (with_reducible exact Below.refl _ _) | (with_reducible assumption) | (with_reducible apply below_drewN) | (with_reducible apply Below.drew) | ((with_reducible refine Below.setCell ?_ ?_ _); rotate_left; focus (first | (simp; done) | (simp; omega) | omega)) | ((with_reducible refine Below.alloc ?_ ?_ _); rotate_left; focus (first | (simp; done) | (simp; omega) | omega)))))) (first | (go_at_call 6; refine (HTQ.out _ (HIN.out.step (X6.bel.trans ((show Below w6.heap.size w6 _ by (repeat (first | (with_reducible exact Below.refl _ _) | (with_reducible assumption) | (with_reducible apply below_drewN) | (with_reducible apply Below.drew) | ((with_reducible refine Below.setCell ?_ ?_ _); rotate_left; focus (first | (simp; done) | (simp; omega) | omega)) | ((with_reducible refine Below.alloc ?_ ?_ _); rotate_left; focus (first | (simp; done) | (simp; omega) | omega))))).mono X6.bel.size)))).mono ?_; rintro e w7 ⟨⟨gf7, gs7, gk7, rfl, O7⟩, hb⟩; have hB7 : Below w6.heap.size w6 w7 := (show Below w6.heap.size w6 _ by (repeat (first | (with_reducible exact Below.refl _ _) | (with_reducible assumption) | (with_reducible apply below_drewN) | (with_reducible apply Below.drew) | ((with_reducible refine Below.setCell ?_ ?_ _); rotate_left; focus (first | (simp; done) | (simp; omega) | omega)) | ((with_reducible refine Below.alloc ?_ ?_ _); rotate_left; focus (first | (simp; done) | (simp; omega) | omega))))).trans (hb.mono (by simp)); have HO7 : Hid (RdQ _ _ _ _ _) := O7; clear hb O7) | (go_at_call 8; refine (eqQuery_same _ _ _ _ _ _ _ _ _ _ _ _ q _ (HR6.out.next hB7) HO7.out (HR6.out.next hB7).inD HO7.out.inD HSZ.out).mono ?_; rintro e w8 ⟨rfl, hb⟩; have hB8 : Below w6.heap.size w6 w8 := hB7.trans (hb.mono hB7.size); clear hb))
    have hbw := (X6.step hB8).bel
    go_wp2_with fail
    go_ret
    exact ⟨rfl, hbw⟩

theorem own : ownKnob Tryd.prog.godebug = none := by kernel_rfl
theorem laidOut : laidOutB Tryd.prog = true := by kernel_rfl

set_option maxRecDepth 100000 in
theorem lifted (os : Os) (started : os.Started) (H : Type) (enc : TypeId × Value → H) :
    ReturnsInHanded {} Tryd.checked os 3 .any (fun w args => (Rows.fnExactQueryOKSpec.pre enc Tryd.prog Tryd.f3 Rows.fnExactQueryOKRow.domain false w args ∧ laidMetH Tryd.prog Rows.fnExactQueryOKRow.laid w) ∧ sizedMet enc Tryd.prog Tryd.f3 (OpenSpec.ofChange Rows.fnExactQueryOKSpec) false w args)
      (Rows.fnExactQueryOKSpec.post enc Tryd.prog Tryd.f3 false true false false) := by
  refine returnsInHanded_of_change_and (C := Tryd.checked) (X := fun w _ => laidMetH Tryd.prog Rows.fnExactQueryOKRow.laid w) (fun _ _ _ hh h => h.of_heap hh) own started (by kernel_rfl) Tryd.func3
    (ChangeSpec.witness_shaped (enc := enc) (C := Tryd.checked) (os := os) (X := fun w _ => laidMetH Tryd.prog Rows.fnExactQueryOKRow.laid w) false (World.laidAll Tryd.prog os Rows.fnExactQueryOKRow.laid) #[.agg #[.slice none 0 0, .slice none 0 0, .int .i64 0, .int .i64 0, .slice none 0 0, .string ByteArray.empty]] 8 (World.laidAll_os _ _ _)
      (World.shaped_of_ZipB (by kernel_rfl) (by kernel_rfl)) (by kernel_rfl) (by kernel_rfl) (by kernel_rfl)
      (by rw [MakeChecks.laidMetH_plain _ _ _ (by kernel_rfl)]; exact laidMet_laidAll _ (by kernel_rfl) (by kernel_rfl))) ?_
  intro W base args ds gs before hval0 hW hcnd _ hL _
  have hval : ∀ (j : Nat) t v, Tryd.f3.params[j]? = some t → args[j]? = some v → Value.okWide Tryd.prog W .any base t v := hval0
  have hW' := hW
  obtain ⟨p, q, hA0, hV, rfl, hfz, hnd⟩ := hW
  have hA : DataW.TrodAll enc Tryd.prog W 0 (fun _ => true) true Tryd.f3.params.toList args.toList ds p := hA0
  rw [Tryd.params3] at hA hval
  obtain ⟨v0, vs0, d0, ds0, p0, q0, hargs, rfl, rfl, h0, r0⟩ := trodAll_cons hA
  obtain ⟨rfl, rfl, rfl⟩ := trodAll_nil r0
  obtain rfl : args = #[v0] := by cases args; simp_all
  obtain ⟨rfl, rfl⟩ := trodVars_none hV
  have k0 := h0
  have lt0 : ∀ x ∈ p0, x.block < W.heap.size := by obtain ⟨m, hm⟩ := k0; exact DataW.trod_lt m _ _ _ hm
  obtain ⟨af0, as0, ak0, cf0, cs0, ck0, qq0, rfl, hm0, i0⟩ := open_query (hval 0 28 v0 rfl rfl) h0
  clear hA0 hval0
  refine (walk af0 as0 ak0 cf0 cs0 ck0 qq0 hm0 W i0).mono fun e W' ⟨he, bel⟩ => ?_
  subst he
  exact ⟨_, rfl, _, _, _, [], _, [], hW', trodAll_mk1 (shut_bool Tryd.underlying4 _), (trodAll_cons_mk (Below.trod laidOut (by kernel_rfl) (of_decide_eq_true (by kernel_rfl)) k0 bel lt0) trodAll_mk0), rfl, bel.frame _, fun h => by cases h⟩
end QueryOKf

theorem fnExactQueryOK_row : Rows.FnExactQueryOKSaid :=
  OpenClaim.holds_of_wide 3 Tryd.f3 rfl rfl rfl rfl rfl rfl rfl ⟨rfl, rfl, rfl, rfl, rfl⟩ rfl rfl rfl rfl rfl (by kernel_rfl) Tryd.func3 (by kernel_rfl)
    (of_decide_eq_true (by kernel_rfl)) (by unfold Func.isWrapper; first | (rw [if_pos (by decide +kernel)]; kernel_rfl) | (rw [if_neg (by decide +kernel)]; exact ⟨rfl, rfl⟩))
    (fun os started H enc _ => QueryOKf.lifted os started H enc)
theorem fnExactQueryOK_holds : Rows.FnExactQueryOKCardSaid :=
  Claim7.holds_tied_plain_at .later [] [.data, .pinned] true (true, "cd0f6203398ec2da61577428617df728e74e94c3ed7f909f506606529d5b58e6") false
    fnExactQueryOK_row (fun _ h => by cases h) (by kernel_rfl) (fun _ h => by cases h) fnExactQueryOK_row_tie rfl ⟨rfl, rfl⟩ (by kernel_rfl) rfl
    (fun f fn hf hfn => by
      obtain rfl : f = 3 := Option.some.inj ((show Tryd.prog.funcNamed "loop.example/g00380/laws.FnExactQueryOK" = some 3 by kernel_rfl).symm.trans hf) |>.symm
      obtain rfl : fn = Tryd.f3 := (Option.some.inj (Tryd.func3.symm.trans hfn)).symm
      exact ⟨by kernel_rfl, fun j t ht => by
        rw [Tryd.params3] at ht
        have hm : t ∈ [28] := by simpa using Array.mem_of_getElem? ht
        have hall : ([28].all fun u => !Tryd.prog.wantsStandIn u) = true := by kernel_rfl
        exact (show Tryd.prog.wantsStandIn t = false by simpa using List.all_eq_true.1 hall t hm)⟩)
    (by kernel_rfl)
#print axioms fnExactQueryOK_holds
end Go.Proofs.YtnmpfooegnmknaaDoor
