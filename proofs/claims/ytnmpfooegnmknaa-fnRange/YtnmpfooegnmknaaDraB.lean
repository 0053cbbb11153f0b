/- A draft made a tree: what the program answers. -/
import Derived.Test.YtnmpfooegnmknaaDraA
namespace Go.Proofs.Ytnmpfooegnmknaa.Tr
open Go.RowKit
set_option linter.unusedVariables false

set_option maxRecDepth 4000 in
set_option maxHeartbeats 2000000 in
theorem tree_any (d gp cap : Nat) (f : List Pg) (next : Int) (w : World) (hdl : d < w.heap.size) (x0 : w.cell? ⟨d, 0, none⟩ = some (.slice (some ⟨gp, 0, none⟩) f.length cap)) (x1 : w.cell? ⟨d, 1, none⟩ = some (.int .i64 next)) (hr : PtrP w gp f) (hl : f.length ≤ 100) (hs : ∀ p ∈ f, p.es.length ≤ 1000) (hk : ∀ p ∈ f, ∀ e ∈ p.es, e.key.size ≤ 1048576) :
    Calls Try.prog 49 #[.pointer (some ⟨d, 0, none⟩)] w fun e' w' => (∃ v, e' = .returned (.agg #[v, .int .i64 next]) ∧ OwnT w' w.heap.size v f) ∧ Below w.heap.size w w' := by
  have HR : Hid (PtrP _ _ _) := hr
  have HS : Hid _ := hs
  have HK : Hid _ := hk
  have M0 := MkT.start w next 37
  clear hr hs hk
  go_enter Try.func49, Try.ntmps49
  go_wp2_with fail
  generalize (w.alloc (.cells #[.slice none 0 0, .int .i64 0] 37)).alloc (.cells #[.slice none 0 0, .int .i64 next] 37) = W0 at M0 ⊢
  clear x0 x1
  go_loopw [16] (fun i wr => ∃ (k : Nat) (pv : Option Addr) (cv : Nat) (vs : Nat → Value) (xs : List Value), k ≤ f.length ∧ i = .int .i64 k ∧ MkT w wr (.slice pv k cv) next ∧ PartT wr (w.heap.size + 2) (.slice pv k cv) k f k vs xs) (fun i _ => f.length - (intOf i).toNat)
  case atStart => exact ⟨0, none, 0, fun _ => .slice none 0 0, [], Nat.zero_le _, rfl, M0, ⟨⟨rfl, .inl ⟨rfl, rfl⟩⟩, fun i h hi => absurd hi (by omega), fun i h hi => absurd hi (by omega), fun i j h h2 hi => absurd hi (by omega), fun i h hi => absurd hi (by omega)⟩⟩
  case round =>
    obtain ⟨k, pv, cv, vs, xs, hk, rfl, M, hP⟩ := hrel
    have hz := M.lt
    have HP : Hid (PartT _ _ _ _ _ _ _ _) := hP
    have HM : Hid (MkT _ _ _ _) := M
    clear hP M0
    by_cases hlt : k < f.length
    · have hlt2 : (k : Int) < (f.length : Int) := by omega
      have R := HR.out.next M.bel
      obtain ⟨b, o, xk, hPA⟩ := R.cells k hlt
      have a1 := M.c0
      have HPA : Hid (PageAtA wr b o f[k]) := hPA
      have hsk := HS.out f[k] (List.getElem_mem _)
      have HKK : Hid (∀ e ∈ f[k].es, e.key.size ≤ 1048576) := HK.out f[k] (List.getElem_mem _)
      clear R hPA M
      go_wp2_with fail
      go_region_law (first
        | (refine step_appP rfl (.tmp 21) (.tmp 24) rfl (w.heap.size + 2) k (.slice pv k cv) xs (by simp [Act.eval]) (P6.out.row.alloc _) ⟨w6.heap.size, 0, none⟩ 1 1 [.int .i64 f[k].num, .slice pu f[k].es.length cu] (by simp [Act.eval]) rfl (two_newP _ _ _ _) (two_oneP _ _ _ _) (by omega) (by omega) (by simp; omega) ?_; intro v'' w7 o7 g7 at7; obtain ⟨gv, cw, hvv, _, _, _, _⟩ := owns_form o7 (by omega); subst hvv; have M7 : MkT w w7 (.slice pv k cv) next := M6.out.step (Below.grown ((Below.refl _ w6).alloc (by omega) (.cells #[.int .i64 f[k].num, .slice pu f[k].es.length cu] 86)) g7 (by simp; omega) (fun b hb => (P6.out.row.lt b hb).1)) (Nat.le_refl _); have m1 := M7.c0; have m2 := M7.z0; have hz7 := M7.lt)
        | (go_simp; go_wp2_with (go_at_call 98; refine (ownPage_any b o f[k] _ (HPA.out.next (by (repeat (first | (with_reducible exact Below.refl _ _) | (with_reducible assumption) | (with_reducible apply below_drewN) | (with_reducible apply Below.drew) | ((with_reducible refine Below.setCell ?_ ?_ _); rotate_left; focus (first | (simp; done) | (simp; omega) | omega)) | ((with_reducible refine Below.alloc ?_ ?_ _); rotate_left; focus (first | (simp; done) | (simp; omega) | omega)))))) hsk HKK.out).mono ?_; rintro e w6 ⟨⟨u6, rfl, hU⟩, hb6⟩; obtain ⟨pu, cu, rfl, _⟩ := hU.inE; have hB6 : Below wr.heap.size wr w6 := (show Below wr.heap.size wr _ by (repeat (first | (with_reducible exact Below.refl _ _) | (with_reducible assumption) | (with_reducible apply below_drewN) | (with_reducible apply Below.drew) | ((with_reducible refine Below.setCell ?_ ?_ _); rotate_left; focus (first | (simp; done) | (simp; omega) | omega)) | ((with_reducible refine Below.alloc ?_ ?_ _); rotate_left; focus (first | (simp; done) | (simp; omega) | omega))))).trans (hb6.mono (by simp)); have P6 : Hid (PartT _ _ _ _ _ _ _ _) := HP.out.next hB6; have M6 : Hid (MkT _ _ _ _) := HM.out.next hB6; have U6 : Hid (OwnE w6 wr.heap.size (.slice pu f[k].es.length cu) f[k].es) := owns_mono hU (by simp); have n1 := M6.out.c0; have hz6 := M6.out.lt; clear hb6 hB6 hU)))
      all_goals
        have hfr : ∀ {x : Value} {T : TypeId} {m : Nat} {ys : List Value}, wr.ownsRow (w.heap.size + 2) T 2 x m ys → (Value.slice pu f[k].es.length cu).ownBlock = none ∨ (Value.slice pu f[k].es.length cu).ownBlock ≠ x.ownBlock := by
          intro x T m ys hx
          cases hb : (Value.slice pu f[k].es.length cu).ownBlock with
          | none => exact .inl rfl
          | some g => exact .inr (fun e => by have h1 := (World.ownsRow.lt U6.out g hb).1; have h2 := (hx.lt g e.symm).2; omega)
        have hP8 := (P6.out.snoc hlt (owns_mono U6.out (by omega)) (fun i hi hik => hfr (HP.out.ents i hi hik)) (hfr HP.out.row) o7 g7 at7).ofSet (b := w.heap.size + 1) (o := 0) (x := .slice (some ⟨gv, 0, none⟩) (k + 1) cw) (by omega)
        have HP8 : Hid (PartT _ _ _ _ _ _ _ _) := hP8
        have HM8 : Hid (MkT _ _ _ _) := M7.set (.slice (some ⟨gv, 0, none⟩) (k + 1) cw)
        clear o7 g7 at7 M7 hP8 hfr
        go_wp2_with fail
        go_roundw
        case rel => exact ⟨k + 1, _, _, _, _, by omega, by go_num, HM8.out, HP8.out⟩
        case measure => simp [intOf]; omega
    · obtain rfl : k = f.length := by omega
      have HT : Hid (OwnT wr (w.heap.size + 2) (.slice pv f.length cv) f) := ⟨vs, xs, HP.out⟩
      obtain ⟨mb, ml, ⟨r0, mr0⟩, ⟨r1, mr1⟩, my0, my1, mc0, mc1, mz0, mz1⟩ := M
      clear HP HM
      go_wp2_with fail
      refine bodyPost_ret (v := .agg #[.slice pv f.length cv, .int .i64 next]) (by simp [results, Try.results49, go_sem, *]) rfl ⟨⟨_, rfl, ?_⟩, ?_⟩
      · exact ((HT.out.grown grown_set (by omega)).grown grown_set (by omega)).mono (by omega)
      · (repeat (first | (with_reducible exact Below.refl _ _) | (with_reducible assumption) | (with_reducible apply below_drewN) | (with_reducible apply Below.drew) | ((with_reducible refine Below.setCell ?_ ?_ _); rotate_left; focus (first | (simp; done) | (simp; omega) | omega)) | ((with_reducible refine Below.alloc ?_ ?_ _); rotate_left; focus (first | (simp; done) | (simp; omega) | omega))))

end Go.Proofs.Ytnmpfooegnmknaa.Tr
