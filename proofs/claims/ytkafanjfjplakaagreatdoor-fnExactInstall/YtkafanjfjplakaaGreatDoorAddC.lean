/- A version added to a chain behind a pointer: what the program answers, and what it leaves. -/
import Derived.Test.YtkafanjfjplakaaGreatDoorWrtM
import Derived.Test.YtkafanjfjplakaaGreatDoorColL
import Derived.Test.YtkafanjfjplakaaGreatDoorColQ
import Derived.Deep.RegionLaw
namespace Go.Proofs.YtkafanjfjplakaaGreatDoor.Co
open Go.RowKit Tr
set_option linter.unusedVariables false

/-- The newest version's time. -/
def newT (l : List Ver) : Int := (trP 10000 l).1.tm
/-- The code of a version that is added to a chain. -/
def addC (l : List Ver) (v : Ver) : Int := if v.tm ≤ newT l then 19 else if l.length = 12 then 7 else 0
/-- What is left: nothing changed, or one version more. -/
structure AddA (g o base : Nat) (u : Value) (l : List Ver) (v : Ver) (w : World) (e : Ending) (w' : World) : Prop where
  ret : e = .returned (.int .i64 (addC l v))
  bad : addC l v ≠ 0 → Below w.heap.size w w'
  ok : addC l v = 0 → ∃ w1 u', w' = w1.setCell ⟨g, o + 1, none⟩ u' ∧ w.grownBy w1 u.ownBlock ∧ OwnVr w1 base u' (l ++ [v]) ∧ (u'.ownBlock = u.ownBlock ∨ ∃ b, w.heap.size ≤ b ∧ u'.ownBlock = some b)
set_option maxRecDepth 4000 in
set_option maxHeartbeats 1000000 in
theorem isAheadOf_any (v : Ver) (t : Int) (w : World) :
    Calls Tryz.prog 126 #[.agg #[.int .i64 v.tm, .bool v.gone, .int .i64 v.doc.k, .int .i64 v.doc.n, .string v.doc.t], .int .i64 t] w fun e w' => e = .returned (.bool (decide (v.tm < t))) ∧ Below w.heap.size w w' := by
  have X0 := Box5.start w v 96
  have hbw := X0.bel
  go_enter Tryz.func126, Tryz.ntmps126
  go_wp2_with fail
  go_ret
  exact ⟨rfl, hbw⟩
theorem frozen_of_block {w w' : World} {g o : Nat} (h : w'.heap[g]? = w.heap[g]?) : w'.frozen? ⟨g, o, none⟩ = w.frozen? ⟨g, o, none⟩ := by unfold World.frozen?; simp only [h]
theorem ne_of_or {a : Option Nat} {g : Nat} (h : a = none ∨ a ≠ some g) : some g ≠ a := by
  rcases h with h | h
  · rw [h]; simp
  · exact fun e => h e.symm
theorem keepAd {w W w0 : World} {v : Ver} {g o : Nat} {a b : Value} (X : Box5 w W v) (m : g < w.heap.size) (e0 : W.cell? ⟨g, o, none⟩ = some a) (e1 : W.cell? ⟨g, o + 1, none⟩ = some b) (hb : Below W.heap.size W w0) :
    w0.cell? ⟨g, o, none⟩ = some a ∧ w0.cell? ⟨g, o + 1, none⟩ = some b ∧ w0.cell? ⟨w.heap.size, 0, none⟩ = some (.int .i64 v.tm) :=
  have hl := X.lt
  ⟨(hb.cell (p := ⟨g, o, none⟩) (show g < W.heap.size by omega)).trans e0, (hb.cell (p := ⟨g, o + 1, none⟩) (show g < W.heap.size by omega)).trans e1, (hb.cell X.lt).trans X.c0⟩
set_option maxRecDepth 8000 in
set_option maxHeartbeats 4000000 in
theorem add_any (g o base : Nat) (id : Int) (u : Value) (l : List Ver) (v : Ver) (w : World) (hg : g < w.heap.size) (c0' : w.cell? ⟨g, o, none⟩ = some (.int .i64 id)) (c1' : w.cell? ⟨g, o + 1, none⟩ = some u) (hf' : w.frozen? ⟨g, o + 1, none⟩ = false)
    (hu : OwnVr w base u l) (hne : u.ownBlock = none ∨ u.ownBlock ≠ some g) (hbase : base ≤ w.heap.size) (hl : l.length ≤ 1000) :
    Calls Tryz.prog 71 #[.pointer (some ⟨g, o, none⟩), .agg #[.int .i64 v.tm, .bool v.gone, .int .i64 v.doc.k, .int .i64 v.doc.n, .string v.doc.t]] w fun e w' => AddA g o base u l v w e w' := by
  have X0 := Box5.start w v 96
  have hb0 := X0.bel
  obtain ⟨p, cap, rfl, hcap, hin⟩ := OwnVr.room hu
  have c0 := (hb0.cell (p := ⟨g, o, none⟩) hg).trans c0'
  have c1 := (hb0.cell (p := ⟨g, o + 1, none⟩) hg).trans c1'
  have HIN : Hid (InVr _ _ _) := hin.step hb0
  have HU : Hid (OwnVr _ _ _ _) := hu
  have HNE : Hid (_ ∨ _) := hne
  have HTN : Hid (∀ W : World, InVr W p l → Calls _ _ _ W _) := fun W hW => trackNow_any id p cap l W hW (by omega) hcap
  have HNT : Hid (newT l = (trP 10000 l).1.tm) := rfl
  obtain ⟨V, hV⟩ : ∃ V, V = (trP 10000 l).1 := ⟨_, rfl⟩
  rw [← hV] at HTN HNT
  have HAH : Hid (∀ W : World, Calls _ _ _ W _) := fun W => isAheadOf_any V v.tm W
  have hfld : ∀ (p' : Option Addr) (n' c' : Nat) (W : World), (Instr.field 98 (.agg #[.int .i64 V.tm, .bool V.gone, .int .i64 V.doc.k, .int .i64 V.doc.n, .string V.doc.t, .slice p' n' c']) 0).run Tryz.prog W = .ok (.agg #[.int .i64 V.tm, .bool V.gone, .int .i64 V.doc.k, .int .i64 V.doc.n, .string V.doc.t]) W := fun _ _ _ _ => by kernel_rfl
  clear hV hin hu hne
  go_enter Tryz.func71, Tryz.ntmps71
  go_wp2_with fail
  obtain ⟨W0, hW0⟩ : ∃ W0, W0 = w.alloc (.cells #[.int .i64 v.tm, .bool v.gone, .int .i64 v.doc.k, .int .i64 v.doc.n, .string v.doc.t] 96) := ⟨_, rfl⟩
  rw [← hW0] at X0 hb0 c0 c1 HIN ⊢
  clear hW0
  by_cases hold : v.tm ≤ V.tm
  · have hd : decide (V.tm < v.tm) = false := decide_eq_false (by omega)
    rw [hd] at HAH
    have HAC : Hid (addC l v = 19) := by show addC l v = 19; unfold addC; rw [HNT.out, if_pos hold]
    clear hd hold
    go_region_held3 (fun w0 => w0.cell? ⟨g, o, none⟩ = some (.int .i64 id) ∧ w0.cell? ⟨g, o + 1, none⟩ = some (.slice p l.length cap) ∧ w0.cell? ⟨w.heap.size, 0, none⟩ = some (.int .i64 v.tm)) ((refine keepAd X0 hg c0 c1 ?_; (repeat (first | (with_reducible exact Below.refl _ _) | (with_reducible assumption) | (with_reducible apply below_drewN) | (with_reducible apply Below.drew) | ((with_reducible refine Below.setCell ?_ ?_ _); rotate_left; focus (first | (simp; done) | (simp; omega) | omega)) | ((with_reducible refine Below.alloc ?_ ?_ _); rotate_left; focus (first | (simp; done) | (simp; omega) | omega)))))) (first | (go_at_call 125; refine (HTN.out _ (HIN.out.step (by (repeat (first | (with_reducible exact Below.refl _ _) | (with_reducible assumption) | (with_reducible apply below_drewN) | (with_reducible apply Below.drew) | ((with_reducible refine Below.setCell ?_ ?_ _); rotate_left; focus (first | (simp; done) | (simp; omega) | omega)) | ((with_reducible refine Below.alloc ?_ ?_ _); rotate_left; focus (first | (simp; done) | (simp; omega) | omega))))))).mono ?_; rintro e w2 ⟨⟨p', n', c', rfl⟩, hb⟩; have hB2 : Below W0.heap.size W0 w2 := (show Below W0.heap.size W0 _ by (repeat (first | (with_reducible exact Below.refl _ _) | (with_reducible assumption) | (with_reducible apply below_drewN) | (with_reducible apply Below.drew) | ((with_reducible refine Below.setCell ?_ ?_ _); rotate_left; focus (first | (simp; done) | (simp; omega) | omega)) | ((with_reducible refine Below.alloc ?_ ?_ _); rotate_left; focus (first | (simp; done) | (simp; omega) | omega))))).trans (hb.mono (by simp)); clear hb) | (go_at_call 126; refine (HAH.out _).mono ?_; rintro e w3 ⟨rfl, hb⟩; have hB3 : Below W0.heap.size W0 w3 := hB2.trans ((show Below w2.heap.size w2 _ by (repeat (first | (with_reducible exact Below.refl _ _) | (with_reducible assumption) | (with_reducible apply below_drewN) | (with_reducible apply Below.drew) | ((with_reducible refine Below.setCell ?_ ?_ _); rotate_left; focus (first | (simp; done) | (simp; omega) | omega)) | ((with_reducible refine Below.alloc ?_ ?_ _); rotate_left; focus (first | (simp; done) | (simp; omega) | omega))))).trans (hb.mono (by simp)) |>.mono hB2.size); clear hb))
    all_goals
      have hbw := (X0.step hB3).bel
      go_wp2_with fail
      go_ret
      exact ⟨by rw [HAC.out]; rfl, fun _ => hbw, fun h => (by rw [HAC.out] at h; cases h)⟩
  · have hd : decide (V.tm < v.tm) = true := decide_eq_true (by omega)
    rw [hd] at HAH
    by_cases h12 : l.length = 12
    · have HAC : Hid (addC l v = 7) := by show addC l v = 7; unfold addC; rw [HNT.out, if_neg hold, if_pos h12]
      have H12 : Hid (l.length = 12) := h12
      clear hd hold h12
      go_region_held3 (fun w0 => w0.cell? ⟨g, o, none⟩ = some (.int .i64 id) ∧ w0.cell? ⟨g, o + 1, none⟩ = some (.slice p l.length cap) ∧ w0.cell? ⟨w.heap.size, 0, none⟩ = some (.int .i64 v.tm)) ((refine keepAd X0 hg c0 c1 ?_; (repeat (first | (with_reducible exact Below.refl _ _) | (with_reducible assumption) | (with_reducible apply below_drewN) | (with_reducible apply Below.drew) | ((with_reducible refine Below.setCell ?_ ?_ _); rotate_left; focus (first | (simp; done) | (simp; omega) | omega)) | ((with_reducible refine Below.alloc ?_ ?_ _); rotate_left; focus (first | (simp; done) | (simp; omega) | omega)))))) (first | (go_at_call 125; refine (HTN.out _ (HIN.out.step (by (repeat (first | (with_reducible exact Below.refl _ _) | (with_reducible assumption) | (with_reducible apply below_drewN) | (with_reducible apply Below.drew) | ((with_reducible refine Below.setCell ?_ ?_ _); rotate_left; focus (first | (simp; done) | (simp; omega) | omega)) | ((with_reducible refine Below.alloc ?_ ?_ _); rotate_left; focus (first | (simp; done) | (simp; omega) | omega))))))).mono ?_; rintro e w2 ⟨⟨p', n', c', rfl⟩, hb⟩; have hB2 : Below W0.heap.size W0 w2 := (show Below W0.heap.size W0 _ by (repeat (first | (with_reducible exact Below.refl _ _) | (with_reducible assumption) | (with_reducible apply below_drewN) | (with_reducible apply Below.drew) | ((with_reducible refine Below.setCell ?_ ?_ _); rotate_left; focus (first | (simp; done) | (simp; omega) | omega)) | ((with_reducible refine Below.alloc ?_ ?_ _); rotate_left; focus (first | (simp; done) | (simp; omega) | omega))))).trans (hb.mono (by simp)); clear hb) | (go_at_call 126; refine (HAH.out _).mono ?_; rintro e w3 ⟨rfl, hb⟩; have hB3 : Below W0.heap.size W0 w3 := hB2.trans ((show Below w2.heap.size w2 _ by (repeat (first | (with_reducible exact Below.refl _ _) | (with_reducible assumption) | (with_reducible apply below_drewN) | (with_reducible apply Below.drew) | ((with_reducible refine Below.setCell ?_ ?_ _); rotate_left; focus (first | (simp; done) | (simp; omega) | omega)) | ((with_reducible refine Below.alloc ?_ ?_ _); rotate_left; focus (first | (simp; done) | (simp; omega) | omega))))).trans (hb.mono (by simp)) |>.mono hB2.size); clear hb))
      all_goals
        have hbw := (X0.step hB3).bel
        have d1 := (keepAd X0 hg c0 c1 hB3).2.1
        have h12' : ((l.length : Nat) : Int) = 12 := by have := H12.out; omega
        go_wp2_with fail
        go_ret
        exact ⟨by rw [HAC.out]; rfl, fun _ => hbw, fun h => (by rw [HAC.out] at h; cases h)⟩
    · have HAC : Hid (addC l v = 0) := by show addC l v = 0; unfold addC; rw [HNT.out, if_neg hold, if_neg h12]
      have h12' : ¬ ((l.length : Nat) : Int) = 12 := by omega
      have h12'' : (((l.length : Nat) : Int) == 12) = false := beq_eq_false_iff_ne.mpr h12'
      clear hd hold h12
      go_region_held3 (fun w0 => w0.cell? ⟨g, o, none⟩ = some (.int .i64 id) ∧ w0.cell? ⟨g, o + 1, none⟩ = some (.slice p l.length cap) ∧ w0.cell? ⟨w.heap.size, 0, none⟩ = some (.int .i64 v.tm)) ((refine keepAd X0 hg c0 c1 ?_; (repeat (first | (with_reducible exact Below.refl _ _) | (with_reducible assumption) | (with_reducible apply below_drewN) | (with_reducible apply Below.drew) | ((with_reducible refine Below.setCell ?_ ?_ _); rotate_left; focus (first | (simp; done) | (simp; omega) | omega)) | ((with_reducible refine Below.alloc ?_ ?_ _); rotate_left; focus (first | (simp; done) | (simp; omega) | omega)))))) (first | (go_at_call 125; refine (HTN.out _ (HIN.out.step (by (repeat (first | (with_reducible exact Below.refl _ _) | (with_reducible assumption) | (with_reducible apply below_drewN) | (with_reducible apply Below.drew) | ((with_reducible refine Below.setCell ?_ ?_ _); rotate_left; focus (first | (simp; done) | (simp; omega) | omega)) | ((with_reducible refine Below.alloc ?_ ?_ _); rotate_left; focus (first | (simp; done) | (simp; omega) | omega))))))).mono ?_; rintro e w2 ⟨⟨p', n', c', rfl⟩, hb⟩; have hB2 : Below W0.heap.size W0 w2 := (show Below W0.heap.size W0 _ by (repeat (first | (with_reducible exact Below.refl _ _) | (with_reducible assumption) | (with_reducible apply below_drewN) | (with_reducible apply Below.drew) | ((with_reducible refine Below.setCell ?_ ?_ _); rotate_left; focus (first | (simp; done) | (simp; omega) | omega)) | ((with_reducible refine Below.alloc ?_ ?_ _); rotate_left; focus (first | (simp; done) | (simp; omega) | omega))))).trans (hb.mono (by simp)); clear hb) | (go_at_call 126; refine (HAH.out _).mono ?_; rintro e w3 ⟨rfl, hb⟩; have hB3 : Below W0.heap.size W0 w3 := hB2.trans ((show Below w2.heap.size w2 _ by (repeat (first | (with_reducible exact Below.refl _ _) | (with_reducible assumption) | (with_reducible apply below_drewN) | (with_reducible apply Below.drew) | ((with_reducible refine Below.setCell ?_ ?_ _); rotate_left; focus (first | (simp; done) | (simp; omega) | omega)) | ((with_reducible refine Below.alloc ?_ ?_ _); rotate_left; focus (first | (simp; done) | (simp; omega) | omega))))).trans (hb.mono (by simp)) |>.mono hB2.size); clear hb))
      all_goals
        have X3 := X0.step hB3
        have hbw := X3.bel
        have d1 := (keepAd X0 hg c0 c1 hB3).2.1
        have e0 := X3.c0
        have e1 := X3.c1
        have e2 := X3.c2
        have e3 := X3.c3
        have e4 := X3.c4
        have el := X3.lt
        have hg3 : g < w3.heap.size := by omega
        have hgne : ¬ g = w3.heap.size := by omega
        have hf3 : w3.frozen? ⟨g, o + 1, none⟩ = false := (hbw.frozen (p := ⟨g, o + 1, none⟩) hg).trans hf'
        have HU3 : Hid (w3.ownsRow base 96 5 (.slice p l.length cap) l.length (flatVr l)) := owns_below HU.out hbw
        have HBW : Hid (Below _ _ _) := hbw
        have HB3 : Hid (Below _ _ _) := hB3
        clear X3 hbw hB3 hB2
        go_wp2_with fail
        go_region_law (refine step_appVr rfl (.tmp 24) (.tmp 26) rfl base l.length (.slice p l.length cap) (flatVr l) (by simp [Act.eval]) (HU3.out.alloc _) ⟨w3.heap.size, 0, none⟩ 1 1 (rowVr v) (by simp [Act.eval]) rfl (five_new _ _ _) (five_one _) (by omega) (by omega) (by simp; omega) ?_; intro v'' w7 o7 g7 at7; obtain ⟨gv, cw, hvv, hgv, _, _, _⟩ := rowForm o7 (by omega); subst hvv; have hbk : w7.heap[g]? = w3.heap[g]? := (g7.block g (by simp; omega) (by exact ne_of_or HNE.out)).trans (heap_alloc_old _ _ hg3); have m1 : w7.cell? ⟨g, o + 1, none⟩ = some (.slice p l.length cap) := (World.cell?_of_block hbk).trans d1; have m2 : w7.frozen? ⟨g, o + 1, none⟩ = false := (frozen_of_block hbk).trans hf3; have hz7 := g7.size)
        all_goals
          have HO7 : Hid (OwnVr w7 base (.slice (some ⟨gv, 0, none⟩) (l.length + 1) cw) (l ++ [v])) := by
            show w7.ownsRow base 96 5 _ (l ++ [v]).length (flatVr (l ++ [v]))
            rw [flatVr_snoc, List.length_append]; exact o7
          have HG7 : Hid (w.grownBy w7 (Value.slice p l.length cap).ownBlock) := grown_trans (grown_below (HBW.out.trans ((((Below.refl w3.heap.size w3).alloc (Nat.le_refl _) (.cells #[.int .i64 v.tm, .bool v.gone, .int .i64 v.doc.k, .int .i64 v.doc.n, .string v.doc.t] 96)).drew).mono HBW.out.size))) g7
          have HA7 : Hid ((Value.slice (some ⟨gv, 0, none⟩) (l.length + 1) cw).ownBlock = (Value.slice p l.length cap).ownBlock ∨ ∃ b, w.heap.size ≤ b ∧ (Value.slice (some ⟨gv, 0, none⟩) (l.length + 1) cw).ownBlock = some b) := by
            rcases at7 with h | h
            · exact .inl h
            · exact .inr ⟨_, by have := HBW.out.size; simp; omega, h⟩
          clear o7 g7 at7 hbk
          go_wp2_with fail
          go_ret
          exact ⟨by rw [HAC.out]; rfl, fun h => absurd HAC.out h, fun _ => ⟨w7, _, rfl, HG7.out, HO7.out, HA7.out⟩⟩

end Go.Proofs.YtkafanjfjplakaaGreatDoor.Co
