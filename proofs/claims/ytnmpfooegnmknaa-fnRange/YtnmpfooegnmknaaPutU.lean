/- An entry put into a tree by the specification: where a page is parted, the entry ahead of another one. -/
import Derived.Test.YtnmpfooegnmknaaLastO
namespace Go.Proofs.Ytnmpfooegnmknaa.Tr
open Go.RowKit
set_option linter.unusedVariables false

set_option maxRecDepth 4000 in
set_option maxHeartbeats 8000000 in
theorem specPut_split_at (g cap : Nat) (f : List Pg) (next : Int) (e : Ent) (k i : Nat) (w : World) (hF : FullP w g f) (hT : treeB f next = true) (hkk : place f e = k) (hk : k < f.length) (hP : PlaceE f[k].es e i false) (hfour : f[k].es.length = 4) (hl60 : f.length < 60) (hnx9 : next < 100000) (hil : i < f[k].es.length) :
    Calls Try.prog 52 #[.agg #[.slice (some ⟨g, 0, none⟩) f.length cap, .int .i64 next], .agg #[.string e.key, .int .i64 e.id]] w fun e' w' => (∃ p' cap', e' = .returned (.tuple #[.agg #[.slice p' (f.length + 1) cap', .int .i64 (next + 1)], .int .i64 next, .int .i64 0]) ∧ RowF w' p' (splitP f next k i e)) ∧ Below w.heap.size w w' := by
  have HILX : Hid (i < f[k].es.length) := hil
  clear hil
  have H4 : Hid (f[k].es.length = 4) := hfour
  clear hfour
  have M0 := MkD.start w (.slice (some ⟨g, 0, none⟩) f.length cap) next e 37 40
  have HF : Hid (FullP w g f) := hF
  have HSM : Hid (∀ l ∈ f, l.es.length ≤ 4) := tree_small hT
  have h60 : 1 ≤ f.length ∧ f.length ≤ 60 := by have := ((treeB_iff f next).1 hT).1; omega
  have hnx : 2 ≤ next ∧ next ≤ 100000 := by have := ((treeB_iff f next).1 hT).1; omega
  obtain ⟨qa, ca, hp⟩ := hF.pages k hk
  have HP : Hid (PgC w g (k * 2) qa ca f[k]) := hp
  have hgw := hF.lt
  have hca2 := hp.cap
  have hs4 := HSM.out f[k] (List.getElem_mem _)
  have HPL : Hid (PlaceE f[k].es e i false) := hP
  have hi := hP.le
  have hk2 : (k : Int) < (f.length : Int) := by omega
  have HR : Hid (RowP _ _ _) := hF.rowP.next ((((Below.refl w.heap.size w).alloc (Nat.le_refl _) (.cells #[.slice (some ⟨g, 0, none⟩) f.length cap, .int .i64 next] 37)).alloc (by simp) (.cells #[.string e.key, .int .i64 e.id] 40)).alloc (by simp; omega) (.cells #[.slice none 0 0, .int .i64 0] 37))
  clear hp hF hT hP
  go_enter Try.func52, Try.ntmps52
  go_wp2_with fail
  generalize ((w.alloc (.cells #[.slice (some ⟨g, 0, none⟩) f.length cap, .int .i64 next] 37)).alloc (.cells #[.string e.key, .int .i64 e.id] 40)).alloc (.cells #[.slice none 0 0, .int .i64 0] 37) = W0 at M0 HR ⊢
  have a0 := M0.c0
  have a1 := M0.c1
  have b0 := M0.d0
  have b1 := M0.d1
  go_wp2_with (go_at_call 59; refine (specPlace_any (some ⟨g, 0, none⟩) cap f next e _ (HR.out.next (by (repeat (first | (with_reducible exact Below.refl _ _) | (with_reducible assumption) | (with_reducible apply below_drewN) | (with_reducible apply Below.drew) | ((with_reducible refine Below.setCell ?_ ?_ _); rotate_left; focus (first | (simp; done) | (simp; omega) | omega)) | ((with_reducible refine Below.alloc ?_ ?_ _); rotate_left; focus (first | (simp; done) | (simp; omega) | omega)))))) (by omega) (by omega) (fun l hl => Nat.le_trans (HSM.out l hl) (by omega))).mono ?_; rintro e' w2 ⟨he2, hb2⟩; rw [hkk] at he2; subst he2; have hB2 : Below W0.heap.size W0 w2 := (show Below W0.heap.size W0 _ by (repeat (first | (with_reducible exact Below.refl _ _) | (with_reducible assumption) | (with_reducible apply below_drewN) | (with_reducible apply Below.drew) | ((with_reducible refine Below.setCell ?_ ?_ _); rotate_left; focus (first | (simp; done) | (simp; omega) | omega)) | ((with_reducible refine Below.alloc ?_ ?_ _); rotate_left; focus (first | (simp; done) | (simp; omega) | omega))))).trans (hb2.mono (by simp)); clear hb2; have M2 := M0.next hB2; clear HR M0 a0 a1 b0 b1 hB2; have a0 := M2.c0; have x1 := (M2.bel.cell hgw).trans HP.out.row)
  go_loopw [9] (fun i' wr => ∃ q : Nat, q ≤ i ∧ i' = .int .i64 q ∧ Below w2.heap.size w2 wr) (fun i' _ => i - (intOf i').toNat)
  case atStart => exact ⟨0, Nat.zero_le _, rfl, Below.refl _ _⟩
  case round =>
    obtain ⟨q, hq, rfl, hbel⟩ := hrel
    have M := M2.next hbel
    have HM : Hid (MkD _ _ _ _ _) := M
    have hz := M.lt
    have u2 : ∀ u : Under wr, u.x.cell? ⟨w.heap.size + 1, 0, none⟩ = some (.string e.key) := fun u => (u.h.cell (show w.heap.size + 1 < _ by omega)).trans M.d0
    have u3 : ∀ u : Under wr, u.x.cell? ⟨w.heap.size + 1, 1, none⟩ = some (.int .i64 e.id) := fun u => (u.h.cell (show w.heap.size + 1 < _ by omega)).trans M.d1
    have hnu : Nonempty (Under wr) := ⟨⟨wr, Below.refl _ _⟩⟩
    have hwz := M.bel.size
    by_cases hlt : q < i
    · have hql : q < f[k].es.length := by omega
      obtain ⟨b, off, rfl, hbl, hc⟩ := HP.out.ents.resolve_left (by omega)
      obtain ⟨y0, y1⟩ := hc q hql
      have u0 : ∀ u : Under wr, u.x.cell? ⟨b, off + q * 2, none⟩ = some (.string f[k].es[q].key) := fun u => (u.h.cell (Nat.lt_of_lt_of_le hbl hwz)).trans ((M.bel.cell hbl).trans y0)
      have u1 : ∀ u : Under wr, u.x.cell? ⟨b, off + q * 2 + 1, none⟩ = some (.int .i64 f[k].es[q].id) := fun u => (u.h.cell (Nat.lt_of_lt_of_le hbl hwz)).trans ((M.bel.cell hbl).trans y1)
      have hlt2 : (q : Int) < (f[k].es.length : Int) := by omega
      have hls : lessE f[k].es[q] e = true := HPL.out.lo q hql hlt
      obtain ⟨x, hx⟩ : ∃ x, x = f[k].es[q] := ⟨_, rfl⟩
      rw [← hx] at u0 u1 hls
      have HLS : Hid (∀ u : Under wr, Calls Try.prog 99 #[.agg #[.string x.key, .int .i64 x.id], .agg #[.string e.key, .int .i64 e.id]] u.x fun e' w' => e' = .returned (.bool true) ∧ Below u.x.heap.size u.x w') := fun u => by
        have h := specLess_any x.key e.key x.id e.id u.x
        rw [show lessE ⟨x.key, x.id⟩ ⟨e.key, e.id⟩ = true from hls] at h; exact h
      clear hc y0 y1 M hx hls
      go_wp2_with fail
      refine wp_region_under (by kernel_rfl) (by kernel_rfl) ?_
      repeat (go_big_quiet_step ((go_at_call 99; exact calls_under _ (HLS.out _))))
      refine wpQuiet_nil ?_
      rintro _ ⟨u, rfl⟩
      have hbu := hbel.trans (u.h.mono hbel.size)
      go_wp2_with fail
      go_roundw
      case rel => exact ⟨q + 1, by omega, by go_num, hbu⟩
      case measure => simp [intOf]; omega
    · obtain rfl : q = i := by omega
      clear M
      have hql : q < f[k].es.length := HILX.out
      have hqe : ¬ f[k].es[q] = e := fun h => by have := HPL.out.at_.2 ⟨hql, h⟩; cases this
      have hql2 : (q : Int) < (f[k].es.length : Int) := by omega
      obtain ⟨b, off, rfl, hbl, hc⟩ := HP.out.ents.resolve_left (by omega)
      obtain ⟨y0, y1⟩ := hc q hql
      have u0 : ∀ u : Under wr, u.x.cell? ⟨b, off + q * 2, none⟩ = some (.string f[k].es[q].key) := fun u => (u.h.cell (Nat.lt_of_lt_of_le hbl hwz)).trans ((HM.out.bel.cell hbl).trans y0)
      have u1 : ∀ u : Under wr, u.x.cell? ⟨b, off + q * 2 + 1, none⟩ = some (.int .i64 f[k].es[q].id) := fun u => (u.h.cell (Nat.lt_of_lt_of_le hbl hwz)).trans ((HM.out.bel.cell hbl).trans y1)
      have hls : lessE f[k].es[q] e = false := HPL.out.hi q hql (Nat.le_refl _)
      obtain ⟨x, hx⟩ : ∃ x, x = f[k].es[q] := ⟨_, rfl⟩
      have hbe : (x.key.toList == e.key.toList && x.id == e.id) = false := by rw [Bool.eq_false_iff]; intro h; exact hqe (by rw [← hx]; exact (ent_beq _ _).1 h)
      rw [← hx] at u0 u1 hls
      have qn : ∀ W : World, (binOp .eql 40 (.agg #[.string x.key, .int .i64 x.id]) (.agg #[.string e.key, .int .i64 e.id])).run Try.prog W = .ok (.bool false) W := fun W => by rw [eqlEnt x e W, hbe]
      have HLS : Hid (∀ u : Under wr, Calls Try.prog 99 #[.agg #[.string x.key, .int .i64 x.id], .agg #[.string e.key, .int .i64 e.id]] u.x fun e' w' => e' = .returned (.bool false) ∧ Below u.x.heap.size u.x w') := fun u => by
        have h := specLess_any x.key e.key x.id e.id u.x
        rw [show lessE ⟨x.key, x.id⟩ ⟨e.key, e.id⟩ = false from hls] at h; exact h
      have HU : Hid ((∀ u : Under wr, u.x.cell? ⟨b, off + q * 2, none⟩ = some (.string x.key)) ∧ ∀ u : Under wr, u.x.cell? ⟨b, off + q * 2 + 1, none⟩ = some (.int .i64 x.id)) := ⟨u0, u1⟩
      clear hc y0 y1 hls hbe hx hqe
      go_wp2_with fail
      refine wp_region_under (by kernel_rfl) (by kernel_rfl) ?_
      repeat (go_big_quiet_step ((go_at_call 99; exact calls_under _ (HLS.out _))))
      refine wpQuiet_nil ?_
      rintro _ ⟨u, rfl⟩
      obtain ⟨w3, hb3⟩ := u
      dsimp only
      have HB3 : Hid (Below w2.heap.size w2 w3) := hbel.trans (hb3.mono hbel.size)
      have v0 : ∀ u : Under w3, u.x.cell? ⟨b, off + q * 2, none⟩ = some (.string x.key) := fun u => HU.out.1 ⟨u.x, hb3.trans (u.h.mono hb3.size)⟩
      have v1 : ∀ u : Under w3, u.x.cell? ⟨b, off + q * 2 + 1, none⟩ = some (.int .i64 x.id) := fun u => HU.out.2 ⟨u.x, hb3.trans (u.h.mono hb3.size)⟩
      have v2 : ∀ u : Under w3, u.x.cell? ⟨w.heap.size + 1, 0, none⟩ = some (.string e.key) := fun u => u2 ⟨u.x, hb3.trans (u.h.mono hb3.size)⟩
      have v3 : ∀ u : Under w3, u.x.cell? ⟨w.heap.size + 1, 1, none⟩ = some (.int .i64 e.id) := fun u => u3 ⟨u.x, hb3.trans (u.h.mono hb3.size)⟩
      have hnu3 : Nonempty (Under w3) := ⟨⟨w3, Below.refl _ _⟩⟩
      clear u0 u1 u2 u3 hnu HLS HU hb3 hbel
      go_wp2_with fail
      refine wp_region_under (by kernel_rfl) (by kernel_rfl) ?_
      repeat (go_big_quiet_step (fail))
      refine wpQuiet_nil ?_
      rintro _ ⟨u, rfl⟩
      obtain ⟨w4, hb4⟩ := u
      dsimp only
      have M4 := M2.next (HB3.out.trans (hb4.mono HB3.out.size))
      have HM4 : Hid (MkD _ _ _ _ _) := M4
      clear v0 v1 v2 v3 hnu3 hb4 HB3 HM qn
      clear hql hql2
      have t4 : ((f[k].es.length : Int) == 4) = true := by have := H4.out; simp; omega
      have t5 : ((f.length : Int) == 60) = false := beq_eq_false_iff_ne.mpr (by omega)
      have t6 : (next == 100000) = false := beq_eq_false_iff_ne.mpr (by omega)
      have B4 := M4.bel
      have c0 := M4.c0
      have c1 := M4.c1
      have z0 := M4.z0
      have z1 := M4.z1
      have hz4 := M4.lt
      clear M4 x1 a0
      go_wp2_with (go_at_call 53; refine (specOwn_any (some ⟨g, 0, none⟩) cap f next _ (HF.out.rowP.next (by (repeat (first | (with_reducible exact Below.refl _ _) | (with_reducible assumption) | (with_reducible apply below_drewN) | (with_reducible apply Below.drew) | ((with_reducible refine Below.setCell ?_ ?_ _); rotate_left; focus (first | (simp; done) | (simp; omega) | omega)) | ((with_reducible refine Below.alloc ?_ ?_ _); rotate_left; focus (first | (simp; done) | (simp; omega) | omega)))))) (by omega) (fun l hl => Nat.le_trans (HSM.out l hl) (by omega))).mono ?_; rintro e' w5 ⟨⟨v5, rfl, hO⟩, hb5⟩; obtain ⟨g5, cap5, rfl, hg5, _⟩ := (OwnT.form hO).resolve_left (fun h => by rw [h.2] at hk; simp at hk); have hB5 : Below w4.heap.size w4 w5 := hb5; have M5 : Hid (MkD _ _ _ _ _) := HM4.out.next hB5; have HO : Hid (OwnT _ _ _ _) := hO; clear hb5 hO c0 c1 z0 z1; have c0 := M5.out.c0; have c1 := M5.out.c1; have z0 := M5.out.z0; have z1 := M5.out.z1)
      have M6 := M5.out.set (v' := .slice (some ⟨g5, 0, none⟩) f.length cap5)
      have O6 := (HO.out.grown (grown_set (g := w.heap.size) (o := 0) (v := .slice (some ⟨g5, 0, none⟩) f.length cap5)) (by omega)).grown (grown_set (g := w.heap.size) (o := 1) (v := .int .i64 next)) (by omega)
      have hs6 : w4.heap.size ≤ ((w5.setCell ⟨w.heap.size, 0, none⟩ (.slice (some ⟨g5, 0, none⟩) f.length cap5)).setCell ⟨w.heap.size, 1, none⟩ (.int .i64 next)).heap.size := by simp; exact hB5.size
      generalize (w5.setCell ⟨w.heap.size, 0, none⟩ (.slice (some ⟨g5, 0, none⟩) f.length cap5)).setCell ⟨w.heap.size, 1, none⟩ (.int .i64 next) = W6 at M6 O6 hs6 ⊢
      have hg6 : g5 < W6.heap.size := by
        obtain ⟨vs, xs, hPt⟩ := O6
        exact (hPt.row.lt g5 rfl).2
      have HO6 : Hid (OwnT _ _ _ _) := O6
      have HM6 : Hid (MkD _ _ _ _ _) := M6
      have b0 := M6.d0
      have b1 := M6.d1
      have hz6 := M6.lt
      have hp6 := HP.out.next M6.bel
      obtain ⟨q', hqs, hlie, hqq⟩ := hp6.tail q hi
      have HLT : Hid (LieE W6 (some ⟨b, off, none⟩ : Option Addr) (f[k].es.take q)) := hp6.lie_take q
      have HLD : Hid (LieE W6 q' (f[k].es.drop q)) := hlie
      have HQ : Hid ((q' = none → ca - q = 0) ∧ ((some ⟨b, off, none⟩ : Option Addr) = none → ca = 0)) := ⟨tail_none hp6 hqs hi hqq, hp6.none_cap⟩
      have qs1 := cutHeadO (some ⟨b, off, none⟩ : Option Addr) f[k].es.length ca q (by omega) (fun h => by have := hp6.none_cap h; omega)
      obtain ⟨L, hL⟩ : ∃ L, L = f[k].es.length + 1 := ⟨_, rfl⟩
      have HN : Hid ((f[k].es.take q).length = q ∧ (f[k].es.drop q).length = f[k].es.length - q ∧ q + 1 + (f[k].es.length - q) = L ∧ (insE f[k].es q e).length = L) := ⟨by rw [List.length_take]; omega, by rw [List.length_drop], by omega, by rw [insE_len _ _ _ hi, hL]⟩
      have OA := World.ownsRow_made (base := W6.heap.size) (size := 2) (e := 40) W6 #[] 0 (Nat.le_refl _) (by unfold maxLen; omega) rfl
      have OB := OA.alloc (.cells #[.string e.key, .int .i64 e.id] 40)
      have OC := World.ownsRow_made (base := W6.heap.size) (size := 2) (e := 40) (W6.alloc (.cells #[.string e.key, .int .i64 e.id] 40)) #[] 0 (by simp) (by unfold maxLen; omega) rfl
      simp only [size_alloc] at OC
      have HOA : Hid (World.ownsRow _ _ _ _ _ _ _) := OA
      have HOB : Hid (World.ownsRow _ _ _ _ _ _ _) := OB
      have HOC : Hid (World.ownsRow _ _ _ _ _ _ _) := OC
      have HLB : Hid (LieE ((W6.alloc (.cells #[] 40)).alloc (.cells #[.string e.key, .int .i64 e.id] 40)) (some ⟨W6.heap.size + 1, 0, none⟩) [e]) := (by have h := lieE_new (W6.alloc (.cells #[] 40)) e; rw [size_alloc] at h; exact h)
      have HLC : Hid (LieE ((W6.alloc (.cells #[.string e.key, .int .i64 e.id] 40)).alloc (.cells #[] 40)) (some ⟨W6.heap.size, 0, none⟩) [e]) := (lieE_new W6 e).next ((Below.refl _ _).alloc (Nat.le_refl _) _)
      clear hp6 hlie hqq OA OB OC O6 M6 c0 c1 z0 z1 HO M5 HM4
      have hz6b : w.heap.size + 1 < W6.heap.size := by omega
      have hi1 : (q : Int) ≤ (ca : Int) := by omega
      have hi2 : (q : Int) ≤ (f[k].es.length : Int) := by omega
      go_cut [8] (fun s8 wx => ∃ gl cl, s8 = .slice (some ⟨gl, 0, none⟩) L cl ∧ wx.ownsRow W6.heap.size 40 2 (.slice (some ⟨gl, 0, none⟩) L cl) L (flatE (insE f[k].es q e)) ∧ Below W6.heap.size W6 wx)
      case first =>
        clear hL
        go_region_law (first
          | (refine step_appT rfl (.tmp 65) (.tmp 68) rfl W6.heap.size 0 _ _ [] rfl (by first | exact HOA.out | exact HOB.out | exact HOC.out) (some ⟨b, off, none⟩ : Option Addr) q ca (f[k].es.take q) rfl HN.out.1 HQ.out.2 (HLT.out.next (by (repeat (first | (with_reducible exact Below.refl _ _) | (with_reducible assumption) | (with_reducible apply below_drewN) | (with_reducible apply Below.drew) | ((with_reducible refine Below.setCell ?_ ?_ _); rotate_left; focus (first | (simp; done) | (simp; omega) | omega)) | ((with_reducible refine Below.alloc ?_ ?_ _); rotate_left; focus (first | (simp; done) | (simp; omega) | omega)))))) q (Nat.zero_add q) (by omega) (by omega) (by first | (simp; done) | (simp; omega)) ?_; intro g1 c1 w1' o1 gr1; have b1' : Below W6.heap.size W6 w1' := Below.grown (by (repeat (first | (with_reducible exact Below.refl _ _) | (with_reducible assumption) | (with_reducible apply below_drewN) | (with_reducible apply Below.drew) | ((with_reducible refine Below.setCell ?_ ?_ _); rotate_left; focus (first | (simp; done) | (simp; omega) | omega)) | ((with_reducible refine Below.alloc ?_ ?_ _); rotate_left; focus (first | (simp; done) | (simp; omega) | omega))))) gr1 (by first | (simp; done) | (simp; omega)) (fun x hx => by first | exact (HOA.out.lt x hx).1 | exact (HOB.out.lt x hx).1 | exact (HOC.out.lt x hx).1); have hz1 := b1'.size; have f0 := (b1'.cell (show w.heap.size + 1 < W6.heap.size by omega)).trans b0; have f1 := (b1'.cell (show w.heap.size + 1 < W6.heap.size by omega)).trans b1; (first | have L1 : Hid (LieE w1' _ [e]) := LieE.grown2 (b := W6.heap.size) (vb := W6.heap.size + 1) gr1 rfl HLB.out (by omega) | have L1 : Hid (LieE w1' _ [e]) := LieE.grown2 (b := W6.heap.size + 1) (vb := W6.heap.size) gr1 rfl HLC.out (by omega) | skip); have H1 : Hid (World.ownsRow _ _ _ _ _ _ _) := o1; have HB2 : Hid (Below W6.heap.size W6 w1') := b1'; clear o1 gr1 b1')
          | (refine step_appT rfl (.tmp 69) (.tmp 71) rfl W6.heap.size q g1 c1 ([] ++ flatE (f[k].es.take q)) rfl (by first | exact H1.out | exact H1.out.alloc _) _ 1 1 [e] rfl rfl (fun h => by cases h) (by first | exact lieE_new _ _ | exact L1.out) (q + 1) rfl (by omega) (by omega) (by first | exact hz1 | (simp; omega)) ?_; intro g2 c2 w2' o2 gr2; have b2' : Below W6.heap.size W6 w2' := Below.grown (by first | exact HB2.out | exact HB2.out.alloc hz1 _) gr2 (by first | exact hz1 | (simp; omega)) (fun x hx => (H1.out.lt x hx).1); have hz2 := b2'.size; have H2 : Hid (World.ownsRow _ _ _ _ _ _ _) := o2; have HB3 : Hid (Below W6.heap.size W6 w2') := b2'; clear o2 gr2 b2')
          | (refine step_appT rfl (.tmp 72) (.tmp 75) rfl W6.heap.size (q + 1) g2 c2 ([] ++ flatE (f[k].es.take q) ++ flatE [e]) rfl H2.out q' (f[k].es.length - q) (ca - q) (f[k].es.drop q) rfl HN.out.2.1 HQ.out.1 (HLD.out.next HB3.out) L HN.out.2.2.1 (by omega) (by omega) hz2 ?_; intro g3 c3 w3' o3 gr3; have b3' : Below W6.heap.size W6 w3' := Below.grown HB3.out gr3 hz2 (fun x hx => (H2.out.lt x hx).1); have H3 : Hid (w3'.ownsRow W6.heap.size 40 2 (.slice (some ⟨g3, 0, none⟩) L c3) L (flatE (insE f[k].es q e))) := (by rw [← insE_flat2]; exact o3); have HB4 : Hid (Below W6.heap.size W6 w3') := b3'; clear o3 gr3 b3'))
        all_goals
          try go_wp2_with fail
          go_meet
          exact ⟨g3, c3, rfl, H3.out, HB4.out⟩
      case rest =>
      obtain ⟨gl, cl, rfl, o7, B7⟩ := hcut
      have hE7 : OwnE wc W6.heap.size (.slice (some ⟨gl, 0, none⟩) L cl) (insE f[k].es q e) := (by have h := o7; unfold OwnE; rw [HN.out.2.2.2]; exact h)
      have O7 := HO6.out.next B7
      have M7 := HM6.out.next B7
      obtain ⟨y0, pk, ck, y1, _⟩ := (match O7.rowP with | .inl h0 => absurd h0 (fun h0 => by rw [h0] at hk; simp at hk) | .inr h => (by obtain ⟨g', hg', R⟩ := h; cases hg'; exact R.cells k hk) : wc.cell? ⟨g5, k * 2, none⟩ = some (.int .i64 f[k].num) ∧ ∃ p cap, wc.cell? ⟨g5, k * 2 + 1, none⟩ = some (.slice p f[k].es.length cap) ∧ InE wc p f[k].es)
      have zk : wc.frozen? ⟨g5, k * 2 + 1, none⟩ = false := by
        obtain ⟨vs, xs, hPt⟩ := O7
        exact own_soft hPt.row _
      have k0 := M7.c0
      have hz7 := M7.lt
      have hgw5 : g5 < wc.heap.size := Nat.lt_of_lt_of_le hg6 B7.size
      have HO8 : Hid (OwnT (wc.setCell ⟨g5, k * 2 + 1, none⟩ (.slice (some ⟨gl, 0, none⟩) L cl)) w4.heap.size (.slice (some ⟨g5, 0, none⟩) f.length cap5) (f.set k ⟨f[k].num, insE f[k].es q e⟩)) := HO6.out.swap B7 hk hE7 hs6
      have HM8 : Hid (MkD w (wc.setCell ⟨g5, k * 2 + 1, none⟩ (.slice (some ⟨gl, 0, none⟩) L cl)) (.slice (some ⟨g5, 0, none⟩) f.length cap5) next e) := M7.step ((Below.refl (w.heap.size + 3) wc).setCell (show w.heap.size + 3 ≤ g5 by omega) _) (Nat.le_refl _)
      have HLL : Hid (wc.ownsRow W6.heap.size 40 2 (.slice (some ⟨gl, 0, none⟩) L cl) L (flatE (insE f[k].es q e)) ∧ L = f[k].es.length + 1) := ⟨o7, hL⟩
      clear o7 hE7 O7 M7 HLT HLD HOA HOB HOC HLB HLC HQ hqs qs1 HO6 HM6 b0 b1 hL
      have hL4 : ¬ ((L : Int) ≤ 4) := by have := HLL.out.2; have := H4.out; omega
      have hL5 : (L : Int) = 5 := by have := HLL.out.2; have := H4.out; omega
      have HL5 : Hid (L = 5) := (by omega : L = 5)
      go_wp2_with fail
      have hgl6 : W6.heap.size ≤ gl := (HLL.out.1.lt gl rfl).1
      have HL8 : Hid ((wc.setCell ⟨g5, k * 2 + 1, none⟩ (.slice (some ⟨gl, 0, none⟩) L cl)).ownsRow W6.heap.size 40 2 (.slice (some ⟨gl, 0, none⟩) L cl) L (flatE (insE f[k].es q e))) := World.ownsRow.kept HLL.out.1 grown_set (.inr (fun h => absurd (show gl = g5 from Option.some.inj h) (by omega)))
      have hs8 : W6.heap.size ≤ (wc.setCell ⟨g5, k * 2 + 1, none⟩ (.slice (some ⟨gl, 0, none⟩) L cl)).heap.size := by simp; exact B7.size
      generalize wc.setCell ⟨g5, k * 2 + 1, none⟩ (.slice (some ⟨gl, 0, none⟩) L cl) = W8 at HO8 HM8 HL8 hs8 ⊢
      obtain ⟨l5, hl5⟩ : ∃ l5, l5 = insE f[k].es q e := ⟨_, rfl⟩
      have HIL : Hid (l5.length = 5) := (by rw [hl5, HN.out.2.2.2]; exact HL5.out)
      have HI5 : Hid (l5 = insE f[k].es q e) := hl5
      rw [← hl5] at HO8 HL8
      clear hl5 HLL k0 y0 y1 zk B7 hgw5 HN
      have hcl : 5 ≤ cl := by
        obtain ⟨_, _, h, _, _, h2, _⟩ := owns_form HL8.out (by omega)
        cases h; omega
      have M8 := HM8.out
      have k0 := M8.c0
      have hz8 := M8.lt
      obtain ⟨y0, pk, ck, y1, _⟩ := (match HO8.out.rowP with | .inl h0 => absurd h0 (fun h0 => by have h1 := congrArg List.length h0; rw [List.length_set, List.length_nil] at h1; omega) | .inr h => (by obtain ⟨g', hg', R⟩ := h; cases hg'; have := R.cells k (by rw [List.length_set]; exact hk); rw [List.getElem_set_self] at this; exact this) : W8.cell? ⟨g5, k * 2, none⟩ = some (.int .i64 f[k].num) ∧ ∃ p cap, W8.cell? ⟨g5, k * 2 + 1, none⟩ = some (.slice p l5.length cap) ∧ InE W8 p l5)
      have hfl : f.length = (f.set k ⟨f[k].num, l5⟩).length := by rw [List.length_set]
      have HO8' : Hid (OwnT W8 w4.heap.size (.slice (some ⟨g5, 0, none⟩) (f.set k ⟨f[k].num, l5⟩).length cap5) (f.set k ⟨f[k].num, l5⟩)) := (by have h := HO8.out; rw [hfl] at h; exact h)
      have zk : W8.frozen? ⟨g5, k * 2 + 1, none⟩ = false := by
        obtain ⟨vs, xs, hPt⟩ := HO8'.out
        exact own_soft hPt.row _
      have HFL : Hid (f.length = (f.set k ⟨f[k].num, l5⟩).length) := hfl
      clear hfl
      have hg8 : g5 < W8.heap.size := Nat.lt_of_lt_of_le hg6 hs8
      have qs2 : ∀ W : World, (Instr.slice 47 (.slice (some ⟨gl, 0, none⟩) L cl) none (some (.int .i64 2)) none).run Try.prog W = .ok (.slice (some ⟨gl, 0, none⟩) 2 cl) W := cutHeadE gl 0 L cl 2 (by omega)
      have qs3 : ∀ W : World, (Instr.slice 47 (.slice (some ⟨gl, 0, none⟩) L cl) (some (.int .i64 2)) none none).run Try.prog W = .ok (.slice (some ⟨gl, 0 + 2 * 2, none⟩) (L - 2) (cl - 2)) W := fun W => by
        have h := cutTailE gl 0 L cl 2 (by have := HL5.out; omega) W
        rw [if_neg (by omega)] at h
        exact h
      have HLE : Hid (LieE W8 (some ⟨gl, 0, none⟩) (l5.take 2) ∧ LieE W8 (some ⟨gl, 0 + 2 * 2, none⟩) (l5.drop 2)) := lie_parts HL8.out (by rw [HIL.out]; exact HL5.out.symm)
      have HLN : Hid ((l5.take 2).length = 2 ∧ (l5.drop 2).length = L - 2) := ⟨by rw [List.length_take, HIL.out]; rfl, by rw [List.length_drop, HIL.out, HL5.out]⟩
      clear M8
      go_cut [] (fun wx => OwnT wx w4.heap.size (.slice (some ⟨g5, 0, none⟩) f.length cap5) (f.set k ⟨f[k].num, l5.take 2⟩) ∧ MkD w wx (.slice (some ⟨g5, 0, none⟩) f.length cap5) next e ∧ LieE wx (some ⟨gl, 0 + 2 * 2, none⟩) (l5.drop 2) ∧ W6.heap.size ≤ wx.heap.size)
      case first =>
        clear hL5
        go_region_held3 (fun w0 => w0.cell? ⟨w.heap.size, 0, none⟩ = some (.slice (some ⟨g5, 0, none⟩) f.length cap5)) ((refine keepD k0 ?_; (repeat (first | (with_reducible exact Below.refl _ _) | (with_reducible assumption) | (with_reducible apply below_drewN) | (with_reducible apply Below.drew) | ((with_reducible refine Below.setCell ?_ ?_ _); rotate_left; focus (first | (simp; done) | (simp; omega) | omega)) | ((with_reducible refine Below.alloc ?_ ?_ _); rotate_left; focus (first | (simp; done) | (simp; omega) | omega)))))) ((refine step_appT rfl (.tmp 93) (.tmp 96) rfl W8.heap.size 0 W8.heap.size 0 [] (by simp [Act.eval]) (World.ownsRow_made (size := 2) (base := W8.heap.size) (e := 40) _ #[] 0 (by simp) (by unfold maxLen; omega) rfl) (some ⟨gl, 0, none⟩) 2 cl (l5.take 2) (by simp [Act.eval]) HLN.out.1 (fun h => by cases h) (HLE.out.1.next (by (repeat (first | (with_reducible exact Below.refl _ _) | (with_reducible assumption) | (with_reducible apply below_drewN) | (with_reducible apply Below.drew) | ((with_reducible refine Below.setCell ?_ ?_ _); rotate_left; focus (first | (simp; done) | (simp; omega) | omega)) | ((with_reducible refine Below.alloc ?_ ?_ _); rotate_left; focus (first | (simp; done) | (simp; omega) | omega)))))) 2 rfl (by omega) (by omega) (by simp) ?_; intro g9 c9 w9 o9 gr9; have B9 : Below W8.heap.size W8 w9 := Below.grown (show Below W8.heap.size W8 _ by (repeat (first | (with_reducible exact Below.refl _ _) | (with_reducible assumption) | (with_reducible apply below_drewN) | (with_reducible apply Below.drew) | ((with_reducible refine Below.setCell ?_ ?_ _); rotate_left; focus (first | (simp; done) | (simp; omega) | omega)) | ((with_reducible refine Below.alloc ?_ ?_ _); rotate_left; focus (first | (simp; done) | (simp; omega) | omega))))) gr9 (by simp) (fun x hx => Nat.le_of_eq (Option.some.inj hx)); have hz9 := B9.size; have B93 : Below (w.heap.size + 3) W8 w9 := B9.mono (by omega); have y19 := (B9.cell hg8).trans y1; have z19 := (B9.frozen (p := ⟨g5, k * 2 + 1, none⟩) hg8).trans zk; have HO9 : Hid (w9.ownsRow W8.heap.size 40 2 (.slice (some ⟨g9, 0, none⟩) 2 c9) 2 (flatE (l5.take 2))) := o9; have HB9 : Hid (Below W8.heap.size W8 w9) := B9; clear o9 gr9))
        all_goals
          try go_wp2_with fail
          go_meet
          have hE9 : OwnE w9 W8.heap.size (.slice (some ⟨g9, 0, none⟩) 2 c9) (l5.take 2) := (by have h := HO9.out; unfold OwnE; rw [HLN.out.1]; exact h)
          have O9 := HO8'.out.swap HB9.out (by rw [List.length_set]; exact hk) hE9 (by omega)
          rw [List.set_set, List.getElem_set_self, ← HFL.out] at O9
          refine ⟨O9, HM8.out.step (B93.setCell (show w.heap.size + 3 ≤ g5 by omega) _) (Nat.le_refl _), ?_, by simp; omega⟩
          exact LieE.grownAt grown_set (HLE.out.2.next HB9.out) (by omega)
      case rest =>
      obtain ⟨O10, M10, lie10, hs10⟩ := hcut
      have HO10 : Hid (OwnT wc w4.heap.size (.slice (some ⟨g5, 0, none⟩) f.length cap5) (f.set k ⟨f[k].num, l5.take 2⟩)) := O10
      have HM10 : Hid (MkD _ _ _ _ _) := M10
      have HL10 : Hid (LieE wc (some ⟨gl, 0 + 2 * 2, none⟩) (l5.drop 2)) := lie10
      clear HO8 HO8' HFL HM8 HL8 HLE y0 y1 zk k0 hg8 O10 M10 lie10 qs2 hz8 hs8
      generalize wc = W10 at HO10 HM10 HL10 hs10 ⊢
      have c1 := HM10.out.c1
      have z1 := HM10.out.z1
      have hz10 := HM10.out.lt
      clear hL5 hL4
      have OA := World.ownsRow_made (base := W10.heap.size) (size := 2) (e := 40) W10 #[] 0 (Nat.le_refl _) (by unfold maxLen; omega) rfl
      have OB := OA.alloc (.cells #[.int .i64 0, .slice none 0 0] 86)
      have OC := World.ownsRow_made (base := W10.heap.size) (size := 2) (e := 40) (W10.alloc (.cells #[.int .i64 0, .slice none 0 0] 86)) #[] 0 (by simp) (by unfold maxLen; omega) rfl
      simp only [size_alloc] at OC
      have HOA : Hid (World.ownsRow _ _ _ _ _ _ _) := OA
      have HOB : Hid (World.ownsRow _ _ _ _ _ _ _) := OB
      have HOC : Hid (World.ownsRow _ _ _ _ _ _ _) := OC
      have HZB : Hid (ZP ((W10.alloc (.cells #[] 40)).alloc (.cells #[.int .i64 0, .slice none 0 0] 86)) (W10.heap.size + 1)) := (by have h := zp_new (W10.alloc (.cells #[] 40)); rw [size_alloc] at h; exact h)
      have HZC : Hid (ZP ((W10.alloc (.cells #[.int .i64 0, .slice none 0 0] 86)).alloc (.cells #[] 40)) W10.heap.size) := (zp_new W10).next ((Below.refl _ _).alloc (Nat.le_refl _) _)
      have hz10b : w.heap.size < W10.heap.size := by omega
      clear OA OB OC
      go_wp2_with fail
      go_cut [11] (fun s11 wx => ∃ bp gr cr, s11 = .pointer (some ⟨bp, 0, none⟩) ∧ PgB W10 wx bp gr cr (L - 2) next (l5.drop 2))
      case first =>
        go_region_law (refine step_appT rfl (.tmp 102) (.tmp 105) rfl W10.heap.size 0 _ _ [] rfl (by first | exact HOA.out | exact HOB.out | exact HOC.out) (some ⟨gl, 0 + 2 * 2, none⟩) (L - 2) (cl - 2) (l5.drop 2) rfl HLN.out.2 (fun h => by cases h) (HL10.out.next (by (repeat (first | (with_reducible exact Below.refl _ _) | (with_reducible assumption) | (with_reducible apply below_drewN) | (with_reducible apply Below.drew) | ((with_reducible refine Below.setCell ?_ ?_ _); rotate_left; focus (first | (simp; done) | (simp; omega) | omega)) | ((with_reducible refine Below.alloc ?_ ?_ _); rotate_left; focus (first | (simp; done) | (simp; omega) | omega)))))) (L - 2) (Nat.zero_add _) (by omega) (by have := HL5.out; omega) (by first | (simp; done) | (simp; omega)) ?_; intro g1 c1' w1' o1 gr1; have b1' : Below W10.heap.size W10 w1' := Below.grown (by (repeat (first | (with_reducible exact Below.refl _ _) | (with_reducible assumption) | (with_reducible apply below_drewN) | (with_reducible apply Below.drew) | ((with_reducible refine Below.setCell ?_ ?_ _); rotate_left; focus (first | (simp; done) | (simp; omega) | omega)) | ((with_reducible refine Below.alloc ?_ ?_ _); rotate_left; focus (first | (simp; done) | (simp; omega) | omega))))) gr1 (by first | (simp; done) | (simp; omega)) (fun x hx => by first | exact (HOA.out.lt x hx).1 | exact (HOB.out.lt x hx).1 | exact (HOC.out.lt x hx).1); have hz1 := b1'.size; have f1 := (b1'.cell (show w.heap.size < W10.heap.size by omega)).trans c1; have hzw1 : w.heap.size < w1'.heap.size := (by omega); (first | have Z1 : ZP w1' (W10.heap.size + 1) := ZP.grown2 (b := W10.heap.size) (vb := W10.heap.size + 1) gr1 rfl HZB.out (by omega) | have Z1 : ZP w1' W10.heap.size := ZP.grown2 (b := W10.heap.size + 1) (vb := W10.heap.size) gr1 rfl HZC.out (by omega) | skip); (try (have qz0 := Z1.c0; have qz1 := Z1.c1; have qz2 := Z1.z0; have qz3 := Z1.z1; have qz4 := Z1.lt)); have H1 : Hid (w1'.ownsRow W10.heap.size 40 2 (.slice (some ⟨g1, 0, none⟩) (L - 2) c1') (L - 2) (flatE (l5.drop 2))) := o1; have HB2 : Hid (Below W10.heap.size W10 w1') := b1'; clear o1 gr1 b1')
        all_goals
          try go_wp2_with fail
          go_meet
          refine ⟨_, g1, c1', rfl, ?_⟩
          first
            | exact PgB.late HB2.out H1.out
            | exact PgB.early Z1 HB2.out H1.out (by omega)
      case rest =>
      obtain ⟨bp, gr, cr, rfl, X11⟩ := hcut
      have HO11 : Hid (OwnT wc w4.heap.size (.slice (some ⟨g5, 0, none⟩) f.length cap5) (f.set k ⟨f[k].num, l5.take 2⟩)) := HO10.out.next X11.bel
      have HM11 : Hid (MkD _ _ _ _ _) := HM10.out.next X11.bel
      have HX11 : Hid (PgB W10 wc bp gr cr (L - 2) next (l5.drop 2)) := X11
      have r1 := HM11.out.c1
      have r2 := HM11.out.z1
      have hz11 := HM11.out.lt
      have hge11 := X11.ge
      have hnw : IntKind.i64.wrap (next + 1) = next + 1 := by rw [IntKind.wrap_i64]; omega
      clear HO10 HM10 HL10 HOA HOB HOC HZB HZC c1 z1 X11 qs3
      go_wp2_with fail
      have HM12 : Hid (MkD w (wc.setCell ⟨w.heap.size, 1, none⟩ (.int .i64 (next + 1))) (.slice (some ⟨g5, 0, none⟩) f.length cap5) (next + 1) e) := HM11.out.bump
      have HO12 : Hid (OwnT (wc.setCell ⟨w.heap.size, 1, none⟩ (.int .i64 (next + 1))) w4.heap.size (.slice (some ⟨g5, 0, none⟩) f.length cap5) (f.set k ⟨f[k].num, l5.take 2⟩)) := HO11.out.grown grown_set (by omega)
      have HX12 : Hid (PgB W10 (wc.setCell ⟨w.heap.size, 1, none⟩ (.int .i64 (next + 1))) bp gr cr (L - 2) next (l5.drop 2) ∨ True) := .inr trivial
      have HP12 : Hid (bp < (wc.setCell ⟨w.heap.size, 1, none⟩ (.int .i64 (next + 1))).heap.size ∧ (wc.setCell ⟨w.heap.size, 1, none⟩ (.int .i64 (next + 1))).cell? ⟨bp, 0, none⟩ = some (.int .i64 next) ∧ (wc.setCell ⟨w.heap.size, 1, none⟩ (.int .i64 (next + 1))).cell? ⟨bp, 1, none⟩ = some (.slice (some ⟨gr, 0, none⟩) (L - 2) cr) ∧ (wc.setCell ⟨w.heap.size, 1, none⟩ (.int .i64 (next + 1))).ownsRow W10.heap.size 40 2 (.slice (some ⟨gr, 0, none⟩) (L - 2) cr) (L - 2) (flatE (l5.drop 2))) := HX11.out.set (by omega)
      generalize wc.setCell ⟨w.heap.size, 1, none⟩ (.int .i64 (next + 1)) = W12 at HM12 HO12 HP12 ⊢
      clear HM11 HO11 HX11 HX12 r1 r2
      obtain ⟨vs, xs, hPt⟩ := HO12.out
      have hfl2 : (f.set k ⟨f[k].num, l5.take 2⟩).length = f.length := List.length_set
      rw [hfl2] at hPt
      have HPT : Hid (PartT W12 w4.heap.size (.slice (some ⟨g5, 0, none⟩) f.length cap5) f.length (f.set k ⟨f[k].num, l5.take 2⟩) f.length vs xs) := hPt
      have hxl : xs.length = f.length * 2 := hPt.row.1
      have HX1 : Hid (∀ u ∈ xs, u.oneCell' = true) := hPt.one hfl2
      have hcap5 : f.length ≤ cap5 := by
        obtain ⟨_, _, hv, _, _, hc, _⟩ := owns_form hPt.row (by omega)
        cases hv; exact hc
      have hg12 := (hPt.row.lt g5 rfl).2
      have ps1 := cutHeadP g5 0 f.length cap5 (k + 1) (by omega)
      have ps2 := cutTailP g5 0 f.length cap5 (k + 1) (by omega)
      obtain ⟨off5, ho5⟩ : ∃ o, o = if cap5 = k + 1 then 0 else 0 + (k + 1) * 2 := ⟨_, rfl⟩
      rw [← ho5] at ps2
      rw [Int.natCast_add, Int.natCast_one] at ps1 ps2
      have kw : IntKind.i64.wrap ((k : Int) + 1) = (k : Int) + 1 := by rw [IntKind.wrap_i64]; omega
      have HC3 : Hid (∀ j u, (xs.take ((k + 1) * 2))[j]? = some u → W12.cell? ((⟨g5, 0, none⟩ : Addr).add j) = some u) := own_take hPt.row _
      have HC4 : Hid (∀ j u, (xs.drop ((k + 1) * 2))[j]? = some u → W12.cell? ((⟨g5, off5, none⟩ : Addr).add j) = some u) := by
        show ∀ j u, (xs.drop ((k + 1) * 2))[j]? = some u → W12.cell? ((⟨g5, off5, none⟩ : Addr).add j) = some u
        by_cases h : cap5 = k + 1
        · rw [List.drop_eq_nil_of_le (by omega)]; intro j u hj; simp at hj
        · rw [ho5, if_neg h, Nat.zero_add]; exact own_drop hPt.row _
      have r0 := HM12.out.c0
      have rz0 := HM12.out.z0
      have hz12 := HM12.out.lt
      have hz12b : w.heap.size < W12.heap.size := by omega
      have p0 := HP12.out.2.1
      have p1 := HP12.out.2.2.1
      have hbp := HP12.out.1
      have hbpne : ¬ (bp = w.heap.size) := by omega
      have hbpne2 : ¬ (w.heap.size = bp) := by omega
      have OA := World.ownsRow_made (base := W12.heap.size) (size := 2) (e := 86) W12 #[] 0 (Nat.le_refl _) (by unfold maxLen; omega) rfl
      have OB := OA.alloc (.cells #[.int .i64 next, .slice (some ⟨gr, 0, none⟩) (L - 2) cr] 86)
      have OC := World.ownsRow_made (base := W12.heap.size) (size := 2) (e := 86) (W12.alloc (.cells #[.int .i64 next, .slice (some ⟨gr, 0, none⟩) (L - 2) cr] 86)) #[] 0 (by simp) (by unfold maxLen; omega) rfl
      simp only [size_alloc] at OC
      have HOA : Hid (World.ownsRow _ _ _ _ _ _ _) := OA
      have HOB : Hid (World.ownsRow _ _ _ _ _ _ _) := OB
      have HOC : Hid (World.ownsRow _ _ _ _ _ _ _) := OC
      have HLB : Hid (NewP ((W12.alloc (.cells #[] 86)).alloc (.cells #[.int .i64 next, .slice (some ⟨gr, 0, none⟩) (L - 2) cr] 86)) (W12.heap.size + 1) [.int .i64 next, .slice (some ⟨gr, 0, none⟩) (L - 2) cr]) := (by have h := newP_new (W12.alloc (.cells #[] 86)) next (.slice (some ⟨gr, 0, none⟩) (L - 2) cr); rw [size_alloc] at h; exact h)
      have HLC : Hid (NewP ((W12.alloc (.cells #[.int .i64 next, .slice (some ⟨gr, 0, none⟩) (L - 2) cr] 86)).alloc (.cells #[] 86)) W12.heap.size [.int .i64 next, .slice (some ⟨gr, 0, none⟩) (L - 2) cr]) := (newP_new W12 next _).next ((Below.refl _ _).alloc (Nat.le_refl _) _)
      have HE2 : Hid (∀ u ∈ [Value.int .i64 next, .slice (some ⟨gr, 0, none⟩) (L - 2) cr], u.oneCell' = true) := two_oneP _ _ _ _
      have hm5 : f.length - (k + 1) ≤ 60 := by omega
      have HNN : Hid (k + 1 + 1 + (f.length - (k + 1)) = f.length + 1) := (by omega : k + 1 + 1 + (f.length - (k + 1)) = f.length + 1)
      clear ho5 hPt OA OB OC hfl2
      go_wp2_with fail
      go_cut [] (fun wx => ∃ gn cn, MkD w wx (.slice (some ⟨gn, 0, none⟩) (f.length + 1) cn) (next + 1) e ∧ wx.ownsRow W12.heap.size 86 2 (.slice (some ⟨gn, 0, none⟩) (f.length + 1) cn) (f.length + 1) (xs.take ((k + 1) * 2) ++ [.int .i64 next, .slice (some ⟨gr, 0, none⟩) (L - 2) cr] ++ xs.drop ((k + 1) * 2)) ∧ PartT wx w4.heap.size (.slice (some ⟨g5, 0, none⟩) f.length cap5) f.length (f.set k ⟨f[k].num, l5.take 2⟩) f.length vs xs ∧ (bp < wx.heap.size ∧ wx.cell? ⟨bp, 0, none⟩ = some (.int .i64 next)) ∧ wx.ownsRow W10.heap.size 40 2 (.slice (some ⟨gr, 0, none⟩) (L - 2) cr) (L - 2) (flatE (l5.drop 2)))
      case first =>
        (try clear HF); (try clear HSM); (try clear HP); (try clear hca2); (try clear hs4); (try clear HPL); (try clear hi); (try clear H4); (try clear HNX); (try clear t4); (try clear t5); (try clear t6); (try clear hs6); (try clear hgl6); (try clear HIL); (try clear HI5); (try clear HL5); (try clear hcl); (try clear hnw); (try clear hi1); (try clear hi2); (try clear hgw); (try clear M2); (try clear hkk); (try clear HL10); (try clear HLL); (try clear HN); (try clear hq)
        have kp : ∀ w', Below W12.heap.size W12 w' → (w'.cell? ⟨w.heap.size, 0, none⟩ = some (.slice (some ⟨g5, 0, none⟩) f.length cap5) ∧ w'.cell? ⟨bp, 0, none⟩ = some (.int .i64 next) ∧ w'.cell? ⟨bp, 1, none⟩ = some (.slice (some ⟨gr, 0, none⟩) (L - 2) cr)) := fun w' b => ⟨(b.cell hz12b).trans r0, (b.cell hbp).trans p0, (b.cell hbp).trans p1⟩
        refine wp_region_last2 (S := fun w0 => w0.cell? ⟨w.heap.size, 0, none⟩ = some (.slice (some ⟨g5, 0, none⟩) f.length cap5) ∧ w0.cell? ⟨bp, 0, none⟩ = some (.int .i64 next) ∧ w0.cell? ⟨bp, 1, none⟩ = some (.slice (some ⟨gr, 0, none⟩) (L - 2) cr)) 17 (by kernel_rfl) rfl (by kernel_rfl) (kp _ (Below.refl _ _).drew) (fun hHeld => ?_)
        simp only [List.take_succ_cons, List.take_zero]
        refine take_at (i := 1) (v := ?_) (.succ (.zero)) (by kernel_rfl) (by kernel_rfl) (by kernel_rfl) (fun _ _ _ h => h) (Or.inl ⟨by rfl, ?_⟩) (by assumption) ?_
        rotate_left
        focus (intro w' hSw; (try dsimp only at hSw); go_simp; try (with_reducible rfl))
        try simp only [Act.put, List.setIfInBounds_toArray, List.set_cons_zero, List.set_cons_succ]
        refine take_at (i := 2) (v := ?_) (.succ (.succ (.zero))) (by kernel_rfl) (by kernel_rfl) (by kernel_rfl) (fun _ _ _ h => h) (Or.inl ⟨by rfl, ?_⟩) (by assumption) ?_
        rotate_left
        focus (intro w' hSw; (try dsimp only at hSw); go_simp; try (with_reducible rfl))
        try simp only [Act.put, List.setIfInBounds_toArray, List.set_cons_zero, List.set_cons_succ]
        refine take_at (i := 3) (v := ?_) (.succ (.succ (.succ (.zero)))) (by kernel_rfl) (by kernel_rfl) (by kernel_rfl) (fun _ _ _ h => h) (Or.inl ⟨by rfl, ?_⟩) (by assumption) ?_
        rotate_left
        focus (intro w' hSw; (try dsimp only at hSw); go_simp; try (with_reducible rfl))
        try simp only [Act.put, List.setIfInBounds_toArray, List.set_cons_zero, List.set_cons_succ]
        refine take_at (i := 4) (v := ?_) (.succ (.succ (.succ (.succ (.zero))))) (by kernel_rfl) (by kernel_rfl) (by kernel_rfl) (fun _ _ _ h => h) (Or.inl ⟨by rfl, ?_⟩) (by assumption) ?_
        rotate_left
        focus (intro w' hSw; (try dsimp only at hSw); go_simp; try (with_reducible rfl))
        try simp only [Act.put, List.setIfInBounds_toArray, List.set_cons_zero, List.set_cons_succ]
        refine take_at (i := 5) (v := ?_) (.succ (.succ (.succ (.succ (.succ (.zero)))))) (by kernel_rfl) (by kernel_rfl) (by kernel_rfl) (fun _ _ _ h => h) (Or.inl ⟨by rfl, ?_⟩) (by assumption) ?_
        rotate_left
        focus (intro w' hSw; (try dsimp only at hSw); go_simp; try (with_reducible rfl))
        try simp only [Act.put, List.setIfInBounds_toArray, List.set_cons_zero, List.set_cons_succ]
        refine take_at (i := 7) (v := ?_) (.succ (.succ (.succ (.succ (.succ (.succ (.succ (.zero)))))))) (by kernel_rfl) (by kernel_rfl) (by kernel_rfl) (fun _ _ _ h => h) (Or.inl ⟨by rfl, ?_⟩) (by assumption) ?_
        rotate_left
        focus (intro w' hSw; (try dsimp only at hSw); go_simp; try (with_reducible rfl))
        try simp only [Act.put, List.setIfInBounds_toArray, List.set_cons_zero, List.set_cons_succ]
        refine take_at (i := 10) (v := ?_) (.succ (.succ (.succ (.succ (.succ (.succ (.succ (.succ (.succ (.succ (.zero))))))))))) (by kernel_rfl) (by kernel_rfl) (by kernel_rfl) (fun _ _ _ h => h) (Or.inl ⟨by rfl, ?_⟩) (by assumption) ?_
        rotate_left
        focus (intro w' hSw; (try dsimp only at hSw); go_simp; try (with_reducible rfl))
        try simp only [Act.put, List.setIfInBounds_toArray, List.set_cons_zero, List.set_cons_succ]
        refine take_at (i := 11) (v := ?_) (.succ (.succ (.succ (.succ (.succ (.succ (.succ (.succ (.succ (.succ (.succ (.zero)))))))))))) (by kernel_rfl) (by kernel_rfl) (by kernel_rfl) (fun _ _ _ h => h) (Or.inl ⟨by rfl, ?_⟩) (by assumption) ?_
        rotate_left
        focus (intro w' hSw; (try dsimp only at hSw); go_simp; try (with_reducible rfl))
        try simp only [Act.put, List.setIfInBounds_toArray, List.set_cons_zero, List.set_cons_succ]
        refine take_at (i := 12) (v := ?_) (.succ (.succ (.succ (.succ (.succ (.succ (.succ (.succ (.succ (.succ (.succ (.succ (.zero))))))))))))) (by kernel_rfl) (by kernel_rfl) (by kernel_rfl) (fun _ _ _ h => h) (Or.inl ⟨by rfl, ?_⟩) (by assumption) ?_
        rotate_left
        focus (intro w' hSw; (try dsimp only at hSw); go_simp; try (with_reducible rfl))
        try simp only [Act.put, List.setIfInBounds_toArray, List.set_cons_zero, List.set_cons_succ]
        refine take_at (i := 13) (v := ?_) (.succ (.succ (.succ (.succ (.succ (.succ (.succ (.succ (.succ (.succ (.succ (.succ (.succ (.zero)))))))))))))) (by kernel_rfl) (by kernel_rfl) (by kernel_rfl) (fun _ _ _ h => h) (Or.inl ⟨by rfl, ?_⟩) (by assumption) ?_
        rotate_left
        focus (intro w' hSw; (try dsimp only at hSw); go_simp; try (with_reducible rfl))
        try simp only [Act.put, List.setIfInBounds_toArray, List.set_cons_zero, List.set_cons_succ]
        refine take_at (i := 14) (v := ?_) (.succ (.succ (.succ (.succ (.succ (.succ (.succ (.succ (.succ (.succ (.succ (.succ (.succ (.succ (.zero))))))))))))))) (by kernel_rfl) (by kernel_rfl) (by kernel_rfl) (fun _ _ _ h => h) (Or.inl ⟨by rfl, ?_⟩) (by assumption) ?_
        rotate_left
        focus (intro w' hSw; (try dsimp only at hSw); go_simp; try (with_reducible rfl))
        try simp only [Act.put, List.setIfInBounds_toArray, List.set_cons_zero, List.set_cons_succ]
        refine wpAnyH_ready (rs := [0, 8]) (by kernel_rfl) (by simp) ?_
        refine cons_at (i := 0) .zero (fun K hK => ?_) (cons_at (i := 8) (.succ (.succ (.succ (.succ (.succ (.succ (.succ (.succ (.zero))))))))) (fun K hK => ?_) AllReadyH.nil)
        · go_simp
          refine hK.out _ _ ?_ ?_
          focus exact kp _ (by first | exact (Below.refl _ _) | exact (Below.refl _ _).alloc (by omega) _ | (repeat (first | (with_reducible exact Below.refl _ _) | (with_reducible assumption) | (with_reducible apply below_drewN) | (with_reducible apply Below.drew) | ((with_reducible refine Below.alloc ?_ ?_ _); rotate_left; focus (first | (simp; done) | (simp; omega) | omega)))))
          clear hK K hHeld
          intro hHeld
          try simp only [Act.put, List.setIfInBounds_toArray, List.set_cons_zero, List.set_cons_succ]
          refine wpAnyH_ready (rs := [6, 8]) (by kernel_rfl) (by simp) ?_
          refine cons_at (i := 6) (.succ (.succ (.succ (.succ (.succ (.succ (.zero))))))) (fun K hK => ?_) (cons_at (i := 8) (.succ (.succ (.succ (.succ (.succ (.succ (.succ (.succ (.zero))))))))) (fun K hK => ?_) AllReadyH.nil)
          · (refine step_appPT rfl (.tmp 112) (.tmp 117) rfl W12.heap.size 0 _ _ [] rfl (by first | exact HOA.out | exact HOB.out | exact HOC.out) ⟨g5, 0, none⟩ (k + 1) cap5 (xs.take ((k + 1) * 2)) rfl (by rw [List.length_take]; omega) (cells_next (by (repeat (first | (with_reducible exact Below.refl _ _) | (with_reducible assumption) | (with_reducible apply below_drewN) | (with_reducible apply Below.drew) | ((with_reducible refine Below.setCell ?_ ?_ _); rotate_left; focus (first | (simp; done) | (simp; omega) | omega)) | ((with_reducible refine Below.alloc ?_ ?_ _); rotate_left; focus (first | (simp; done) | (simp; omega) | omega))))) hg12 HC3.out) (fun u hu => HX1.out u (List.mem_of_mem_take hu)) (k + 1) (Nat.zero_add _) (by omega) (by omega) (by first | (simp; done) | (simp; omega)) ?_; intro g1 c1' w1' o1 gr1; have b1' : Below W12.heap.size W12 w1' := Below.grown (by (repeat (first | (with_reducible exact Below.refl _ _) | (with_reducible assumption) | (with_reducible apply below_drewN) | (with_reducible apply Below.drew) | ((with_reducible refine Below.setCell ?_ ?_ _); rotate_left; focus (first | (simp; done) | (simp; omega) | omega)) | ((with_reducible refine Below.alloc ?_ ?_ _); rotate_left; focus (first | (simp; done) | (simp; omega) | omega))))) gr1 (by first | (simp; done) | (simp; omega)) (fun x hx => by first | exact (HOA.out.lt x hx).1 | exact (HOB.out.lt x hx).1 | exact (HOC.out.lt x hx).1); have hz1 := b1'.size; have f0 := (b1'.cell hz12b).trans r0; have f1 := (b1'.cell hbp).trans p0; have f2 := (b1'.cell hbp).trans p1; have hzw1 : w.heap.size < w1'.heap.size := (by omega); have hbp1 : bp < w1'.heap.size := (by omega); (first | have L1 : Hid (NewP w1' _ _) := NewP.grown2 (b := W12.heap.size) (vb := W12.heap.size + 1) gr1 rfl HLB.out (by omega) | have L1 : Hid (NewP w1' _ _) := NewP.grown2 (b := W12.heap.size + 1) (vb := W12.heap.size) gr1 rfl HLC.out (by omega) | skip); have H1 : Hid (World.ownsRow _ _ _ _ _ _ _) := o1; have HB2 : Hid (Below W12.heap.size W12 w1') := b1'; clear o1 gr1 b1')
            refine hK.out _ _ ?_ ?_
            focus exact kp _ (by first | exact HB2.out | exact HB2.out.alloc (by omega) _ | (repeat (first | (with_reducible exact Below.refl _ _) | (with_reducible assumption) | (with_reducible apply below_drewN) | (with_reducible apply Below.drew) | ((with_reducible refine Below.alloc ?_ ?_ _); rotate_left; focus (first | (simp; done) | (simp; omega) | omega)))))
            clear hK K hHeld
            intro hHeld
            try simp only [Act.put, List.setIfInBounds_toArray, List.set_cons_zero, List.set_cons_succ]
            refine wpAnyH_ready (rs := [8]) (by kernel_rfl) (by simp) ?_
            refine cons_at (i := 8) (.succ (.succ (.succ (.succ (.succ (.succ (.succ (.succ (.zero))))))))) (fun K hK => ?_) AllReadyH.nil
            go_simp
            refine hK.out _ _ ?_ ?_
            focus exact kp _ (by first | exact HB2.out | exact HB2.out.alloc (by omega) _ | (repeat (first | (with_reducible exact Below.refl _ _) | (with_reducible assumption) | (with_reducible apply below_drewN) | (with_reducible apply Below.drew) | ((with_reducible refine Below.alloc ?_ ?_ _); rotate_left; focus (first | (simp; done) | (simp; omega) | omega)))))
            clear hK K hHeld
            intro hHeld
            try simp only [Act.put, List.setIfInBounds_toArray, List.set_cons_zero, List.set_cons_succ]
            refine wpAnyH_ready (rs := [9]) (by kernel_rfl) (by simp) ?_
            refine cons_at (i := 9) (.succ (.succ (.succ (.succ (.succ (.succ (.succ (.succ (.succ (.zero)))))))))) (fun K hK => ?_) AllReadyH.nil
            (refine step_appPT rfl (.tmp 118) (.tmp 120) rfl W12.heap.size (k + 1) g1 c1' ([] ++ xs.take ((k + 1) * 2)) rfl (by first | exact H1.out | exact H1.out.alloc _) _ 1 1 [.int .i64 next, .slice (some ⟨gr, 0, none⟩) (L - 2) cr] rfl rfl (by first | exact (newP_new _ _ _).cells | exact L1.out.cells) HE2.out (k + 1 + 1) rfl (by omega) (by omega) (by first | exact hz1 | (simp; omega)) ?_; intro g2 c2' w2' o2 gr2; have b2' : Below W12.heap.size W12 w2' := Below.grown (by first | exact HB2.out | exact HB2.out.alloc hz1 _) gr2 (by first | exact hz1 | (simp; omega)) (fun x hx => (H1.out.lt x hx).1); have hz2 := b2'.size; have f3 := (b2'.cell hz12b).trans r0; have hzw2 : w.heap.size < w2'.heap.size := (by omega); have H2 : Hid (World.ownsRow _ _ _ _ _ _ _) := o2; have HB3 : Hid (Below W12.heap.size W12 w2') := b2'; clear o2 gr2 b2')
            refine hK.out _ _ ?_ ?_
            focus exact kp _ (by first | exact HB3.out | exact HB3.out.alloc (by omega) _ | (repeat (first | (with_reducible exact Below.refl _ _) | (with_reducible assumption) | (with_reducible apply below_drewN) | (with_reducible apply Below.drew) | ((with_reducible refine Below.alloc ?_ ?_ _); rotate_left; focus (first | (simp; done) | (simp; omega) | omega)))))
            clear hK K hHeld
            intro hHeld
            try simp only [Act.put, List.setIfInBounds_toArray, List.set_cons_zero, List.set_cons_succ]
            refine wpAnyH_ready (rs := [15]) (by kernel_rfl) (by simp) ?_
            refine cons_at (i := 15) (.succ (.succ (.succ (.succ (.succ (.succ (.succ (.succ (.succ (.succ (.succ (.succ (.succ (.succ (.succ (.zero)))))))))))))))) (fun K hK => ?_) AllReadyH.nil
            (refine step_appPT rfl (.tmp 121) (.tmp 126) rfl W12.heap.size (k + 1 + 1) g2 c2' ([] ++ xs.take ((k + 1) * 2) ++ [.int .i64 next, .slice (some ⟨gr, 0, none⟩) (L - 2) cr]) rfl H2.out ⟨g5, off5, none⟩ (f.length - (k + 1)) (cap5 - (k + 1)) (xs.drop ((k + 1) * 2)) rfl (by rw [List.length_drop]; omega) (cells_next HB3.out hg12 HC4.out) (fun u hu => HX1.out u (List.mem_of_mem_drop hu)) (f.length + 1) HNN.out (by omega) (by omega) hz2 ?_; intro g3 c3' w3' o3 gr3; have b3' : Below W12.heap.size W12 w3' := Below.grown HB3.out gr3 hz2 (fun x hx => (H2.out.lt x hx).1); have hz3 := b3'.size; have f4 := (b3'.cell hz12b).trans r0; have f5 := (b3'.frozen (p := ⟨w.heap.size, 0, none⟩) hz12b).trans rz0; have f6 := (b3'.cell hbp).trans p0; have f7 := (b3'.cell hbp).trans p1; have H3 : Hid (w3'.ownsRow W12.heap.size 86 2 (.slice (some ⟨g3, 0, none⟩) (f.length + 1) c3') (f.length + 1) (xs.take ((k + 1) * 2) ++ [.int .i64 next, .slice (some ⟨gr, 0, none⟩) (L - 2) cr] ++ xs.drop ((k + 1) * 2))) := o3; have HB4 : Hid (Below W12.heap.size W12 w3') := b3'; clear o3 gr3 b3')
            refine hK.out _ _ ?_ ?_
            focus exact kp _ (by first | exact HB4.out | exact HB4.out.alloc (by omega) _ | (repeat (first | (with_reducible exact Below.refl _ _) | (with_reducible assumption) | (with_reducible apply below_drewN) | (with_reducible apply Below.drew) | ((with_reducible refine Below.alloc ?_ ?_ _); rotate_left; focus (first | (simp; done) | (simp; omega) | omega)))))
            clear hK K hHeld
            intro hHeld
            try simp only [Act.put, List.setIfInBounds_toArray, List.set_cons_zero, List.set_cons_succ]
            refine take_at (i := 16) (v := ?_) (.succ (.succ (.succ (.succ (.succ (.succ (.succ (.succ (.succ (.succ (.succ (.succ (.succ (.succ (.succ (.succ (.zero))))))))))))))))) (by kernel_rfl) (by kernel_rfl) (by kernel_rfl) (fun _ _ _ h => h) (Or.inl ⟨by rfl, ?_⟩) (by assumption) ?_
            rotate_left
            focus (intro w' hSw; (try dsimp only at hSw); go_simp; try (with_reducible rfl))
            try simp only [Act.put, List.setIfInBounds_toArray, List.set_cons_zero, List.set_cons_succ]
            refine wpAnyH_done (by kernel_rfl) ?_ _
            refine last_at (.succ (.succ (.succ (.succ (.succ (.succ (.succ (.succ (.succ (.succ (.succ (.succ (.succ (.succ (.succ (.succ (.succ (.zero)))))))))))))))))) (fun K hK => ?_)
            go_simp
            refine hK.out _ _ ?_
            try go_wp2_with fail
            go_meet
            refine ⟨g3, c3', (HM12.out.next HB4.out).repage, own_set H3.out (by omega), (HPT.out.next HB4.out).grown grown_set (by omega), ⟨by simp; omega, ?_⟩, own_set (owns_below HP12.out.2.2.2 HB4.out) (by omega)⟩
            exact (World.cell?_of_block ((grown_set (w := w3') (g := w.heap.size) (o := 0) (v := .slice (some ⟨g3, 0, none⟩) (f.length + 1) c3')).block bp (by omega) (fun h => absurd (show bp = w.heap.size from Option.some.inj h) (by omega)))).trans ((HB4.out.cell hbp).trans p0)
          · go_simp
            refine hK.out _ _ ?_ ?_
            focus exact kp _ (by first | exact (Below.refl _ _) | exact (Below.refl _ _).alloc (by omega) _ | (repeat (first | (with_reducible exact Below.refl _ _) | (with_reducible assumption) | (with_reducible apply below_drewN) | (with_reducible apply Below.drew) | ((with_reducible refine Below.alloc ?_ ?_ _); rotate_left; focus (first | (simp; done) | (simp; omega) | omega)))))
            clear hK K hHeld
            intro hHeld
            try simp only [Act.put, List.setIfInBounds_toArray, List.set_cons_zero, List.set_cons_succ]
            refine wpAnyH_ready (rs := [6]) (by kernel_rfl) (by simp) ?_
            refine cons_at (i := 6) (.succ (.succ (.succ (.succ (.succ (.succ (.zero))))))) (fun K hK => ?_) AllReadyH.nil
            (refine step_appPT rfl (.tmp 112) (.tmp 117) rfl W12.heap.size 0 _ _ [] rfl (by first | exact HOA.out | exact HOB.out | exact HOC.out) ⟨g5, 0, none⟩ (k + 1) cap5 (xs.take ((k + 1) * 2)) rfl (by rw [List.length_take]; omega) (cells_next (by (repeat (first | (with_reducible exact Below.refl _ _) | (with_reducible assumption) | (with_reducible apply below_drewN) | (with_reducible apply Below.drew) | ((with_reducible refine Below.setCell ?_ ?_ _); rotate_left; focus (first | (simp; done) | (simp; omega) | omega)) | ((with_reducible refine Below.alloc ?_ ?_ _); rotate_left; focus (first | (simp; done) | (simp; omega) | omega))))) hg12 HC3.out) (fun u hu => HX1.out u (List.mem_of_mem_take hu)) (k + 1) (Nat.zero_add _) (by omega) (by omega) (by first | (simp; done) | (simp; omega)) ?_; intro g1 c1' w1' o1 gr1; have b1' : Below W12.heap.size W12 w1' := Below.grown (by (repeat (first | (with_reducible exact Below.refl _ _) | (with_reducible assumption) | (with_reducible apply below_drewN) | (with_reducible apply Below.drew) | ((with_reducible refine Below.setCell ?_ ?_ _); rotate_left; focus (first | (simp; done) | (simp; omega) | omega)) | ((with_reducible refine Below.alloc ?_ ?_ _); rotate_left; focus (first | (simp; done) | (simp; omega) | omega))))) gr1 (by first | (simp; done) | (simp; omega)) (fun x hx => by first | exact (HOA.out.lt x hx).1 | exact (HOB.out.lt x hx).1 | exact (HOC.out.lt x hx).1); have hz1 := b1'.size; have f0 := (b1'.cell hz12b).trans r0; have f1 := (b1'.cell hbp).trans p0; have f2 := (b1'.cell hbp).trans p1; have hzw1 : w.heap.size < w1'.heap.size := (by omega); have hbp1 : bp < w1'.heap.size := (by omega); (first | have L1 : Hid (NewP w1' _ _) := NewP.grown2 (b := W12.heap.size) (vb := W12.heap.size + 1) gr1 rfl HLB.out (by omega) | have L1 : Hid (NewP w1' _ _) := NewP.grown2 (b := W12.heap.size + 1) (vb := W12.heap.size) gr1 rfl HLC.out (by omega) | skip); have H1 : Hid (World.ownsRow _ _ _ _ _ _ _) := o1; have HB2 : Hid (Below W12.heap.size W12 w1') := b1'; clear o1 gr1 b1')
            refine hK.out _ _ ?_ ?_
            focus exact kp _ (by first | exact HB2.out | exact HB2.out.alloc (by omega) _ | (repeat (first | (with_reducible exact Below.refl _ _) | (with_reducible assumption) | (with_reducible apply below_drewN) | (with_reducible apply Below.drew) | ((with_reducible refine Below.alloc ?_ ?_ _); rotate_left; focus (first | (simp; done) | (simp; omega) | omega)))))
            clear hK K hHeld
            intro hHeld
            try simp only [Act.put, List.setIfInBounds_toArray, List.set_cons_zero, List.set_cons_succ]
            refine wpAnyH_ready (rs := [9]) (by kernel_rfl) (by simp) ?_
            refine cons_at (i := 9) (.succ (.succ (.succ (.succ (.succ (.succ (.succ (.succ (.succ (.zero)))))))))) (fun K hK => ?_) AllReadyH.nil
            (refine step_appPT rfl (.tmp 118) (.tmp 120) rfl W12.heap.size (k + 1) g1 c1' ([] ++ xs.take ((k + 1) * 2)) rfl (by first | exact H1.out | exact H1.out.alloc _) _ 1 1 [.int .i64 next, .slice (some ⟨gr, 0, none⟩) (L - 2) cr] rfl rfl (by first | exact (newP_new _ _ _).cells | exact L1.out.cells) HE2.out (k + 1 + 1) rfl (by omega) (by omega) (by first | exact hz1 | (simp; omega)) ?_; intro g2 c2' w2' o2 gr2; have b2' : Below W12.heap.size W12 w2' := Below.grown (by first | exact HB2.out | exact HB2.out.alloc hz1 _) gr2 (by first | exact hz1 | (simp; omega)) (fun x hx => (H1.out.lt x hx).1); have hz2 := b2'.size; have f3 := (b2'.cell hz12b).trans r0; have hzw2 : w.heap.size < w2'.heap.size := (by omega); have H2 : Hid (World.ownsRow _ _ _ _ _ _ _) := o2; have HB3 : Hid (Below W12.heap.size W12 w2') := b2'; clear o2 gr2 b2')
            refine hK.out _ _ ?_ ?_
            focus exact kp _ (by first | exact HB3.out | exact HB3.out.alloc (by omega) _ | (repeat (first | (with_reducible exact Below.refl _ _) | (with_reducible assumption) | (with_reducible apply below_drewN) | (with_reducible apply Below.drew) | ((with_reducible refine Below.alloc ?_ ?_ _); rotate_left; focus (first | (simp; done) | (simp; omega) | omega)))))
            clear hK K hHeld
            intro hHeld
            try simp only [Act.put, List.setIfInBounds_toArray, List.set_cons_zero, List.set_cons_succ]
            refine wpAnyH_ready (rs := [15]) (by kernel_rfl) (by simp) ?_
            refine cons_at (i := 15) (.succ (.succ (.succ (.succ (.succ (.succ (.succ (.succ (.succ (.succ (.succ (.succ (.succ (.succ (.succ (.zero)))))))))))))))) (fun K hK => ?_) AllReadyH.nil
            (refine step_appPT rfl (.tmp 121) (.tmp 126) rfl W12.heap.size (k + 1 + 1) g2 c2' ([] ++ xs.take ((k + 1) * 2) ++ [.int .i64 next, .slice (some ⟨gr, 0, none⟩) (L - 2) cr]) rfl H2.out ⟨g5, off5, none⟩ (f.length - (k + 1)) (cap5 - (k + 1)) (xs.drop ((k + 1) * 2)) rfl (by rw [List.length_drop]; omega) (cells_next HB3.out hg12 HC4.out) (fun u hu => HX1.out u (List.mem_of_mem_drop hu)) (f.length + 1) HNN.out (by omega) (by omega) hz2 ?_; intro g3 c3' w3' o3 gr3; have b3' : Below W12.heap.size W12 w3' := Below.grown HB3.out gr3 hz2 (fun x hx => (H2.out.lt x hx).1); have hz3 := b3'.size; have f4 := (b3'.cell hz12b).trans r0; have f5 := (b3'.frozen (p := ⟨w.heap.size, 0, none⟩) hz12b).trans rz0; have f6 := (b3'.cell hbp).trans p0; have f7 := (b3'.cell hbp).trans p1; have H3 : Hid (w3'.ownsRow W12.heap.size 86 2 (.slice (some ⟨g3, 0, none⟩) (f.length + 1) c3') (f.length + 1) (xs.take ((k + 1) * 2) ++ [.int .i64 next, .slice (some ⟨gr, 0, none⟩) (L - 2) cr] ++ xs.drop ((k + 1) * 2))) := o3; have HB4 : Hid (Below W12.heap.size W12 w3') := b3'; clear o3 gr3 b3')
            refine hK.out _ _ ?_ ?_
            focus exact kp _ (by first | exact HB4.out | exact HB4.out.alloc (by omega) _ | (repeat (first | (with_reducible exact Below.refl _ _) | (with_reducible assumption) | (with_reducible apply below_drewN) | (with_reducible apply Below.drew) | ((with_reducible refine Below.alloc ?_ ?_ _); rotate_left; focus (first | (simp; done) | (simp; omega) | omega)))))
            clear hK K hHeld
            intro hHeld
            try simp only [Act.put, List.setIfInBounds_toArray, List.set_cons_zero, List.set_cons_succ]
            refine take_at (i := 16) (v := ?_) (.succ (.succ (.succ (.succ (.succ (.succ (.succ (.succ (.succ (.succ (.succ (.succ (.succ (.succ (.succ (.succ (.zero))))))))))))))))) (by kernel_rfl) (by kernel_rfl) (by kernel_rfl) (fun _ _ _ h => h) (Or.inl ⟨by rfl, ?_⟩) (by assumption) ?_
            rotate_left
            focus (intro w' hSw; (try dsimp only at hSw); go_simp; try (with_reducible rfl))
            try simp only [Act.put, List.setIfInBounds_toArray, List.set_cons_zero, List.set_cons_succ]
            refine wpAnyH_done (by kernel_rfl) ?_ _
            refine last_at (.succ (.succ (.succ (.succ (.succ (.succ (.succ (.succ (.succ (.succ (.succ (.succ (.succ (.succ (.succ (.succ (.succ (.zero)))))))))))))))))) (fun K hK => ?_)
            go_simp
            refine hK.out _ _ ?_
            try go_wp2_with fail
            go_meet
            refine ⟨g3, c3', (HM12.out.next HB4.out).repage, own_set H3.out (by omega), (HPT.out.next HB4.out).grown grown_set (by omega), ⟨by simp; omega, ?_⟩, own_set (owns_below HP12.out.2.2.2 HB4.out) (by omega)⟩
            exact (World.cell?_of_block ((grown_set (w := w3') (g := w.heap.size) (o := 0) (v := .slice (some ⟨g3, 0, none⟩) (f.length + 1) c3')).block bp (by omega) (fun h => absurd (show bp = w.heap.size from Option.some.inj h) (by omega)))).trans ((HB4.out.cell hbp).trans p0)
        · go_simp
          refine hK.out _ _ ?_ ?_
          focus exact kp _ (by first | exact (Below.refl _ _) | exact (Below.refl _ _).alloc (by omega) _ | (repeat (first | (with_reducible exact Below.refl _ _) | (with_reducible assumption) | (with_reducible apply below_drewN) | (with_reducible apply Below.drew) | ((with_reducible refine Below.alloc ?_ ?_ _); rotate_left; focus (first | (simp; done) | (simp; omega) | omega)))))
          clear hK K hHeld
          intro hHeld
          try simp only [Act.put, List.setIfInBounds_toArray, List.set_cons_zero, List.set_cons_succ]
          refine wpAnyH_ready (rs := [0]) (by kernel_rfl) (by simp) ?_
          refine cons_at (i := 0) .zero (fun K hK => ?_) AllReadyH.nil
          go_simp
          refine hK.out _ _ ?_ ?_
          focus exact kp _ (by first | exact (Below.refl _ _) | exact (Below.refl _ _).alloc (by omega) _ | (repeat (first | (with_reducible exact Below.refl _ _) | (with_reducible assumption) | (with_reducible apply below_drewN) | (with_reducible apply Below.drew) | ((with_reducible refine Below.alloc ?_ ?_ _); rotate_left; focus (first | (simp; done) | (simp; omega) | omega)))))
          clear hK K hHeld
          intro hHeld
          try simp only [Act.put, List.setIfInBounds_toArray, List.set_cons_zero, List.set_cons_succ]
          refine wpAnyH_ready (rs := [6]) (by kernel_rfl) (by simp) ?_
          refine cons_at (i := 6) (.succ (.succ (.succ (.succ (.succ (.succ (.zero))))))) (fun K hK => ?_) AllReadyH.nil
          (refine step_appPT rfl (.tmp 112) (.tmp 117) rfl W12.heap.size 0 _ _ [] rfl (by first | exact HOA.out | exact HOB.out | exact HOC.out) ⟨g5, 0, none⟩ (k + 1) cap5 (xs.take ((k + 1) * 2)) rfl (by rw [List.length_take]; omega) (cells_next (by (repeat (first | (with_reducible exact Below.refl _ _) | (with_reducible assumption) | (with_reducible apply below_drewN) | (with_reducible apply Below.drew) | ((with_reducible refine Below.setCell ?_ ?_ _); rotate_left; focus (first | (simp; done) | (simp; omega) | omega)) | ((with_reducible refine Below.alloc ?_ ?_ _); rotate_left; focus (first | (simp; done) | (simp; omega) | omega))))) hg12 HC3.out) (fun u hu => HX1.out u (List.mem_of_mem_take hu)) (k + 1) (Nat.zero_add _) (by omega) (by omega) (by first | (simp; done) | (simp; omega)) ?_; intro g1 c1' w1' o1 gr1; have b1' : Below W12.heap.size W12 w1' := Below.grown (by (repeat (first | (with_reducible exact Below.refl _ _) | (with_reducible assumption) | (with_reducible apply below_drewN) | (with_reducible apply Below.drew) | ((with_reducible refine Below.setCell ?_ ?_ _); rotate_left; focus (first | (simp; done) | (simp; omega) | omega)) | ((with_reducible refine Below.alloc ?_ ?_ _); rotate_left; focus (first | (simp; done) | (simp; omega) | omega))))) gr1 (by first | (simp; done) | (simp; omega)) (fun x hx => by first | exact (HOA.out.lt x hx).1 | exact (HOB.out.lt x hx).1 | exact (HOC.out.lt x hx).1); have hz1 := b1'.size; have f0 := (b1'.cell hz12b).trans r0; have f1 := (b1'.cell hbp).trans p0; have f2 := (b1'.cell hbp).trans p1; have hzw1 : w.heap.size < w1'.heap.size := (by omega); have hbp1 : bp < w1'.heap.size := (by omega); (first | have L1 : Hid (NewP w1' _ _) := NewP.grown2 (b := W12.heap.size) (vb := W12.heap.size + 1) gr1 rfl HLB.out (by omega) | have L1 : Hid (NewP w1' _ _) := NewP.grown2 (b := W12.heap.size + 1) (vb := W12.heap.size) gr1 rfl HLC.out (by omega) | skip); have H1 : Hid (World.ownsRow _ _ _ _ _ _ _) := o1; have HB2 : Hid (Below W12.heap.size W12 w1') := b1'; clear o1 gr1 b1')
          refine hK.out _ _ ?_ ?_
          focus exact kp _ (by first | exact HB2.out | exact HB2.out.alloc (by omega) _ | (repeat (first | (with_reducible exact Below.refl _ _) | (with_reducible assumption) | (with_reducible apply below_drewN) | (with_reducible apply Below.drew) | ((with_reducible refine Below.alloc ?_ ?_ _); rotate_left; focus (first | (simp; done) | (simp; omega) | omega)))))
          clear hK K hHeld
          intro hHeld
          try simp only [Act.put, List.setIfInBounds_toArray, List.set_cons_zero, List.set_cons_succ]
          refine wpAnyH_ready (rs := [9]) (by kernel_rfl) (by simp) ?_
          refine cons_at (i := 9) (.succ (.succ (.succ (.succ (.succ (.succ (.succ (.succ (.succ (.zero)))))))))) (fun K hK => ?_) AllReadyH.nil
          (refine step_appPT rfl (.tmp 118) (.tmp 120) rfl W12.heap.size (k + 1) g1 c1' ([] ++ xs.take ((k + 1) * 2)) rfl (by first | exact H1.out | exact H1.out.alloc _) _ 1 1 [.int .i64 next, .slice (some ⟨gr, 0, none⟩) (L - 2) cr] rfl rfl (by first | exact (newP_new _ _ _).cells | exact L1.out.cells) HE2.out (k + 1 + 1) rfl (by omega) (by omega) (by first | exact hz1 | (simp; omega)) ?_; intro g2 c2' w2' o2 gr2; have b2' : Below W12.heap.size W12 w2' := Below.grown (by first | exact HB2.out | exact HB2.out.alloc hz1 _) gr2 (by first | exact hz1 | (simp; omega)) (fun x hx => (H1.out.lt x hx).1); have hz2 := b2'.size; have f3 := (b2'.cell hz12b).trans r0; have hzw2 : w.heap.size < w2'.heap.size := (by omega); have H2 : Hid (World.ownsRow _ _ _ _ _ _ _) := o2; have HB3 : Hid (Below W12.heap.size W12 w2') := b2'; clear o2 gr2 b2')
          refine hK.out _ _ ?_ ?_
          focus exact kp _ (by first | exact HB3.out | exact HB3.out.alloc (by omega) _ | (repeat (first | (with_reducible exact Below.refl _ _) | (with_reducible assumption) | (with_reducible apply below_drewN) | (with_reducible apply Below.drew) | ((with_reducible refine Below.alloc ?_ ?_ _); rotate_left; focus (first | (simp; done) | (simp; omega) | omega)))))
          clear hK K hHeld
          intro hHeld
          try simp only [Act.put, List.setIfInBounds_toArray, List.set_cons_zero, List.set_cons_succ]
          refine wpAnyH_ready (rs := [15]) (by kernel_rfl) (by simp) ?_
          refine cons_at (i := 15) (.succ (.succ (.succ (.succ (.succ (.succ (.succ (.succ (.succ (.succ (.succ (.succ (.succ (.succ (.succ (.zero)))))))))))))))) (fun K hK => ?_) AllReadyH.nil
          (refine step_appPT rfl (.tmp 121) (.tmp 126) rfl W12.heap.size (k + 1 + 1) g2 c2' ([] ++ xs.take ((k + 1) * 2) ++ [.int .i64 next, .slice (some ⟨gr, 0, none⟩) (L - 2) cr]) rfl H2.out ⟨g5, off5, none⟩ (f.length - (k + 1)) (cap5 - (k + 1)) (xs.drop ((k + 1) * 2)) rfl (by rw [List.length_drop]; omega) (cells_next HB3.out hg12 HC4.out) (fun u hu => HX1.out u (List.mem_of_mem_drop hu)) (f.length + 1) HNN.out (by omega) (by omega) hz2 ?_; intro g3 c3' w3' o3 gr3; have b3' : Below W12.heap.size W12 w3' := Below.grown HB3.out gr3 hz2 (fun x hx => (H2.out.lt x hx).1); have hz3 := b3'.size; have f4 := (b3'.cell hz12b).trans r0; have f5 := (b3'.frozen (p := ⟨w.heap.size, 0, none⟩) hz12b).trans rz0; have f6 := (b3'.cell hbp).trans p0; have f7 := (b3'.cell hbp).trans p1; have H3 : Hid (w3'.ownsRow W12.heap.size 86 2 (.slice (some ⟨g3, 0, none⟩) (f.length + 1) c3') (f.length + 1) (xs.take ((k + 1) * 2) ++ [.int .i64 next, .slice (some ⟨gr, 0, none⟩) (L - 2) cr] ++ xs.drop ((k + 1) * 2))) := o3; have HB4 : Hid (Below W12.heap.size W12 w3') := b3'; clear o3 gr3 b3')
          refine hK.out _ _ ?_ ?_
          focus exact kp _ (by first | exact HB4.out | exact HB4.out.alloc (by omega) _ | (repeat (first | (with_reducible exact Below.refl _ _) | (with_reducible assumption) | (with_reducible apply below_drewN) | (with_reducible apply Below.drew) | ((with_reducible refine Below.alloc ?_ ?_ _); rotate_left; focus (first | (simp; done) | (simp; omega) | omega)))))
          clear hK K hHeld
          intro hHeld
          try simp only [Act.put, List.setIfInBounds_toArray, List.set_cons_zero, List.set_cons_succ]
          refine take_at (i := 16) (v := ?_) (.succ (.succ (.succ (.succ (.succ (.succ (.succ (.succ (.succ (.succ (.succ (.succ (.succ (.succ (.succ (.succ (.zero))))))))))))))))) (by kernel_rfl) (by kernel_rfl) (by kernel_rfl) (fun _ _ _ h => h) (Or.inl ⟨by rfl, ?_⟩) (by assumption) ?_
          rotate_left
          focus (intro w' hSw; (try dsimp only at hSw); go_simp; try (with_reducible rfl))
          try simp only [Act.put, List.setIfInBounds_toArray, List.set_cons_zero, List.set_cons_succ]
          refine wpAnyH_done (by kernel_rfl) ?_ _
          refine last_at (.succ (.succ (.succ (.succ (.succ (.succ (.succ (.succ (.succ (.succ (.succ (.succ (.succ (.succ (.succ (.succ (.succ (.zero)))))))))))))))))) (fun K hK => ?_)
          go_simp
          refine hK.out _ _ ?_
          try go_wp2_with fail
          go_meet
          refine ⟨g3, c3', (HM12.out.next HB4.out).repage, own_set H3.out (by omega), (HPT.out.next HB4.out).grown grown_set (by omega), ⟨by simp; omega, ?_⟩, own_set (owns_below HP12.out.2.2.2 HB4.out) (by omega)⟩
          exact (World.cell?_of_block ((grown_set (w := w3') (g := w.heap.size) (o := 0) (v := .slice (some ⟨g3, 0, none⟩) (f.length + 1) c3')).block bp (by omega) (fun h => absurd (show bp = w.heap.size from Option.some.inj h) (by omega)))).trans ((HB4.out.cell hbp).trans p0)
      case rest =>
      obtain ⟨gn, cn, M13, o13, hP13, ⟨hbp13, p13⟩, og13⟩ := hcut
      have HRP : Hid (∀ W : World, Below w.heap.size w W → True) := fun _ _ => trivial
      have HFIN : Hid (PartT wc w4.heap.size (.slice (some ⟨g5, 0, none⟩) f.length cap5) f.length (f.set k ⟨f[k].num, l5.take 2⟩) f.length vs xs ∧ wc.ownsRow W12.heap.size 86 2 (.slice (some ⟨gn, 0, none⟩) (f.length + 1) cn) (f.length + 1) (xs.take ((k + 1) * 2) ++ [.int .i64 next, .slice (some ⟨gr, 0, none⟩) (L - 2) cr] ++ xs.drop ((k + 1) * 2)) ∧ wc.ownsRow W10.heap.size 40 2 (.slice (some ⟨gr, 0, none⟩) (L - 2) cr) (L - 2) (flatE (l5.drop 2))) := ⟨hP13, o13, og13⟩
      obtain ⟨mb, ml, mc0, mc1, mz0, mz1, md0, md1, mr0, mr1, my0, my1⟩ := M13
      clear hP13 o13 og13 HOA HOB HOC HLB HLC ps1 ps2 HC3 HC4 HP12 HM12 HO12 HPT r0 rz0 p0 p1 HRP
      go_wp2_with fail
      go_region
      all_goals
        go_wp2_with fail
        refine bodyPost_ret (v := .tuple #[.agg #[.slice (some ⟨gn, 0, none⟩) (f.length + 1) cn, .int .i64 (next + 1)], .int .i64 next, .int .i64 0]) (by simp [results, Try.results52, go_sem, *]) rfl ⟨⟨_, _, rfl, ?_⟩, ?_⟩
        · have hPz := (HFIN.out.1.grown (grown_set (g := w.heap.size + 1 + 1) (o := 0) (v := .slice (some ⟨gn, 0, none⟩) (f.length + 1) cn)) (by omega)).grown (grown_set (g := w.heap.size + 1 + 1) (o := 1) (v := .int .i64 (next + 1))) (by omega)
          have hoz := own_set (b := w.heap.size + 1 + 1) (o := 1) (x := .int .i64 (next + 1)) (own_set (b := w.heap.size + 1 + 1) (o := 0) (x := .slice (some ⟨gn, 0, none⟩) (f.length + 1) cn) HFIN.out.2.1 (by omega)) (by omega)
          have hez := own_set (b := w.heap.size + 1 + 1) (o := 1) (x := .int .i64 (next + 1)) (own_set (b := w.heap.size + 1 + 1) (o := 0) (x := .slice (some ⟨gn, 0, none⟩) (f.length + 1) cn) HFIN.out.2.2 (by omega)) (by omega)
          have hfin := hPz.addPage (by rw [List.length_set]) (by rw [List.length_set]; exact hk) hoz (ownE_room2 hez HLN.out.2)
          unfold splitP
          rw [List.getElem?_eq_getElem hk]
          refine ⟨_, rfl, ?_⟩
          show FullP _ _ (List.take k f ++ (⟨f[k].num, List.take 2 (insE f[k].es q e)⟩ : Pg) :: (⟨next, List.drop 2 (insE f[k].es q e)⟩ : Pg) :: List.drop (k + 1) f)
          rw [← HI5.out]
          rw [set_take_drop f k hk] at hfin
          first | exact hfin | exact hfin.next (Below.refl _ _).drew
        · (repeat (first | (with_reducible exact Below.refl _ _) | (with_reducible assumption) | (with_reducible apply below_drewN) | (with_reducible apply Below.drew) | ((with_reducible refine Below.setCell ?_ ?_ _); rotate_left; focus (first | (simp; done) | (simp; omega) | omega)) | ((with_reducible refine Below.alloc ?_ ?_ _); rotate_left; focus (first | (simp; done) | (simp; omega) | omega))))

end Go.Proofs.Ytnmpfooegnmknaa.Tr
