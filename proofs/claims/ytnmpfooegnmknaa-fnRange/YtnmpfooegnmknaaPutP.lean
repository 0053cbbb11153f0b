/- An entry put into a tree by the specification: where the tree stays as it was. -/
import Derived.Test.YtnmpfooegnmknaaPutO
import Derived.Test.YtnmpfooegnmknaaPgW
namespace Go.Proofs.Ytnmpfooegnmknaa.Tr
open Go.RowKit
set_option linter.unusedVariables false

theorem eqlEnt (x y : Ent) (w : World) : (binOp .eql 40 (.agg #[.string x.key, .int .i64 x.id]) (.agg #[.string y.key, .int .i64 y.id])).run Try.prog w = .ok (.bool (x.key.toList == y.key.toList && x.id == y.id)) w := by
  rw [run_eql_struct, eqEnt]; rfl

set_option maxRecDepth 4000 in
set_option maxHeartbeats 4000000 in
theorem specPut_there (g cap : Nat) (f : List Pg) (next : Int) (e : Ent) (k i : Nat) (w : World) (hF : FullP w g f) (hT : treeB f next = true) (hkk : place f e = k) (hk : k < f.length) (hP : PlaceE f[k].es e i true) :
    Calls Try.prog 52 #[.agg #[.slice (some ⟨g, 0, none⟩) f.length cap, .int .i64 next], .agg #[.string e.key, .int .i64 e.id]] w fun e' w' => e' = .returned (.tuple #[.agg #[.slice (some ⟨g, 0, none⟩) f.length cap, .int .i64 next], .int .i64 0, .int .i64 12]) ∧ Below w.heap.size w w' := by
  have M0 := MkD.start w (.slice (some ⟨g, 0, none⟩) f.length cap) next e 37 40
  have HF : Hid (FullP w g f) := hF
  have HSM : Hid (∀ l ∈ f, l.es.length ≤ 4) := tree_small hT
  have h60 : 1 ≤ f.length ∧ f.length ≤ 60 := by have := ((treeB_iff f next).1 hT).1; omega
  have hnx : 2 ≤ next ∧ next ≤ 100000 := by have := ((treeB_iff f next).1 hT).1; omega
  obtain ⟨qa, ca, hp⟩ := hF.pages k hk
  have HP : Hid (PgC w g (k * 2) qa ca f[k]) := hp
  have hgw := hF.lt
  have hca2 := hp.cap
  have hs4 := HSM.out f[k] (List.getElem_mem _)
  have HPL : Hid (PlaceE f[k].es e i true) := hP
  have hi := hP.le
  have hk2 : (k : Int) < (f.length : Int) := by omega
  have HR : Hid (RowP _ _ _) := hF.rowP.next ((((Below.refl w.heap.size w).alloc (Nat.le_refl _) (.cells #[.slice (some ⟨g, 0, none⟩) f.length cap, .int .i64 next] 37)).alloc (by simp) (.cells #[.string e.key, .int .i64 e.id] 40)).alloc (by simp; omega) (.cells #[.slice none 0 0, .int .i64 0] 37))
  clear hp hF hT hP
  go_enter Try.func52, Try.ntmps52
  go_wp2_with fail
  generalize ((w.alloc (.cells #[.slice (some ⟨g, 0, none⟩) f.length cap, .int .i64 next] 37)).alloc (.cells #[.string e.key, .int .i64 e.id] 40)).alloc (.cells #[.slice none 0 0, .int .i64 0] 37) = W0 at M0 HR ⊢
  have a0 := M0.c0
  have a1 := M0.c1
  have b0 := M0.d0
  have b1 := M0.d1
  go_wp2_with (go_at_call 59; refine (specPlace_any (some ⟨g, 0, none⟩) cap f next e _ (HR.out.next (by (repeat (first | (with_reducible exact Below.refl _ _) | (with_reducible assumption) | (with_reducible apply below_drewN) | (with_reducible apply Below.drew) | ((with_reducible refine Below.setCell ?_ ?_ _); rotate_left; focus (first | (simp; done) | (simp; omega) | omega)) | ((with_reducible refine Below.alloc ?_ ?_ _); rotate_left; focus (first | (simp; done) | (simp; omega) | omega)))))) (by omega) (by omega) (fun l hl => Nat.le_trans (HSM.out l hl) (by omega))).mono ?_; rintro e' w2 ⟨he2, hb2⟩; rw [hkk] at he2; subst he2; have hB2 : Below W0.heap.size W0 w2 := (show Below W0.heap.size W0 _ by (repeat (first | (with_reducible exact Below.refl _ _) | (with_reducible assumption) | (with_reducible apply below_drewN) | (with_reducible apply Below.drew) | ((with_reducible refine Below.setCell ?_ ?_ _); rotate_left; focus (first | (simp; done) | (simp; omega) | omega)) | ((with_reducible refine Below.alloc ?_ ?_ _); rotate_left; focus (first | (simp; done) | (simp; omega) | omega))))).trans (hb2.mono (by simp)); clear hb2; have M2 := M0.next hB2; clear HR M0 a0 a1 b0 b1 hB2; have a0 := M2.c0; have x1 := (M2.bel.cell hgw).trans HP.out.row)
  go_loopw [9] (fun i' wr => ∃ q : Nat, q ≤ i ∧ i' = .int .i64 q ∧ Below w2.heap.size w2 wr) (fun i' _ => i - (intOf i').toNat)
  case atStart => exact ⟨0, Nat.zero_le _, rfl, Below.refl _ _⟩
  case round =>
    obtain ⟨q, hq, rfl, hbel⟩ := hrel
    have M := M2.next hbel
    have HM : Hid (MkD _ _ _ _ _) := M
    have hz := M.lt
    have u2 : ∀ u : Under wr, u.x.cell? ⟨w.heap.size + 1, 0, none⟩ = some (.string e.key) := fun u => (u.h.cell (show w.heap.size + 1 < _ by omega)).trans M.d0
    have u3 : ∀ u : Under wr, u.x.cell? ⟨w.heap.size + 1, 1, none⟩ = some (.int .i64 e.id) := fun u => (u.h.cell (show w.heap.size + 1 < _ by omega)).trans M.d1
    have hnu : Nonempty (Under wr) := ⟨⟨wr, Below.refl _ _⟩⟩
    have hwz := M.bel.size
    by_cases hlt : q < i
    · have hql : q < f[k].es.length := by omega
      obtain ⟨b, off, rfl, hbl, hc⟩ := HP.out.ents.resolve_left (by omega)
      obtain ⟨y0, y1⟩ := hc q hql
      have u0 : ∀ u : Under wr, u.x.cell? ⟨b, off + q * 2, none⟩ = some (.string f[k].es[q].key) := fun u => (u.h.cell (Nat.lt_of_lt_of_le hbl hwz)).trans ((M.bel.cell hbl).trans y0)
      have u1 : ∀ u : Under wr, u.x.cell? ⟨b, off + q * 2 + 1, none⟩ = some (.int .i64 f[k].es[q].id) := fun u => (u.h.cell (Nat.lt_of_lt_of_le hbl hwz)).trans ((M.bel.cell hbl).trans y1)
      have hlt2 : (q : Int) < (f[k].es.length : Int) := by omega
      have hls : lessE f[k].es[q] e = true := HPL.out.lo q hql hlt
      obtain ⟨x, hx⟩ : ∃ x, x = f[k].es[q] := ⟨_, rfl⟩
      rw [← hx] at u0 u1 hls
      have HLS : Hid (∀ u : Under wr, Calls Try.prog 99 #[.agg #[.string x.key, .int .i64 x.id], .agg #[.string e.key, .int .i64 e.id]] u.x fun e' w' => e' = .returned (.bool true) ∧ Below u.x.heap.size u.x w') := fun u => by
        have h := specLess_any x.key e.key x.id e.id u.x
        rw [show lessE ⟨x.key, x.id⟩ ⟨e.key, e.id⟩ = true from hls] at h; exact h
      clear hc y0 y1 M hx hls
      go_wp2_with fail
      refine wp_region_under (by kernel_rfl) (by kernel_rfl) ?_
      repeat (go_big_quiet_step ((go_at_call 99; exact calls_under _ (HLS.out _))))
      refine wpQuiet_nil ?_
      rintro _ ⟨u, rfl⟩
      have hbu := hbel.trans (u.h.mono hbel.size)
      go_wp2_with fail
      go_roundw
      case rel => exact ⟨q + 1, by omega, by go_num, hbu⟩
      case measure => simp [intOf]; omega
    · obtain rfl : q = i := by omega
      clear M
      have hql : q < f[k].es.length := (HPL.out.at_.1 rfl).1
      have hqe : f[k].es[q] = e := (HPL.out.at_.1 rfl).2
      have hql2 : (q : Int) < (f[k].es.length : Int) := by omega
      obtain ⟨b, off, rfl, hbl, hc⟩ := HP.out.ents.resolve_left (by omega)
      obtain ⟨y0, y1⟩ := hc q hql
      have u0 : ∀ u : Under wr, u.x.cell? ⟨b, off + q * 2, none⟩ = some (.string f[k].es[q].key) := fun u => (u.h.cell (Nat.lt_of_lt_of_le hbl hwz)).trans ((HM.out.bel.cell hbl).trans y0)
      have u1 : ∀ u : Under wr, u.x.cell? ⟨b, off + q * 2 + 1, none⟩ = some (.int .i64 f[k].es[q].id) := fun u => (u.h.cell (Nat.lt_of_lt_of_le hbl hwz)).trans ((HM.out.bel.cell hbl).trans y1)
      have hls : lessE f[k].es[q] e = false := HPL.out.hi q hql (Nat.le_refl _)
      obtain ⟨x, hx⟩ : ∃ x, x = f[k].es[q] := ⟨_, rfl⟩
      have hbe : (x.key.toList == e.key.toList && x.id == e.id) = true := by rw [hx]; exact (ent_beq _ _).2 hqe
      rw [← hx] at u0 u1 hls
      have qn : ∀ W : World, (binOp .eql 40 (.agg #[.string x.key, .int .i64 x.id]) (.agg #[.string e.key, .int .i64 e.id])).run Try.prog W = .ok (.bool true) W := fun W => by rw [eqlEnt x e W, hbe]
      have HLS : Hid (∀ u : Under wr, Calls Try.prog 99 #[.agg #[.string x.key, .int .i64 x.id], .agg #[.string e.key, .int .i64 e.id]] u.x fun e' w' => e' = .returned (.bool false) ∧ Below u.x.heap.size u.x w') := fun u => by
        have h := specLess_any x.key e.key x.id e.id u.x
        rw [show lessE ⟨x.key, x.id⟩ ⟨e.key, e.id⟩ = false from hls] at h; exact h
      have HU : Hid ((∀ u : Under wr, u.x.cell? ⟨b, off + q * 2, none⟩ = some (.string x.key)) ∧ ∀ u : Under wr, u.x.cell? ⟨b, off + q * 2 + 1, none⟩ = some (.int .i64 x.id)) := ⟨u0, u1⟩
      clear hc y0 y1 hls hbe hx hqe
      go_wp2_with fail
      refine wp_region_under (by kernel_rfl) (by kernel_rfl) ?_
      repeat (go_big_quiet_step ((go_at_call 99; exact calls_under _ (HLS.out _))))
      refine wpQuiet_nil ?_
      rintro _ ⟨u, rfl⟩
      obtain ⟨w3, hb3⟩ := u
      dsimp only
      have HB3 : Hid (Below w2.heap.size w2 w3) := hbel.trans (hb3.mono hbel.size)
      have v0 : ∀ u : Under w3, u.x.cell? ⟨b, off + q * 2, none⟩ = some (.string x.key) := fun u => HU.out.1 ⟨u.x, hb3.trans (u.h.mono hb3.size)⟩
      have v1 : ∀ u : Under w3, u.x.cell? ⟨b, off + q * 2 + 1, none⟩ = some (.int .i64 x.id) := fun u => HU.out.2 ⟨u.x, hb3.trans (u.h.mono hb3.size)⟩
      have v2 : ∀ u : Under w3, u.x.cell? ⟨w.heap.size + 1, 0, none⟩ = some (.string e.key) := fun u => u2 ⟨u.x, hb3.trans (u.h.mono hb3.size)⟩
      have v3 : ∀ u : Under w3, u.x.cell? ⟨w.heap.size + 1, 1, none⟩ = some (.int .i64 e.id) := fun u => u3 ⟨u.x, hb3.trans (u.h.mono hb3.size)⟩
      have hnu3 : Nonempty (Under w3) := ⟨⟨w3, Below.refl _ _⟩⟩
      clear u0 u1 u2 u3 hnu HLS HU hb3 hbel
      go_wp2_with fail
      refine wp_region_under (by kernel_rfl) (by kernel_rfl) ?_
      repeat (go_big_quiet_step (fail))
      refine wpQuiet_nil ?_
      rintro _ ⟨u, rfl⟩
      obtain ⟨w4, hb4⟩ := u
      dsimp only
      have M4 := M2.next (HB3.out.trans (hb4.mono HB3.out.size))
      have HM4 : Hid (MkD _ _ _ _ _) := M4
      clear v0 v1 v2 v3 hnu3 hb4 HB3 HM qn
      obtain ⟨mb, ml, mc0, mc1, mz0, mz1, md0, md1, mr0, mr1, my0, my1⟩ := M4
      go_wp2_with fail
      refine bodyPost_ret (v := .tuple #[.agg #[.slice (some ⟨g, 0, none⟩) f.length cap, .int .i64 next], .int .i64 0, .int .i64 12]) (by simp [results, Try.results52, go_sem, *]) rfl ⟨rfl, ?_⟩
      (repeat (first | (with_reducible exact Below.refl _ _) | (with_reducible assumption) | (with_reducible apply below_drewN) | (with_reducible apply Below.drew) | ((with_reducible refine Below.setCell ?_ ?_ _); rotate_left; focus (first | (simp; done) | (simp; omega) | omega)) | ((with_reducible refine Below.alloc ?_ ?_ _); rotate_left; focus (first | (simp; done) | (simp; omega) | omega))))

set_option maxRecDepth 4000 in
set_option maxHeartbeats 4000000 in
theorem specPut_full (g cap : Nat) (f : List Pg) (next : Int) (e : Ent) (k i : Nat) (w : World) (hF : FullP w g f) (hT : treeB f next = true) (hkk : place f e = k) (hk : k < f.length) (hP : PlaceE f[k].es e i false) (hfour : f[k].es.length = 4) (hfull : f.length = 60 ∨ next = 100000) :
    Calls Try.prog 52 #[.agg #[.slice (some ⟨g, 0, none⟩) f.length cap, .int .i64 next], .agg #[.string e.key, .int .i64 e.id]] w fun e' w' => e' = .returned (.tuple #[.agg #[.slice (some ⟨g, 0, none⟩) f.length cap, .int .i64 next], .int .i64 0, .int .i64 7]) ∧ Below w.heap.size w w' := by
  have H4 : Hid (f[k].es.length = 4) := hfour
  clear hfour
  have M0 := MkD.start w (.slice (some ⟨g, 0, none⟩) f.length cap) next e 37 40
  have HF : Hid (FullP w g f) := hF
  have HSM : Hid (∀ l ∈ f, l.es.length ≤ 4) := tree_small hT
  have h60 : 1 ≤ f.length ∧ f.length ≤ 60 := by have := ((treeB_iff f next).1 hT).1; omega
  have hnx : 2 ≤ next ∧ next ≤ 100000 := by have := ((treeB_iff f next).1 hT).1; omega
  obtain ⟨qa, ca, hp⟩ := hF.pages k hk
  have HP : Hid (PgC w g (k * 2) qa ca f[k]) := hp
  have hgw := hF.lt
  have hca2 := hp.cap
  have hs4 := HSM.out f[k] (List.getElem_mem _)
  have HPL : Hid (PlaceE f[k].es e i false) := hP
  have hi := hP.le
  have hk2 : (k : Int) < (f.length : Int) := by omega
  have HR : Hid (RowP _ _ _) := hF.rowP.next ((((Below.refl w.heap.size w).alloc (Nat.le_refl _) (.cells #[.slice (some ⟨g, 0, none⟩) f.length cap, .int .i64 next] 37)).alloc (by simp) (.cells #[.string e.key, .int .i64 e.id] 40)).alloc (by simp; omega) (.cells #[.slice none 0 0, .int .i64 0] 37))
  clear hp hF hT hP
  go_enter Try.func52, Try.ntmps52
  go_wp2_with fail
  generalize ((w.alloc (.cells #[.slice (some ⟨g, 0, none⟩) f.length cap, .int .i64 next] 37)).alloc (.cells #[.string e.key, .int .i64 e.id] 40)).alloc (.cells #[.slice none 0 0, .int .i64 0] 37) = W0 at M0 HR ⊢
  have a0 := M0.c0
  have a1 := M0.c1
  have b0 := M0.d0
  have b1 := M0.d1
  go_wp2_with (go_at_call 59; refine (specPlace_any (some ⟨g, 0, none⟩) cap f next e _ (HR.out.next (by (repeat (first | (with_reducible exact Below.refl _ _) | (with_reducible assumption) | (with_reducible apply below_drewN) | (with_reducible apply Below.drew) | ((with_reducible refine Below.setCell ?_ ?_ _); rotate_left; focus (first | (simp; done) | (simp; omega) | omega)) | ((with_reducible refine Below.alloc ?_ ?_ _); rotate_left; focus (first | (simp; done) | (simp; omega) | omega)))))) (by omega) (by omega) (fun l hl => Nat.le_trans (HSM.out l hl) (by omega))).mono ?_; rintro e' w2 ⟨he2, hb2⟩; rw [hkk] at he2; subst he2; have hB2 : Below W0.heap.size W0 w2 := (show Below W0.heap.size W0 _ by (repeat (first | (with_reducible exact Below.refl _ _) | (with_reducible assumption) | (with_reducible apply below_drewN) | (with_reducible apply Below.drew) | ((with_reducible refine Below.setCell ?_ ?_ _); rotate_left; focus (first | (simp; done) | (simp; omega) | omega)) | ((with_reducible refine Below.alloc ?_ ?_ _); rotate_left; focus (first | (simp; done) | (simp; omega) | omega))))).trans (hb2.mono (by simp)); clear hb2; have M2 := M0.next hB2; clear HR M0 a0 a1 b0 b1 hB2; have a0 := M2.c0; have x1 := (M2.bel.cell hgw).trans HP.out.row)
  go_loopw [9] (fun i' wr => ∃ q : Nat, q ≤ i ∧ i' = .int .i64 q ∧ Below w2.heap.size w2 wr) (fun i' _ => i - (intOf i').toNat)
  case atStart => exact ⟨0, Nat.zero_le _, rfl, Below.refl _ _⟩
  case round =>
    obtain ⟨q, hq, rfl, hbel⟩ := hrel
    have M := M2.next hbel
    have HM : Hid (MkD _ _ _ _ _) := M
    have hz := M.lt
    have u2 : ∀ u : Under wr, u.x.cell? ⟨w.heap.size + 1, 0, none⟩ = some (.string e.key) := fun u => (u.h.cell (show w.heap.size + 1 < _ by omega)).trans M.d0
    have u3 : ∀ u : Under wr, u.x.cell? ⟨w.heap.size + 1, 1, none⟩ = some (.int .i64 e.id) := fun u => (u.h.cell (show w.heap.size + 1 < _ by omega)).trans M.d1
    have hnu : Nonempty (Under wr) := ⟨⟨wr, Below.refl _ _⟩⟩
    have hwz := M.bel.size
    by_cases hlt : q < i
    · have hql : q < f[k].es.length := by omega
      obtain ⟨b, off, rfl, hbl, hc⟩ := HP.out.ents.resolve_left (by omega)
      obtain ⟨y0, y1⟩ := hc q hql
      have u0 : ∀ u : Under wr, u.x.cell? ⟨b, off + q * 2, none⟩ = some (.string f[k].es[q].key) := fun u => (u.h.cell (Nat.lt_of_lt_of_le hbl hwz)).trans ((M.bel.cell hbl).trans y0)
      have u1 : ∀ u : Under wr, u.x.cell? ⟨b, off + q * 2 + 1, none⟩ = some (.int .i64 f[k].es[q].id) := fun u => (u.h.cell (Nat.lt_of_lt_of_le hbl hwz)).trans ((M.bel.cell hbl).trans y1)
      have hlt2 : (q : Int) < (f[k].es.length : Int) := by omega
      have hls : lessE f[k].es[q] e = true := HPL.out.lo q hql hlt
      obtain ⟨x, hx⟩ : ∃ x, x = f[k].es[q] := ⟨_, rfl⟩
      rw [← hx] at u0 u1 hls
      have HLS : Hid (∀ u : Under wr, Calls Try.prog 99 #[.agg #[.string x.key, .int .i64 x.id], .agg #[.string e.key, .int .i64 e.id]] u.x fun e' w' => e' = .returned (.bool true) ∧ Below u.x.heap.size u.x w') := fun u => by
        have h := specLess_any x.key e.key x.id e.id u.x
        rw [show lessE ⟨x.key, x.id⟩ ⟨e.key, e.id⟩ = true from hls] at h; exact h
      clear hc y0 y1 M hx hls
      go_wp2_with fail
      refine wp_region_under (by kernel_rfl) (by kernel_rfl) ?_
      repeat (go_big_quiet_step ((go_at_call 99; exact calls_under _ (HLS.out _))))
      refine wpQuiet_nil ?_
      rintro _ ⟨u, rfl⟩
      have hbu := hbel.trans (u.h.mono hbel.size)
      go_wp2_with fail
      go_roundw
      case rel => exact ⟨q + 1, by omega, by go_num, hbu⟩
      case measure => simp [intOf]; omega
    · obtain rfl : q = i := by omega
      clear M
      rcases Nat.lt_or_ge q f[k].es.length with hql | hql
      · have hqe : ¬ f[k].es[q] = e := fun h => by have := HPL.out.at_.2 ⟨hql, h⟩; cases this
        have hql2 : (q : Int) < (f[k].es.length : Int) := by omega
        obtain ⟨b, off, rfl, hbl, hc⟩ := HP.out.ents.resolve_left (by omega)
        obtain ⟨y0, y1⟩ := hc q hql
        have u0 : ∀ u : Under wr, u.x.cell? ⟨b, off + q * 2, none⟩ = some (.string f[k].es[q].key) := fun u => (u.h.cell (Nat.lt_of_lt_of_le hbl hwz)).trans ((HM.out.bel.cell hbl).trans y0)
        have u1 : ∀ u : Under wr, u.x.cell? ⟨b, off + q * 2 + 1, none⟩ = some (.int .i64 f[k].es[q].id) := fun u => (u.h.cell (Nat.lt_of_lt_of_le hbl hwz)).trans ((HM.out.bel.cell hbl).trans y1)
        have hls : lessE f[k].es[q] e = false := HPL.out.hi q hql (Nat.le_refl _)
        obtain ⟨x, hx⟩ : ∃ x, x = f[k].es[q] := ⟨_, rfl⟩
        have hbe : (x.key.toList == e.key.toList && x.id == e.id) = false := by rw [Bool.eq_false_iff]; intro h; exact hqe (by rw [← hx]; exact (ent_beq _ _).1 h)
        rw [← hx] at u0 u1 hls
        have qn : ∀ W : World, (binOp .eql 40 (.agg #[.string x.key, .int .i64 x.id]) (.agg #[.string e.key, .int .i64 e.id])).run Try.prog W = .ok (.bool false) W := fun W => by rw [eqlEnt x e W, hbe]
        have HLS : Hid (∀ u : Under wr, Calls Try.prog 99 #[.agg #[.string x.key, .int .i64 x.id], .agg #[.string e.key, .int .i64 e.id]] u.x fun e' w' => e' = .returned (.bool false) ∧ Below u.x.heap.size u.x w') := fun u => by
          have h := specLess_any x.key e.key x.id e.id u.x
          rw [show lessE ⟨x.key, x.id⟩ ⟨e.key, e.id⟩ = false from hls] at h; exact h
        have HU : Hid ((∀ u : Under wr, u.x.cell? ⟨b, off + q * 2, none⟩ = some (.string x.key)) ∧ ∀ u : Under wr, u.x.cell? ⟨b, off + q * 2 + 1, none⟩ = some (.int .i64 x.id)) := ⟨u0, u1⟩
        clear hc y0 y1 hls hbe hx hqe
        go_wp2_with fail
        refine wp_region_under (by kernel_rfl) (by kernel_rfl) ?_
        repeat (go_big_quiet_step ((go_at_call 99; exact calls_under _ (HLS.out _))))
        refine wpQuiet_nil ?_
        rintro _ ⟨u, rfl⟩
        obtain ⟨w3, hb3⟩ := u
        dsimp only
        have HB3 : Hid (Below w2.heap.size w2 w3) := hbel.trans (hb3.mono hbel.size)
        have v0 : ∀ u : Under w3, u.x.cell? ⟨b, off + q * 2, none⟩ = some (.string x.key) := fun u => HU.out.1 ⟨u.x, hb3.trans (u.h.mono hb3.size)⟩
        have v1 : ∀ u : Under w3, u.x.cell? ⟨b, off + q * 2 + 1, none⟩ = some (.int .i64 x.id) := fun u => HU.out.2 ⟨u.x, hb3.trans (u.h.mono hb3.size)⟩
        have v2 : ∀ u : Under w3, u.x.cell? ⟨w.heap.size + 1, 0, none⟩ = some (.string e.key) := fun u => u2 ⟨u.x, hb3.trans (u.h.mono hb3.size)⟩
        have v3 : ∀ u : Under w3, u.x.cell? ⟨w.heap.size + 1, 1, none⟩ = some (.int .i64 e.id) := fun u => u3 ⟨u.x, hb3.trans (u.h.mono hb3.size)⟩
        have hnu3 : Nonempty (Under w3) := ⟨⟨w3, Below.refl _ _⟩⟩
        clear u0 u1 u2 u3 hnu HLS HU hb3 hbel
        go_wp2_with fail
        refine wp_region_under (by kernel_rfl) (by kernel_rfl) ?_
        repeat (go_big_quiet_step (fail))
        refine wpQuiet_nil ?_
        rintro _ ⟨u, rfl⟩
        obtain ⟨w4, hb4⟩ := u
        dsimp only
        have M4 := M2.next (HB3.out.trans (hb4.mono HB3.out.size))
        have HM4 : Hid (MkD _ _ _ _ _) := M4
        clear v0 v1 v2 v3 hnu3 hb4 HB3 HM qn
        have t4 : ((f[k].es.length : Int) == 4) = true := by have := H4.out; simp; omega
        rcases (show f.length = 60 ∨ (¬ f.length = 60 ∧ next = 100000) by omega) with h6 | ⟨h6, h7⟩
        · have t5 : ((f.length : Int) == 60) = true := by simp; omega
          clear h6
          obtain ⟨mb, ml, mc0, mc1, mz0, mz1, md0, md1, mr0, mr1, my0, my1⟩ := M4
          go_wp2_with fail
          refine bodyPost_ret (v := .tuple #[.agg #[.slice (some ⟨g, 0, none⟩) f.length cap, .int .i64 next], .int .i64 0, .int .i64 7]) (by simp [results, Try.results52, go_sem, *]) rfl ⟨rfl, ?_⟩
          (repeat (first | (with_reducible exact Below.refl _ _) | (with_reducible assumption) | (with_reducible apply below_drewN) | (with_reducible apply Below.drew) | ((with_reducible refine Below.setCell ?_ ?_ _); rotate_left; focus (first | (simp; done) | (simp; omega) | omega)) | ((with_reducible refine Below.alloc ?_ ?_ _); rotate_left; focus (first | (simp; done) | (simp; omega) | omega))))
        · have t5 : ((f.length : Int) == 60) = false := beq_eq_false_iff_ne.mpr (by omega)
          have t6 : (next == 100000) = true := by simp [h7]
          obtain ⟨mb, ml, mc0, mc1, mz0, mz1, md0, md1, mr0, mr1, my0, my1⟩ := M4
          go_wp2_with fail
          refine bodyPost_ret (v := .tuple #[.agg #[.slice (some ⟨g, 0, none⟩) f.length cap, .int .i64 next], .int .i64 0, .int .i64 7]) (by simp [results, Try.results52, go_sem, *]) rfl ⟨rfl, ?_⟩
          (repeat (first | (with_reducible exact Below.refl _ _) | (with_reducible assumption) | (with_reducible apply below_drewN) | (with_reducible apply Below.drew) | ((with_reducible refine Below.setCell ?_ ?_ _); rotate_left; focus (first | (simp; done) | (simp; omega) | omega)) | ((with_reducible refine Below.alloc ?_ ?_ _); rotate_left; focus (first | (simp; done) | (simp; omega) | omega))))
      · have hdb : decide ((q : Int) < (f[k].es.length : Int)) = false := decide_eq_false (by omega)
        have hdn : decide (q < f[k].es.length) = false := decide_eq_false (by omega)
        go_wp2_with fail
        refine wp_region_under (by kernel_rfl) (by kernel_rfl) ?_
        repeat (go_big_quiet_step (fail))
        refine wpQuiet_nil ?_
        rintro _ ⟨u, rfl⟩
        obtain ⟨w3, hb3⟩ := u
        dsimp only
        have HB3 : Hid (Below w2.heap.size w2 w3) := hbel.trans (hb3.mono hbel.size)
        have hnu3 : Nonempty (Under w3) := ⟨⟨w3, Below.refl _ _⟩⟩
        clear u2 u3 hnu hb3 hbel
        go_wp2_with fail
        refine wp_region_under (by kernel_rfl) (by kernel_rfl) ?_
        repeat (go_big_quiet_step (fail))
        refine wpQuiet_nil ?_
        rintro _ ⟨u, rfl⟩
        obtain ⟨w4, hb4⟩ := u
        dsimp only
        have M4 := M2.next (HB3.out.trans (hb4.mono HB3.out.size))
        have HM4 : Hid (MkD _ _ _ _ _) := M4
        clear hnu3 hb4 HB3 HM hql hdb hdn
        have t4 : ((f[k].es.length : Int) == 4) = true := by have := H4.out; simp; omega
        rcases (show f.length = 60 ∨ (¬ f.length = 60 ∧ next = 100000) by omega) with h6 | ⟨h6, h7⟩
        · have t5 : ((f.length : Int) == 60) = true := by simp; omega
          clear h6
          obtain ⟨mb, ml, mc0, mc1, mz0, mz1, md0, md1, mr0, mr1, my0, my1⟩ := M4
          go_wp2_with fail
          refine bodyPost_ret (v := .tuple #[.agg #[.slice (some ⟨g, 0, none⟩) f.length cap, .int .i64 next], .int .i64 0, .int .i64 7]) (by simp [results, Try.results52, go_sem, *]) rfl ⟨rfl, ?_⟩
          (repeat (first | (with_reducible exact Below.refl _ _) | (with_reducible assumption) | (with_reducible apply below_drewN) | (with_reducible apply Below.drew) | ((with_reducible refine Below.setCell ?_ ?_ _); rotate_left; focus (first | (simp; done) | (simp; omega) | omega)) | ((with_reducible refine Below.alloc ?_ ?_ _); rotate_left; focus (first | (simp; done) | (simp; omega) | omega))))
        · have t5 : ((f.length : Int) == 60) = false := beq_eq_false_iff_ne.mpr (by omega)
          have t6 : (next == 100000) = true := by simp [h7]
          obtain ⟨mb, ml, mc0, mc1, mz0, mz1, md0, md1, mr0, mr1, my0, my1⟩ := M4
          go_wp2_with fail
          refine bodyPost_ret (v := .tuple #[.agg #[.slice (some ⟨g, 0, none⟩) f.length cap, .int .i64 next], .int .i64 0, .int .i64 7]) (by simp [results, Try.results52, go_sem, *]) rfl ⟨rfl, ?_⟩
          (repeat (first | (with_reducible exact Below.refl _ _) | (with_reducible assumption) | (with_reducible apply below_drewN) | (with_reducible apply Below.drew) | ((with_reducible refine Below.setCell ?_ ?_ _); rotate_left; focus (first | (simp; done) | (simp; omega) | omega)) | ((with_reducible refine Below.alloc ?_ ?_ _); rotate_left; focus (first | (simp; done) | (simp; omega) | omega))))

end Go.Proofs.Ytnmpfooegnmknaa.Tr
