/- An entry put into a tree by the specification: where there is room. -/
import Derived.Test.YtnmpfooegnmknaaPutP
import Derived.Deep.DeepCutAuto
namespace Go.Proofs.Ytnmpfooegnmknaa.Tr
open Go.RowKit
set_option linter.unusedVariables false

theorem size_alloc (w : World) (o : Obj) : (w.alloc o).heap.size = w.heap.size + 1 := by simp
theorem PgC.none_cap {w : World} {b o c : Nat} {q : Option Addr} {p : Pg} (h : PgC w b o q c p) : q = none → c = 0 := fun e => by
  rcases h.form with ⟨_, hc⟩ | ⟨_, _, h2, _⟩
  · exact hc
  · rw [e] at h2; cases h2
theorem tail_none {w : World} {b o c i : Nat} {q q' : Option Addr} {p : Pg} (h : PgC w b o q c p) (hqs : ∀ W : World, (Instr.slice 47 (.slice q p.es.length c) (some (.int .i64 i)) none none).run Try.prog W = .ok (.slice q' (p.es.length - i) (c - i)) W) (hi : i ≤ p.es.length) (hqq : q' = none ∨ ∃ x y y', q' = some ⟨x, y, none⟩ ∧ q = some ⟨x, y', none⟩ ∧ x < w.heap.size) : q' = none → c - i = 0 := fun e => by
  rcases h.form with ⟨_, hc⟩ | ⟨x, y, h2, _⟩
  · omega
  · exfalso
    have := hqs w
    rw [h2, cutTailE x y p.es.length c i hi, e] at this
    injection this with this; injection this with this; cases this
theorem cutHeadO (q : Option Addr) (n ca i : Nat) (h : i ≤ ca) (hq : q = none → i = 0) (W : World) : (Instr.slice 47 (.slice q n ca) none (some (.int .i64 i)) none).run Try.prog W = .ok (.slice q i ca) W := by
  cases q with
  | none =>
    have := hq rfl
    subst this
    have he : Try.prog.elem 47 = 40 := by kernel_rfl
    refine (run_slice_h (P := Try.prog) (w := W) 47 none n ca (by kernel_rfl) .i64 ((0 : Nat) : Int) (by omega) (by omega)).trans ?_
    rw [he, Try.sizeOf40]
    simp [sliced, Result.andThen]
  | some a =>
    have he : Try.prog.elem 47 = 40 := by kernel_rfl
    refine (run_slice_h (P := Try.prog) (w := W) 47 (some a) n ca (by kernel_rfl) .i64 i (by omega) (by omega)).trans ?_
    rw [he, Try.sizeOf40]
    simp [sliced, Result.andThen, Addr.add]
theorem lieE_new (w : World) (e : Ent) : LieE (w.alloc (.cells #[.string e.key, .int .i64 e.id] 40)) (some ⟨w.heap.size, 0, none⟩) [e] :=
  .inr ⟨w.heap.size, 0, rfl, by simp, two_new w e.key e.id _⟩
theorem LieE.grown2 {W w1 : World} {r : Option Nat} {vb b : Nat} {l : List Ent} (hg : W.grownBy w1 r) (hr : r = some b) (h : LieE W (some ⟨vb, 0, none⟩) l) (hne : vb ≠ b) : LieE w1 (some ⟨vb, 0, none⟩) l := by
  subst hr
  rcases h with ⟨h, _⟩ | ⟨b', off, e, hl, hc⟩
  · cases h
  · cases e
    refine .inr ⟨vb, 0, rfl, Nat.lt_of_lt_of_le hl hg.size, fun j u hj => ?_⟩
    have := hc j u hj
    have hadd : (⟨vb, 0, none⟩ : Addr).add j = ⟨vb, 0 + j, none⟩ := by unfold Addr.add; split <;> simp_all
    rw [hadd] at this ⊢
    exact (World.cell?_of_block (hg.block vb hl (fun e => hne (Option.some.inj e)))).trans this
theorem insE_flat2 (l : List Ent) (i : Nat) (e : Ent) : [] ++ flatE (l.take i) ++ flatE [e] ++ flatE (l.drop i) = flatE (insE l i e) := by
  unfold insE; rw [List.nil_append, flatE_app, flatE_cons, List.append_assoc]; rfl
/-- An append of entries, or of none, onto a row of the call's own that is not nil. -/
theorem step_appT {ops : Array Oper} {o : Oper} {a : Act} {w : World} {K : Act → World → Prop} {Q : Exit → Act → World → Prop} {E : Prop} (hgd : o.guard = none) (s x : Operand)
    (ho : o.op = .call { callee := .builtin .append, args := #[s, x], argTypes := #[47, 47] }) (base n gv cv : Nat) (xs : List Value)
    (hs : a.eval s = .slice (some ⟨gv, 0, none⟩) n cv) (hown : w.ownsRow base 40 2 (.slice (some ⟨gv, 0, none⟩) n cv) n xs) (q : Option Addr) (m c : Nat) (l : List Ent) (hx : a.eval x = .slice q m c) (hl : l.length = m) (hc0 : q = none → c = 0) (hq : LieE w q l) (N : Nat) (hN : n + m = N)
    (hn : n ≤ 1000) (hm : m ≤ 1000) (hbase : base ≤ w.heap.size)
    (hK : ∀ g' c' w', w'.ownsRow base 40 2 (.slice (some ⟨g', 0, none⟩) N c') N (xs ++ flatE l) → w.grownBy w' (some gv) → K (a.put o.dst (.slice (some ⟨g', 0, none⟩) N c')) w') : if Region.wanted o (yielded ops a.tmps) = true then Oper.wp Try.prog o a w K Q else E := by
  subst hN
  have hw : Region.wanted o (yielded ops a.tmps) = true := by simp [Region.wanted, hgd]
  rw [if_pos hw]
  obtain ⟨i0, hi, hz0, hz1, hz2⟩ := info_parts infoE
  rcases hq with ⟨rfl, rfl⟩ | ⟨b, off, rfl, _, hcs⟩
  · have hm0 : m = 0 := by rw [← hl]; rfl
    subst hm0
    have hcc := hc0 rfl
    subst hcc
    have hr := run_append_owned_none (P := Try.prog) (w := w) base 47 o.type 40 i0 2 Try.underlying47 hi _ n xs hown
    unfold Oper.wp execOp
    simp only [ho, resolve, invoke, builtin, Sem.run_bind, Sem.run_pure, Result.andThen_ok, List.map_toArray, List.map_cons, List.map_nil, hs, hx, hr]
    exact hK gv cv w (by simpa [flatE] using hown) ⟨rfl, rfl, rfl, Nat.le_refl _, fun _ _ _ => rfl⟩
  · obtain ⟨v', w', hr, h2, h3, h4, h5⟩ := run_append_own_at (P := Try.prog) w base 47 o.type 40 i0 (.agg #[.string em, .int .i64 0]) 2 24 Try.underlying47 hi hz0 hz1 hz2 rfl (by decide) _ n xs hown ⟨b, off, none⟩ m c (flatE l) (by rw [flatE_len, hl]) hcs (flatE_one l) (by unfold maxLen; omega) (by omega) hbase
    unfold Oper.wp execOp
    simp only [ho, resolve, invoke, builtin, Sem.run_bind, Sem.run_pure, Result.andThen_ok, List.map_toArray, List.map_cons, List.map_nil, hs, hx, hr]
    have hv : ∃ g' c', v' = .slice (some ⟨g', 0, none⟩) (n + m) c' := by
      rcases h2.2 with ⟨h0, _⟩ | ⟨g', c', cur, hv, _⟩
      · have := (h4.1 h0).1; cases this
      · exact ⟨g', c', hv⟩
    obtain ⟨g', c', rfl⟩ := hv
    exact hK g' c' w' h2 h3

set_option maxRecDepth 4000 in
set_option maxHeartbeats 8000000 in
theorem specPut_small (g cap : Nat) (f : List Pg) (next : Int) (e : Ent) (k i : Nat) (w : World) (hF : FullP w g f) (hT : treeB f next = true) (hkk : place f e = k) (hk : k < f.length) (hP : PlaceE f[k].es e i false) (hsmall : f[k].es.length < 4) :
    Calls Try.prog 52 #[.agg #[.slice (some ⟨g, 0, none⟩) f.length cap, .int .i64 next], .agg #[.string e.key, .int .i64 e.id]] w fun e' w' => (∃ p' cap', e' = .returned (.tuple #[.agg #[.slice p' f.length cap', .int .i64 next], .int .i64 0, .int .i64 0]) ∧ RowF w' p' (putP f k i e)) ∧ Below w.heap.size w w' := by
  have HSMALL : Hid (f[k].es.length < 4) := hsmall
  clear hsmall
  have M0 := MkD.start w (.slice (some ⟨g, 0, none⟩) f.length cap) next e 37 40
  have HF : Hid (FullP w g f) := hF
  have HSM : Hid (∀ l ∈ f, l.es.length ≤ 4) := tree_small hT
  have h60 : 1 ≤ f.length ∧ f.length ≤ 60 := by have := ((treeB_iff f next).1 hT).1; omega
  have hnx : 2 ≤ next ∧ next ≤ 100000 := by have := ((treeB_iff f next).1 hT).1; omega
  obtain ⟨qa, ca, hp⟩ := hF.pages k hk
  have HP : Hid (PgC w g (k * 2) qa ca f[k]) := hp
  have hgw := hF.lt
  have hca2 := hp.cap
  have hs4 := HSM.out f[k] (List.getElem_mem _)
  have HPL : Hid (PlaceE f[k].es e i false) := hP
  have hi := hP.le
  have hk2 : (k : Int) < (f.length : Int) := by omega
  have HR : Hid (RowP _ _ _) := hF.rowP.next ((((Below.refl w.heap.size w).alloc (Nat.le_refl _) (.cells #[.slice (some ⟨g, 0, none⟩) f.length cap, .int .i64 next] 37)).alloc (by simp) (.cells #[.string e.key, .int .i64 e.id] 40)).alloc (by simp; omega) (.cells #[.slice none 0 0, .int .i64 0] 37))
  clear hp hF hT hP
  go_enter Try.func52, Try.ntmps52
  go_wp2_with fail
  generalize ((w.alloc (.cells #[.slice (some ⟨g, 0, none⟩) f.length cap, .int .i64 next] 37)).alloc (.cells #[.string e.key, .int .i64 e.id] 40)).alloc (.cells #[.slice none 0 0, .int .i64 0] 37) = W0 at M0 HR ⊢
  have a0 := M0.c0
  have a1 := M0.c1
  have b0 := M0.d0
  have b1 := M0.d1
  go_wp2_with (go_at_call 59; refine (specPlace_any (some ⟨g, 0, none⟩) cap f next e _ (HR.out.next (by (repeat (first | (with_reducible exact Below.refl _ _) | (with_reducible assumption) | (with_reducible apply below_drewN) | (with_reducible apply Below.drew) | ((with_reducible refine Below.setCell ?_ ?_ _); rotate_left; focus (first | (simp; done) | (simp; omega) | omega)) | ((with_reducible refine Below.alloc ?_ ?_ _); rotate_left; focus (first | (simp; done) | (simp; omega) | omega)))))) (by omega) (by omega) (fun l hl => Nat.le_trans (HSM.out l hl) (by omega))).mono ?_; rintro e' w2 ⟨he2, hb2⟩; rw [hkk] at he2; subst he2; have hB2 : Below W0.heap.size W0 w2 := (show Below W0.heap.size W0 _ by (repeat (first | (with_reducible exact Below.refl _ _) | (with_reducible assumption) | (with_reducible apply below_drewN) | (with_reducible apply Below.drew) | ((with_reducible refine Below.setCell ?_ ?_ _); rotate_left; focus (first | (simp; done) | (simp; omega) | omega)) | ((with_reducible refine Below.alloc ?_ ?_ _); rotate_left; focus (first | (simp; done) | (simp; omega) | omega))))).trans (hb2.mono (by simp)); clear hb2; have M2 := M0.next hB2; clear HR M0 a0 a1 b0 b1 hB2; have a0 := M2.c0; have x1 := (M2.bel.cell hgw).trans HP.out.row)
  go_loopw [9] (fun i' wr => ∃ q : Nat, q ≤ i ∧ i' = .int .i64 q ∧ Below w2.heap.size w2 wr) (fun i' _ => i - (intOf i').toNat)
  case atStart => exact ⟨0, Nat.zero_le _, rfl, Below.refl _ _⟩
  case round =>
    obtain ⟨q, hq, rfl, hbel⟩ := hrel
    have M := M2.next hbel
    have HM : Hid (MkD _ _ _ _ _) := M
    have hz := M.lt
    have u2 : ∀ u : Under wr, u.x.cell? ⟨w.heap.size + 1, 0, none⟩ = some (.string e.key) := fun u => (u.h.cell (show w.heap.size + 1 < _ by omega)).trans M.d0
    have u3 : ∀ u : Under wr, u.x.cell? ⟨w.heap.size + 1, 1, none⟩ = some (.int .i64 e.id) := fun u => (u.h.cell (show w.heap.size + 1 < _ by omega)).trans M.d1
    have hnu : Nonempty (Under wr) := ⟨⟨wr, Below.refl _ _⟩⟩
    have hwz := M.bel.size
    by_cases hlt : q < i
    · have hql : q < f[k].es.length := by omega
      obtain ⟨b, off, rfl, hbl, hc⟩ := HP.out.ents.resolve_left (by omega)
      obtain ⟨y0, y1⟩ := hc q hql
      have u0 : ∀ u : Under wr, u.x.cell? ⟨b, off + q * 2, none⟩ = some (.string f[k].es[q].key) := fun u => (u.h.cell (Nat.lt_of_lt_of_le hbl hwz)).trans ((M.bel.cell hbl).trans y0)
      have u1 : ∀ u : Under wr, u.x.cell? ⟨b, off + q * 2 + 1, none⟩ = some (.int .i64 f[k].es[q].id) := fun u => (u.h.cell (Nat.lt_of_lt_of_le hbl hwz)).trans ((M.bel.cell hbl).trans y1)
      have hlt2 : (q : Int) < (f[k].es.length : Int) := by omega
      have hls : lessE f[k].es[q] e = true := HPL.out.lo q hql hlt
      obtain ⟨x, hx⟩ : ∃ x, x = f[k].es[q] := ⟨_, rfl⟩
      rw [← hx] at u0 u1 hls
      have HLS : Hid (∀ u : Under wr, Calls Try.prog 99 #[.agg #[.string x.key, .int .i64 x.id], .agg #[.string e.key, .int .i64 e.id]] u.x fun e' w' => e' = .returned (.bool true) ∧ Below u.x.heap.size u.x w') := fun u => by
        have h := specLess_any x.key e.key x.id e.id u.x
        rw [show lessE ⟨x.key, x.id⟩ ⟨e.key, e.id⟩ = true from hls] at h; exact h
      clear hc y0 y1 M hx hls
      go_wp2_with fail
      refine wp_region_under (by kernel_rfl) (by kernel_rfl) ?_
      repeat (go_big_quiet_step ((go_at_call 99; exact calls_under _ (HLS.out _))))
      refine wpQuiet_nil ?_
      rintro _ ⟨u, rfl⟩
      have hbu := hbel.trans (u.h.mono hbel.size)
      go_wp2_with fail
      go_roundw
      case rel => exact ⟨q + 1, by omega, by go_num, hbu⟩
      case measure => simp [intOf]; omega
    · obtain rfl : q = i := by omega
      clear M
      rcases Nat.lt_or_ge q f[k].es.length with hql | hql
      · have hqe : ¬ f[k].es[q] = e := fun h => by have := HPL.out.at_.2 ⟨hql, h⟩; cases this
        have hql2 : (q : Int) < (f[k].es.length : Int) := by omega
        obtain ⟨b, off, rfl, hbl, hc⟩ := HP.out.ents.resolve_left (by omega)
        obtain ⟨y0, y1⟩ := hc q hql
        have u0 : ∀ u : Under wr, u.x.cell? ⟨b, off + q * 2, none⟩ = some (.string f[k].es[q].key) := fun u => (u.h.cell (Nat.lt_of_lt_of_le hbl hwz)).trans ((HM.out.bel.cell hbl).trans y0)
        have u1 : ∀ u : Under wr, u.x.cell? ⟨b, off + q * 2 + 1, none⟩ = some (.int .i64 f[k].es[q].id) := fun u => (u.h.cell (Nat.lt_of_lt_of_le hbl hwz)).trans ((HM.out.bel.cell hbl).trans y1)
        have hls : lessE f[k].es[q] e = false := HPL.out.hi q hql (Nat.le_refl _)
        obtain ⟨x, hx⟩ : ∃ x, x = f[k].es[q] := ⟨_, rfl⟩
        have hbe : (x.key.toList == e.key.toList && x.id == e.id) = false := by rw [Bool.eq_false_iff]; intro h; exact hqe (by rw [← hx]; exact (ent_beq _ _).1 h)
        rw [← hx] at u0 u1 hls
        have qn : ∀ W : World, (binOp .eql 40 (.agg #[.string x.key, .int .i64 x.id]) (.agg #[.string e.key, .int .i64 e.id])).run Try.prog W = .ok (.bool false) W := fun W => by rw [eqlEnt x e W, hbe]
        have HLS : Hid (∀ u : Under wr, Calls Try.prog 99 #[.agg #[.string x.key, .int .i64 x.id], .agg #[.string e.key, .int .i64 e.id]] u.x fun e' w' => e' = .returned (.bool false) ∧ Below u.x.heap.size u.x w') := fun u => by
          have h := specLess_any x.key e.key x.id e.id u.x
          rw [show lessE ⟨x.key, x.id⟩ ⟨e.key, e.id⟩ = false from hls] at h; exact h
        have HU : Hid ((∀ u : Under wr, u.x.cell? ⟨b, off + q * 2, none⟩ = some (.string x.key)) ∧ ∀ u : Under wr, u.x.cell? ⟨b, off + q * 2 + 1, none⟩ = some (.int .i64 x.id)) := ⟨u0, u1⟩
        clear hc y0 y1 hls hbe hx hqe
        go_wp2_with fail
        refine wp_region_under (by kernel_rfl) (by kernel_rfl) ?_
        repeat (go_big_quiet_step ((go_at_call 99; exact calls_under _ (HLS.out _))))
        refine wpQuiet_nil ?_
        rintro _ ⟨u, rfl⟩
        obtain ⟨w3, hb3⟩ := u
        dsimp only
        have HB3 : Hid (Below w2.heap.size w2 w3) := hbel.trans (hb3.mono hbel.size)
        have v0 : ∀ u : Under w3, u.x.cell? ⟨b, off + q * 2, none⟩ = some (.string x.key) := fun u => HU.out.1 ⟨u.x, hb3.trans (u.h.mono hb3.size)⟩
        have v1 : ∀ u : Under w3, u.x.cell? ⟨b, off + q * 2 + 1, none⟩ = some (.int .i64 x.id) := fun u => HU.out.2 ⟨u.x, hb3.trans (u.h.mono hb3.size)⟩
        have v2 : ∀ u : Under w3, u.x.cell? ⟨w.heap.size + 1, 0, none⟩ = some (.string e.key) := fun u => u2 ⟨u.x, hb3.trans (u.h.mono hb3.size)⟩
        have v3 : ∀ u : Under w3, u.x.cell? ⟨w.heap.size + 1, 1, none⟩ = some (.int .i64 e.id) := fun u => u3 ⟨u.x, hb3.trans (u.h.mono hb3.size)⟩
        have hnu3 : Nonempty (Under w3) := ⟨⟨w3, Below.refl _ _⟩⟩
        clear u0 u1 u2 u3 hnu HLS HU hb3 hbel
        go_wp2_with fail
        refine wp_region_under (by kernel_rfl) (by kernel_rfl) ?_
        repeat (go_big_quiet_step (fail))
        refine wpQuiet_nil ?_
        rintro _ ⟨u, rfl⟩
        obtain ⟨w4, hb4⟩ := u
        dsimp only
        have M4 := M2.next (HB3.out.trans (hb4.mono HB3.out.size))
        have HM4 : Hid (MkD _ _ _ _ _) := M4
        clear v0 v1 v2 v3 hnu3 hb4 HB3 HM qn
        have t4 : ((f[k].es.length : Int) == 4) = false := beq_eq_false_iff_ne.mpr (by have := HSMALL.out; omega)
        have B4 := M4.bel
        have c0 := M4.c0
        have c1 := M4.c1
        have z0 := M4.z0
        have z1 := M4.z1
        have hz4 := M4.lt
        clear M4 x1 a0
        go_wp2_with (go_at_call 53; refine (specOwn_any (some ⟨g, 0, none⟩) cap f next _ (HF.out.rowP.next (by (repeat (first | (with_reducible exact Below.refl _ _) | (with_reducible assumption) | (with_reducible apply below_drewN) | (with_reducible apply Below.drew) | ((with_reducible refine Below.setCell ?_ ?_ _); rotate_left; focus (first | (simp; done) | (simp; omega) | omega)) | ((with_reducible refine Below.alloc ?_ ?_ _); rotate_left; focus (first | (simp; done) | (simp; omega) | omega)))))) (by omega) (fun l hl => Nat.le_trans (HSM.out l hl) (by omega))).mono ?_; rintro e' w5 ⟨⟨v5, rfl, hO⟩, hb5⟩; obtain ⟨g5, cap5, rfl, hg5, _⟩ := (OwnT.form hO).resolve_left (fun h => by rw [h.2] at hk; simp at hk); have hB5 : Below w4.heap.size w4 w5 := hb5; have M5 : Hid (MkD _ _ _ _ _) := HM4.out.next hB5; have HO : Hid (OwnT _ _ _ _) := hO; clear hb5 hO c0 c1 z0 z1; have c0 := M5.out.c0; have c1 := M5.out.c1; have z0 := M5.out.z0; have z1 := M5.out.z1)
        have M6 := M5.out.set (v' := .slice (some ⟨g5, 0, none⟩) f.length cap5)
        have O6 := (HO.out.grown (grown_set (g := w.heap.size) (o := 0) (v := .slice (some ⟨g5, 0, none⟩) f.length cap5)) (by omega)).grown (grown_set (g := w.heap.size) (o := 1) (v := .int .i64 next)) (by omega)
        have hs6 : w4.heap.size ≤ ((w5.setCell ⟨w.heap.size, 0, none⟩ (.slice (some ⟨g5, 0, none⟩) f.length cap5)).setCell ⟨w.heap.size, 1, none⟩ (.int .i64 next)).heap.size := by simp; exact hB5.size
        generalize (w5.setCell ⟨w.heap.size, 0, none⟩ (.slice (some ⟨g5, 0, none⟩) f.length cap5)).setCell ⟨w.heap.size, 1, none⟩ (.int .i64 next) = W6 at M6 O6 hs6 ⊢
        have hg6 : g5 < W6.heap.size := by
          obtain ⟨vs, xs, hPt⟩ := O6
          exact (hPt.row.lt g5 rfl).2
        have HO6 : Hid (OwnT _ _ _ _) := O6
        have HM6 : Hid (MkD _ _ _ _ _) := M6
        have b0 := M6.d0
        have b1 := M6.d1
        have hz6 := M6.lt
        have hp6 := HP.out.next M6.bel
        obtain ⟨q', hqs, hlie, hqq⟩ := hp6.tail q hi
        have HLT : Hid (LieE W6 (some ⟨b, off, none⟩ : Option Addr) (f[k].es.take q)) := hp6.lie_take q
        have HLD : Hid (LieE W6 q' (f[k].es.drop q)) := hlie
        have HQ : Hid ((q' = none → ca - q = 0) ∧ ((some ⟨b, off, none⟩ : Option Addr) = none → ca = 0)) := ⟨tail_none hp6 hqs hi hqq, hp6.none_cap⟩
        have qs1 := cutHeadO (some ⟨b, off, none⟩ : Option Addr) f[k].es.length ca q (by omega) (fun h => by have := hp6.none_cap h; omega)
        obtain ⟨L, hL⟩ : ∃ L, L = f[k].es.length + 1 := ⟨_, rfl⟩
        have HN : Hid ((f[k].es.take q).length = q ∧ (f[k].es.drop q).length = f[k].es.length - q ∧ q + 1 + (f[k].es.length - q) = L ∧ (insE f[k].es q e).length = L) := ⟨by rw [List.length_take]; omega, by rw [List.length_drop], by omega, by rw [insE_len _ _ _ hi, hL]⟩
        have OA := World.ownsRow_made (base := W6.heap.size) (size := 2) (e := 40) W6 #[] 0 (Nat.le_refl _) (by unfold maxLen; omega) rfl
        have OB := OA.alloc (.cells #[.string e.key, .int .i64 e.id] 40)
        have OC := World.ownsRow_made (base := W6.heap.size) (size := 2) (e := 40) (W6.alloc (.cells #[.string e.key, .int .i64 e.id] 40)) #[] 0 (by simp) (by unfold maxLen; omega) rfl
        simp only [size_alloc] at OC
        have HOA : Hid (World.ownsRow _ _ _ _ _ _ _) := OA
        have HOB : Hid (World.ownsRow _ _ _ _ _ _ _) := OB
        have HOC : Hid (World.ownsRow _ _ _ _ _ _ _) := OC
        have HLB : Hid (LieE ((W6.alloc (.cells #[] 40)).alloc (.cells #[.string e.key, .int .i64 e.id] 40)) (some ⟨W6.heap.size + 1, 0, none⟩) [e]) := (by have h := lieE_new (W6.alloc (.cells #[] 40)) e; rw [size_alloc] at h; exact h)
        have HLC : Hid (LieE ((W6.alloc (.cells #[.string e.key, .int .i64 e.id] 40)).alloc (.cells #[] 40)) (some ⟨W6.heap.size, 0, none⟩) [e]) := (lieE_new W6 e).next ((Below.refl _ _).alloc (Nat.le_refl _) _)
        clear hp6 hlie hqq OA OB OC O6 M6 c0 c1 z0 z1 HO M5 HM4
        have hz6b : w.heap.size + 1 < W6.heap.size := by omega
        have hi1 : (q : Int) ≤ (ca : Int) := by omega
        have hi2 : (q : Int) ≤ (f[k].es.length : Int) := by omega
        go_cut [8] (fun s8 wx => ∃ gl cl, s8 = .slice (some ⟨gl, 0, none⟩) L cl ∧ wx.ownsRow W6.heap.size 40 2 (.slice (some ⟨gl, 0, none⟩) L cl) L (flatE (insE f[k].es q e)) ∧ Below W6.heap.size W6 wx)
        case first =>
          clear hL
          go_region_law (first
            | (refine step_appT rfl (.tmp 65) (.tmp 68) rfl W6.heap.size 0 _ _ [] rfl (by first | exact HOA.out | exact HOB.out | exact HOC.out) (some ⟨b, off, none⟩ : Option Addr) q ca (f[k].es.take q) rfl HN.out.1 HQ.out.2 (HLT.out.next (by (repeat (first | (with_reducible exact Below.refl _ _) | (with_reducible assumption) | (with_reducible apply below_drewN) | (with_reducible apply Below.drew) | ((with_reducible refine Below.setCell ?_ ?_ _); rotate_left; focus (first | (simp; done) | (simp; omega) | omega)) | ((with_reducible refine Below.alloc ?_ ?_ _); rotate_left; focus (first | (simp; done) | (simp; omega) | omega)))))) q (Nat.zero_add q) (by omega) (by omega) (by first | (simp; done) | (simp; omega)) ?_; intro g1 c1 w1' o1 gr1; have b1' : Below W6.heap.size W6 w1' := Below.grown (by (repeat (first | (with_reducible exact Below.refl _ _) | (with_reducible assumption) | (with_reducible apply below_drewN) | (with_reducible apply Below.drew) | ((with_reducible refine Below.setCell ?_ ?_ _); rotate_left; focus (first | (simp; done) | (simp; omega) | omega)) | ((with_reducible refine Below.alloc ?_ ?_ _); rotate_left; focus (first | (simp; done) | (simp; omega) | omega))))) gr1 (by first | (simp; done) | (simp; omega)) (fun x hx => by first | exact (HOA.out.lt x hx).1 | exact (HOB.out.lt x hx).1 | exact (HOC.out.lt x hx).1); have hz1 := b1'.size; have f0 := (b1'.cell (show w.heap.size + 1 < W6.heap.size by omega)).trans b0; have f1 := (b1'.cell (show w.heap.size + 1 < W6.heap.size by omega)).trans b1; (first | have L1 : Hid (LieE w1' _ [e]) := LieE.grown2 (b := W6.heap.size) (vb := W6.heap.size + 1) gr1 rfl HLB.out (by omega) | have L1 : Hid (LieE w1' _ [e]) := LieE.grown2 (b := W6.heap.size + 1) (vb := W6.heap.size) gr1 rfl HLC.out (by omega) | skip); have H1 : Hid (World.ownsRow _ _ _ _ _ _ _) := o1; have HB2 : Hid (Below W6.heap.size W6 w1') := b1'; clear o1 gr1 b1')
            | (refine step_appT rfl (.tmp 69) (.tmp 71) rfl W6.heap.size q g1 c1 ([] ++ flatE (f[k].es.take q)) rfl (by first | exact H1.out | exact H1.out.alloc _) _ 1 1 [e] rfl rfl (fun h => by cases h) (by first | exact lieE_new _ _ | exact L1.out) (q + 1) rfl (by omega) (by omega) (by first | exact hz1 | (simp; omega)) ?_; intro g2 c2 w2' o2 gr2; have b2' : Below W6.heap.size W6 w2' := Below.grown (by first | exact HB2.out | exact HB2.out.alloc hz1 _) gr2 (by first | exact hz1 | (simp; omega)) (fun x hx => (H1.out.lt x hx).1); have hz2 := b2'.size; have H2 : Hid (World.ownsRow _ _ _ _ _ _ _) := o2; have HB3 : Hid (Below W6.heap.size W6 w2') := b2'; clear o2 gr2 b2')
            | (refine step_appT rfl (.tmp 72) (.tmp 75) rfl W6.heap.size (q + 1) g2 c2 ([] ++ flatE (f[k].es.take q) ++ flatE [e]) rfl H2.out q' (f[k].es.length - q) (ca - q) (f[k].es.drop q) rfl HN.out.2.1 HQ.out.1 (HLD.out.next HB3.out) L HN.out.2.2.1 (by omega) (by omega) hz2 ?_; intro g3 c3 w3' o3 gr3; have b3' : Below W6.heap.size W6 w3' := Below.grown HB3.out gr3 hz2 (fun x hx => (H2.out.lt x hx).1); have H3 : Hid (w3'.ownsRow W6.heap.size 40 2 (.slice (some ⟨g3, 0, none⟩) L c3) L (flatE (insE f[k].es q e))) := (by rw [← insE_flat2]; exact o3); have HB4 : Hid (Below W6.heap.size W6 w3') := b3'; clear o3 gr3 b3'))
          all_goals
            try go_wp2_with fail
            go_meet
            exact ⟨g3, c3, rfl, H3.out, HB4.out⟩
        case rest =>
        obtain ⟨gl, cl, rfl, o7, B7⟩ := hcut
        have hE7 : OwnE wc W6.heap.size (.slice (some ⟨gl, 0, none⟩) L cl) (insE f[k].es q e) := (by have h := o7; unfold OwnE; rw [HN.out.2.2.2]; exact h)
        have O7 := HO6.out.next B7
        have M7 := HM6.out.next B7
        obtain ⟨y0, pk, ck, y1, _⟩ := (match O7.rowP with | .inl h0 => absurd h0 (fun h0 => by rw [h0] at hk; simp at hk) | .inr h => (by obtain ⟨g', hg', R⟩ := h; cases hg'; exact R.cells k hk) : wc.cell? ⟨g5, k * 2, none⟩ = some (.int .i64 f[k].num) ∧ ∃ p cap, wc.cell? ⟨g5, k * 2 + 1, none⟩ = some (.slice p f[k].es.length cap) ∧ InE wc p f[k].es)
        have zk : wc.frozen? ⟨g5, k * 2 + 1, none⟩ = false := by
          obtain ⟨vs, xs, hPt⟩ := O7
          exact own_soft hPt.row _
        have k0 := M7.c0
        have hz7 := M7.lt
        have hgw5 : g5 < wc.heap.size := Nat.lt_of_lt_of_le hg6 B7.size
        have HO8 : Hid (OwnT (wc.setCell ⟨g5, k * 2 + 1, none⟩ (.slice (some ⟨gl, 0, none⟩) L cl)) w4.heap.size (.slice (some ⟨g5, 0, none⟩) f.length cap5) (f.set k ⟨f[k].num, insE f[k].es q e⟩)) := HO6.out.swap B7 hk hE7 hs6
        have HM8 : Hid (MkD w (wc.setCell ⟨g5, k * 2 + 1, none⟩ (.slice (some ⟨gl, 0, none⟩) L cl)) (.slice (some ⟨g5, 0, none⟩) f.length cap5) next e) := M7.step ((Below.refl (w.heap.size + 3) wc).setCell (show w.heap.size + 3 ≤ g5 by omega) _) (Nat.le_refl _)
        have HLL : Hid (wc.ownsRow W6.heap.size 40 2 (.slice (some ⟨gl, 0, none⟩) L cl) L (flatE (insE f[k].es q e)) ∧ L = f[k].es.length + 1) := ⟨o7, hL⟩
        clear o7 hE7 O7 M7 HLT HLD HOA HOB HOC HLB HLC HQ hqs qs1 HO6 HM6 b0 b1 hL
        have hL4 : (L : Int) ≤ 4 := by have := HLL.out.2; have := HSMALL.out; omega
        obtain ⟨mb, ml, mc0, mc1, mz0, mz1, md0, md1, mr0, mr1, my0, my1⟩ := HM8.out
        go_wp2_with fail
        refine bodyPost_ret (v := .tuple #[.agg #[.slice (some ⟨g5, 0, none⟩) f.length cap5, .int .i64 next], .int .i64 0, .int .i64 0]) (by simp [results, Try.results52, go_sem, *]) rfl ⟨⟨_, _, rfl, ?_⟩, ?_⟩
        · unfold putP
          rw [List.getElem?_eq_getElem hk]
          exact ⟨_, rfl, OwnT.full (((HO8.out.grown grown_set (by omega)).grown grown_set (by omega)))⟩
        · (repeat (first | (with_reducible exact Below.refl _ _) | (with_reducible assumption) | (with_reducible apply below_drewN) | (with_reducible apply Below.drew) | ((with_reducible refine Below.setCell ?_ ?_ _); rotate_left; focus (first | (simp; done) | (simp; omega) | omega)) | ((with_reducible refine Below.alloc ?_ ?_ _); rotate_left; focus (first | (simp; done) | (simp; omega) | omega))))
      · have hdb : decide ((q : Int) < (f[k].es.length : Int)) = false := decide_eq_false (by omega)
        have hdn : decide (q < f[k].es.length) = false := decide_eq_false (by omega)
        go_wp2_with fail
        refine wp_region_under (by kernel_rfl) (by kernel_rfl) ?_
        repeat (go_big_quiet_step (fail))
        refine wpQuiet_nil ?_
        rintro _ ⟨u, rfl⟩
        obtain ⟨w3, hb3⟩ := u
        dsimp only
        have HB3 : Hid (Below w2.heap.size w2 w3) := hbel.trans (hb3.mono hbel.size)
        have hnu3 : Nonempty (Under w3) := ⟨⟨w3, Below.refl _ _⟩⟩
        clear u2 u3 hnu hb3 hbel
        go_wp2_with fail
        refine wp_region_under (by kernel_rfl) (by kernel_rfl) ?_
        repeat (go_big_quiet_step (fail))
        refine wpQuiet_nil ?_
        rintro _ ⟨u, rfl⟩
        obtain ⟨w4, hb4⟩ := u
        dsimp only
        have M4 := M2.next (HB3.out.trans (hb4.mono HB3.out.size))
        have HM4 : Hid (MkD _ _ _ _ _) := M4
        clear hnu3 hb4 HB3 HM hql hdb hdn
        have t4 : ((f[k].es.length : Int) == 4) = false := beq_eq_false_iff_ne.mpr (by have := HSMALL.out; omega)
        have B4 := M4.bel
        have c0 := M4.c0
        have c1 := M4.c1
        have z0 := M4.z0
        have z1 := M4.z1
        have hz4 := M4.lt
        clear M4 x1 a0
        go_wp2_with (go_at_call 53; refine (specOwn_any (some ⟨g, 0, none⟩) cap f next _ (HF.out.rowP.next (by (repeat (first | (with_reducible exact Below.refl _ _) | (with_reducible assumption) | (with_reducible apply below_drewN) | (with_reducible apply Below.drew) | ((with_reducible refine Below.setCell ?_ ?_ _); rotate_left; focus (first | (simp; done) | (simp; omega) | omega)) | ((with_reducible refine Below.alloc ?_ ?_ _); rotate_left; focus (first | (simp; done) | (simp; omega) | omega)))))) (by omega) (fun l hl => Nat.le_trans (HSM.out l hl) (by omega))).mono ?_; rintro e' w5 ⟨⟨v5, rfl, hO⟩, hb5⟩; obtain ⟨g5, cap5, rfl, hg5, _⟩ := (OwnT.form hO).resolve_left (fun h => by rw [h.2] at hk; simp at hk); have hB5 : Below w4.heap.size w4 w5 := hb5; have M5 : Hid (MkD _ _ _ _ _) := HM4.out.next hB5; have HO : Hid (OwnT _ _ _ _) := hO; clear hb5 hO c0 c1 z0 z1; have c0 := M5.out.c0; have c1 := M5.out.c1; have z0 := M5.out.z0; have z1 := M5.out.z1)
        have M6 := M5.out.set (v' := .slice (some ⟨g5, 0, none⟩) f.length cap5)
        have O6 := (HO.out.grown (grown_set (g := w.heap.size) (o := 0) (v := .slice (some ⟨g5, 0, none⟩) f.length cap5)) (by omega)).grown (grown_set (g := w.heap.size) (o := 1) (v := .int .i64 next)) (by omega)
        have hs6 : w4.heap.size ≤ ((w5.setCell ⟨w.heap.size, 0, none⟩ (.slice (some ⟨g5, 0, none⟩) f.length cap5)).setCell ⟨w.heap.size, 1, none⟩ (.int .i64 next)).heap.size := by simp; exact hB5.size
        generalize (w5.setCell ⟨w.heap.size, 0, none⟩ (.slice (some ⟨g5, 0, none⟩) f.length cap5)).setCell ⟨w.heap.size, 1, none⟩ (.int .i64 next) = W6 at M6 O6 hs6 ⊢
        have hg6 : g5 < W6.heap.size := by
          obtain ⟨vs, xs, hPt⟩ := O6
          exact (hPt.row.lt g5 rfl).2
        have HO6 : Hid (OwnT _ _ _ _) := O6
        have HM6 : Hid (MkD _ _ _ _ _) := M6
        have b0 := M6.d0
        have b1 := M6.d1
        have hz6 := M6.lt
        have hp6 := HP.out.next M6.bel
        obtain ⟨q', hqs, hlie, hqq⟩ := hp6.tail q hi
        have HLT : Hid (LieE W6 qa (f[k].es.take q)) := hp6.lie_take q
        have HLD : Hid (LieE W6 q' (f[k].es.drop q)) := hlie
        have HQ : Hid ((q' = none → ca - q = 0) ∧ (qa = none → ca = 0)) := ⟨tail_none hp6 hqs hi hqq, hp6.none_cap⟩
        have qs1 := cutHeadO qa f[k].es.length ca q (by omega) (fun h => by have := hp6.none_cap h; omega)
        obtain ⟨L, hL⟩ : ∃ L, L = f[k].es.length + 1 := ⟨_, rfl⟩
        have HN : Hid ((f[k].es.take q).length = q ∧ (f[k].es.drop q).length = f[k].es.length - q ∧ q + 1 + (f[k].es.length - q) = L ∧ (insE f[k].es q e).length = L) := ⟨by rw [List.length_take]; omega, by rw [List.length_drop], by omega, by rw [insE_len _ _ _ hi, hL]⟩
        have OA := World.ownsRow_made (base := W6.heap.size) (size := 2) (e := 40) W6 #[] 0 (Nat.le_refl _) (by unfold maxLen; omega) rfl
        have OB := OA.alloc (.cells #[.string e.key, .int .i64 e.id] 40)
        have OC := World.ownsRow_made (base := W6.heap.size) (size := 2) (e := 40) (W6.alloc (.cells #[.string e.key, .int .i64 e.id] 40)) #[] 0 (by simp) (by unfold maxLen; omega) rfl
        simp only [size_alloc] at OC
        have HOA : Hid (World.ownsRow _ _ _ _ _ _ _) := OA
        have HOB : Hid (World.ownsRow _ _ _ _ _ _ _) := OB
        have HOC : Hid (World.ownsRow _ _ _ _ _ _ _) := OC
        have HLB : Hid (LieE ((W6.alloc (.cells #[] 40)).alloc (.cells #[.string e.key, .int .i64 e.id] 40)) (some ⟨W6.heap.size + 1, 0, none⟩) [e]) := (by have h := lieE_new (W6.alloc (.cells #[] 40)) e; rw [size_alloc] at h; exact h)
        have HLC : Hid (LieE ((W6.alloc (.cells #[.string e.key, .int .i64 e.id] 40)).alloc (.cells #[] 40)) (some ⟨W6.heap.size, 0, none⟩) [e]) := (lieE_new W6 e).next ((Below.refl _ _).alloc (Nat.le_refl _) _)
        clear hp6 hlie hqq OA OB OC O6 M6 c0 c1 z0 z1 HO M5 HM4
        have hz6b : w.heap.size + 1 < W6.heap.size := by omega
        have hi1 : (q : Int) ≤ (ca : Int) := by omega
        have hi2 : (q : Int) ≤ (f[k].es.length : Int) := by omega
        go_cut [8] (fun s8 wx => ∃ gl cl, s8 = .slice (some ⟨gl, 0, none⟩) L cl ∧ wx.ownsRow W6.heap.size 40 2 (.slice (some ⟨gl, 0, none⟩) L cl) L (flatE (insE f[k].es q e)) ∧ Below W6.heap.size W6 wx)
        case first =>
          clear hL
          go_region_law (first
            | (refine step_appT rfl (.tmp 65) (.tmp 68) rfl W6.heap.size 0 _ _ [] rfl (by first | exact HOA.out | exact HOB.out | exact HOC.out) qa q ca (f[k].es.take q) rfl HN.out.1 HQ.out.2 (HLT.out.next (by (repeat (first | (with_reducible exact Below.refl _ _) | (with_reducible assumption) | (with_reducible apply below_drewN) | (with_reducible apply Below.drew) | ((with_reducible refine Below.setCell ?_ ?_ _); rotate_left; focus (first | (simp; done) | (simp; omega) | omega)) | ((with_reducible refine Below.alloc ?_ ?_ _); rotate_left; focus (first | (simp; done) | (simp; omega) | omega)))))) q (Nat.zero_add q) (by omega) (by omega) (by first | (simp; done) | (simp; omega)) ?_; intro g1 c1 w1' o1 gr1; have b1' : Below W6.heap.size W6 w1' := Below.grown (by (repeat (first | (with_reducible exact Below.refl _ _) | (with_reducible assumption) | (with_reducible apply below_drewN) | (with_reducible apply Below.drew) | ((with_reducible refine Below.setCell ?_ ?_ _); rotate_left; focus (first | (simp; done) | (simp; omega) | omega)) | ((with_reducible refine Below.alloc ?_ ?_ _); rotate_left; focus (first | (simp; done) | (simp; omega) | omega))))) gr1 (by first | (simp; done) | (simp; omega)) (fun x hx => by first | exact (HOA.out.lt x hx).1 | exact (HOB.out.lt x hx).1 | exact (HOC.out.lt x hx).1); have hz1 := b1'.size; have f0 := (b1'.cell (show w.heap.size + 1 < W6.heap.size by omega)).trans b0; have f1 := (b1'.cell (show w.heap.size + 1 < W6.heap.size by omega)).trans b1; (first | have L1 : Hid (LieE w1' _ [e]) := LieE.grown2 (b := W6.heap.size) (vb := W6.heap.size + 1) gr1 rfl HLB.out (by omega) | have L1 : Hid (LieE w1' _ [e]) := LieE.grown2 (b := W6.heap.size + 1) (vb := W6.heap.size) gr1 rfl HLC.out (by omega) | skip); have H1 : Hid (World.ownsRow _ _ _ _ _ _ _) := o1; have HB2 : Hid (Below W6.heap.size W6 w1') := b1'; clear o1 gr1 b1')
            | (refine step_appT rfl (.tmp 69) (.tmp 71) rfl W6.heap.size q g1 c1 ([] ++ flatE (f[k].es.take q)) rfl (by first | exact H1.out | exact H1.out.alloc _) _ 1 1 [e] rfl rfl (fun h => by cases h) (by first | exact lieE_new _ _ | exact L1.out) (q + 1) rfl (by omega) (by omega) (by first | exact hz1 | (simp; omega)) ?_; intro g2 c2 w2' o2 gr2; have b2' : Below W6.heap.size W6 w2' := Below.grown (by first | exact HB2.out | exact HB2.out.alloc hz1 _) gr2 (by first | exact hz1 | (simp; omega)) (fun x hx => (H1.out.lt x hx).1); have hz2 := b2'.size; have H2 : Hid (World.ownsRow _ _ _ _ _ _ _) := o2; have HB3 : Hid (Below W6.heap.size W6 w2') := b2'; clear o2 gr2 b2')
            | (refine step_appT rfl (.tmp 72) (.tmp 75) rfl W6.heap.size (q + 1) g2 c2 ([] ++ flatE (f[k].es.take q) ++ flatE [e]) rfl H2.out q' (f[k].es.length - q) (ca - q) (f[k].es.drop q) rfl HN.out.2.1 HQ.out.1 (HLD.out.next HB3.out) L HN.out.2.2.1 (by omega) (by omega) hz2 ?_; intro g3 c3 w3' o3 gr3; have b3' : Below W6.heap.size W6 w3' := Below.grown HB3.out gr3 hz2 (fun x hx => (H2.out.lt x hx).1); have H3 : Hid (w3'.ownsRow W6.heap.size 40 2 (.slice (some ⟨g3, 0, none⟩) L c3) L (flatE (insE f[k].es q e))) := (by rw [← insE_flat2]; exact o3); have HB4 : Hid (Below W6.heap.size W6 w3') := b3'; clear o3 gr3 b3'))
          all_goals
            try go_wp2_with fail
            go_meet
            exact ⟨g3, c3, rfl, H3.out, HB4.out⟩
        case rest =>
        obtain ⟨gl, cl, rfl, o7, B7⟩ := hcut
        have hE7 : OwnE wc W6.heap.size (.slice (some ⟨gl, 0, none⟩) L cl) (insE f[k].es q e) := (by have h := o7; unfold OwnE; rw [HN.out.2.2.2]; exact h)
        have O7 := HO6.out.next B7
        have M7 := HM6.out.next B7
        obtain ⟨y0, pk, ck, y1, _⟩ := (match O7.rowP with | .inl h0 => absurd h0 (fun h0 => by rw [h0] at hk; simp at hk) | .inr h => (by obtain ⟨g', hg', R⟩ := h; cases hg'; exact R.cells k hk) : wc.cell? ⟨g5, k * 2, none⟩ = some (.int .i64 f[k].num) ∧ ∃ p cap, wc.cell? ⟨g5, k * 2 + 1, none⟩ = some (.slice p f[k].es.length cap) ∧ InE wc p f[k].es)
        have zk : wc.frozen? ⟨g5, k * 2 + 1, none⟩ = false := by
          obtain ⟨vs, xs, hPt⟩ := O7
          exact own_soft hPt.row _
        have k0 := M7.c0
        have hz7 := M7.lt
        have hgw5 : g5 < wc.heap.size := Nat.lt_of_lt_of_le hg6 B7.size
        have HO8 : Hid (OwnT (wc.setCell ⟨g5, k * 2 + 1, none⟩ (.slice (some ⟨gl, 0, none⟩) L cl)) w4.heap.size (.slice (some ⟨g5, 0, none⟩) f.length cap5) (f.set k ⟨f[k].num, insE f[k].es q e⟩)) := HO6.out.swap B7 hk hE7 hs6
        have HM8 : Hid (MkD w (wc.setCell ⟨g5, k * 2 + 1, none⟩ (.slice (some ⟨gl, 0, none⟩) L cl)) (.slice (some ⟨g5, 0, none⟩) f.length cap5) next e) := M7.step ((Below.refl (w.heap.size + 3) wc).setCell (show w.heap.size + 3 ≤ g5 by omega) _) (Nat.le_refl _)
        have HLL : Hid (wc.ownsRow W6.heap.size 40 2 (.slice (some ⟨gl, 0, none⟩) L cl) L (flatE (insE f[k].es q e)) ∧ L = f[k].es.length + 1) := ⟨o7, hL⟩
        clear o7 hE7 O7 M7 HLT HLD HOA HOB HOC HLB HLC HQ hqs qs1 HO6 HM6 b0 b1 hL
        have hL4 : (L : Int) ≤ 4 := by have := HLL.out.2; have := HSMALL.out; omega
        obtain ⟨mb, ml, mc0, mc1, mz0, mz1, md0, md1, mr0, mr1, my0, my1⟩ := HM8.out
        go_wp2_with fail
        refine bodyPost_ret (v := .tuple #[.agg #[.slice (some ⟨g5, 0, none⟩) f.length cap5, .int .i64 next], .int .i64 0, .int .i64 0]) (by simp [results, Try.results52, go_sem, *]) rfl ⟨⟨_, _, rfl, ?_⟩, ?_⟩
        · unfold putP
          rw [List.getElem?_eq_getElem hk]
          exact ⟨_, rfl, OwnT.full (((HO8.out.grown grown_set (by omega)).grown grown_set (by omega)))⟩
        · (repeat (first | (with_reducible exact Below.refl _ _) | (with_reducible assumption) | (with_reducible apply below_drewN) | (with_reducible apply Below.drew) | ((with_reducible refine Below.setCell ?_ ?_ _); rotate_left; focus (first | (simp; done) | (simp; omega) | omega)) | ((with_reducible refine Below.alloc ?_ ?_ _); rotate_left; focus (first | (simp; done) | (simp; omega) | omega))))

end Go.Proofs.Ytnmpfooegnmknaa.Tr
