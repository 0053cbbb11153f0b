/- Trees copied by the specification: what it answers. -/
import Derived.Test.YtnmpfooegnmknaaPutC
namespace Go.Proofs.Ytnmpfooegnmknaa.Tr
open Go.RowKit
set_option linter.unusedVariables false

/-- A row of entries, cell by cell, wherever it lies. -/
theorem InE.cellsOf {w : World} {b off : Nat} {l : List Ent} (hc : ∀ i (h : i < l.length), w.cell? ⟨b, off + i * 2, none⟩ = some (.string l[i].key) ∧ w.cell? ⟨b, off + i * 2 + 1, none⟩ = some (.int .i64 l[i].id)) : ∀ j u, (flatE l)[j]? = some u → w.cell? ((⟨b, off, none⟩ : Addr).add j) = some u := by
  intro j u hj
  have hjl : j < l.length * 2 := by
    rcases Nat.lt_or_ge j (l.length * 2) with h | h
    · exact h
    · rw [List.getElem?_eq_none (by rw [flatE_len]; exact h)] at hj; cases hj
  have hadd : (⟨b, off, none⟩ : Addr).add j = ⟨b, off + j, none⟩ := by unfold Addr.add; split <;> simp_all
  rw [hadd]
  have hg := flatE_get l (j / 2) (by omega)
  have hcc := hc (j / 2) (by omega)
  rcases (show j % 2 = 0 ∨ j % 2 = 1 by omega) with h | h
  · have e : j = j / 2 * 2 := by omega
    rw [show (flatE l)[j]? = (flatE l)[j / 2 * 2]? by rw [← e], hg.1] at hj
    rw [show off + j = off + j / 2 * 2 by omega, hcc.1]; exact hj
  · have e : j = j / 2 * 2 + 1 := by omega
    rw [show (flatE l)[j]? = (flatE l)[j / 2 * 2 + 1]? by rw [← e], hg.2] at hj
    rw [show off + j = off + j / 2 * 2 + 1 by omega, hcc.2]; exact hj
theorem flatE_one (l : List Ent) : ∀ u ∈ flatE l, u.oneCell' = true := by
  intro u hu
  unfold flatE at hu
  obtain ⟨e, _, he⟩ := List.mem_flatMap.1 hu
  unfold rowE at he
  simp at he
  rcases he with rfl | rfl <;> rfl
/-- A tree's own cells in the first new block, the answer's in the second. -/
structure MkO (w W : World) (v : Value) (next : Int) : Prop where
  bel : Below w.heap.size w W
  lt : w.heap.size + 1 < W.heap.size
  c0 : W.cell? ⟨w.heap.size, 0, none⟩ = some v
  c1 : W.cell? ⟨w.heap.size, 1, none⟩ = some (.int .i64 next)
  z0 : W.frozen? ⟨w.heap.size, 0, none⟩ = false
  z1 : W.frozen? ⟨w.heap.size, 1, none⟩ = false
  r0 : W.cell? ⟨w.heap.size + 1, 0, none⟩ = some (.slice none 0 0)
  r1 : W.cell? ⟨w.heap.size + 1, 1, none⟩ = some (.int .i64 0)
  y0 : W.frozen? ⟨w.heap.size + 1, 0, none⟩ = false
  y1 : W.frozen? ⟨w.heap.size + 1, 1, none⟩ = false
theorem MkO.start (w : World) (v : Value) (next : Int) (T : TypeId) : MkO w ((w.alloc (.cells #[v, .int .i64 next] T)).alloc (.cells #[.slice none 0 0, .int .i64 0] T)) v next :=
  ⟨((Below.refl _ _).alloc (Nat.le_refl _) _).alloc (by simp) _, by simp, by simp [go_sem], by simp [go_sem], by simp [go_sem], by simp [go_sem], by simp [go_sem], by simp [go_sem], by simp [go_sem], by simp [go_sem]⟩
theorem MkO.step {w W W' : World} {v : Value} {next : Int} {B : Nat} (h : MkO w W v next) (hb : Below B W W') (hB : w.heap.size + 2 ≤ B) : MkO w W' v next := by
  have hc : ∀ b o, b < B → W'.cell? ⟨b, o, none⟩ = W.cell? ⟨b, o, none⟩ := fun b o hh => hb.cell (p := ⟨b, o, none⟩) hh
  have hf : ∀ b o, b < B → W'.frozen? ⟨b, o, none⟩ = W.frozen? ⟨b, o, none⟩ := fun b o hh => hb.frozen (p := ⟨b, o, none⟩) hh
  exact ⟨h.bel.trans (hb.mono (by omega)), Nat.lt_of_lt_of_le h.lt hb.size, (hc _ _ (by omega)).trans h.c0, (hc _ _ (by omega)).trans h.c1, (hf _ _ (by omega)).trans h.z0, (hf _ _ (by omega)).trans h.z1, (hc _ _ (by omega)).trans h.r0, (hc _ _ (by omega)).trans h.r1, (hf _ _ (by omega)).trans h.y0, (hf _ _ (by omega)).trans h.y1⟩
theorem MkO.next {w W W' : World} {v : Value} {next : Int} (h : MkO w W v next) (hb : Below W.heap.size W W') : MkO w W' v next := h.step hb (by have := h.lt; omega)

theorem two_newP' (W : World) (n : Int) (x : Value) (T : TypeId) (b : Nat) (hb : W.heap.size = b) : ∀ j u, [Value.int .i64 n, x][j]? = some u → (W.alloc (.cells #[.int .i64 n, x] T)).cell? ((⟨b, 0, none⟩ : Addr).add j) = some u := by subst hb; exact two_newP W n x T
theorem keepO {w wr w0 : World} {g k : Nat} {v x y : Value} (h2 : g < w.heap.size) (a0 : wr.cell? ⟨w.heap.size, 0, none⟩ = some v) (x0 : wr.cell? ⟨g, k * 2, none⟩ = some x) (x1 : wr.cell? ⟨g, k * 2 + 1, none⟩ = some y) (hb : Below (w.heap.size + 2) wr w0) :
    w0.cell? ⟨w.heap.size, 0, none⟩ = some v ∧ w0.cell? ⟨g, k * 2, none⟩ = some x ∧ w0.cell? ⟨g, k * 2 + 1, none⟩ = some y :=
  ⟨(hb.cell (p := ⟨w.heap.size, 0, none⟩) (by simp)).trans a0, (hb.cell (p := ⟨g, k * 2, none⟩) (by simp; omega)).trans x0, (hb.cell (p := ⟨g, k * 2 + 1, none⟩) (by simp; omega)).trans x1⟩
set_option maxRecDepth 4000 in
set_option maxHeartbeats 1000000 in
theorem specOwn_any (p : Option Addr) (cap : Nat) (f : List Pg) (next : Int) (w : World) (hr : RowP w p f) (hl : f.length ≤ 100) (hs : ∀ l ∈ f, l.es.length ≤ 100) :
    Calls Try.prog 53 #[.agg #[.slice p f.length cap, .int .i64 next]] w fun e' w' => (∃ v, e' = .returned (.agg #[v, .int .i64 next]) ∧ OwnT w' w.heap.size v f) ∧ Below w.heap.size w w' := by
  have HR : Hid (RowP _ _ _) := hr
  have HS : Hid _ := hs
  have M0 := MkO.start w (.slice p f.length cap) next 37
  have hz0 := M0.lt
  have hO0 := World.ownsRow_made (size := 2) (base := w.heap.size + 2) (e := 86) ((w.alloc (.cells #[.slice p f.length cap, .int .i64 next] 37)).alloc (.cells #[.slice none 0 0, .int .i64 0] 37)) #[] 0 (by simp) (by unfold maxLen; omega) rfl
  simp at hO0
  have M1 := M0.next ((Below.refl _ _).alloc (Nat.le_refl _) (.cells #[] 86))
  clear hr hs M0 hz0
  go_enter Try.func53, Try.ntmps53
  go_wp2_with fail
  generalize ((w.alloc (.cells #[.slice p f.length cap, .int .i64 next] 37)).alloc (.cells #[.slice none 0 0, .int .i64 0] 37)).alloc (.cells #[] 86) = W0 at M1 hO0 ⊢
  go_loopw [3, 4] (fun v i wr => ∃ (k : Nat) (gv cv : Nat) (vs : Nat → Value) (xs : List Value), k ≤ f.length ∧ i = .int .i64 k ∧ v = .slice (some ⟨gv, 0, none⟩) k cv ∧ MkO w wr (.slice p f.length cap) next ∧ PartT wr (w.heap.size + 2) (.slice (some ⟨gv, 0, none⟩) k cv) k f k vs xs) (fun _ i _ => f.length - (intOf i).toNat)
  case atStart => exact ⟨0, _, _, fun _ => .slice none 0 0, [], Nat.zero_le _, rfl, rfl, M1, ⟨hO0, fun i h hi => absurd hi (by omega), fun i h hi => absurd hi (by omega), fun i j h h2 hi => absurd hi (by omega), fun i h hi => absurd hi (by omega)⟩⟩
  case round =>
    obtain ⟨k, gv, cv, vs, xs, hk, rfl, rfl, M, hP⟩ := hrel
    have hz := M.lt
    have HP : Hid (PartT _ _ _ _ _ _ _ _) := hP
    have HM : Hid (MkO _ _ _ _) := M
    have a0 := M.c0
    clear hP M1 hO0
    by_cases hlt : k < f.length
    · have hlt2 : (k : Int) < (f.length : Int) := by omega
      rcases HR.out with h0 | ⟨g, rfl, R0⟩
      · subst h0; simp at hlt
      have hgw := R0.lt
      have R := R0.next M.bel
      obtain ⟨x0, pa, ca, x1, t1⟩ := R.cells k hlt
      have hgl := R.lt
      have hsk := HS.out f[k] (List.getElem_mem _)
      have HT : Hid (InE wr pa f[k].es) := t1
      clear R R0 t1 M
      by_cases he0 : f[k].es.length = 0
      · have hes : f[k].es = [] := List.length_eq_zero_iff.1 he0
        have HES : Hid (f[k].es = []) := hes
        rw [he0] at x1
        have hz1 : w.heap.size < wr.heap.size := by omega
        clear hes he0 HT
        rcases pa with _ | pa'
        · go_wp2_with fail
          go_region_held3 (fun w0 => w0.cell? ⟨w.heap.size, 0, none⟩ = some (.slice (some ⟨g, 0, none⟩) f.length cap) ∧ w0.cell? ⟨g, k * 2, none⟩ = some (.int .i64 f[k].num) ∧ w0.cell? ⟨g, k * 2 + 1, none⟩ = some (.slice none 0 ca)) ((refine keepO hgw a0 x0 x1 ?_; (repeat (first | (with_reducible exact Below.refl _ _) | (with_reducible assumption) | (with_reducible apply below_drewN) | (with_reducible apply Below.drew) | ((with_reducible refine Below.setCell ?_ ?_ _); rotate_left; focus (first | (simp; done) | (simp; omega) | omega)) | ((with_reducible refine Below.alloc ?_ ?_ _); rotate_left; focus (first | (simp; done) | (simp; omega) | omega)))))) (first
            | (refine step_appP rfl (.tmp 13) (.tmp 29) rfl (w.heap.size + 2) k (.slice (some ⟨gv, 0, none⟩) k cv) xs (by simp [Act.eval]) (World.ownsRow.alloc (owns_below HP.out.row (show Below wr.heap.size wr _ by (repeat (first | (with_reducible exact Below.refl _ _) | (with_reducible assumption) | (with_reducible apply below_drewN) | (with_reducible apply Below.drew) | ((with_reducible refine Below.setCell ?_ ?_ _); rotate_left; focus (first | (simp; done) | (simp; omega) | omega)) | ((with_reducible refine Below.alloc ?_ ?_ _); rotate_left; focus (first | (simp; done) | (simp; omega) | omega)))))) _) ⟨wr.heap.size + 1, 0, none⟩ 1 1 [.int .i64 f[k].num, .slice (some ⟨wr.heap.size, 0, none⟩) 0 0] (by simp [Act.eval]) rfl (two_newP' _ _ _ _ _ (by simp)) (two_oneP _ _ _ _) (by omega) (by omega) (by simp; omega) ?_; intro v2 w7 o7 g7 at7; have B7' : Below (w.heap.size + 2) wr w7 := Below.grown (show Below (w.heap.size + 2) wr _ by (repeat (first | (with_reducible exact Below.refl _ _) | (with_reducible assumption) | (with_reducible apply below_drewN) | (with_reducible apply Below.drew) | ((with_reducible refine Below.setCell ?_ ?_ _); rotate_left; focus (first | (simp; done) | (simp; omega) | omega)) | ((with_reducible refine Below.alloc ?_ ?_ _); rotate_left; focus (first | (simp; done) | (simp; omega) | omega))))) g7 (by simp; omega) (fun b hb => (HP.out.row.lt b hb).1)))
          all_goals
            have B5 : Below wr.heap.size wr (wr.drew.alloc (.cells #[] 40)) := (Below.refl _ _).drew.alloc (by simp) _
            have hP8 := (HP.out.next B5).snoc hlt (u := .slice (some ⟨wr.heap.size, 0, none⟩) 0 0) (by rw [HES.out]; have h := World.ownsRow_made (size := 2) (base := w.heap.size + 2) (e := 40) wr.drew #[] 0 (by simp; omega) (by unfold maxLen; omega) rfl; simp at h; exact h) (fun i hi hik => .inr (fun e => by have := (World.ownsRow.lt (HP.out.ents i hi hik) wr.heap.size e.symm).2; omega)) (.inr (fun e => by have := (HP.out.row.lt wr.heap.size e.symm).2; omega)) o7 g7 (by simpa using at7)
            obtain ⟨gw, cw, hvw, _, _, _, _⟩ := owns_form o7 (by omega)
            subst hvw
            have HP8 : Hid (PartT _ _ _ _ _ _ _ _) := hP8
            have HM8 : Hid (MkO _ _ _ _) := HM.out.step B7' (Nat.le_refl _)
            clear o7 g7 at7 hP8 B5 B7'
            go_wp2_with fail
            go_roundw
            case rel => exact ⟨k + 1, gw, cw, _, _, by omega, by go_num, rfl, HM8.out, HP8.out⟩
            case measure => simp [intOf]; omega
        · go_wp2_with fail
          go_region_held3 (fun w0 => w0.cell? ⟨w.heap.size, 0, none⟩ = some (.slice (some ⟨g, 0, none⟩) f.length cap) ∧ w0.cell? ⟨g, k * 2, none⟩ = some (.int .i64 f[k].num) ∧ w0.cell? ⟨g, k * 2 + 1, none⟩ = some (.slice (some pa') 0 ca)) ((refine keepO hgw a0 x0 x1 ?_; (repeat (first | (with_reducible exact Below.refl _ _) | (with_reducible assumption) | (with_reducible apply below_drewN) | (with_reducible apply Below.drew) | ((with_reducible refine Below.setCell ?_ ?_ _); rotate_left; focus (first | (simp; done) | (simp; omega) | omega)) | ((with_reducible refine Below.alloc ?_ ?_ _); rotate_left; focus (first | (simp; done) | (simp; omega) | omega)))))) (first
            | (refine step_appP rfl (.tmp 13) (.tmp 29) rfl (w.heap.size + 2) k (.slice (some ⟨gv, 0, none⟩) k cv) xs (by simp [Act.eval]) (World.ownsRow.alloc (owns_below HP.out.row (show Below wr.heap.size wr _ by (repeat (first | (with_reducible exact Below.refl _ _) | (with_reducible assumption) | (with_reducible apply below_drewN) | (with_reducible apply Below.drew) | ((with_reducible refine Below.setCell ?_ ?_ _); rotate_left; focus (first | (simp; done) | (simp; omega) | omega)) | ((with_reducible refine Below.alloc ?_ ?_ _); rotate_left; focus (first | (simp; done) | (simp; omega) | omega)))))) _) ⟨wr.heap.size + 1, 0, none⟩ 1 1 [.int .i64 f[k].num, .slice (some ⟨wr.heap.size, 0, none⟩) 0 0] (by simp [Act.eval]) rfl (two_newP' _ _ _ _ _ (by simp)) (two_oneP _ _ _ _) (by omega) (by omega) (by simp; omega) ?_; intro v2 w7 o7 g7 at7; have B7' : Below (w.heap.size + 2) wr w7 := Below.grown (show Below (w.heap.size + 2) wr _ by (repeat (first | (with_reducible exact Below.refl _ _) | (with_reducible assumption) | (with_reducible apply below_drewN) | (with_reducible apply Below.drew) | ((with_reducible refine Below.setCell ?_ ?_ _); rotate_left; focus (first | (simp; done) | (simp; omega) | omega)) | ((with_reducible refine Below.alloc ?_ ?_ _); rotate_left; focus (first | (simp; done) | (simp; omega) | omega))))) g7 (by simp; omega) (fun b hb => (HP.out.row.lt b hb).1)))
          all_goals
            have B5 : Below wr.heap.size wr (wr.drew.alloc (.cells #[] 40)) := (Below.refl _ _).drew.alloc (by simp) _
            have hP8 := (HP.out.next B5).snoc hlt (u := .slice (some ⟨wr.heap.size, 0, none⟩) 0 0) (by rw [HES.out]; have h := World.ownsRow_made (size := 2) (base := w.heap.size + 2) (e := 40) wr.drew #[] 0 (by simp; omega) (by unfold maxLen; omega) rfl; simp at h; exact h) (fun i hi hik => .inr (fun e => by have := (World.ownsRow.lt (HP.out.ents i hi hik) wr.heap.size e.symm).2; omega)) (.inr (fun e => by have := (HP.out.row.lt wr.heap.size e.symm).2; omega)) o7 g7 (by simpa using at7)
            obtain ⟨gw, cw, hvw, _, _, _, _⟩ := owns_form o7 (by omega)
            subst hvw
            have HP8 : Hid (PartT _ _ _ _ _ _ _ _) := hP8
            have HM8 : Hid (MkO _ _ _ _) := HM.out.step B7' (Nat.le_refl _)
            clear o7 g7 at7 hP8 B5 B7'
            go_wp2_with fail
            go_roundw
            case rel => exact ⟨k + 1, gw, cw, _, _, by omega, by go_num, rfl, HM8.out, HP8.out⟩
            case measure => simp [intOf]; omega
      · rcases HT.out with h0 | ⟨b2, off, rfl, hbl, hc⟩
        · omega
        have hcs := InE.cellsOf hc
        have HCS : Hid (∀ W : World, Below wr.heap.size wr W → ∀ j u, (flatE f[k].es)[j]? = some u → W.cell? ((⟨b2, off, none⟩ : Addr).add j) = some u) := fun W hW j u hj => by
          have := hcs j u hj
          have hadd : (⟨b2, off, none⟩ : Addr).add j = ⟨b2, off + j, none⟩ := by unfold Addr.add; split <;> simp_all
          rw [hadd] at this ⊢
          exact (hW.cell hbl).trans this
        have hz1 : w.heap.size < wr.heap.size := by omega
        have hpos : 0 < f[k].es.length := by omega
        clear hc hcs he0
        go_wp2_with fail
        go_region_held3 (fun w0 => w0.cell? ⟨w.heap.size, 0, none⟩ = some (.slice (some ⟨g, 0, none⟩) f.length cap) ∧ w0.cell? ⟨g, k * 2, none⟩ = some (.int .i64 f[k].num) ∧ w0.cell? ⟨g, k * 2 + 1, none⟩ = some (.slice (some ⟨b2, off, none⟩) f[k].es.length ca)) ((refine keepO hgw a0 x0 x1 ?_; (repeat (first | (with_reducible exact Below.refl _ _) | (with_reducible assumption) | (with_reducible apply below_drewN) | (with_reducible apply Below.drew) | ((with_reducible refine Below.setCell ?_ ?_ _); rotate_left; focus (first | (simp; done) | (simp; omega) | omega)) | ((with_reducible refine Below.alloc ?_ ?_ _); rotate_left; focus (first | (simp; done) | (simp; omega) | omega)))))) (first
          | (refine step_appE rfl (.tmp 20) (.tmp 26) rfl wr.heap.size 0 (.slice (some ⟨wr.heap.size, 0, none⟩) 0 0) [] (by simp [Act.eval]) (World.ownsRow_made (size := 2) (base := wr.heap.size) (e := 40) _ #[] 0 (by simp) (by unfold maxLen; omega) rfl) ⟨b2, off, none⟩ f[k].es.length ca (flatE f[k].es) (by simp [Act.eval]) (flatE_len _) (HCS.out _ (by (repeat (first | (with_reducible exact Below.refl _ _) | (with_reducible assumption) | (with_reducible apply below_drewN) | (with_reducible apply Below.drew) | ((with_reducible refine Below.setCell ?_ ?_ _); rotate_left; focus (first | (simp; done) | (simp; omega) | omega)) | ((with_reducible refine Below.alloc ?_ ?_ _); rotate_left; focus (first | (simp; done) | (simp; omega) | omega)))))) (flatE_one _) (by omega) (by omega) (by simp) ?_; intro v1 w5 o5 g5; obtain ⟨gu, cu, hvu, hgu1, hgu2, _, _⟩ := owns_form o5 (by omega); subst hvu; have B5 : Below wr.heap.size wr w5 := Below.grown (show Below wr.heap.size wr _ by (repeat (first | (with_reducible exact Below.refl _ _) | (with_reducible assumption) | (with_reducible apply below_drewN) | (with_reducible apply Below.drew) | ((with_reducible refine Below.setCell ?_ ?_ _); rotate_left; focus (first | (simp; done) | (simp; omega) | omega)) | ((with_reducible refine Below.alloc ?_ ?_ _); rotate_left; focus (first | (simp; done) | (simp; omega) | omega))))) g5 (by simp) (fun b hb => Nat.le_of_eq (Option.some.inj (show some wr.heap.size = some b from hb))); have c05 := (B5.cell hz1).trans a0; have x05 := (B5.cell hgl).trans x0; have x15 := (B5.cell hgl).trans x1; have hz5 := B5.size; have B5' : Below (w.heap.size + 2) wr w5 := B5.mono (by omega))
          | (refine step_appP rfl (.tmp 13) (.tmp 29) rfl (w.heap.size + 2) k (.slice (some ⟨gv, 0, none⟩) k cv) xs (by simp [Act.eval]) ((HP.out.next B5).row.alloc _) ⟨w5.heap.size, 0, none⟩ 1 1 [.int .i64 f[k].num, .slice (some ⟨gu, 0, none⟩) f[k].es.length cu] (by simp [Act.eval]) rfl (two_newP _ _ _ _) (two_oneP _ _ _ _) (by omega) (by omega) (by simp; omega) ?_; intro v2 w7 o7 g7 at7; have B7' : Below (w.heap.size + 2) wr w7 := B5'.trans (Below.grown ((Below.refl _ w5).alloc (by omega) (.cells #[.int .i64 f[k].num, .slice (some ⟨gu, 0, none⟩) f[k].es.length cu] 86)) g7 (by simp; omega) (fun b hb => (HP.out.row.lt b hb).1))))
        all_goals
          have hP8 := (HP.out.next B5).snoc hlt (show OwnE w5 (w.heap.size + 2) (.slice (some ⟨gu, 0, none⟩) f[k].es.length cu) f[k].es from owns_mono (by have h := o5; rw [Nat.zero_add, List.nil_append] at h; exact h) (by omega)) (fun i hi hik => .inr (fun e => by have := (World.ownsRow.lt (HP.out.ents i hi hik) gu e.symm).2; omega)) (.inr (fun e => by have := (HP.out.row.lt gu e.symm).2; omega)) o7 g7 at7
          obtain ⟨gw, cw, hvw, _, _, _, _⟩ := owns_form o7 (by omega)
          subst hvw
          have HP8 : Hid (PartT _ _ _ _ _ _ _ _) := hP8
          have HM8 : Hid (MkO _ _ _ _) := HM.out.step B7' (Nat.le_refl _)
          clear o7 g7 at7 hP8 o5 g5 B5 B5' B7' c05 x05 x15
          go_wp2_with fail
          go_roundw
          case rel => exact ⟨k + 1, gw, cw, _, _, by omega, by go_num, rfl, HM8.out, HP8.out⟩
          case measure => simp [intOf]; omega
    · obtain rfl : k = f.length := by omega
      have HT : Hid (OwnT wr (w.heap.size + 2) (.slice (some ⟨gv, 0, none⟩) f.length cv) f) := ⟨vs, xs, HP.out⟩
      obtain ⟨mb, ml, mc0, mc1, mz0, mz1, mr0, mr1, my0, my1⟩ := M
      clear HP HM
      go_wp2_with fail
      refine bodyPost_ret (v := .agg #[.slice (some ⟨gv, 0, none⟩) f.length cv, .int .i64 next]) (by simp [results, Try.results53, go_sem, *]) rfl ⟨⟨_, rfl, ?_⟩, ?_⟩
      · exact (((HT.out.grown grown_set (by omega)).grown grown_set (by omega)).grown grown_set (by omega)).mono (by omega)
      · (repeat (first | (with_reducible exact Below.refl _ _) | (with_reducible assumption) | (with_reducible apply below_drewN) | (with_reducible apply Below.drew) | ((with_reducible refine Below.setCell ?_ ?_ _); rotate_left; focus (first | (simp; done) | (simp; omega) | omega)) | ((with_reducible refine Below.alloc ?_ ?_ _); rotate_left; focus (first | (simp; done) | (simp; omega) | omega))))

end Go.Proofs.Ytnmpfooegnmknaa.Tr
