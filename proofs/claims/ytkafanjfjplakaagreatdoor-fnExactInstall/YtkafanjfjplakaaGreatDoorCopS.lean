/- Collections copied by the specification: what it answers. -/
import Derived.Test.YtkafanjfjplakaaGreatDoorCopC
import Derived.Deep.RegionHeld3
namespace Go.Proofs.YtkafanjfjplakaaGreatDoor.Co
open Go.RowKit Tr
set_option linter.unusedVariables false

theorem InVr.cellsOf {w : World} {b off : Nat} {l : List Ver} (hc : ∀ i (h : i < l.length), w.cell? ⟨b, off + i * 5, none⟩ = some (.int .i64 l[i].tm) ∧ w.cell? ⟨b, off + i * 5 + 1, none⟩ = some (.bool l[i].gone) ∧ w.cell? ⟨b, off + i * 5 + 2, none⟩ = some (.int .i64 l[i].doc.k) ∧ w.cell? ⟨b, off + i * 5 + 3, none⟩ = some (.int .i64 l[i].doc.n) ∧ w.cell? ⟨b, off + i * 5 + 4, none⟩ = some (.string l[i].doc.t)) : ∀ j u, (flatVr l)[j]? = some u → w.cell? ((⟨b, off, none⟩ : Addr).add j) = some u := by
  intro j u hj
  have hjl : j < l.length * 5 := by
    rcases Nat.lt_or_ge j (l.length * 5) with h | h
    · exact h
    · rw [List.getElem?_eq_none (by rw [flatVr_len]; exact h)] at hj; cases hj
  have hadd : (⟨b, off, none⟩ : Addr).add j = ⟨b, off + j, none⟩ := by unfold Addr.add; split <;> simp_all
  rw [hadd]
  have hg := flatVr_get l (j / 5) (by omega)
  have hcc := hc (j / 5) (by omega)
  rcases (show j % 5 = 0 ∨ j % 5 = 1 ∨ j % 5 = 2 ∨ j % 5 = 3 ∨ j % 5 = 4 by omega) with h | h | h | h | h
  · have e : j = j / 5 * 5 := by omega
    rw [show (flatVr l)[j]? = (flatVr l)[j / 5 * 5]? by rw [← e], hg.1] at hj
    rw [show off + j = off + j / 5 * 5 by omega, hcc.1]; exact hj
  · have e : j = j / 5 * 5 + 1 := by omega
    rw [show (flatVr l)[j]? = (flatVr l)[j / 5 * 5 + 1]? by rw [← e], hg.2.1] at hj
    rw [show off + j = off + j / 5 * 5 + 1 by omega, hcc.2.1]; exact hj
  · have e : j = j / 5 * 5 + 2 := by omega
    rw [show (flatVr l)[j]? = (flatVr l)[j / 5 * 5 + 2]? by rw [← e], hg.2.2.1] at hj
    rw [show off + j = off + j / 5 * 5 + 2 by omega, hcc.2.2.1]; exact hj
  · have e : j = j / 5 * 5 + 3 := by omega
    rw [show (flatVr l)[j]? = (flatVr l)[j / 5 * 5 + 3]? by rw [← e], hg.2.2.2.1] at hj
    rw [show off + j = off + j / 5 * 5 + 3 by omega, hcc.2.2.2.1]; exact hj
  · have e : j = j / 5 * 5 + 4 := by omega
    rw [show (flatVr l)[j]? = (flatVr l)[j / 5 * 5 + 4]? by rw [← e], hg.2.2.2.2] at hj
    rw [show off + j = off + j / 5 * 5 + 4 by omega, hcc.2.2.2.2]; exact hj
theorem flatVr_one (l : List Ver) : ∀ u ∈ flatVr l, u.oneCell' = true := by
  intro u hu
  unfold flatVr at hu
  obtain ⟨e, _, he⟩ := List.mem_flatMap.1 hu
  exact five_one e u he
theorem InD.cellsOf {w : World} {b off : Nat} {l : List Prt} (hc : ∀ i (h : i < l.length), w.cell? ⟨b, off + i * 2, none⟩ = some (.string l[i].path) ∧ w.cell? ⟨b, off + i * 2 + 1, none⟩ = some (.bool l[i].desc)) : ∀ j u, (flatD l)[j]? = some u → w.cell? ((⟨b, off, none⟩ : Addr).add j) = some u := by
  intro j u hj
  have hjl : j < l.length * 2 := by
    rcases Nat.lt_or_ge j (l.length * 2) with h | h
    · exact h
    · rw [List.getElem?_eq_none (by rw [flatD_len]; exact h)] at hj; cases hj
  have hadd : (⟨b, off, none⟩ : Addr).add j = ⟨b, off + j, none⟩ := by unfold Addr.add; split <;> simp_all
  rw [hadd]
  have hg := flatD_get l (j / 2) (by omega)
  have hcc := hc (j / 2) (by omega)
  rcases (show j % 2 = 0 ∨ j % 2 = 1 by omega) with h | h
  · have e : j = j / 2 * 2 := by omega
    rw [show (flatD l)[j]? = (flatD l)[j / 2 * 2]? by rw [← e], hg.1] at hj
    rw [show off + j = off + j / 2 * 2 by omega, hcc.1]; exact hj
  · have e : j = j / 2 * 2 + 1 := by omega
    rw [show (flatD l)[j]? = (flatD l)[j / 2 * 2 + 1]? by rw [← e], hg.2] at hj
    rw [show off + j = off + j / 2 * 2 + 1 by omega, hcc.2]; exact hj
theorem flatD_one (l : List Prt) : ∀ u ∈ flatD l, u.oneCell' = true := by
  intro u hu
  unfold flatD at hu
  obtain ⟨e, _, he⟩ := List.mem_flatMap.1 hu
  unfold rowD at he
  simp at he
  rcases he with rfl | rfl <;> rfl
theorem rowInD {w : World} {p : Option Addr} {l : List Prt} (h : RowD w p l) : InD w p l := by
  rcases h with rfl | ⟨g, rfl, h⟩
  · exact .inl rfl
  · exact h.inD
/-- A collection's own cells in the first new block, the answer's in the second. -/
structure MkQ (w W : World) (nm v u : Value) : Prop where
  bel : Below w.heap.size w W
  lt : w.heap.size + 1 < W.heap.size
  c0 : W.cell? ⟨w.heap.size, 0, none⟩ = some nm
  c1 : W.cell? ⟨w.heap.size, 1, none⟩ = some v
  c2 : W.cell? ⟨w.heap.size, 2, none⟩ = some u
  z0 : ∀ o, W.frozen? ⟨w.heap.size, o, none⟩ = false
  r0 : ∃ x, W.cell? ⟨w.heap.size + 1, 0, none⟩ = some x
  r1 : ∃ x, W.cell? ⟨w.heap.size + 1, 1, none⟩ = some x
  r2 : ∃ x, W.cell? ⟨w.heap.size + 1, 2, none⟩ = some x
  y0 : ∀ o, W.frozen? ⟨w.heap.size + 1, o, none⟩ = false
theorem MkQ.start (w : World) (nm v u p q r : Value) (T T2 : TypeId) : MkQ w ((w.alloc (.cells #[nm, v, u] T)).alloc (.cells #[p, q, r] T2)) nm v u :=
  ⟨((Below.refl _ _).alloc (Nat.le_refl _) _).alloc (by simp) _, by simp, by simp [go_sem], by simp [go_sem], by simp [go_sem], fun o => by simp [go_sem], ⟨p, by simp [go_sem]⟩, ⟨q, by simp [go_sem]⟩, ⟨r, by simp [go_sem]⟩, fun o => by simp [go_sem]⟩
theorem MkQ.step {w W W' : World} {nm v u : Value} {B : Nat} (h : MkQ w W nm v u) (hb : Below B W W') (hB : w.heap.size + 2 ≤ B) : MkQ w W' nm v u := by
  have hc : ∀ b o, b < B → W'.cell? ⟨b, o, none⟩ = W.cell? ⟨b, o, none⟩ := fun b o hh => hb.cell (p := ⟨b, o, none⟩) hh
  have hf : ∀ b o, b < B → W'.frozen? ⟨b, o, none⟩ = W.frozen? ⟨b, o, none⟩ := fun b o hh => hb.frozen (p := ⟨b, o, none⟩) hh
  refine ⟨h.bel.trans (hb.mono (by omega)), Nat.lt_of_lt_of_le h.lt hb.size, (hc _ _ (by omega)).trans h.c0, (hc _ _ (by omega)).trans h.c1, (hc _ _ (by omega)).trans h.c2, fun o => (hf _ _ (by omega)).trans (h.z0 o), ?_, ?_, ?_, fun o => (hf _ _ (by omega)).trans (h.y0 o)⟩
  · rw [hc _ _ (by omega)]; exact h.r0
  · rw [hc _ _ (by omega)]; exact h.r1
  · rw [hc _ _ (by omega)]; exact h.r2
theorem MkQ.next {w W W' : World} {nm v u : Value} (h : MkQ w W nm v u) (hb : Below W.heap.size W W') : MkQ w W' nm v u := h.step hb (by have := h.lt; omega)
theorem keepQ {w wr w0 : World} {o g k : Nat} {v x y : Value} (h2 : g < w.heap.size) (a0 : wr.cell? ⟨w.heap.size, o, none⟩ = some v) (x0 : wr.cell? ⟨g, k * 2, none⟩ = some x) (x1 : wr.cell? ⟨g, k * 2 + 1, none⟩ = some y) (hb : Below (w.heap.size + 2) wr w0) :
    w0.cell? ⟨w.heap.size, o, none⟩ = some v ∧ w0.cell? ⟨g, k * 2, none⟩ = some x ∧ w0.cell? ⟨g, k * 2 + 1, none⟩ = some y :=
  ⟨(hb.cell (p := ⟨w.heap.size, o, none⟩) (by simp)).trans a0, (hb.cell (p := ⟨g, k * 2, none⟩) (by simp; omega)).trans x0, (hb.cell (p := ⟨g, k * 2 + 1, none⟩) (by simp; omega)).trans x1⟩
set_option maxRecDepth 4000 in
set_option maxHeartbeats 4000000 in
theorem specOwnC_any (nm : ByteArray) (a d : Option Addr) (cap capd : Nat) (f : List Chn) (ds : List Dfn) (w : World) (hin : RowCh w a f) (hid : RowDf w d ds) (hl : f.length ≤ 1000) (hs : ∀ p ∈ f, p.vs.length ≤ 1000 ∧ 0 < p.vs.length) (hld : ds.length ≤ 1000) (hsd : ∀ p ∈ ds, p.ps.length ≤ 1000 ∧ 0 < p.ps.length) :
    Calls Tryz.prog 48 #[.agg #[.string nm, .slice a f.length cap, .slice d ds.length capd]] w fun e' w' => (∃ v u mid, e' = .returned (.agg #[.string nm, v, u]) ∧ w.heap.size ≤ mid ∧ mid ≤ w'.heap.size ∧ OwnChH w' w.heap.size mid v f ∧ OwnDfH w' mid w'.heap.size u ds) ∧ Below w.heap.size w w' := by
  have HIN : Hid (RowCh _ _ _) := hin
  have HID : Hid (RowDf _ _ _) := hid
  have HK : Hid _ := hs
  have HKD : Hid _ := hsd
  have M0 := MkQ.start w (.string nm) (.slice a f.length cap) (.slice d ds.length capd) (.string em) (.slice none 0 0) (.slice none 0 0) 30 30
  have hO0 := World.ownsRow_made (size := 2) (base := w.heap.size + 2) (e := 94) ((w.alloc (.cells #[.string nm, .slice a f.length cap, .slice d ds.length capd] 30)).alloc (.cells #[.string em, .slice none 0 0, .slice none 0 0] 30)) #[] 0 (by simp) (by unfold maxLen; omega) rfl
  simp at hO0
  have M1 := M0.next ((Below.refl _ _).alloc (Nat.le_refl _) (.cells #[] 94))
  clear hin hid hs hsd M0
  go_enter Tryz.func48, Tryz.ntmps48
  go_wp2_with fail
  generalize ((w.alloc (.cells #[.string nm, .slice a f.length cap, .slice d ds.length capd] 30)).alloc (.cells #[.string em, .slice none 0 0, .slice none 0 0] 30)).alloc (.cells #[] 94) = W0 at M1 hO0 ⊢
  go_loopw [3, 4] (fun v i wr => ∃ (k : Nat) (gv cv : Nat) (vs : Nat → Value) (xs : List Value), k ≤ f.length ∧ i = .int .i64 k ∧ v = .slice (some ⟨gv, 0, none⟩) k cv ∧ MkQ w wr (.string nm) (.slice a f.length cap) (.slice d ds.length capd) ∧ PartCh wr (w.heap.size + 2) (.slice (some ⟨gv, 0, none⟩) k cv) k f k vs xs) (fun _ i _ => f.length - (intOf i).toNat)
  case atStart => exact ⟨0, _, _, fun _ => .slice none 0 0, [], Nat.zero_le _, rfl, rfl, M1, ⟨hO0, fun i h hi => absurd hi (by omega), fun i h hi => absurd hi (by omega), fun i j h h2 hi => absurd hi (by omega), fun i h hi => absurd hi (by omega)⟩⟩
  case round =>
    obtain ⟨k, gv, cv, vs, xs, hk, rfl, rfl, M, hP⟩ := hrel
    have hz := M.lt
    have HP : Hid (PartCh _ _ _ _ _ _ _ _) := hP
    have HM : Hid (MkQ _ _ _ _ _) := M
    skip
    have a0 := M.c1
    clear hP M1 hO0 
    by_cases hlt : k < f.length
    · have hlt2 : (k : Int) < (f.length : Int) := by omega
      rcases HIN.out with h0 | ⟨g, rfl, R0⟩
      · subst h0; simp at hlt
      have hgw := R0.lt
      have R := R0.next M.bel
      obtain ⟨x0, pa, ca, x1, t1⟩ := R.cells k hlt
      have hgl := R.lt
      have hsk := (HK.out f[k] (List.getElem_mem _)).1
      have hpos := (HK.out f[k] (List.getElem_mem _)).2
      clear R R0 M
      rcases t1 with h0 | ⟨b2, off, rfl, hbl, hc⟩
      · omega
      have hcs := InVr.cellsOf hc
      have HCS : Hid (∀ W : World, Below wr.heap.size wr W → ∀ j u, (flatVr f[k].vs)[j]? = some u → W.cell? ((⟨b2, off, none⟩ : Addr).add j) = some u) := fun W hW j u hj => by
        have := hcs j u hj
        have hadd : (⟨b2, off, none⟩ : Addr).add j = ⟨b2, off + j, none⟩ := by unfold Addr.add; split <;> simp_all
        rw [hadd] at this ⊢
        exact (hW.cell hbl).trans this
      have hz1 : w.heap.size < wr.heap.size := by omega
      clear hc hcs
      go_wp2_with fail
      go_region_held3 (fun w0 => w0.cell? ⟨w.heap.size, 1, none⟩ = some (.slice (some ⟨g, 0, none⟩) f.length cap) ∧ w0.cell? ⟨g, k * 2, none⟩ = some (.int .i64 f[k].id) ∧ w0.cell? ⟨g, k * 2 + 1, none⟩ = some (.slice (some ⟨b2, off, none⟩) f[k].vs.length ca)) ((refine keepQ hgw a0 x0 x1 ?_; (repeat (first | (with_reducible exact Below.refl _ _) | (with_reducible assumption) | (with_reducible apply below_drewN) | (with_reducible apply Below.drew) | ((with_reducible refine Below.setCell ?_ ?_ _); rotate_left; focus (first | (simp; done) | (simp; omega) | omega)) | ((with_reducible refine Below.alloc ?_ ?_ _); rotate_left; focus (first | (simp; done) | (simp; omega) | omega)))))) (first
        | (refine step_appVr rfl (.tmp 22) (.tmp 28) rfl wr.heap.size 0 (.slice (some ⟨wr.heap.size, 0, none⟩) 0 0) [] (by simp [Act.eval]) (World.ownsRow_made (size := 5) (base := wr.heap.size) (e := 96) _ #[] 0 (by simp) (by unfold maxLen; omega) rfl) ⟨b2, off, none⟩ f[k].vs.length ca (flatVr f[k].vs) (by simp [Act.eval]) (flatVr_len _) (HCS.out _ (by (repeat (first | (with_reducible exact Below.refl _ _) | (with_reducible assumption) | (with_reducible apply below_drewN) | (with_reducible apply Below.drew) | ((with_reducible refine Below.setCell ?_ ?_ _); rotate_left; focus (first | (simp; done) | (simp; omega) | omega)) | ((with_reducible refine Below.alloc ?_ ?_ _); rotate_left; focus (first | (simp; done) | (simp; omega) | omega)))))) (flatVr_one _) (by omega) (by omega) (by simp) ?_; intro v1 w5 o5 g5 at5; obtain ⟨gu, cu, hvu, hgu1, hgu2, _, _⟩ := rowForm o5 (by omega); subst hvu; have B5 : Below wr.heap.size wr w5 := Below.grown (show Below wr.heap.size wr _ by (repeat (first | (with_reducible exact Below.refl _ _) | (with_reducible assumption) | (with_reducible apply below_drewN) | (with_reducible apply Below.drew) | ((with_reducible refine Below.setCell ?_ ?_ _); rotate_left; focus (first | (simp; done) | (simp; omega) | omega)) | ((with_reducible refine Below.alloc ?_ ?_ _); rotate_left; focus (first | (simp; done) | (simp; omega) | omega))))) g5 (by simp) (fun b hb => Nat.le_of_eq (Option.some.inj (show some wr.heap.size = some b from hb))); have c05 := (B5.cell hz1).trans a0; have x05 := (B5.cell hgl).trans x0; have x15 := (B5.cell hgl).trans x1; have hz5 := B5.size; have B5' : Below (w.heap.size + 2) wr w5 := B5.mono (by omega); clear at5)
        | (refine step_appCh rfl (.tmp 15) (.tmp 31) rfl (w.heap.size + 2) k (.slice (some ⟨gv, 0, none⟩) k cv) xs (by simp [Act.eval]) ((HP.out.next B5).row.alloc _) ⟨w5.heap.size, 0, none⟩ 1 1 [.int .i64 f[k].id, .slice (some ⟨gu, 0, none⟩) f[k].vs.length cu] (by simp [Act.eval]) rfl (two_newA _ _ _ _) (two_oneA _ rfl _ _ _) (by omega) (by omega) (by simp; omega) ?_; intro v2 w7 o7 g7 at7; have B7 : Below (w.heap.size + 2) w5 w7 := Below.grown ((Below.refl _ w5).alloc (by omega) (.cells #[.int .i64 f[k].id, .slice (some ⟨gu, 0, none⟩) f[k].vs.length cu] 94)) g7 (by simp; omega) (fun b hb => (HP.out.row.lt b hb).1); have B7' : Below (w.heap.size + 2) wr w7 := B5'.trans (B7.mono (by omega))))
      all_goals
        have hP8 := (HP.out.next B5).snoc hlt rfl (show OwnVr w5 (w.heap.size + 2) (.slice (some ⟨gu, 0, none⟩) f[k].vs.length cu) f[k].vs from owns_mono (by have h := o5; rw [Nat.zero_add, List.nil_append] at h; exact h) (by omega)) (fun i hi hik => .inr (fun e => by have := (World.ownsRow.lt (HP.out.ents i hi hik) gu e.symm).2; omega)) (.inr (fun e => by have := (HP.out.row.lt gu e.symm).2; omega)) o7 g7 at7
        obtain ⟨gw, cw, hvw, _, _, _, _⟩ := rowForm o7 (by omega)
        subst hvw
        have HP8 : Hid (PartCh _ _ _ _ _ _ _ _) := hP8
        have HM8 : Hid (MkQ _ _ _ _ _) := HM.out.step B7' (Nat.le_refl _)
        skip
        clear o7 g7 at7 hP8 o5 g5 B5 B5' B7' B7 c05 x05 x15
        go_wp2_with fail
        go_roundw
        case rel => exact ⟨k + 1, gw, cw, _, _, by omega, by go_num, rfl, HM8.out, HP8.out⟩
        case measure => simp [intOf]; omega
    · obtain rfl : k = f.length := by omega
      have hC0 : OwnChH wr (w.heap.size + 2) wr.heap.size (.slice (some ⟨gv, 0, none⟩) f.length cv) f := OwnCh.ownH ⟨vs, xs, HP.out⟩
      have hbD : Below wr.heap.size wr (wr.alloc (.cells #[] 159)) := (Below.refl _ _).alloc (Nat.le_refl _) _
      have hO0 := World.ownsRow_made (size := 2) (base := wr.heap.size) (e := 159) wr #[] 0 (Nat.le_refl _) (by unfold maxLen; omega) rfl
      try simp at hO0
      have HC0 : Hid (OwnChH _ _ _ _ _) := hC0.next hbD
      have M1 := M.next hbD
      have hmid := hbD.size
      have hl1 : w.heap.size < wr.heap.size := by omega
      clear hC0 HP HM hbD M
      go_wp2_with fail
      generalize wr.alloc (.cells #[] 159) = W2 at HC0 M1 hmid hO0 ⊢
      obtain ⟨mid, hmid'⟩ : ∃ mid, mid = wr.heap.size := ⟨_, rfl⟩
      have hGm : w.heap.size + 2 ≤ mid := by omega
      rw [← hmid'] at HC0 hmid hO0 ⊢
      obtain ⟨g1, hg1⟩ : ∃ g1, g1 = gv := ⟨_, rfl⟩
      obtain ⟨c1, hc1⟩ : ∃ c1, c1 = cv := ⟨_, rfl⟩
      rw [← hg1, ← hc1] at HC0 ⊢
      clear hg1 hc1 hmid' a0
      go_loopw [5, 6] (fun v i wr => ∃ (k : Nat) (gv cv : Nat) (vs : Nat → Value) (xs : List Value), k ≤ ds.length ∧ i = .int .i64 k ∧ v = .slice (some ⟨gv, 0, none⟩) k cv ∧ MkQ w wr (.string nm) (.slice a f.length cap) (.slice d ds.length capd) ∧ mid ≤ wr.heap.size ∧ OwnChH wr (w.heap.size + 2) mid (.slice (some ⟨g1, 0, none⟩) f.length c1) f ∧ PartDf wr (mid) (.slice (some ⟨gv, 0, none⟩) k cv) k ds k vs xs) (fun _ i _ => ds.length - (intOf i).toNat)
      case atStart => exact ⟨0, _, _, fun _ => .slice none 0 0, [], Nat.zero_le _, rfl, rfl, M1, hmid, HC0.out, ⟨hO0, fun i h hi => absurd hi (by omega), fun i h hi => absurd hi (by omega), fun i j h h2 hi => absurd hi (by omega), fun i h hi => absurd hi (by omega)⟩⟩
      case round =>
        obtain ⟨k, gv, cv, vs, xs, hk, rfl, rfl, M, hmr, hC, hP⟩ := hrel
        have hz := M.lt
        have HP : Hid (PartDf _ _ _ _ _ _ _ _) := hP
        have HM : Hid (MkQ _ _ _ _ _) := M
        have HCC : Hid (OwnChH _ _ _ _ _) := hC
        have a0 := M.c2
        clear hP M1 hO0 hC HC0
        by_cases hlt : k < ds.length
        · have hlt2 : (k : Int) < (ds.length : Int) := by omega
          rcases HID.out with h0 | ⟨g, rfl, R0⟩
          · subst h0; simp at hlt
          have hgw := R0.lt
          have R := R0.next M.bel
          obtain ⟨x0, pa, ca, x1, _, t0⟩ := R.cells k hlt
          have t1 := rowInD t0
          clear t0
          have hgl := R.lt
          have hsk := (HKD.out ds[k] (List.getElem_mem _)).1
          have hpos := (HKD.out ds[k] (List.getElem_mem _)).2
          clear R R0 M
          rcases t1 with h0 | ⟨b2, off, rfl, hbl, hc⟩
          · omega
          have hcs := InD.cellsOf hc
          have HCS : Hid (∀ W : World, Below wr.heap.size wr W → ∀ j u, (flatD ds[k].ps)[j]? = some u → W.cell? ((⟨b2, off, none⟩ : Addr).add j) = some u) := fun W hW j u hj => by
            have := hcs j u hj
            have hadd : (⟨b2, off, none⟩ : Addr).add j = ⟨b2, off + j, none⟩ := by unfold Addr.add; split <;> simp_all
            rw [hadd] at this ⊢
            exact (hW.cell hbl).trans this
          have hz1 : w.heap.size < wr.heap.size := by omega
          clear hc hcs
          go_wp2_with fail
          go_region_held3 (fun w0 => w0.cell? ⟨w.heap.size, 2, none⟩ = some (.slice (some ⟨g, 0, none⟩) ds.length capd) ∧ w0.cell? ⟨g, k * 2, none⟩ = some (.string ds[k].name) ∧ w0.cell? ⟨g, k * 2 + 1, none⟩ = some (.slice (some ⟨b2, off, none⟩) ds[k].ps.length ca)) ((refine keepQ hgw a0 x0 x1 ?_; (repeat (first | (with_reducible exact Below.refl _ _) | (with_reducible assumption) | (with_reducible apply below_drewN) | (with_reducible apply Below.drew) | ((with_reducible refine Below.setCell ?_ ?_ _); rotate_left; focus (first | (simp; done) | (simp; omega) | omega)) | ((with_reducible refine Below.alloc ?_ ?_ _); rotate_left; focus (first | (simp; done) | (simp; omega) | omega)))))) (first
            | (refine step_appD rfl (.tmp 48) (.tmp 54) rfl wr.heap.size 0 (.slice (some ⟨wr.heap.size, 0, none⟩) 0 0) [] (by simp [Act.eval]) (World.ownsRow_made (size := 2) (base := wr.heap.size) (e := 200) _ #[] 0 (by simp) (by unfold maxLen; omega) rfl) ⟨b2, off, none⟩ ds[k].ps.length ca (flatD ds[k].ps) (by simp [Act.eval]) (flatD_len _) (HCS.out _ (by (repeat (first | (with_reducible exact Below.refl _ _) | (with_reducible assumption) | (with_reducible apply below_drewN) | (with_reducible apply Below.drew) | ((with_reducible refine Below.setCell ?_ ?_ _); rotate_left; focus (first | (simp; done) | (simp; omega) | omega)) | ((with_reducible refine Below.alloc ?_ ?_ _); rotate_left; focus (first | (simp; done) | (simp; omega) | omega)))))) (flatD_one _) (by omega) (by omega) (by simp) ?_; intro v1 w5 o5 g5 at5; obtain ⟨gu, cu, hvu, hgu1, hgu2, _, _⟩ := rowForm o5 (by omega); subst hvu; have B5 : Below wr.heap.size wr w5 := Below.grown (show Below wr.heap.size wr _ by (repeat (first | (with_reducible exact Below.refl _ _) | (with_reducible assumption) | (with_reducible apply below_drewN) | (with_reducible apply Below.drew) | ((with_reducible refine Below.setCell ?_ ?_ _); rotate_left; focus (first | (simp; done) | (simp; omega) | omega)) | ((with_reducible refine Below.alloc ?_ ?_ _); rotate_left; focus (first | (simp; done) | (simp; omega) | omega))))) g5 (by simp) (fun b hb => Nat.le_of_eq (Option.some.inj (show some wr.heap.size = some b from hb))); have c05 := (B5.cell hz1).trans a0; have x05 := (B5.cell hgl).trans x0; have x15 := (B5.cell hgl).trans x1; have hz5 := B5.size; have B5' : Below (w.heap.size + 2) wr w5 := B5.mono (by omega); clear at5)
            | (refine step_appDf rfl (.tmp 41) (.tmp 57) rfl (mid) k (.slice (some ⟨gv, 0, none⟩) k cv) xs (by simp [Act.eval]) ((HP.out.next B5).row.alloc _) ⟨w5.heap.size, 0, none⟩ 1 1 [.string ds[k].name, .slice (some ⟨gu, 0, none⟩) ds[k].ps.length cu] (by simp [Act.eval]) rfl (two_newA _ _ _ _) (two_oneA _ rfl _ _ _) (by omega) (by omega) (by simp; omega) ?_; intro v2 w7 o7 g7 at7; have B7 : Below (mid) w5 w7 := Below.grown ((Below.refl _ w5).alloc (by omega) (.cells #[.string ds[k].name, .slice (some ⟨gu, 0, none⟩) ds[k].ps.length cu] 159)) g7 (by simp; omega) (fun b hb => (HP.out.row.lt b hb).1); have B7' : Below (w.heap.size + 2) wr w7 := B5'.trans (B7.mono (by omega))))
          all_goals
            have hP8 := (HP.out.next B5).snoc hlt rfl (show OwnD w5 (mid) (.slice (some ⟨gu, 0, none⟩) ds[k].ps.length cu) ds[k].ps from owns_mono (by have h := o5; rw [Nat.zero_add, List.nil_append] at h; exact h) (by omega)) (fun i hi hik => .inr (fun e => by have := (World.ownsRow.lt (HP.out.ents i hi hik) gu e.symm).2; omega)) (.inr (fun e => by have := (HP.out.row.lt gu e.symm).2; omega)) o7 g7 at7
            obtain ⟨gw, cw, hvw, _, _, _, _⟩ := rowForm o7 (by omega)
            subst hvw
            have HP8 : Hid (PartDf _ _ _ _ _ _ _ _) := hP8
            have HM8 : Hid (MkQ _ _ _ _ _) := HM.out.step B7' (Nat.le_refl _)
            have HC8 : Hid (OwnChH _ _ _ _ _) := (HCC.out.next B5).chg (chg_low B7) (.inl (Nat.le_refl _))
            have hm7 : mid ≤ w7.heap.size := Nat.le_trans (Nat.le_trans hmr B5.size) B7.size
            clear o7 g7 at7 hP8 o5 g5 B5 B5' B7' B7 c05 x05 x15
            go_wp2_with fail
            go_roundw
            case rel => exact ⟨k + 1, gw, cw, _, _, by omega, by go_num, rfl, HM8.out, hm7, HC8.out, HP8.out⟩
            case measure => simp [intOf]; omega
        · obtain rfl : k = ds.length := by omega
          have HT : Hid (OwnDf wr mid (.slice (some ⟨gv, 0, none⟩) ds.length cv) ds) := ⟨vs, xs, HP.out⟩
          obtain ⟨mb, ml, mc0, mc1, mc2, mz0, ⟨r0, mr0⟩, ⟨r1, mr1⟩, ⟨r2, mr2⟩, my0⟩ := M
          clear HP HM
          go_wp2_with fail
          refine bodyPost_ret (v := .agg #[.string nm, .slice (some ⟨g1, 0, none⟩) f.length c1, .slice (some ⟨gv, 0, none⟩) ds.length cv]) (by simp [results, Tryz.results48, go_sem, *]) rfl ⟨⟨_, _, mid, rfl, by omega, ?_, ?_, ?_⟩, ?_⟩
          · simp [World.setCell]; exact hmr
          · exact (chH_at (chH_at (chH_at (chH_at (chH_at HCC.out _ _ _ (by omega)) _ _ _ (by omega)) _ _ _ (by omega)) _ _ _ (by omega)) _ _ _ (by omega)).mono (by omega) (Nat.le_refl _)
          · exact (dfH_at (dfH_at (dfH_at (dfH_at (dfH_at HT.out.ownH _ _ _ (by omega)) _ _ _ (by omega)) _ _ _ (by omega)) _ _ _ (by omega)) _ _ _ (by omega)).mono (Nat.le_refl _) (by simp [World.setCell])
          · (repeat (first | (with_reducible exact Below.refl _ _) | (with_reducible assumption) | (with_reducible apply below_drewN) | (with_reducible apply Below.drew) | ((with_reducible refine Below.setCell ?_ ?_ _); rotate_left; focus (first | (simp; done) | (simp; omega) | omega)) | ((with_reducible refine Below.alloc ?_ ?_ _); rotate_left; focus (first | (simp; done) | (simp; omega) | omega))))

end Go.Proofs.YtkafanjfjplakaaGreatDoor.Co
