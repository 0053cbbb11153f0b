/- Definitions copied by the program: what it answers. -/
import Derived.Test.YtkafanjfjplakaaGreatDoorColQ
import Derived.Test.YtkafanjfjplakaaGreatDoorColD
namespace Go.Proofs.YtkafanjfjplakaaGreatDoor.Co
open Go.RowKit Tr
set_option linter.unusedVariables false

theorem step_appD {ops : Array Oper} {o : Oper} {a : Act} {w : World} {K : Act → World → Prop} {Q : Exit → Act → World → Prop} {E : Prop} (hgd : o.guard = none) (s x : Operand)
    (ho : o.op = .call { callee := .builtin .append, args := #[s, x], argTypes := #[157, 157] }) (base n : Nat) (v : Value) (xs : List Value)
    (hs : a.eval s = v) (hown : w.ownsRow base 200 2 v n xs) (ad : Addr) (m c : Nat) (news : List Value) (hx : a.eval x = .slice (some ad) m c) (hl : news.length = m * 2) (hnews : ∀ j u, news[j]? = some u → w.cell? (ad.add j) = some u) (h1 : ∀ u ∈ news, u.oneCell' = true)
    (hn : n ≤ 1000) (hm : m ≤ 1000) (hbase : base ≤ w.heap.size)
    (hK : ∀ v' w', w'.ownsRow base 200 2 v' (n + m) (xs ++ news) → w.grownBy w' v.ownBlock → (v'.ownBlock = v.ownBlock ∨ v'.ownBlock = some w.heap.size) → K (a.put o.dst v') w') : if Region.wanted o (yielded ops a.tmps) = true then Oper.wp Tryz.prog o a w K Q else E := by
  have hw : Region.wanted o (yielded ops a.tmps) = true := by simp [Region.wanted, hgd]
  rw [if_pos hw]
  obtain ⟨i0, hi, hz0, hz1, hz2⟩ := info_parts infoD
  obtain ⟨v', w', hr, h2, h3, h4, h5⟩ := run_append_own_at (P := Tryz.prog) w base 157 o.type 200 i0 (.agg #[.string em, .bool false]) 2 24 Tryz.underlying157 hi hz0 hz1 hz2 rfl (by decide) v n xs hown ad m c news hl hnews h1 (by unfold maxLen; omega) (by omega) hbase
  unfold Oper.wp execOp
  simp only [ho, resolve, invoke, builtin, Sem.run_bind, Sem.run_pure, Result.andThen_ok, List.map_toArray, List.map_cons, List.map_nil, hs, hx, hr]
  exact hK v' w' h2 h3 h5
theorem two_newD (w : World) (en : Prt) (T : TypeId) : ∀ j u, (rowD en)[j]? = some u → (w.alloc (.cells #[.string en.path, .bool en.desc] T)).cell? ((⟨w.heap.size, 0, none⟩ : Addr).add j) = some u := by
  intro j u hj
  unfold rowD at hj
  match j, hj with
  | 0, hj => simp at hj; subst hj; simp [Addr.add, go_sem]
  | 1, hj => simp at hj; subst hj; simp [Addr.add, go_sem]
  | j + 2, hj => simp at hj
theorem two_oneD (en : Prt) : ∀ u ∈ rowD en, u.oneCell' = true := by
  intro u hu
  unfold rowD at hu
  simp at hu
  rcases hu with rfl | rfl <;> rfl
/-- The argument's box of two cells in the first new block, the answer's two cells in the second. -/
structure MkR (w W : World) (x y : Value) : Prop where
  bel : Below w.heap.size w W
  lt : w.heap.size + 1 < W.heap.size
  b0 : W.cell? ⟨w.heap.size, 0, none⟩ = some x
  b1 : W.cell? ⟨w.heap.size, 1, none⟩ = some y
  r0 : ∃ u, W.cell? ⟨w.heap.size + 1, 0, none⟩ = some u
  r1 : ∃ u, W.cell? ⟨w.heap.size + 1, 1, none⟩ = some u
  y0 : W.frozen? ⟨w.heap.size + 1, 0, none⟩ = false
  y1 : W.frozen? ⟨w.heap.size + 1, 1, none⟩ = false
theorem MkR.start (w : World) (x y p q : Value) (T T2 : TypeId) : MkR w ((w.alloc (.cells #[x, y] T)).alloc (.cells #[p, q] T2)) x y :=
  ⟨((Below.refl _ _).alloc (Nat.le_refl _) _).alloc (by simp) _, by simp, by simp [go_sem], by simp [go_sem], ⟨p, by simp [go_sem]⟩, ⟨q, by simp [go_sem]⟩, by simp [go_sem], by simp [go_sem]⟩
theorem MkR.step {w W W' : World} {x y : Value} {B : Nat} (h : MkR w W x y) (hb : Below B W W') (hB : w.heap.size + 2 ≤ B) : MkR w W' x y := by
  have hc : ∀ b o, b < B → W'.cell? ⟨b, o, none⟩ = W.cell? ⟨b, o, none⟩ := fun b o hh => hb.cell (p := ⟨b, o, none⟩) hh
  have hf : ∀ b o, b < B → W'.frozen? ⟨b, o, none⟩ = W.frozen? ⟨b, o, none⟩ := fun b o hh => hb.frozen (p := ⟨b, o, none⟩) hh
  refine ⟨h.bel.trans (hb.mono (by omega)), Nat.lt_of_lt_of_le h.lt hb.size, ?_, ?_, ?_, ?_, ?_, ?_⟩
  · rw [hc _ _ (by omega)]; exact h.b0
  · rw [hc _ _ (by omega)]; exact h.b1
  · rw [hc _ _ (by omega)]; exact h.r0
  · rw [hc _ _ (by omega)]; exact h.r1
  · rw [hf _ _ (by omega)]; exact h.y0
  · rw [hf _ _ (by omega)]; exact h.y1
theorem MkR.next {w W W' : World} {x y : Value} (h : MkR w W x y) (hb : Below W.heap.size W W') : MkR w W' x y := h.step hb (by have := h.lt; omega)
/-- .. and a struct of two cells that is being made in a later block. -/
structure Mk4 (w W : World) (g : Nat) (x y num v : Value) : Prop where
  bel : Below w.heap.size w W
  lo : w.heap.size + 1 < g
  lt : g < W.heap.size
  r0 : ∃ u, W.cell? ⟨w.heap.size + 1, 0, none⟩ = some u
  r1 : ∃ u, W.cell? ⟨w.heap.size + 1, 1, none⟩ = some u
  y0 : W.frozen? ⟨w.heap.size + 1, 0, none⟩ = false
  y1 : W.frozen? ⟨w.heap.size + 1, 1, none⟩ = false
  c0 : W.cell? ⟨g, 0, none⟩ = some num
  c1 : W.cell? ⟨g, 1, none⟩ = some v
  z0 : W.frozen? ⟨g, 0, none⟩ = false
  z1 : W.frozen? ⟨g, 1, none⟩ = false
theorem Mk4.start {w W : World} {x y : Value} (h : MkR w W x y) (num v : Value) (T : TypeId) : Mk4 w (W.alloc (.cells #[num, v] T)) W.heap.size x y num v := by
  have h1 := h.next (W' := W.alloc (.cells #[num, v] T)) ((Below.refl _ _).alloc (Nat.le_refl _) _)
  exact ⟨h1.bel, h.lt, by simp, h1.r0, h1.r1, h1.y0, h1.y1, by simp [go_sem], by simp [go_sem], by simp [go_sem], by simp [go_sem]⟩
theorem Mk4.step {w W W' : World} {g : Nat} {x y num v : Value} {B : Nat} (h : Mk4 w W g x y num v) (hb : Below B W W') (hB : g + 1 ≤ B) : Mk4 w W' g x y num v := by
  have hg := h.lo
  have hc : ∀ b o, b < B → W'.cell? ⟨b, o, none⟩ = W.cell? ⟨b, o, none⟩ := fun b o hh => hb.cell (p := ⟨b, o, none⟩) hh
  have hf : ∀ b o, b < B → W'.frozen? ⟨b, o, none⟩ = W.frozen? ⟨b, o, none⟩ := fun b o hh => hb.frozen (p := ⟨b, o, none⟩) hh
  refine ⟨h.bel.trans (hb.mono (by omega)), hg, Nat.lt_of_lt_of_le h.lt hb.size, ?_, ?_, ?_, ?_, ?_, ?_, ?_, ?_⟩
  · rw [hc _ _ (by omega)]; exact h.r0
  · rw [hc _ _ (by omega)]; exact h.r1
  · rw [hf _ _ (by omega)]; exact h.y0
  · rw [hf _ _ (by omega)]; exact h.y1
  · rw [hc _ _ (by omega)]; exact h.c0
  · rw [hc _ _ (by omega)]; exact h.c1
  · rw [hf _ _ (by omega)]; exact h.z0
  · rw [hf _ _ (by omega)]; exact h.z1
theorem Mk4.next {w W W' : World} {g : Nat} {x y num v : Value} (h : Mk4 w W g x y num v) (hb : Below W.heap.size W W') : Mk4 w W' g x y num v := h.step hb h.lt
theorem Mk4.set {w W : World} {g : Nat} {x y num v : Value} (h : Mk4 w W g x y num v) (v' : Value) : Mk4 w (W.setCell ⟨g, 1, none⟩ v') g x y num v' := by
  obtain ⟨u0, h0⟩ := h.r0
  obtain ⟨u1, h1⟩ := h.r1
  have hlo := h.lo
  have hne : ¬ w.heap.size + 1 = g := by omega
  have hne2 : ¬ g = w.heap.size + 1 := by omega
  have h2 := h.y0; have h3 := h.y1; have h4 := h.c0; have h5 := h.c1; have h6 := h.z0; have h7 := h.z1
  exact ⟨h.bel.setCell (by simp; omega) _, hlo, by simpa [World.setCell] using h.lt, ⟨u0, by simp [go_sem, *]⟩, ⟨u1, by simp [go_sem, *]⟩, by simp [go_sem, *], by simp [go_sem, *], by simp [go_sem, *], by simp [go_sem, *], by simp [go_sem, *], by simp [go_sem, *]⟩

set_option maxRecDepth 4000 in
set_option maxHeartbeats 2000000 in
theorem ownDef_any (p : Dfn) (a : Option Addr) (cap : Nat) (w : World) (hin : InD w a p.ps) (hn : p.name.size ≤ 1048576) (hl : p.ps.length ≤ 1000) (hk : ∀ e ∈ p.ps, e.path.size ≤ 1048576) :
    Calls Tryz.prog 110 #[.agg #[.string p.name, .slice a p.ps.length cap]] w fun e' w' => (∃ v, e' = .returned (.agg #[.string p.name, v]) ∧ OwnD w' w.heap.size v p.ps) ∧ Below w.heap.size w w' := by
  obtain ⟨iE, hiE, hzE0, hzE1, hzE2⟩ := info_parts infoD
  have HIN : Hid (InD _ _ _) := hin
  have HK : Hid _ := hk
  have HN : Hid (∀ W : World, Calls _ _ _ W _) := fun W => strClone_any p.name W hn
  have R0 : Hid (MkR _ _ _ _) := MkR.start w (.string p.name) (.slice a p.ps.length cap) (.string em) (.slice none 0 0) 159 159
  clear hin hk hn
  go_enter Tryz.func110, Tryz.ntmps110
  go_wp2_with (go_at_call 108; refine (HN.out _).mono ?_; rintro e w1 ⟨rfl, hb1⟩; have R1 := R0.out.next hb1; have n0 := R1.b0; have n1 := R1.b1; have hz1 := R1.lt; have hz1' : w.heap.size < w1.heap.size := Nat.lt_of_succ_lt hz1; clear hb1)
  have M0 := Mk4.start R1 (.string p.name) (.slice none 0 0) 159
  clear R0 HN n0 n1
  generalize w1.alloc (.cells #[.string p.name, .slice none 0 0] 159) = W0 at M0 ⊢
  obtain ⟨G, hG⟩ : ∃ G, G = w1.heap.size := ⟨_, rfl⟩
  rw [← hG] at M0 ⊢
  have hlo := M0.lo
  clear hG hz1 hz1' R1
  go_loopw [13] (fun i wr => ∃ (k : Nat) (pv : Option Addr) (cv : Nat), k ≤ p.ps.length ∧ i = .int .i64 k ∧ Mk4 w wr G (.string p.name) (.slice a p.ps.length cap) (.string p.name) (.slice pv k cv) ∧ OwnD wr (G + 1) (.slice pv k cv) (p.ps.take k)) (fun i _ => p.ps.length - (intOf i).toNat)
  case atStart => exact ⟨0, none, 0, Nat.zero_le _, rfl, M0, ⟨rfl, .inl ⟨rfl, rfl⟩⟩⟩
  case round =>
    obtain ⟨k, pv, cv, hk, rfl, M, hO⟩ := hrel
    have hz := M.lt
    have HO : Hid (OwnD _ _ _ _) := hO
    have HM : Hid (Mk4 _ _ _ _ _ _ _) := M
    clear hO M0
    by_cases hlt : k < p.ps.length
    · have hlt2 : (k : Int) < (p.ps.length : Int) := by omega
      rcases HIN.out.step M.bel with h0 | ⟨b2, off, rfl, hbl2, hc⟩
      · omega
      obtain ⟨z0, z1⟩ := hc k hlt
      have hks := HK.out p.ps[k] (List.getElem_mem _)
      have htk : p.ps.take (k + 1) = p.ps.take k ++ [p.ps[k]] := List.take_succ_eq_append_getElem hlt
      obtain ⟨en, hen⟩ : ∃ en, en = p.ps[k] := ⟨_, rfl⟩
      rw [← hen] at z0 z1 hks htk
      have HTK : Hid _ := htk
      have hbA : Below wr.heap.size wr (wr.alloc (.cells #[.string en.path, .bool en.desc] 200)) := (Below.refl _ _).alloc (Nat.le_refl _) _
      have MA := M.next hbA
      have HOA : Hid (OwnD _ _ _ _) := owns_below HO.out hbA
      have HMA : Hid (Mk4 _ _ _ _ _ _ _) := MA
      have B2 := Box2.start wr (.string en.path) (.bool en.desc) 200
      have e0' := B2.c0
      have e1' := B2.c1
      have el' := B2.lt
      have hzA := MA.lt
      have a1 := MA.c1
      clear hc hen htk hbA M MA B2
      go_wp2_with fail
      generalize wr.alloc (.cells #[.string en.path, .bool en.desc] 200) = WA at HOA HMA e0' e1' el' hzA a1 ⊢
      have HC : Hid (∀ W : World, Calls _ _ _ W _) := fun W => strClone_any en.path W hks
      have HOA' : Hid (WA.ownsRow (G + 1) 200 2 (.slice pv k cv) k (flatD (p.ps.take k))) := by have h := HOA.out; unfold OwnD at h; rw [List.length_take, Nat.min_eq_left hk] at h; exact h
      clear HOA HO HM
      go_region_law (first
        | (refine step_appD rfl (.tmp 18) (.tmp 25) rfl (G + 1) k (.slice pv k cv) (flatD (p.ps.take k)) (by simp [Act.eval]) (O6.out.alloc _) ⟨w6.heap.size, 0, none⟩ 1 1 (rowD en) (by simp [Act.eval]) rfl (two_newD _ _ _) (two_oneD _) (by omega) (by omega) (by simp; omega) ?_; intro v'' w7 o7 g7 at7; obtain ⟨gv, cw, hvv, _, _, _, _⟩ := rowForm o7 (by omega); subst hvv; have M7 : Mk4 w w7 G (.string p.name) (.slice (some ⟨b2, off, none⟩) p.ps.length cap) (.string p.name) (.slice pv k cv) := M6.out.step (Below.grown ((Below.refl _ w6).alloc (by omega) (.cells #[.string en.path, .bool en.desc] 200)) g7 (by simp; omega) (fun b hb => (O6.out.lt b hb).1)) (Nat.le_refl _); have m1 := M7.c1; have m2 := M7.z1; have hz7 := M7.lt)
        | (go_simp; go_wp2_with (go_at_call 108; refine (HC.out _).mono ?_; rintro e w6 ⟨rfl, hb6⟩; have hB6 : Below WA.heap.size WA w6 := (show Below WA.heap.size WA _ by (repeat (first | (with_reducible exact Below.refl _ _) | (with_reducible assumption) | (with_reducible apply below_drewN) | (with_reducible apply Below.drew) | ((with_reducible refine Below.setCell ?_ ?_ _); rotate_left; focus (first | (simp; done) | (simp; omega) | omega)) | ((with_reducible refine Below.alloc ?_ ?_ _); rotate_left; focus (first | (simp; done) | (simp; omega) | omega))))).trans (hb6.mono (by simp)); have O6 : Hid (World.ownsRow _ _ _ _ _ _ _) := owns_below HOA'.out hB6; have M6 : Hid (Mk4 _ _ _ _ _ _ _) := HMA.out.next hB6; have n1 := M6.out.c1; have hz6 := M6.out.lt; have f1 := (hB6.cell el').trans e1'; have fl := Nat.lt_of_lt_of_le el' hB6.size; clear hb6 hB6)))
      all_goals
        have HM8 : Hid (Mk4 _ _ _ _ _ _ _) := M7.set (.slice (some ⟨gv, 0, none⟩) (k + 1) cw)
        have hO8 : OwnD (w7.setCell ⟨G, 1, none⟩ (.slice (some ⟨gv, 0, none⟩) (k + 1) cw)) (G + 1) (.slice (some ⟨gv, 0, none⟩) (k + 1) cw) (p.ps.take (k + 1)) := by
          have h : OwnD w7 (G + 1) (.slice (some ⟨gv, 0, none⟩) (k + 1) cw) (p.ps.take (k + 1)) := by
            unfold OwnD
            rw [HTK.out, flatD_snoc, List.length_append, List.length_take, Nat.min_eq_left hk]
            exact o7
          exact World.ownsRow.kept h grown_set (.inr (fun e => by injection e with e; have := (World.ownsRow.lt h gv rfl).1; simp at e; omega))
        have HO8 : Hid (OwnD _ _ _ _) := hO8
        clear o7 g7 at7 M7 hO8
        go_wp2_with fail
        go_roundw
        case rel => exact ⟨k + 1, _, _, by omega, by go_num, HM8.out, HO8.out⟩
        case measure => simp [intOf]; omega
    · obtain rfl : k = p.ps.length := by omega
      have hOf : OwnD wr (G + 1) (.slice pv p.ps.length cv) p.ps := by have := HO.out; rw [List.take_length] at this; exact this
      have HOf : Hid (OwnD _ _ _ _) := owns_mono hOf (show w.heap.size ≤ G + 1 by omega)
      obtain ⟨mb, mlo, ml, ⟨r0, mr0⟩, ⟨r1, mr1⟩, my0, my1, mc0, mc1, mz0, mz1⟩ := M
      have hne : (Value.slice pv p.ps.length cv).ownBlock = none ∨ (Value.slice pv p.ps.length cv).ownBlock ≠ some (w.heap.size + 1) := by
        cases hv : (Value.slice pv p.ps.length cv).ownBlock with
        | none => exact .inl rfl
        | some g => exact .inr (fun e => by injection e with e; have := (World.ownsRow.lt hOf g hv).1; omega)
      have HNE : Hid _ := hne
      clear hOf HO HM hne
      go_wp2_with fail
      refine bodyPost_ret (v := .agg #[.string p.name, .slice pv p.ps.length cv]) (by simp [results, Tryz.results110, go_sem, *]) rfl ⟨⟨_, rfl, ?_⟩, ?_⟩
      · exact World.ownsRow.kept (World.ownsRow.kept HOf.out grown_set HNE.out) grown_set HNE.out
      · (repeat (first | (with_reducible exact Below.refl _ _) | (with_reducible assumption) | (with_reducible apply below_drewN) | (with_reducible apply Below.drew) | ((with_reducible refine Below.setCell ?_ ?_ _); rotate_left; focus (first | (simp; done) | (simp; omega) | omega)) | ((with_reducible refine Below.alloc ?_ ?_ _); rotate_left; focus (first | (simp; done) | (simp; omega) | omega))))

end Go.Proofs.YtkafanjfjplakaaGreatDoor.Co
