/- Chains copied by the program: what it answers. -/
import Derived.Test.YtkafanjfjplakaaGreatDoorColU
import Derived.Deep.RegionLaw
namespace Go.Proofs.YtkafanjfjplakaaGreatDoor.Co
open Go.RowKit Tr
set_option linter.unusedVariables false

theorem rowForm {w : World} {base n : Nat} {e : TypeId} {size : Nat} {v : Value} {xs : List Value} (h : w.ownsRow base e size v n xs) (hn : 0 < n) : ∃ g cap, v = .slice (some ⟨g, 0, none⟩) n cap ∧ base ≤ g ∧ g < w.heap.size ∧ n ≤ cap ∧ cap ≤ maxLen := by
  have hlt := h.lt
  obtain ⟨h1, h2⟩ := h
  rcases h2 with ⟨_, h3⟩ | ⟨g, cap, cur, hv, hg, hh, hc1, hc2, r⟩
  · omega
  · exact ⟨g, cap, hv, hg, (hlt g (by rw [hv]; rfl)).2, hc1, hc2⟩
theorem step_appVr {ops : Array Oper} {o : Oper} {a : Act} {w : World} {K : Act → World → Prop} {Q : Exit → Act → World → Prop} {E : Prop} (hgd : o.guard = none) (s x : Operand)
    (ho : o.op = .call { callee := .builtin .append, args := #[s, x], argTypes := #[92, 92] }) (base n : Nat) (v : Value) (xs : List Value)
    (hs : a.eval s = v) (hown : w.ownsRow base 96 5 v n xs) (ad : Addr) (m c : Nat) (news : List Value) (hx : a.eval x = .slice (some ad) m c) (hl : news.length = m * 5) (hnews : ∀ j u, news[j]? = some u → w.cell? (ad.add j) = some u) (h1 : ∀ u ∈ news, u.oneCell' = true)
    (hn : n ≤ 1000) (hm : m ≤ 1000) (hbase : base ≤ w.heap.size)
    (hK : ∀ v' w', w'.ownsRow base 96 5 v' (n + m) (xs ++ news) → w.grownBy w' v.ownBlock → (v'.ownBlock = v.ownBlock ∨ v'.ownBlock = some w.heap.size) → K (a.put o.dst v') w') : if Region.wanted o (yielded ops a.tmps) = true then Oper.wp Tryz.prog o a w K Q else E := by
  have hw : Region.wanted o (yielded ops a.tmps) = true := by simp [Region.wanted, hgd]
  rw [if_pos hw]
  obtain ⟨i0, hi, hz0, hz1, hz2⟩ := info_parts infoVr
  obtain ⟨v', w', hr, h2, h3, h4, h5⟩ := run_append_own_at (P := Tryz.prog) w base 92 o.type 96 i0 (.agg #[.int .i64 0, .bool false, .int .i64 0, .int .i64 0, .string em]) 5 48 Tryz.underlying92 hi hz0 hz1 hz2 rfl (by decide) v n xs hown ad m c news hl hnews h1 (by unfold maxLen; omega) (by omega) hbase
  unfold Oper.wp execOp
  simp only [ho, resolve, invoke, builtin, Sem.run_bind, Sem.run_pure, Result.andThen_ok, List.map_toArray, List.map_cons, List.map_nil, hs, hx, hr]
  exact hK v' w' h2 h3 h5
theorem five_new (w : World) (en : Ver) (T : TypeId) : ∀ j u, (rowVr en)[j]? = some u → (w.alloc (.cells #[.int .i64 en.tm, .bool en.gone, .int .i64 en.doc.k, .int .i64 en.doc.n, .string en.doc.t] T)).cell? ((⟨w.heap.size, 0, none⟩ : Addr).add j) = some u := by
  intro j u hj
  unfold rowVr at hj
  match j, hj with
  | 0, hj => simp at hj; subst hj; simp [Addr.add, go_sem]
  | 1, hj => simp at hj; subst hj; simp [Addr.add, go_sem]
  | 2, hj => simp at hj; subst hj; simp [Addr.add, go_sem]
  | 3, hj => simp at hj; subst hj; simp [Addr.add, go_sem]
  | 4, hj => simp at hj; subst hj; simp [Addr.add, go_sem]
  | j + 5, hj => simp at hj
theorem five_one (en : Ver) : ∀ u ∈ rowVr en, u.oneCell' = true := by
  intro u hu
  unfold rowVr at hu
  simp at hu
  rcases hu with rfl | rfl | rfl | rfl | rfl <;> rfl
/-- A struct of two cells that is being made in the third new block, the answer's cells in the second, the argument's box in the first. -/
structure Mk2 (w W : World) (x y : Value) (num v : Value) : Prop where
  bel : Below w.heap.size w W
  lt : w.heap.size + 2 < W.heap.size
  b0 : W.cell? ⟨w.heap.size, 0, none⟩ = some x
  b1 : W.cell? ⟨w.heap.size, 1, none⟩ = some y
  r0 : ∃ u, W.cell? ⟨w.heap.size + 1, 0, none⟩ = some u
  r1 : ∃ u, W.cell? ⟨w.heap.size + 1, 1, none⟩ = some u
  y0 : W.frozen? ⟨w.heap.size + 1, 0, none⟩ = false
  y1 : W.frozen? ⟨w.heap.size + 1, 1, none⟩ = false
  c0 : W.cell? ⟨w.heap.size + 2, 0, none⟩ = some num
  c1 : W.cell? ⟨w.heap.size + 2, 1, none⟩ = some v
  z0 : W.frozen? ⟨w.heap.size + 2, 0, none⟩ = false
  z1 : W.frozen? ⟨w.heap.size + 2, 1, none⟩ = false
theorem Mk2.start (w : World) (x y p q num v : Value) (T T2 T3 : TypeId) : Mk2 w (((w.alloc (.cells #[x, y] T)).alloc (.cells #[p, q] T2)).alloc (.cells #[num, v] T3)) x y num v :=
  ⟨(((Below.refl _ _).alloc (Nat.le_refl _) _).alloc (by simp) _).alloc (by simp; omega) _, by simp, by simp [go_sem], by simp [go_sem], ⟨p, by simp [go_sem]⟩, ⟨q, by simp [go_sem]⟩, by simp [go_sem], by simp [go_sem], by simp [go_sem], by simp [go_sem], by simp [go_sem], by simp [go_sem]⟩
theorem Mk2.step {w W W' : World} {x y num v : Value} {B : Nat} (h : Mk2 w W x y num v) (hb : Below B W W') (hB : w.heap.size + 3 ≤ B) : Mk2 w W' x y num v := by
  have hc : ∀ b o, b < B → W'.cell? ⟨b, o, none⟩ = W.cell? ⟨b, o, none⟩ := fun b o hh => hb.cell (p := ⟨b, o, none⟩) hh
  have hf : ∀ b o, b < B → W'.frozen? ⟨b, o, none⟩ = W.frozen? ⟨b, o, none⟩ := fun b o hh => hb.frozen (p := ⟨b, o, none⟩) hh
  refine ⟨h.bel.trans (hb.mono (by omega)), Nat.lt_of_lt_of_le h.lt hb.size, ?_, ?_, ?_, ?_, ?_, ?_, ?_, ?_, ?_, ?_⟩
  · rw [hc _ _ (by omega)]; exact h.b0
  · rw [hc _ _ (by omega)]; exact h.b1
  · rw [hc _ _ (by omega)]; exact h.r0
  · rw [hc _ _ (by omega)]; exact h.r1
  · rw [hf _ _ (by omega)]; exact h.y0
  · rw [hf _ _ (by omega)]; exact h.y1
  · rw [hc _ _ (by omega)]; exact h.c0
  · rw [hc _ _ (by omega)]; exact h.c1
  · rw [hf _ _ (by omega)]; exact h.z0
  · rw [hf _ _ (by omega)]; exact h.z1
theorem Mk2.next {w W W' : World} {x y num v : Value} (h : Mk2 w W x y num v) (hb : Below W.heap.size W W') : Mk2 w W' x y num v := h.step hb (by have := h.lt; omega)
theorem Mk2.set {w W : World} {x y num v : Value} (h : Mk2 w W x y num v) (v' : Value) : Mk2 w (W.setCell ⟨w.heap.size + 2, 1, none⟩ v') x y num v' := by
  obtain ⟨u0, h0⟩ := h.r0
  obtain ⟨u1, h1⟩ := h.r1
  have h2 := h.y0; have h3 := h.y1; have h4 := h.c0; have h5 := h.c1; have h6 := h.z0; have h7 := h.z1; have h8 := h.b0; have h9 := h.b1
  exact ⟨h.bel.setCell (by simp) _, by simpa [World.setCell] using h.lt, by simp [go_sem, *], by simp [go_sem, *], ⟨u0, by simp [go_sem, *]⟩, ⟨u1, by simp [go_sem, *]⟩, by simp [go_sem, *], by simp [go_sem, *], by simp [go_sem, *], by simp [go_sem, *], by simp [go_sem, *], by simp [go_sem, *]⟩

set_option maxRecDepth 4000 in
set_option maxHeartbeats 2000000 in
theorem ownChain_any (p : Chn) (a : Option Addr) (cap : Nat) (w : World) (hin : InVr w a p.vs) (hl : p.vs.length ≤ 1000) (hk : ∀ e ∈ p.vs, e.doc.t.size ≤ 1048576) :
    Calls Tryz.prog 109 #[.agg #[.int .i64 p.id, .slice a p.vs.length cap]] w fun e' w' => (∃ v, e' = .returned (.agg #[.int .i64 p.id, v]) ∧ OwnVr w' w.heap.size v p.vs) ∧ Below w.heap.size w w' := by
  obtain ⟨iE, hiE, hzE0, hzE1, hzE2⟩ := info_parts infoVr
  have HIN : Hid (InVr _ _ _) := hin
  have HK : Hid _ := hk
  have M0 := Mk2.start w (.int .i64 p.id) (.slice a p.vs.length cap) (.int .i64 0) (.slice none 0 0) (.int .i64 p.id) (.slice none 0 0) 94 94 94
  have hb0 := M0.bel
  clear hin hk
  go_enter Tryz.func109, Tryz.ntmps109
  go_wp2_with fail
  generalize ((w.alloc (.cells #[.int .i64 p.id, .slice a p.vs.length cap] 94)).alloc (.cells #[.int .i64 0, .slice none 0 0] 94)).alloc (.cells #[.int .i64 p.id, .slice none 0 0] 94) = W0 at M0 hb0 ⊢
  go_loopw [12] (fun i wr => ∃ (k : Nat) (pv : Option Addr) (cv : Nat), k ≤ p.vs.length ∧ i = .int .i64 k ∧ Mk2 w wr (.int .i64 p.id) (.slice a p.vs.length cap) (.int .i64 p.id) (.slice pv k cv) ∧ OwnVr wr (w.heap.size + 3) (.slice pv k cv) (p.vs.take k)) (fun i _ => p.vs.length - (intOf i).toNat)
  case atStart => exact ⟨0, none, 0, Nat.zero_le _, rfl, M0, ⟨rfl, .inl ⟨rfl, rfl⟩⟩⟩
  case round =>
    obtain ⟨k, pv, cv, hk, rfl, M, hO⟩ := hrel
    have hz := M.lt
    have HO : Hid (OwnVr _ _ _ _) := hO
    have HM : Hid (Mk2 _ _ _ _ _ _) := M
    clear hO M0 hb0
    by_cases hlt : k < p.vs.length
    · have hlt2 : (k : Int) < (p.vs.length : Int) := by omega
      rcases HIN.out.step M.bel with h0 | ⟨b2, off, rfl, hbl2, hc⟩
      · omega
      obtain ⟨z0, z1, z2, z3, z4⟩ := hc k hlt
      have hks := HK.out p.vs[k] (List.getElem_mem _)
      have htk : p.vs.take (k + 1) = p.vs.take k ++ [p.vs[k]] := List.take_succ_eq_append_getElem hlt
      obtain ⟨en, hen⟩ : ∃ en, en = p.vs[k] := ⟨_, rfl⟩
      rw [← hen] at z0 z1 z2 z3 z4 hks htk
      have HTK : Hid _ := htk
      have hbA : Below wr.heap.size wr (wr.alloc (.cells #[.int .i64 en.tm, .bool en.gone, .int .i64 en.doc.k, .int .i64 en.doc.n, .string en.doc.t] 96)) := (Below.refl _ _).alloc (Nat.le_refl _) _
      have MA := M.next hbA
      have HOA : Hid (OwnVr _ _ _ _) := owns_below HO.out hbA
      have HMA : Hid (Mk2 _ _ _ _ _ _) := MA
      have B5 := Box5.start wr en 96
      have e0' := B5.c0
      have e1' := B5.c1
      have e2' := B5.c2
      have e3' := B5.c3
      have e4' := B5.c4
      have el' := B5.lt
      have hzA := MA.lt
      have a1 := MA.c1
      clear hc hen htk hbA M MA B5
      go_wp2_with fail
      generalize wr.alloc (.cells #[.int .i64 en.tm, .bool en.gone, .int .i64 en.doc.k, .int .i64 en.doc.n, .string en.doc.t] 96) = WA at HOA HMA e0' e1' e2' e3' e4' el' hzA a1 ⊢
      have HC : Hid (∀ W : World, Calls _ _ _ W _) := fun W => ownVer_any en W hks
      have HOA' : Hid (WA.ownsRow (w.heap.size + 3) 96 5 (.slice pv k cv) k (flatVr (p.vs.take k))) := by have h := HOA.out; unfold OwnVr at h; rw [List.length_take, Nat.min_eq_left hk] at h; exact h
      clear HOA HO HM
      go_region_law (first
        | (refine step_appVr rfl (.tmp 17) (.tmp 20) rfl (w.heap.size + 3) k (.slice pv k cv) (flatVr (p.vs.take k)) (by simp [Act.eval]) (O6.out.alloc _) ⟨w6.heap.size, 0, none⟩ 1 1 (rowVr en) (by simp [Act.eval]) rfl (five_new _ _ _) (five_one _) (by omega) (by omega) (by simp; omega) ?_; intro v'' w7 o7 g7 at7; obtain ⟨gv, cw, hvv, _, _, _, _⟩ := rowForm o7 (by omega); subst hvv; have M7 : Mk2 w w7 (.int .i64 p.id) (.slice (some ⟨b2, off, none⟩) p.vs.length cap) (.int .i64 p.id) (.slice pv k cv) := M6.out.step (Below.grown ((Below.refl _ w6).alloc (by omega) (.cells #[.int .i64 en.tm, .bool en.gone, .int .i64 en.doc.k, .int .i64 en.doc.n, .string en.doc.t] 96)) g7 (by simp; omega) (fun b hb => (O6.out.lt b hb).1)) (Nat.le_refl _); have m1 := M7.c1; have m2 := M7.z1; have hz7 := M7.lt)
        | (go_simp; go_wp2_with (go_at_call 72; refine (HC.out _).mono ?_; rintro e w6 ⟨rfl, hb6⟩; have hB6 : Below WA.heap.size WA w6 := (show Below WA.heap.size WA _ by (repeat (first | (with_reducible exact Below.refl _ _) | (with_reducible assumption) | (with_reducible apply below_drewN) | (with_reducible apply Below.drew) | ((with_reducible refine Below.setCell ?_ ?_ _); rotate_left; focus (first | (simp; done) | (simp; omega) | omega)) | ((with_reducible refine Below.alloc ?_ ?_ _); rotate_left; focus (first | (simp; done) | (simp; omega) | omega))))).trans (hb6.mono (by simp)); have O6 : Hid (World.ownsRow _ _ _ _ _ _ _) := owns_below HOA'.out hB6; have M6 : Hid (Mk2 _ _ _ _ _ _) := HMA.out.next hB6; have n1 := M6.out.c1; have hz6 := M6.out.lt; clear hb6 hB6)))
      all_goals
        have HM8 : Hid (Mk2 _ _ _ _ _ _) := M7.set (.slice (some ⟨gv, 0, none⟩) (k + 1) cw)
        have hO8 : OwnVr (w7.setCell ⟨w.heap.size + 2, 1, none⟩ (.slice (some ⟨gv, 0, none⟩) (k + 1) cw)) (w.heap.size + 3) (.slice (some ⟨gv, 0, none⟩) (k + 1) cw) (p.vs.take (k + 1)) := by
          have h : OwnVr w7 (w.heap.size + 3) (.slice (some ⟨gv, 0, none⟩) (k + 1) cw) (p.vs.take (k + 1)) := by
            unfold OwnVr
            rw [HTK.out, flatVr_snoc, List.length_append, List.length_take, Nat.min_eq_left hk]
            exact o7
          exact World.ownsRow.kept h grown_set (.inr (fun e => by injection e with e; have := (World.ownsRow.lt h gv rfl).1; simp at e; omega))
        have HO8 : Hid (OwnVr _ _ _ _) := hO8
        clear o7 g7 at7 M7 hO8
        go_wp2_with fail
        go_roundw
        case rel => exact ⟨k + 1, _, _, by omega, by go_num, HM8.out, HO8.out⟩
        case measure => simp [intOf]; omega
    · obtain rfl : k = p.vs.length := by omega
      have hOf : OwnVr wr (w.heap.size + 3) (.slice pv p.vs.length cv) p.vs := by have := HO.out; rw [List.take_length] at this; exact this
      have HOf : Hid (OwnVr _ _ _ _) := owns_mono hOf (show w.heap.size ≤ w.heap.size + 3 by omega)
      obtain ⟨mb, ml, mb0, mb1, ⟨r0, mr0⟩, ⟨r1, mr1⟩, my0, my1, mc0, mc1, mz0, mz1⟩ := M
      have hne : (Value.slice pv p.vs.length cv).ownBlock = none ∨ (Value.slice pv p.vs.length cv).ownBlock ≠ some (w.heap.size + 1) := by
        cases hv : (Value.slice pv p.vs.length cv).ownBlock with
        | none => exact .inl rfl
        | some g => exact .inr (fun e => by injection e with e; have := (World.ownsRow.lt hOf g hv).1; omega)
      have HNE : Hid _ := hne
      clear hOf HO HM hne
      go_wp2_with fail
      refine bodyPost_ret (v := .agg #[.int .i64 p.id, .slice pv p.vs.length cv]) (by simp [results, Tryz.results109, go_sem, *]) rfl ⟨⟨_, rfl, ?_⟩, ?_⟩
      · exact World.ownsRow.kept (World.ownsRow.kept HOf.out grown_set HNE.out) grown_set HNE.out
      · (repeat (first | (with_reducible exact Below.refl _ _) | (with_reducible assumption) | (with_reducible apply below_drewN) | (with_reducible apply Below.drew) | ((with_reducible refine Below.setCell ?_ ?_ _); rotate_left; focus (first | (simp; done) | (simp; omega) | omega)) | ((with_reducible refine Below.alloc ?_ ?_ _); rotate_left; focus (first | (simp; done) | (simp; omega) | omega))))

end Go.Proofs.YtkafanjfjplakaaGreatDoor.Co
