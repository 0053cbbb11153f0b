/- Pages and trees copied by the program: what it answers. -/
import Derived.Test.YtnmpfooegnmknaaPutA
import Derived.Test.YtnmpfooegnmknaaTrC
import Derived.Deep.RegionLaw
namespace Go.Proofs.Ytnmpfooegnmknaa.Tr
open Go.RowKit
set_option linter.unusedVariables false

theorem step_appE {ops : Array Oper} {o : Oper} {a : Act} {w : World} {K : Act → World → Prop} {Q : Exit → Act → World → Prop} {E : Prop} (hgd : o.guard = none) (s x : Operand)
    (ho : o.op = .call { callee := .builtin .append, args := #[s, x], argTypes := #[47, 47] }) (base n : Nat) (v : Value) (xs : List Value)
    (hs : a.eval s = v) (hown : w.ownsRow base 40 2 v n xs) (ad : Addr) (m c : Nat) (news : List Value) (hx : a.eval x = .slice (some ad) m c) (hl : news.length = m * 2) (hnews : ∀ j u, news[j]? = some u → w.cell? (ad.add j) = some u) (h1 : ∀ u ∈ news, u.oneCell' = true)
    (hn : n ≤ 1000) (hm : m ≤ 1000) (hbase : base ≤ w.heap.size)
    (hK : ∀ v' w', w'.ownsRow base 40 2 v' (n + m) (xs ++ news) → w.grownBy w' v.ownBlock → K (a.put o.dst v') w') : if Region.wanted o (yielded ops a.tmps) = true then Oper.wp Try.prog o a w K Q else E := by
  have hw : Region.wanted o (yielded ops a.tmps) = true := by simp [Region.wanted, hgd]
  rw [if_pos hw]
  obtain ⟨i0, hi, hz0, hz1, hz2⟩ := info_parts infoE
  obtain ⟨v', w', hr, h2, h3, h4, h5⟩ := run_append_own_at (P := Try.prog) w base 47 o.type 40 i0 (.agg #[.string em, .int .i64 0]) 2 24 Try.underlying47 hi hz0 hz1 hz2 rfl (by decide) v n xs hown ad m c news hl hnews h1 (by unfold maxLen; omega) (by omega) hbase
  unfold Oper.wp execOp
  simp only [ho, resolve, invoke, builtin, Sem.run_bind, Sem.run_pure, Result.andThen_ok, List.map_toArray, List.map_cons, List.map_nil, hs, hx, hr]
  exact hK v' w' h2 h3
theorem two_new (w : World) (k : ByteArray) (i : Int) (T : TypeId) : ∀ j u, [Value.string k, .int .i64 i][j]? = some u → (w.alloc (.cells #[.string k, .int .i64 i] T)).cell? ((⟨w.heap.size, 0, none⟩ : Addr).add j) = some u := by
  intro j u hj
  match j, hj with
  | 0, hj => simp at hj; subst hj; simp [Addr.add, go_sem]
  | 1, hj => simp at hj; subst hj; simp [Addr.add, go_sem]
  | j + 2, hj => simp at hj
theorem two_one (k : ByteArray) (i : Int) : ∀ u ∈ [Value.string k, .int .i64 i], u.oneCell' = true := by
  intro u hu
  simp at hu
  rcases hu with rfl | rfl <;> rfl
/-- A page that is being made in the second new block, the answer's cells in the first; its entries are in a row of their own. -/
structure Mk (w W : World) (num : Int) (v : Value) : Prop where
  bel : Below w.heap.size w W
  lt : w.heap.size + 1 < W.heap.size
  r0 : ∃ u, W.cell? ⟨w.heap.size, 0, none⟩ = some u
  r1 : ∃ u, W.cell? ⟨w.heap.size, 1, none⟩ = some u
  y0 : W.frozen? ⟨w.heap.size, 0, none⟩ = false
  y1 : W.frozen? ⟨w.heap.size, 1, none⟩ = false
  c0 : W.cell? ⟨w.heap.size + 1, 0, none⟩ = some (.int .i64 num)
  c1 : W.cell? ⟨w.heap.size + 1, 1, none⟩ = some v
  z0 : W.frozen? ⟨w.heap.size + 1, 0, none⟩ = false
  z1 : W.frozen? ⟨w.heap.size + 1, 1, none⟩ = false
theorem Mk.start (w : World) (num : Int) (T : TypeId) : Mk w ((w.alloc (.cells #[.int .i64 0, .slice none 0 0] T)).alloc (.cells #[.int .i64 num, .slice none 0 0] T)) num (.slice none 0 0) :=
  ⟨((Below.refl _ _).alloc (Nat.le_refl _) _).alloc (by simp) _, by simp, ⟨.int .i64 0, by simp [go_sem]⟩, ⟨.slice none 0 0, by simp [go_sem]⟩, by simp [go_sem], by simp [go_sem], by simp [go_sem], by simp [go_sem], by simp [go_sem], by simp [go_sem]⟩
theorem Mk.step {w W W' : World} {num : Int} {v : Value} {B : Nat} (h : Mk w W num v) (hb : Below B W W') (hB : w.heap.size + 2 ≤ B) : Mk w W' num v := by
  have hc : ∀ b o, b < B → W'.cell? ⟨b, o, none⟩ = W.cell? ⟨b, o, none⟩ := fun b o hh => hb.cell (p := ⟨b, o, none⟩) hh
  have hf : ∀ b o, b < B → W'.frozen? ⟨b, o, none⟩ = W.frozen? ⟨b, o, none⟩ := fun b o hh => hb.frozen (p := ⟨b, o, none⟩) hh
  refine ⟨h.bel.trans (hb.mono (by omega)), Nat.lt_of_lt_of_le h.lt hb.size, ?_, ?_, ?_, ?_, ?_, ?_, ?_, ?_⟩
  · rw [hc _ _ (by omega)]; exact h.r0
  · rw [hc _ _ (by omega)]; exact h.r1
  · rw [hf _ _ (by omega)]; exact h.y0
  · rw [hf _ _ (by omega)]; exact h.y1
  · rw [hc _ _ (by omega)]; exact h.c0
  · rw [hc _ _ (by omega)]; exact h.c1
  · rw [hf _ _ (by omega)]; exact h.z0
  · rw [hf _ _ (by omega)]; exact h.z1
theorem Mk.next {w W W' : World} {num : Int} {v : Value} (h : Mk w W num v) (hb : Below W.heap.size W W') : Mk w W' num v := h.step hb (by have := h.lt; omega)
theorem Mk.set {w W : World} {num : Int} {v : Value} (h : Mk w W num v) (v' : Value) : Mk w (W.setCell ⟨w.heap.size + 1, 1, none⟩ v') num v' := by
  obtain ⟨u0, h0⟩ := h.r0
  obtain ⟨u1, h1⟩ := h.r1
  have h2 := h.y0; have h3 := h.y1; have h4 := h.c0; have h5 := h.c1; have h6 := h.z0; have h7 := h.z1
  exact ⟨h.bel.setCell (by simp) _, by simpa [World.setCell] using h.lt, ⟨u0, by simp [go_sem, *]⟩, ⟨u1, by simp [go_sem, *]⟩, by simp [go_sem, *], by simp [go_sem, *], by simp [go_sem, *], by simp [go_sem, *], by simp [go_sem, *], by simp [go_sem, *]⟩

set_option maxRecDepth 4000 in
set_option maxHeartbeats 2000000 in
theorem ownPage_any (b o : Nat) (p : Pg) (w : World) (hr : PageAtA w b o p) (hl : p.es.length ≤ 1000) (hk : ∀ e ∈ p.es, e.key.size ≤ 1048576) :
    Calls Try.prog 98 #[.pointer (some ⟨b, o, none⟩)] w fun e' w' => (∃ v, e' = .returned (.agg #[.int .i64 p.num, v]) ∧ OwnE w' w.heap.size v p.es) ∧ Below w.heap.size w w' := by
  obtain ⟨iE, hiE, hzE0, hzE1, hzE2⟩ := info_parts infoE
  obtain ⟨hbl, c0, q, c, c1, hin⟩ := hr
  have HIN : Hid (InE _ _ _) := hin
  have HK : Hid _ := hk
  have M0 := Mk.start w p.num 86
  have hb0 := M0.bel
  have c1' := (hb0.cell hbl).trans c1
  clear hin hk
  go_enter Try.func98, Try.ntmps98
  go_wp2_with fail
  generalize (w.alloc (.cells #[.int .i64 0, .slice none 0 0] 86)).alloc (.cells #[.int .i64 p.num, .slice none 0 0] 86) = W0 at M0 hb0 c1' ⊢
  go_loopw [16] (fun i wr => ∃ (k : Nat) (pv : Option Addr) (cv : Nat), k ≤ p.es.length ∧ i = .int .i64 k ∧ Mk w wr p.num (.slice pv k cv) ∧ OwnE wr (w.heap.size + 2) (.slice pv k cv) (p.es.take k)) (fun i _ => p.es.length - (intOf i).toNat)
  case atStart => exact ⟨0, none, 0, Nat.zero_le _, rfl, M0, ⟨rfl, .inl ⟨rfl, rfl⟩⟩⟩
  case round =>
    obtain ⟨k, pv, cv, hk, rfl, M, hO⟩ := hrel
    have hz := M.lt
    have HO : Hid (OwnE _ _ _ _) := hO
    have HM : Hid (Mk _ _ _ _) := M
    clear hO M0 hb0 c1'
    by_cases hlt : k < p.es.length
    · have hlt2 : (k : Int) < (p.es.length : Int) := by omega
      rcases HIN.out.step M.bel with h0 | ⟨b2, off, rfl, hbl2, hc⟩
      · omega
      obtain ⟨z0, z1⟩ := hc k hlt
      have hks := HK.out p.es[k] (List.getElem_mem _)
      have htk : p.es.take (k + 1) = p.es.take k ++ [p.es[k]] := List.take_succ_eq_append_getElem hlt
      obtain ⟨en, hen⟩ : ∃ en, en = p.es[k] := ⟨_, rfl⟩
      rw [← hen] at z0 z1 hks htk
      have HTK : Hid _ := htk
      have hbA : Below wr.heap.size wr (wr.alloc (.cells #[.string en.key, .int .i64 en.id] 40)) := (Below.refl _ _).alloc (Nat.le_refl _) _
      have MA := M.next hbA
      have HOA : Hid (OwnE _ _ _ _) := owns_below HO.out hbA
      have HMA : Hid (Mk _ _ _ _) := MA
      have e0' : (wr.alloc (.cells #[.string en.key, .int .i64 en.id] 40)).cell? ⟨wr.heap.size, 0, none⟩ = some (.string en.key) := by simp [go_sem]
      have e1' : (wr.alloc (.cells #[.string en.key, .int .i64 en.id] 40)).cell? ⟨wr.heap.size, 1, none⟩ = some (.int .i64 en.id) := by simp [go_sem]
      have el' : wr.heap.size < (wr.alloc (.cells #[.string en.key, .int .i64 en.id] 40)).heap.size := by simp
      have hzA := MA.lt
      have a1 := MA.c1
      clear hc hen htk hbA M MA
      go_wp2_with fail
      generalize wr.alloc (.cells #[.string en.key, .int .i64 en.id] 40) = WA at HOA HMA e0' e1' el' hzA a1 ⊢
      have HC : Hid (∀ W : World, Calls _ _ _ W _) := fun W => ownEntry_any en.key en.id W hks
      have HOA' : Hid (WA.ownsRow (w.heap.size + 2) 40 2 (.slice pv k cv) k (flatE (p.es.take k))) := by have h := HOA.out; unfold OwnE at h; rw [List.length_take, Nat.min_eq_left hk] at h; exact h
      clear HOA HO HM
      go_region_law (first
        | (refine step_appE rfl (.tmp 21) (.tmp 24) rfl (w.heap.size + 2) k (.slice pv k cv) (flatE (p.es.take k)) (by simp [Act.eval]) (O6.out.alloc _) ⟨w6.heap.size, 0, none⟩ 1 1 [.string en.key, .int .i64 en.id] (by simp [Act.eval]) rfl (two_new _ _ _ _) (two_one _ _) (by omega) (by omega) (by simp; omega) ?_; intro v'' w7 o7 g7; obtain ⟨gv, cw, hvv, _, _, _, _⟩ := owns_form o7 (by omega); subst hvv; have M7 : Mk w w7 p.num (.slice pv k cv) := M6.out.step (Below.grown ((Below.refl _ w6).alloc (by omega) (.cells #[.string en.key, .int .i64 en.id] 40)) g7 (by simp; omega) (fun b hb => (O6.out.lt b hb).1)) (Nat.le_refl _); have m1 := M7.c1; have m2 := M7.z1; have hz7 := M7.lt)
        | (go_simp; go_wp2_with (go_at_call 57; refine (HC.out _).mono ?_; rintro e w6 ⟨rfl, hb6⟩; have hB6 : Below WA.heap.size WA w6 := (show Below WA.heap.size WA _ by (repeat (first | (with_reducible exact Below.refl _ _) | (with_reducible assumption) | (with_reducible apply below_drewN) | (with_reducible apply Below.drew) | ((with_reducible refine Below.setCell ?_ ?_ _); rotate_left; focus (first | (simp; done) | (simp; omega) | omega)) | ((with_reducible refine Below.alloc ?_ ?_ _); rotate_left; focus (first | (simp; done) | (simp; omega) | omega))))).trans (hb6.mono (by simp)); have O6 : Hid (World.ownsRow _ _ _ _ _ _ _) := owns_below HOA'.out hB6; have M6 : Hid (Mk _ _ _ _) := HMA.out.next hB6; have n1 := M6.out.c1; have hz6 := M6.out.lt; clear hb6 hB6)))
      all_goals
        have HM8 : Hid (Mk _ _ _ _) := M7.set (.slice (some ⟨gv, 0, none⟩) (k + 1) cw)
        have hO8 : OwnE (w7.setCell ⟨w.heap.size + 1, 1, none⟩ (.slice (some ⟨gv, 0, none⟩) (k + 1) cw)) (w.heap.size + 2) (.slice (some ⟨gv, 0, none⟩) (k + 1) cw) (p.es.take (k + 1)) := by
          have h : OwnE w7 (w.heap.size + 2) (.slice (some ⟨gv, 0, none⟩) (k + 1) cw) (p.es.take (k + 1)) := by
            unfold OwnE
            rw [HTK.out, flatE_snoc, List.length_append, List.length_take, Nat.min_eq_left hk]
            exact o7
          exact World.ownsRow.kept h grown_set (.inr (fun e => by injection e with e; have := (World.ownsRow.lt h gv rfl).1; simp at e; omega))
        have HO8 : Hid (OwnE _ _ _ _) := hO8
        clear o7 g7 M7 hO8
        go_wp2_with fail
        go_roundw
        case rel => exact ⟨k + 1, _, _, by omega, by go_num, HM8.out, HO8.out⟩
        case measure => simp [intOf]; omega
    · obtain rfl : k = p.es.length := by omega
      have hOf : OwnE wr (w.heap.size + 2) (.slice pv p.es.length cv) p.es := by have := HO.out; rw [List.take_length] at this; exact this
      have HOf : Hid (OwnE _ _ _ _) := owns_mono hOf (show w.heap.size ≤ w.heap.size + 2 by omega)
      obtain ⟨mb, ml, ⟨r0, mr0⟩, ⟨r1, mr1⟩, my0, my1, mc0, mc1, mz0, mz1⟩ := M
      have hne : (Value.slice pv p.es.length cv).ownBlock = none ∨ (Value.slice pv p.es.length cv).ownBlock ≠ some w.heap.size := by
        cases hv : (Value.slice pv p.es.length cv).ownBlock with
        | none => exact .inl rfl
        | some g => exact .inr (fun e => by injection e with e; have := (World.ownsRow.lt hOf g hv).1; omega)
      have HNE : Hid _ := hne
      clear hOf HO HM hne
      go_wp2_with fail
      refine bodyPost_ret (v := .agg #[.int .i64 p.num, .slice pv p.es.length cv]) (by simp [results, Try.results98, go_sem, *]) rfl ⟨⟨_, rfl, ?_⟩, ?_⟩
      · exact World.ownsRow.kept (World.ownsRow.kept HOf.out grown_set HNE.out) grown_set HNE.out
      · (repeat (first | (with_reducible exact Below.refl _ _) | (with_reducible assumption) | (with_reducible apply below_drewN) | (with_reducible apply Below.drew) | ((with_reducible refine Below.setCell ?_ ?_ _); rotate_left; focus (first | (simp; done) | (simp; omega) | omega)) | ((with_reducible refine Below.alloc ?_ ?_ _); rotate_left; focus (first | (simp; done) | (simp; omega) | omega))))

end Go.Proofs.Ytnmpfooegnmknaa.Tr
