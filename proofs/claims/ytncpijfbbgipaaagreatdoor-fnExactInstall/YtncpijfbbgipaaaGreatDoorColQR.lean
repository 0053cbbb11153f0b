/- Chains copied by the program: what it answers. -/
import Derived.Test.YtncpijfbbgipaaaGreatDoorColNR
import Derived.Deep.RegionLaw
import Derived.Deep.RegionHeld3
import Derived.Test.YtncpijfbbgipaaaGreatDoorColDR
import Derived.Test.YtncpijfbbgipaaaGreatDoorColCR
namespace Go.Proofs.YtncpijfbbgipaaaGreatDoor.Co
open Go.RowKit Tr
set_option linter.unusedVariables false

theorem rowForm {w : World} {base n : Nat} {e : TypeId} {size : Nat} {v : Value} {xs : List Value} (h : w.ownsRow base e size v n xs) (hn : 0 < n) : ∃ g cap, v = .slice (some ⟨g, 0, none⟩) n cap ∧ base ≤ g ∧ g < w.heap.size ∧ n ≤ cap ∧ cap ≤ maxLen := by
  have hlt := h.lt
  obtain ⟨h1, h2⟩ := h
  rcases h2 with ⟨_, h3⟩ | ⟨g, cap, cur, hv, hg, hh, hc1, hc2, r⟩
  · omega
  · exact ⟨g, cap, hv, hg, (hlt g (by rw [hv]; rfl)).2, hc1, hc2⟩
theorem step_appVr {ops : Array Oper} {o : Oper} {a : Act} {w : World} {K : Act → World → Prop} {Q : Exit → Act → World → Prop} {E : Prop} (hgd : o.guard = none) (s x : Operand)
    (ho : o.op = .call { callee := .builtin .append, args := #[s, x], argTypes := #[65, 65] }) (base n : Nat) (v : Value) (xs : List Value)
    (hs : a.eval s = v) (hown : w.ownsRow base 69 5 v n xs) (ad : Addr) (m c : Nat) (news : List Value) (hx : a.eval x = .slice (some ad) m c) (hl : news.length = m * 5) (hnews : ∀ j u, news[j]? = some u → w.cell? (ad.add j) = some u) (h1 : ∀ u ∈ news, u.oneCell' = true)
    (hn : n ≤ 1000) (hm : m ≤ 1000) (hbase : base ≤ w.heap.size)
    (hK : ∀ v' w', w'.ownsRow base 69 5 v' (n + m) (xs ++ news) → w.grownBy w' v.ownBlock → (v'.ownBlock = v.ownBlock ∨ v'.ownBlock = some w.heap.size) → K (a.put o.dst v') w') : if Region.wanted o (yielded ops a.tmps) = true then Oper.wp Tryz.prog o a w K Q else E := by
  have hw : Region.wanted o (yielded ops a.tmps) = true := by simp [Region.wanted, hgd]
  rw [if_pos hw]
  obtain ⟨i0, hi, hz0, hz1, hz2⟩ := info_parts infoVr
  obtain ⟨v', w', hr, h2, h3, h4, h5⟩ := run_append_own_at (P := Tryz.prog) w base 65 o.type 69 i0 (.agg #[.int .i64 0, .bool false, .int .i64 0, .int .i64 0, .string em]) 5 48 Tryz.underlying65 hi hz0 hz1 hz2 rfl (by decide) v n xs hown ad m c news hl hnews h1 (by unfold maxLen; omega) (by omega) hbase
  unfold Oper.wp execOp
  simp only [ho, resolve, invoke, builtin, Sem.run_bind, Sem.run_pure, Result.andThen_ok, List.map_toArray, List.map_cons, List.map_nil, hs, hx, hr]
  exact hK v' w' h2 h3 h5
theorem five_new (w : World) (en : Ver) (T : TypeId) : ∀ j u, (rowVr en)[j]? = some u → (w.alloc (.cells #[.int .i64 en.tm, .bool en.gone, .int .i64 en.doc.k, .int .i64 en.doc.n, .string en.doc.t] T)).cell? ((⟨w.heap.size, 0, none⟩ : Addr).add j) = some u := by
  intro j u hj
  unfold rowVr at hj
  match j, hj with
  | 0, hj => simp at hj; subst hj; simp [Addr.add, go_sem]
  | 1, hj => simp at hj; subst hj; simp [Addr.add, go_sem]
  | 2, hj => simp at hj; subst hj; simp [Addr.add, go_sem]
  | 3, hj => simp at hj; subst hj; simp [Addr.add, go_sem]
  | 4, hj => simp at hj; subst hj; simp [Addr.add, go_sem]
  | j + 5, hj => simp at hj
theorem five_one (en : Ver) : ∀ u ∈ rowVr en, u.oneCell' = true := by
  intro u hu
  unfold rowVr at hu
  simp at hu
  rcases hu with rfl | rfl | rfl | rfl | rfl <;> rfl
/-- The argument's box of two cells in the first new block, the answer's two cells in the second. -/
structure MkR (w W : World) (x y : Value) : Prop where
  bel : Below w.heap.size w W
  lt : w.heap.size + 1 < W.heap.size
  b0 : W.cell? ⟨w.heap.size, 0, none⟩ = some x
  b1 : W.cell? ⟨w.heap.size, 1, none⟩ = some y
  r0 : ∃ u, W.cell? ⟨w.heap.size + 1, 0, none⟩ = some u
  r1 : ∃ u, W.cell? ⟨w.heap.size + 1, 1, none⟩ = some u
  y0 : W.frozen? ⟨w.heap.size + 1, 0, none⟩ = false
  y1 : W.frozen? ⟨w.heap.size + 1, 1, none⟩ = false
theorem MkR.start (w : World) (x y p q : Value) (T T2 : TypeId) : MkR w ((w.alloc (.cells #[x, y] T)).alloc (.cells #[p, q] T2)) x y :=
  ⟨((Below.refl _ _).alloc (Nat.le_refl _) _).alloc (by simp) _, by simp, by simp [go_sem], by simp [go_sem], ⟨p, by simp [go_sem]⟩, ⟨q, by simp [go_sem]⟩, by simp [go_sem], by simp [go_sem]⟩
theorem MkR.step {w W W' : World} {x y : Value} {B : Nat} (h : MkR w W x y) (hb : Below B W W') (hB : w.heap.size + 2 ≤ B) : MkR w W' x y := by
  have hc : ∀ b o, b < B → W'.cell? ⟨b, o, none⟩ = W.cell? ⟨b, o, none⟩ := fun b o hh => hb.cell (p := ⟨b, o, none⟩) hh
  have hf : ∀ b o, b < B → W'.frozen? ⟨b, o, none⟩ = W.frozen? ⟨b, o, none⟩ := fun b o hh => hb.frozen (p := ⟨b, o, none⟩) hh
  refine ⟨h.bel.trans (hb.mono (by omega)), Nat.lt_of_lt_of_le h.lt hb.size, ?_, ?_, ?_, ?_, ?_, ?_⟩
  · rw [hc _ _ (by omega)]; exact h.b0
  · rw [hc _ _ (by omega)]; exact h.b1
  · rw [hc _ _ (by omega)]; exact h.r0
  · rw [hc _ _ (by omega)]; exact h.r1
  · rw [hf _ _ (by omega)]; exact h.y0
  · rw [hf _ _ (by omega)]; exact h.y1
theorem MkR.next {w W W' : World} {x y : Value} (h : MkR w W x y) (hb : Below W.heap.size W W') : MkR w W' x y := h.step hb (by have := h.lt; omega)
theorem keepR {w W W' : World} {x y : Value} (h : MkR w W x y) (hb : Below (w.heap.size + 1) W W') : W'.cell? ⟨w.heap.size, 0, none⟩ = some x ∧ W'.cell? ⟨w.heap.size, 1, none⟩ = some y :=
  have hl : w.heap.size < w.heap.size + 1 := Nat.lt_succ_self _
  ⟨(hb.cell hl).trans h.b0, (hb.cell hl).trans h.b1⟩
theorem wpList_apqVr {w : World} {ops : Array Oper} {rest : List Oper} {o : Oper} {a : Act} {Q : Exit → Act → World → Prop} (hgd : o.guard = none) (s x : Operand)
    (ho : o.op = .call { callee := .builtin .append, args := #[s, x], argTypes := #[65, 65] }) (base n : Nat) (v : Value) (xs : List Value)
    (hs : a.eval s = v) (hown : w.ownsRow base 69 5 v n xs) (ad : Addr) (m c : Nat) (news : List Value) (hx : a.eval x = .slice (some ad) m c) (hl : news.length = m * 5) (hnews : ∀ j u, news[j]? = some u → w.cell? (ad.add j) = some u) (h1 : ∀ u ∈ news, u.oneCell' = true)
    (hn : n ≤ 1000) (hm : m ≤ 1000) (hbase : base ≤ w.heap.size)
    (hK : ∀ v' w', w'.ownsRow base 69 5 v' (n + m) (xs ++ news) → w.grownBy w' v.ownBlock → (v'.ownBlock = v.ownBlock ∨ v'.ownBlock = some w.heap.size) → wpList Tryz.prog ops Q rest (a.put o.dst v') w') : wpList Tryz.prog ops Q (o :: rest) a w := by
  refine wpList_plain hgd fun K hK2 => ?_
  obtain ⟨i0, hi, hz0, hz1, hz2⟩ := info_parts infoVr
  obtain ⟨v', w', hr, h2, h3, h4, h5⟩ := run_append_own_at (P := Tryz.prog) w base 65 o.type 69 i0 (.agg #[.int .i64 0, .bool false, .int .i64 0, .int .i64 0, .string em]) 5 48 Tryz.underlying65 hi hz0 hz1 hz2 rfl (by decide) v n xs hown ad m c news hl hnews h1 (by unfold maxLen; omega) (by omega) hbase
  unfold Oper.wp execOp
  simp only [ho, resolve, invoke, builtin, Sem.run_bind, Sem.run_pure, Result.andThen_ok, List.map_toArray, List.map_cons, List.map_nil, hs, hx, hr]
  exact hK2 _ _ (hK v' w' h2 h3 h5)
set_option maxRecDepth 4000 in
set_option maxHeartbeats 2000000 in
theorem ownListVr_any (a : Option Addr) (cap : Nat) (l : List Ver) (w : World) (hin : InVr w a l) (hl : l.length ≤ 1000) (hk : ∀ e ∈ l, e.doc.t.size ≤ 1048576) :
    Calls Tryz.prog 85 #[.slice a l.length cap, .func (.func 62) #[] #[]] w fun e' w' => (∃ p c, e' = .returned (.slice p l.length c) ∧ OwnVr w' w.heap.size (.slice p l.length c) l) ∧ Below w.heap.size w w' := by
  have HIN : Hid (InVr _ _ _) := hin
  have HK : Hid _ := hk
  clear hin hk
  go_enter Tryz.func85, Tryz.ntmps85
  go_wp2_with fail
  go_loopw [5, 10] (fun u i wr => ∃ (k : Nat) (pv : Option Addr) (cv : Nat), k ≤ l.length ∧ i = .int .i64 k ∧ u = .slice pv k cv ∧ OwnVr wr w.heap.size (.slice pv k cv) (l.take k) ∧ Below w.heap.size w wr) (fun _ i _ => l.length - (intOf i).toNat)
  case atStart => exact ⟨0, none, 0, Nat.zero_le _, rfl, rfl, ⟨rfl, .inl ⟨rfl, rfl⟩⟩, Below.refl _ _⟩
  case round =>
    obtain ⟨k, pv, cv, hk, rfl, rfl, hO, hbel⟩ := hrel
    have HO : Hid (OwnVr _ _ _ _) := hO
    have HB : Hid (Below _ _ _) := hbel
    have hz := hbel.size
    clear hO
    by_cases hlt : k < l.length
    · have hlt2 : (k : Int) < (l.length : Int) := by omega
      rcases HIN.out.step hbel with h0 | ⟨b2, off, rfl, hbl2, hc⟩
      · omega
      obtain ⟨z0, z1, z2, z3, z4⟩ := hc k hlt
      have hks := HK.out l[k] (List.getElem_mem _)
      have htk : l.take (k + 1) = l.take k ++ [l[k]] := List.take_succ_eq_append_getElem hlt
      obtain ⟨en, hen⟩ : ∃ en, en = l[k] := ⟨_, rfl⟩
      rw [← hen] at z0 z1 z2 z3 z4 hks htk
      have HTK : Hid _ := htk
      have hbA : Below wr.heap.size wr (wr.alloc (.cells #[.int .i64 en.tm, .bool en.gone, .int .i64 en.doc.k, .int .i64 en.doc.n, .string en.doc.t] 69)) := (Below.refl _ _).alloc (Nat.le_refl _) _
      have HBA : Hid (Below w.heap.size w (wr.alloc (.cells #[.int .i64 en.tm, .bool en.gone, .int .i64 en.doc.k, .int .i64 en.doc.n, .string en.doc.t] 69))) := hbel.trans (hbA.mono hz)
      have HOA' : Hid (World.ownsRow (wr.alloc (.cells #[.int .i64 en.tm, .bool en.gone, .int .i64 en.doc.k, .int .i64 en.doc.n, .string en.doc.t] 69)) w.heap.size 69 5 (.slice pv k cv) k (flatVr (l.take k))) := by have h := owns_below HO.out hbA; unfold OwnVr at h; rw [List.length_take, Nat.min_eq_left hk] at h; exact h
      have hzA := hbA.size
      have HC : Hid (∀ W : World, Calls _ _ _ W _) := fun W => ownVer_any en W hks
      clear hc hen htk hbA HO hbel HB
      go_wp2_with fail
      generalize (wr.alloc (.cells #[.int .i64 en.tm, .bool en.gone, .int .i64 en.doc.k, .int .i64 en.doc.n, .string en.doc.t] 69)) = WA at HOA' HBA hzA ⊢
      refine (HC.out _).mono ?_
      rintro e w6 ⟨rfl, hb6⟩
      have O6 : Hid (World.ownsRow _ _ _ _ _ _ _) := owns_below HOA'.out hb6
      have hB6 : Below w.heap.size w w6 := HBA.out.trans (hb6.mono HBA.out.size)
      have hz6 := hB6.size
      have HB6 : Hid (Below w.heap.size w w6) := hB6
      clear hb6 hB6 HBA HOA' HC
      go_wp2_with (at_builtin; refine wpList_apqVr rfl (.tmp 14) (.tmp 18) rfl w.heap.size k (.slice pv k cv) (flatVr (l.take k)) rfl (O6.out.alloc _) ⟨w6.heap.size, 0, none⟩ 1 1 (rowVr en) rfl rfl (five_new _ _ _) (five_one _) (by omega) (by omega) (by simp; omega) ?_)
      intro v7 w7 o7 g7 at7
      obtain ⟨gv, cw, hvv, _, _, _, _⟩ := rowForm o7 (by omega)
      subst hvv
      have hO8 : OwnVr w7 w.heap.size (.slice (some ⟨gv, 0, none⟩) (k + 1) cw) (l.take (k + 1)) := by
        unfold OwnVr
        rw [HTK.out, flatVr_snoc, List.length_append, List.length_take, Nat.min_eq_left hk]
        exact o7
      have hB8 : Below w.heap.size w w7 := HB6.out.trans (Below.grown ((Below.refl _ w6).alloc (by omega) (.cells #[.int .i64 en.tm, .bool en.gone, .int .i64 en.doc.k, .int .i64 en.doc.n, .string en.doc.t] 69)) g7 (by simp; omega) (fun b hb => (O6.out.lt b hb).1))
      have HO8 : Hid (OwnVr _ _ _ _) := hO8
      have HB8 : Hid (Below _ _ _) := hB8
      clear o7 g7 at7 hO8 hB8 O6 HB6
      go_wp2_with fail
      go_roundw
      case rel => exact ⟨k + 1, _, _, by omega, by go_num, rfl, HO8.out, HB8.out⟩
      case measure => simp [intOf]; omega
    · obtain rfl : k = l.length := by omega
      have hOf : OwnVr wr w.heap.size (.slice pv l.length cv) l := by have := HO.out; rw [List.take_length] at this; exact this
      have HOf : Hid (OwnVr _ _ _ _) := hOf
      clear hOf HO
      go_wp2_with fail
      go_ret
      exact ⟨⟨_, _, rfl, HOf.out⟩, HB.out⟩
set_option maxRecDepth 4000 in
set_option maxHeartbeats 4000000 in
theorem ownChain_any (p : Chn) (a : Option Addr) (cap : Nat) (w : World) (hin : InVr w a p.vs) (hl : p.vs.length ≤ 1000) (hk : ∀ e ∈ p.vs, e.doc.t.size ≤ 1048576) :
    Calls Tryz.prog 56 #[.agg #[.int .i64 p.id, .slice a p.vs.length cap]] w fun e' w' => (∃ v, e' = .returned (.agg #[.int .i64 p.id, v]) ∧ OwnVr w' w.heap.size v p.vs) ∧ Below w.heap.size w w' := by
  have M0 := MkR.start w (.int .i64 p.id) (.slice a p.vs.length cap) (.int .i64 0) (.slice none 0 0) 67 67
  have HL0 := fun (W : World) (hW : Below w.heap.size w W) => ownListVr_any a cap p.vs W (hin.step hW) hl hk
  clear hin hk
  go_enter Tryz.func56, Tryz.ntmps56
  go_wp2_with fail
  generalize (w.alloc (.cells #[.int .i64 p.id, .slice a p.vs.length cap] 67)).alloc (.cells #[.int .i64 0, .slice none 0 0] 67) = W0 at M0 ⊢
  have hbw := M0.bel
  have HL : Hid (∀ W : World, Below W0.heap.size W0 W → Calls _ _ _ W _) := fun W hW => HL0 W (hbw.trans (hW.mono hbw.size))
  have b0 := M0.b0
  have b1 := M0.b1
  have hlt0 := M0.lt
  have hltw : w.heap.size < W0.heap.size := Nat.lt_of_succ_lt hlt0
  clear HL0
  go_region_held3 (fun w0 => w0.cell? ⟨w.heap.size, 0, none⟩ = some (.int .i64 p.id) ∧ w0.cell? ⟨w.heap.size, 1, none⟩ = some (.slice a p.vs.length cap)) ((refine keepR M0 ?_; (repeat (first | (with_reducible exact Below.refl _ _) | (with_reducible assumption) | (with_reducible apply below_drewN) | (with_reducible apply Below.drew) | ((with_reducible refine Below.setCell ?_ ?_ _); rotate_left; focus (first | (simp; done) | (simp; omega) | omega)) | ((with_reducible refine Below.alloc ?_ ?_ _); rotate_left; focus (first | (simp; done) | (simp; omega) | omega)))))) ((go_at_call 85; refine (HL.out _ (by (repeat (first | (with_reducible exact Below.refl _ _) | (with_reducible assumption) | (with_reducible apply below_drewN) | (with_reducible apply Below.drew) | ((with_reducible refine Below.setCell ?_ ?_ _); rotate_left; focus (first | (simp; done) | (simp; omega) | omega)) | ((with_reducible refine Below.alloc ?_ ?_ _); rotate_left; focus (first | (simp; done) | (simp; omega) | omega)))))).mono ?_; rintro e w6 ⟨⟨pu, cu, rfl, hU⟩, hb⟩; have hB6 : Below W0.heap.size W0 w6 := (show Below W0.heap.size W0 _ by (repeat (first | (with_reducible exact Below.refl _ _) | (with_reducible assumption) | (with_reducible apply below_drewN) | (with_reducible apply Below.drew) | ((with_reducible refine Below.setCell ?_ ?_ _); rotate_left; focus (first | (simp; done) | (simp; omega) | omega)) | ((with_reducible refine Below.alloc ?_ ?_ _); rotate_left; focus (first | (simp; done) | (simp; omega) | omega))))).trans (hb.mono (by first | (simp; done) | (simp; omega) | omega)); have U6 : Hid (OwnVr w6 W0.heap.size (.slice pu p.vs.length cu) p.vs) := owns_mono hU (by first | (simp; done) | (simp; omega) | omega); have hB6' : Below (w.heap.size + 1) W0 w6 := hB6.mono (by omega); have hn6 := Nat.lt_of_lt_of_le hltw hB6.size; have ho6 := Nat.lt_of_lt_of_le hlt0 hB6.size; have M6 := M0.next hB6; obtain ⟨r0, mr0⟩ := M6.r0; obtain ⟨r1, mr1⟩ := M6.r1; have my0 := M6.y0; have my1 := M6.y1; clear hb hU M6))
  all_goals
    try go_wp2_with fail
    have hne : (Value.slice pu p.vs.length cu).ownBlock = none ∨ (Value.slice pu p.vs.length cu).ownBlock ≠ some (w.heap.size + 1) := by
      cases hv : (Value.slice pu p.vs.length cu).ownBlock with
      | none => exact .inl rfl
      | some g => exact .inr (fun e => by injection e with e; have := (World.ownsRow.lt U6.out g hv).1; omega)
    have HNE : Hid _ := hne
    clear hne
    refine bodyPost_ret (v := .agg #[.int .i64 p.id, .slice pu p.vs.length cu]) (by simp [results, Tryz.results56, go_sem, *]) rfl ⟨⟨_, rfl, ?_⟩, ?_⟩
    · exact World.ownsRow.kept (World.ownsRow.kept (owns_mono U6.out (by omega)) grown_set HNE.out) grown_set HNE.out
    · have hbb := hbw.trans (hB6.mono hbw.size)
      (repeat (first | (with_reducible exact Below.refl _ _) | (with_reducible assumption) | (with_reducible apply below_drewN) | (with_reducible apply Below.drew) | ((with_reducible refine Below.setCell ?_ ?_ _); rotate_left; focus (first | (simp; done) | (simp; omega) | omega)) | ((with_reducible refine Below.alloc ?_ ?_ _); rotate_left; focus (first | (simp; done) | (simp; omega) | omega))))

end Go.Proofs.YtncpijfbbgipaaaGreatDoor.Co

/- Definitions copied by the program: what it answers. -/
namespace Go.Proofs.YtncpijfbbgipaaaGreatDoor.Co
open Go.RowKit Tr
set_option linter.unusedVariables false

theorem step_appD {ops : Array Oper} {o : Oper} {a : Act} {w : World} {K : Act → World → Prop} {Q : Exit → Act → World → Prop} {E : Prop} (hgd : o.guard = none) (s x : Operand)
    (ho : o.op = .call { callee := .builtin .append, args := #[s, x], argTypes := #[84, 84] }) (base n : Nat) (v : Value) (xs : List Value)
    (hs : a.eval s = v) (hown : w.ownsRow base 112 2 v n xs) (ad : Addr) (m c : Nat) (news : List Value) (hx : a.eval x = .slice (some ad) m c) (hl : news.length = m * 2) (hnews : ∀ j u, news[j]? = some u → w.cell? (ad.add j) = some u) (h1 : ∀ u ∈ news, u.oneCell' = true)
    (hn : n ≤ 1000) (hm : m ≤ 1000) (hbase : base ≤ w.heap.size)
    (hK : ∀ v' w', w'.ownsRow base 112 2 v' (n + m) (xs ++ news) → w.grownBy w' v.ownBlock → (v'.ownBlock = v.ownBlock ∨ v'.ownBlock = some w.heap.size) → K (a.put o.dst v') w') : if Region.wanted o (yielded ops a.tmps) = true then Oper.wp Tryz.prog o a w K Q else E := by
  have hw : Region.wanted o (yielded ops a.tmps) = true := by simp [Region.wanted, hgd]
  rw [if_pos hw]
  obtain ⟨i0, hi, hz0, hz1, hz2⟩ := info_parts infoD
  obtain ⟨v', w', hr, h2, h3, h4, h5⟩ := run_append_own_at (P := Tryz.prog) w base 84 o.type 112 i0 (.agg #[.string em, .bool false]) 2 24 Tryz.underlying84 hi hz0 hz1 hz2 rfl (by decide) v n xs hown ad m c news hl hnews h1 (by unfold maxLen; omega) (by omega) hbase
  unfold Oper.wp execOp
  simp only [ho, resolve, invoke, builtin, Sem.run_bind, Sem.run_pure, Result.andThen_ok, List.map_toArray, List.map_cons, List.map_nil, hs, hx, hr]
  exact hK v' w' h2 h3 h5
theorem two_newD (w : World) (en : Prt) (T : TypeId) : ∀ j u, (rowD en)[j]? = some u → (w.alloc (.cells #[.string en.path, .bool en.desc] T)).cell? ((⟨w.heap.size, 0, none⟩ : Addr).add j) = some u := by
  intro j u hj
  unfold rowD at hj
  match j, hj with
  | 0, hj => simp at hj; subst hj; simp [Addr.add, go_sem]
  | 1, hj => simp at hj; subst hj; simp [Addr.add, go_sem]
  | j + 2, hj => simp at hj
theorem two_oneD (en : Prt) : ∀ u ∈ rowD en, u.oneCell' = true := by
  intro u hu
  unfold rowD at hu
  simp at hu
  rcases hu with rfl | rfl <;> rfl
theorem wpList_apqD {w : World} {ops : Array Oper} {rest : List Oper} {o : Oper} {a : Act} {Q : Exit → Act → World → Prop} (hgd : o.guard = none) (s x : Operand)
    (ho : o.op = .call { callee := .builtin .append, args := #[s, x], argTypes := #[84, 84] }) (base n : Nat) (v : Value) (xs : List Value)
    (hs : a.eval s = v) (hown : w.ownsRow base 112 2 v n xs) (ad : Addr) (m c : Nat) (news : List Value) (hx : a.eval x = .slice (some ad) m c) (hl : news.length = m * 2) (hnews : ∀ j u, news[j]? = some u → w.cell? (ad.add j) = some u) (h1 : ∀ u ∈ news, u.oneCell' = true)
    (hn : n ≤ 1000) (hm : m ≤ 1000) (hbase : base ≤ w.heap.size)
    (hK : ∀ v' w', w'.ownsRow base 112 2 v' (n + m) (xs ++ news) → w.grownBy w' v.ownBlock → (v'.ownBlock = v.ownBlock ∨ v'.ownBlock = some w.heap.size) → wpList Tryz.prog ops Q rest (a.put o.dst v') w') : wpList Tryz.prog ops Q (o :: rest) a w := by
  refine wpList_plain hgd fun K hK2 => ?_
  obtain ⟨i0, hi, hz0, hz1, hz2⟩ := info_parts infoD
  obtain ⟨v', w', hr, h2, h3, h4, h5⟩ := run_append_own_at (P := Tryz.prog) w base 84 o.type 112 i0 (.agg #[.string em, .bool false]) 2 24 Tryz.underlying84 hi hz0 hz1 hz2 rfl (by decide) v n xs hown ad m c news hl hnews h1 (by unfold maxLen; omega) (by omega) hbase
  unfold Oper.wp execOp
  simp only [ho, resolve, invoke, builtin, Sem.run_bind, Sem.run_pure, Result.andThen_ok, List.map_toArray, List.map_cons, List.map_nil, hs, hx, hr]
  exact hK2 _ _ (hK v' w' h2 h3 h5)
set_option maxRecDepth 4000 in
set_option maxHeartbeats 2000000 in
theorem ownPart_any (t : Prt) (w : World) (hs : t.path.size ≤ 1048576) :
    Calls Tryz.prog 87 #[.agg #[.string t.path, .bool t.desc]] w fun e w' => e = .returned (.agg #[.string t.path, .bool t.desc]) ∧ Below w.heap.size w w' := by
  have M0 := MkR.start w (.string t.path) (.bool t.desc) (.string em) (.bool false) 112 112
  have HN : Hid (∀ W : World, Calls _ _ _ W _) := fun W => strClone_any t.path W hs
  clear hs
  go_enter Tryz.func87, Tryz.ntmps87
  go_wp2_with fail
  generalize (w.alloc (.cells #[.string t.path, .bool t.desc] 112)).alloc (.cells #[.string em, .bool false] 112) = W0 at M0 ⊢
  have hbw := M0.bel
  have b0 := M0.b0
  have b1 := M0.b1
  have hlt0 := M0.lt
  have hltw : w.heap.size < W0.heap.size := Nat.lt_of_succ_lt hlt0
  go_region_held3 (fun w0 => w0.cell? ⟨w.heap.size, 0, none⟩ = some (.string t.path) ∧ w0.cell? ⟨w.heap.size, 1, none⟩ = some (.bool t.desc)) ((refine keepR M0 ?_; (repeat (first | (with_reducible exact Below.refl _ _) | (with_reducible assumption) | (with_reducible apply below_drewN) | (with_reducible apply Below.drew) | ((with_reducible refine Below.setCell ?_ ?_ _); rotate_left; focus (first | (simp; done) | (simp; omega) | omega)) | ((with_reducible refine Below.alloc ?_ ?_ _); rotate_left; focus (first | (simp; done) | (simp; omega) | omega)))))) ((go_at_call 54; refine (HN.out _).mono ?_; rintro e w6 ⟨rfl, hb⟩; have hB6 : Below W0.heap.size W0 w6 := (show Below W0.heap.size W0 _ by (repeat (first | (with_reducible exact Below.refl _ _) | (with_reducible assumption) | (with_reducible apply below_drewN) | (with_reducible apply Below.drew) | ((with_reducible refine Below.setCell ?_ ?_ _); rotate_left; focus (first | (simp; done) | (simp; omega) | omega)) | ((with_reducible refine Below.alloc ?_ ?_ _); rotate_left; focus (first | (simp; done) | (simp; omega) | omega))))).trans (hb.mono (by first | (simp; done) | (simp; omega) | omega)); have hB6' : Below (w.heap.size + 1) W0 w6 := hB6.mono (by omega); have hn6 := Nat.lt_of_lt_of_le hltw hB6.size; have ho6 := Nat.lt_of_lt_of_le hlt0 hB6.size; have M6 := M0.next hB6; obtain ⟨r0, mr0⟩ := M6.r0; obtain ⟨r1, mr1⟩ := M6.r1; have my0 := M6.y0; have my1 := M6.y1; clear hb M6))
  all_goals
    try go_wp2_with fail
    refine bodyPost_ret (v := .agg #[.string t.path, .bool t.desc]) (by simp [results, Tryz.results87, go_sem, *]) rfl ⟨rfl, ?_⟩
    have hbb := hbw.trans (hB6.mono hbw.size)
    (repeat (first | (with_reducible exact Below.refl _ _) | (with_reducible assumption) | (with_reducible apply below_drewN) | (with_reducible apply Below.drew) | ((with_reducible refine Below.setCell ?_ ?_ _); rotate_left; focus (first | (simp; done) | (simp; omega) | omega)) | ((with_reducible refine Below.alloc ?_ ?_ _); rotate_left; focus (first | (simp; done) | (simp; omega) | omega))))
set_option maxRecDepth 4000 in
set_option maxHeartbeats 2000000 in
theorem ownListD_any (a : Option Addr) (cap : Nat) (l : List Prt) (w : World) (hin : InD w a l) (hl : l.length ≤ 1000) (hk : ∀ e ∈ l, e.path.size ≤ 1048576) :
    Calls Tryz.prog 86 #[.slice a l.length cap, .func (.func 87) #[] #[]] w fun e' w' => (∃ p c, e' = .returned (.slice p l.length c) ∧ OwnD w' w.heap.size (.slice p l.length c) l) ∧ Below w.heap.size w w' := by
  have HIN : Hid (InD _ _ _) := hin
  have HK : Hid _ := hk
  clear hin hk
  go_enter Tryz.func86, Tryz.ntmps86
  go_wp2_with fail
  go_loopw [5, 10] (fun u i wr => ∃ (k : Nat) (pv : Option Addr) (cv : Nat), k ≤ l.length ∧ i = .int .i64 k ∧ u = .slice pv k cv ∧ OwnD wr w.heap.size (.slice pv k cv) (l.take k) ∧ Below w.heap.size w wr) (fun _ i _ => l.length - (intOf i).toNat)
  case atStart => exact ⟨0, none, 0, Nat.zero_le _, rfl, rfl, ⟨rfl, .inl ⟨rfl, rfl⟩⟩, Below.refl _ _⟩
  case round =>
    obtain ⟨k, pv, cv, hk, rfl, rfl, hO, hbel⟩ := hrel
    have HO : Hid (OwnD _ _ _ _) := hO
    have HB : Hid (Below _ _ _) := hbel
    have hz := hbel.size
    clear hO
    by_cases hlt : k < l.length
    · have hlt2 : (k : Int) < (l.length : Int) := by omega
      rcases HIN.out.step hbel with h0 | ⟨b2, off, rfl, hbl2, hc⟩
      · omega
      obtain ⟨z0, z1⟩ := hc k hlt
      have hks := HK.out l[k] (List.getElem_mem _)
      have htk : l.take (k + 1) = l.take k ++ [l[k]] := List.take_succ_eq_append_getElem hlt
      obtain ⟨en, hen⟩ : ∃ en, en = l[k] := ⟨_, rfl⟩
      rw [← hen] at z0 z1 hks htk
      have HTK : Hid _ := htk
      have hbA : Below wr.heap.size wr (wr.alloc (.cells #[.string en.path, .bool en.desc] 112)) := (Below.refl _ _).alloc (Nat.le_refl _) _
      have HBA : Hid (Below w.heap.size w (wr.alloc (.cells #[.string en.path, .bool en.desc] 112))) := hbel.trans (hbA.mono hz)
      have HOA' : Hid (World.ownsRow (wr.alloc (.cells #[.string en.path, .bool en.desc] 112)) w.heap.size 112 2 (.slice pv k cv) k (flatD (l.take k))) := by have h := owns_below HO.out hbA; unfold OwnD at h; rw [List.length_take, Nat.min_eq_left hk] at h; exact h
      have hzA := hbA.size
      have HC : Hid (∀ W : World, Calls _ _ _ W _) := fun W => ownPart_any en W hks
      clear hc hen htk hbA HO hbel HB
      go_wp2_with fail
      generalize (wr.alloc (.cells #[.string en.path, .bool en.desc] 112)) = WA at HOA' HBA hzA ⊢
      refine (HC.out _).mono ?_
      rintro e w6 ⟨rfl, hb6⟩
      have O6 : Hid (World.ownsRow _ _ _ _ _ _ _) := owns_below HOA'.out hb6
      have hB6 : Below w.heap.size w w6 := HBA.out.trans (hb6.mono HBA.out.size)
      have hz6 := hB6.size
      have HB6 : Hid (Below w.heap.size w w6) := hB6
      clear hb6 hB6 HBA HOA' HC
      go_wp2_with (at_builtin; refine wpList_apqD rfl (.tmp 14) (.tmp 18) rfl w.heap.size k (.slice pv k cv) (flatD (l.take k)) rfl (O6.out.alloc _) ⟨w6.heap.size, 0, none⟩ 1 1 (rowD en) rfl rfl (two_newD _ _ _) (two_oneD _) (by omega) (by omega) (by simp; omega) ?_)
      intro v7 w7 o7 g7 at7
      obtain ⟨gv, cw, hvv, _, _, _, _⟩ := rowForm o7 (by omega)
      subst hvv
      have hO8 : OwnD w7 w.heap.size (.slice (some ⟨gv, 0, none⟩) (k + 1) cw) (l.take (k + 1)) := by
        unfold OwnD
        rw [HTK.out, flatD_snoc, List.length_append, List.length_take, Nat.min_eq_left hk]
        exact o7
      have hB8 : Below w.heap.size w w7 := HB6.out.trans (Below.grown ((Below.refl _ w6).alloc (by omega) (.cells #[.string en.path, .bool en.desc] 112)) g7 (by simp; omega) (fun b hb => (O6.out.lt b hb).1))
      have HO8 : Hid (OwnD _ _ _ _) := hO8
      have HB8 : Hid (Below _ _ _) := hB8
      clear o7 g7 at7 hO8 hB8 O6 HB6
      go_wp2_with fail
      go_roundw
      case rel => exact ⟨k + 1, _, _, by omega, by go_num, rfl, HO8.out, HB8.out⟩
      case measure => simp [intOf]; omega
    · obtain rfl : k = l.length := by omega
      have hOf : OwnD wr w.heap.size (.slice pv l.length cv) l := by have := HO.out; rw [List.take_length] at this; exact this
      have HOf : Hid (OwnD _ _ _ _) := hOf
      clear hOf HO
      go_wp2_with fail
      go_ret
      exact ⟨⟨_, _, rfl, HOf.out⟩, HB.out⟩
set_option maxRecDepth 4000 in
set_option maxHeartbeats 4000000 in
theorem ownDef_any (p : Dfn) (a : Option Addr) (cap : Nat) (w : World) (hin : InD w a p.ps) (hn : p.name.size ≤ 1048576) (hl : p.ps.length ≤ 1000) (hk : ∀ e ∈ p.ps, e.path.size ≤ 1048576) :
    Calls Tryz.prog 58 #[.agg #[.string p.name, .slice a p.ps.length cap]] w fun e' w' => (∃ v, e' = .returned (.agg #[.string p.name, v]) ∧ OwnD w' w.heap.size v p.ps) ∧ Below w.heap.size w w' := by
  have M0 := MkR.start w (.string p.name) (.slice a p.ps.length cap) (.string em) (.slice none 0 0) 86 86
  have HN : Hid (∀ W : World, Calls _ _ _ W _) := fun W => strClone_any p.name W hn
  have HL0 := fun (W : World) (hW : Below w.heap.size w W) => ownListD_any a cap p.ps W (hin.step hW) hl hk
  clear hin hk
  go_enter Tryz.func58, Tryz.ntmps58
  go_wp2_with fail
  generalize (w.alloc (.cells #[.string p.name, .slice a p.ps.length cap] 86)).alloc (.cells #[.string em, .slice none 0 0] 86) = W0 at M0 ⊢
  have hbw := M0.bel
  have HL : Hid (∀ W : World, Below W0.heap.size W0 W → Calls _ _ _ W _) := fun W hW => HL0 W (hbw.trans (hW.mono hbw.size))
  have b0 := M0.b0
  have b1 := M0.b1
  have hlt0 := M0.lt
  have hltw : w.heap.size < W0.heap.size := Nat.lt_of_succ_lt hlt0
  clear HL0
  go_region_held3 (fun w0 => w0.cell? ⟨w.heap.size, 0, none⟩ = some (.string p.name) ∧ w0.cell? ⟨w.heap.size, 1, none⟩ = some (.slice a p.ps.length cap)) ((refine keepR M0 ?_; (repeat (first | (with_reducible exact Below.refl _ _) | (with_reducible assumption) | (with_reducible apply below_drewN) | (with_reducible apply Below.drew) | ((with_reducible refine Below.setCell ?_ ?_ _); rotate_left; focus (first | (simp; done) | (simp; omega) | omega)) | ((with_reducible refine Below.alloc ?_ ?_ _); rotate_left; focus (first | (simp; done) | (simp; omega) | omega)))))) ((first | (go_at_call 54; refine (HN.out _).mono ?_; rintro e w5 ⟨rfl, hb⟩; have hB5 : Below W0.heap.size W0 w5 := (show Below W0.heap.size W0 _ by (repeat (first | (with_reducible exact Below.refl _ _) | (with_reducible assumption) | (with_reducible apply below_drewN) | (with_reducible apply Below.drew) | ((with_reducible refine Below.setCell ?_ ?_ _); rotate_left; focus (first | (simp; done) | (simp; omega) | omega)) | ((with_reducible refine Below.alloc ?_ ?_ _); rotate_left; focus (first | (simp; done) | (simp; omega) | omega))))).trans (hb.mono (by first | (simp; done) | (simp; omega) | omega)); have hB5' : Below (w.heap.size + 1) W0 w5 := hB5.mono (by omega); have hz5 := hB5.size; have hn5 := Nat.lt_of_lt_of_le hltw hB5.size; clear hb) | (go_at_call 86; refine (HL.out _ (by (repeat (first | (with_reducible exact Below.refl _ _) | (with_reducible assumption) | (with_reducible apply below_drewN) | (with_reducible apply Below.drew) | ((with_reducible refine Below.setCell ?_ ?_ _); rotate_left; focus (first | (simp; done) | (simp; omega) | omega)) | ((with_reducible refine Below.alloc ?_ ?_ _); rotate_left; focus (first | (simp; done) | (simp; omega) | omega)))))).mono ?_; rintro e w6 ⟨⟨pu, cu, rfl, hU⟩, hb⟩; have hB6 : Below W0.heap.size W0 w6 := (show Below W0.heap.size W0 _ by (repeat (first | (with_reducible exact Below.refl _ _) | (with_reducible assumption) | (with_reducible apply below_drewN) | (with_reducible apply Below.drew) | ((with_reducible refine Below.setCell ?_ ?_ _); rotate_left; focus (first | (simp; done) | (simp; omega) | omega)) | ((with_reducible refine Below.alloc ?_ ?_ _); rotate_left; focus (first | (simp; done) | (simp; omega) | omega))))).trans (hb.mono (by first | (simp; done) | (simp; omega) | omega)); have U6 : Hid (OwnD w6 W0.heap.size (.slice pu p.ps.length cu) p.ps) := owns_mono hU (by first | (simp; done) | (simp; omega) | omega); have hB6' : Below (w.heap.size + 1) W0 w6 := hB6.mono (by omega); have hn6 := Nat.lt_of_lt_of_le hltw hB6.size; have ho6 := Nat.lt_of_lt_of_le hlt0 hB6.size; have M6 := M0.next hB6; obtain ⟨r0, mr0⟩ := M6.r0; obtain ⟨r1, mr1⟩ := M6.r1; have my0 := M6.y0; have my1 := M6.y1; clear hb hU M6)))
  all_goals
    try go_wp2_with fail
    have hne : (Value.slice pu p.ps.length cu).ownBlock = none ∨ (Value.slice pu p.ps.length cu).ownBlock ≠ some (w.heap.size + 1) := by
      cases hv : (Value.slice pu p.ps.length cu).ownBlock with
      | none => exact .inl rfl
      | some g => exact .inr (fun e => by injection e with e; have := (World.ownsRow.lt U6.out g hv).1; omega)
    have HNE : Hid _ := hne
    clear hne
    refine bodyPost_ret (v := .agg #[.string p.name, .slice pu p.ps.length cu]) (by simp [results, Tryz.results58, go_sem, *]) rfl ⟨⟨_, rfl, ?_⟩, ?_⟩
    · exact World.ownsRow.kept (World.ownsRow.kept (owns_mono U6.out (by omega)) grown_set HNE.out) grown_set HNE.out
    · have hbb := hbw.trans (hB6.mono hbw.size)
      (repeat (first | (with_reducible exact Below.refl _ _) | (with_reducible assumption) | (with_reducible apply below_drewN) | (with_reducible apply Below.drew) | ((with_reducible refine Below.setCell ?_ ?_ _); rotate_left; focus (first | (simp; done) | (simp; omega) | omega)) | ((with_reducible refine Below.alloc ?_ ?_ _); rotate_left; focus (first | (simp; done) | (simp; omega) | omega))))

end Go.Proofs.YtncpijfbbgipaaaGreatDoor.Co

/- Collections copied by the program: what it answers. -/
namespace Go.Proofs.YtncpijfbbgipaaaGreatDoor.Co
open Go.RowKit Tr
set_option linter.unusedVariables false

theorem step_appCh {ops : Array Oper} {o : Oper} {a : Act} {w : World} {K : Act → World → Prop} {Q : Exit → Act → World → Prop} {E : Prop} (hgd : o.guard = none) (s x : Operand)
    (ho : o.op = .call { callee := .builtin .append, args := #[s, x], argTypes := #[32, 32] }) (base n : Nat) (v : Value) (xs : List Value)
    (hs : a.eval s = v) (hown : w.ownsRow base 67 2 v n xs) (ad : Addr) (m c : Nat) (news : List Value) (hx : a.eval x = .slice (some ad) m c) (hl : news.length = m * 2) (hnews : ∀ j u, news[j]? = some u → w.cell? (ad.add j) = some u) (h1 : ∀ u ∈ news, u.oneCell' = true)
    (hn : n ≤ 1000) (hm : m ≤ 1000) (hbase : base ≤ w.heap.size)
    (hK : ∀ v' w', w'.ownsRow base 67 2 v' (n + m) (xs ++ news) → w.grownBy w' v.ownBlock → (v'.ownBlock = v.ownBlock ∨ v'.ownBlock = some w.heap.size) → K (a.put o.dst v') w') : if Region.wanted o (yielded ops a.tmps) = true then Oper.wp Tryz.prog o a w K Q else E := by
  have hw : Region.wanted o (yielded ops a.tmps) = true := by simp [Region.wanted, hgd]
  rw [if_pos hw]
  obtain ⟨i0, hi, hz0, hz1, hz2⟩ := info_parts infoCh
  obtain ⟨v', w', hr, h2, h3, h4, h5⟩ := run_append_own_at (P := Tryz.prog) w base 32 o.type 67 i0 (.agg #[.int .i64 0, .slice none 0 0]) 2 32 Tryz.underlying32 hi hz0 hz1 hz2 rfl (by decide) v n xs hown ad m c news hl hnews h1 (by unfold maxLen; omega) (by omega) hbase
  unfold Oper.wp execOp
  simp only [ho, resolve, invoke, builtin, Sem.run_bind, Sem.run_pure, Result.andThen_ok, List.map_toArray, List.map_cons, List.map_nil, hs, hx, hr]
  exact hK v' w' h2 h3 h5
theorem step_appDf {ops : Array Oper} {o : Oper} {a : Act} {w : World} {K : Act → World → Prop} {Q : Exit → Act → World → Prop} {E : Prop} (hgd : o.guard = none) (s x : Operand)
    (ho : o.op = .call { callee := .builtin .append, args := #[s, x], argTypes := #[33, 33] }) (base n : Nat) (v : Value) (xs : List Value)
    (hs : a.eval s = v) (hown : w.ownsRow base 86 2 v n xs) (ad : Addr) (m c : Nat) (news : List Value) (hx : a.eval x = .slice (some ad) m c) (hl : news.length = m * 2) (hnews : ∀ j u, news[j]? = some u → w.cell? (ad.add j) = some u) (h1 : ∀ u ∈ news, u.oneCell' = true)
    (hn : n ≤ 1000) (hm : m ≤ 1000) (hbase : base ≤ w.heap.size)
    (hK : ∀ v' w', w'.ownsRow base 86 2 v' (n + m) (xs ++ news) → w.grownBy w' v.ownBlock → (v'.ownBlock = v.ownBlock ∨ v'.ownBlock = some w.heap.size) → K (a.put o.dst v') w') : if Region.wanted o (yielded ops a.tmps) = true then Oper.wp Tryz.prog o a w K Q else E := by
  have hw : Region.wanted o (yielded ops a.tmps) = true := by simp [Region.wanted, hgd]
  rw [if_pos hw]
  obtain ⟨i0, hi, hz0, hz1, hz2⟩ := info_parts infoDf
  obtain ⟨v', w', hr, h2, h3, h4, h5⟩ := run_append_own_at (P := Tryz.prog) w base 33 o.type 86 i0 (.agg #[.string em, .slice none 0 0]) 2 40 Tryz.underlying33 hi hz0 hz1 hz2 rfl (by decide) v n xs hown ad m c news hl hnews h1 (by unfold maxLen; omega) (by omega) hbase
  unfold Oper.wp execOp
  simp only [ho, resolve, invoke, builtin, Sem.run_bind, Sem.run_pure, Result.andThen_ok, List.map_toArray, List.map_cons, List.map_nil, hs, hx, hr]
  exact hK v' w' h2 h3 h5
theorem PartCh.snoc {w w' : World} {base k : Nat} {v v' u : Value} {f : List Chn} {vs : Nat → Value} {xs : List Value} {o : Obj} {en : Chn} (h : PartCh w base v k f k vs xs) (hk : k < f.length) (he : en = f[k]) (hu : OwnVr w base u en.vs)
    (hv : ∀ i, i < f.length → i < k → u.ownBlock = none ∨ u.ownBlock ≠ (vs i).ownBlock) (ha : u.ownBlock = none ∨ u.ownBlock ≠ v.ownBlock)
    (hr : w'.ownsRow base 67 2 v' (k + 1) (xs ++ [.int .i64 en.id, u])) (hg : (w.alloc o).grownBy w' v.ownBlock) (hat : v'.ownBlock = v.ownBlock ∨ v'.ownBlock = some (w.alloc o).heap.size) :
    PartCh w' base v' (k + 1) f (k + 1) (fun i => if i = k then u else vs i) (xs ++ [.int .i64 en.id, u]) := by
  subst he
  have hl : xs.length = k * 2 := h.row.1
  have hnew : ∀ {x : Value} {m : Nat} {ys : List Value}, w.ownsRow base 69 5 x m ys → (x.ownBlock = none ∨ x.ownBlock ≠ v.ownBlock) → (x.ownBlock = none ∨ x.ownBlock ≠ v'.ownBlock) := by
    intro x m ys hx hh
    rcases hat with e | e
    · rw [e]; exact hh
    · cases hb : x.ownBlock with
      | none => exact .inl rfl
      | some g => exact .inr (fun e2 => by rw [e] at e2; injection e2 with e2; have := (hx.lt g hb).2; simp at e2; omega)
  refine ⟨hr, ?_, ?_, ?_, ?_⟩
  · intro i hi hik
    by_cases e : i = k
    · subst e
      rw [if_pos rfl, List.getElem?_append_right (by omega), List.getElem?_append_right (by omega), hl, Nat.sub_self, show i * 2 + 1 - i * 2 = 1 by omega]
      exact ⟨rfl, rfl⟩
    · rw [if_neg e, List.getElem?_append_left (by omega), List.getElem?_append_left (by omega)]
      exact h.at_ i hi (by omega)
  · intro i hi hik
    by_cases e : i = k
    · subst e; simp only [if_pos]; exact World.ownsRow.kept (World.ownsRow.alloc hu o) hg ha
    · simp only [if_neg e]; exact World.ownsRow.kept (World.ownsRow.alloc (h.ents i hi (by omega)) o) hg (h.aside i hi (by omega))
  · intro i j hi hj hik hjk hne
    by_cases e : i = k
    · subst e
      have e2 : ¬ j = i := fun e => hne e.symm
      simp only [if_pos, if_neg e2]
      exact hv j hj (by omega)
    · by_cases e2 : j = k
      · subst e2
        simp only [if_pos, if_neg e]
        rcases hv i hi (by omega) with hx | hx
        · rw [hx]
          cases hvi : (vs i).ownBlock with
          | none => exact .inl rfl
          | some q => exact .inr (by simp)
        · exact .inr (fun e => hx e.symm)
      · simp only [if_neg e, if_neg e2]
        exact h.apart i j hi hj (by omega) (by omega) hne
  · intro i hi hik
    by_cases e : i = k
    · subst e; simp only [if_pos]; exact hnew hu ha
    · simp only [if_neg e]; exact hnew (h.ents i hi (by omega)) (h.aside i hi (by omega))
theorem PartCh.ofSet {w : World} {base b o : Nat} {v x : Value} {n k : Nat} {f : List Chn} {vs : Nat → Value} {xs : List Value} (h : PartCh w base v n f k vs xs) (hb : b < base) : PartCh (w.setCell ⟨b, o, none⟩ x) base v n f k vs xs := h.grown grown_set hb
theorem PartDf.snoc {w w' : World} {base k : Nat} {v v' u : Value} {f : List Dfn} {vs : Nat → Value} {xs : List Value} {o : Obj} {en : Dfn} (h : PartDf w base v k f k vs xs) (hk : k < f.length) (he : en = f[k]) (hu : OwnD w base u en.ps)
    (hv : ∀ i, i < f.length → i < k → u.ownBlock = none ∨ u.ownBlock ≠ (vs i).ownBlock) (ha : u.ownBlock = none ∨ u.ownBlock ≠ v.ownBlock)
    (hr : w'.ownsRow base 86 2 v' (k + 1) (xs ++ [.string en.name, u])) (hg : (w.alloc o).grownBy w' v.ownBlock) (hat : v'.ownBlock = v.ownBlock ∨ v'.ownBlock = some (w.alloc o).heap.size) :
    PartDf w' base v' (k + 1) f (k + 1) (fun i => if i = k then u else vs i) (xs ++ [.string en.name, u]) := by
  subst he
  have hl : xs.length = k * 2 := h.row.1
  have hnew : ∀ {x : Value} {m : Nat} {ys : List Value}, w.ownsRow base 112 2 x m ys → (x.ownBlock = none ∨ x.ownBlock ≠ v.ownBlock) → (x.ownBlock = none ∨ x.ownBlock ≠ v'.ownBlock) := by
    intro x m ys hx hh
    rcases hat with e | e
    · rw [e]; exact hh
    · cases hb : x.ownBlock with
      | none => exact .inl rfl
      | some g => exact .inr (fun e2 => by rw [e] at e2; injection e2 with e2; have := (hx.lt g hb).2; simp at e2; omega)
  refine ⟨hr, ?_, ?_, ?_, ?_⟩
  · intro i hi hik
    by_cases e : i = k
    · subst e
      rw [if_pos rfl, List.getElem?_append_right (by omega), List.getElem?_append_right (by omega), hl, Nat.sub_self, show i * 2 + 1 - i * 2 = 1 by omega]
      exact ⟨rfl, rfl⟩
    · rw [if_neg e, List.getElem?_append_left (by omega), List.getElem?_append_left (by omega)]
      exact h.at_ i hi (by omega)
  · intro i hi hik
    by_cases e : i = k
    · subst e; simp only [if_pos]; exact World.ownsRow.kept (World.ownsRow.alloc hu o) hg ha
    · simp only [if_neg e]; exact World.ownsRow.kept (World.ownsRow.alloc (h.ents i hi (by omega)) o) hg (h.aside i hi (by omega))
  · intro i j hi hj hik hjk hne
    by_cases e : i = k
    · subst e
      have e2 : ¬ j = i := fun e => hne e.symm
      simp only [if_pos, if_neg e2]
      exact hv j hj (by omega)
    · by_cases e2 : j = k
      · subst e2
        simp only [if_pos, if_neg e]
        rcases hv i hi (by omega) with hx | hx
        · rw [hx]
          cases hvi : (vs i).ownBlock with
          | none => exact .inl rfl
          | some q => exact .inr (by simp)
        · exact .inr (fun e => hx e.symm)
      · simp only [if_neg e, if_neg e2]
        exact h.apart i j hi hj (by omega) (by omega) hne
  · intro i hi hik
    by_cases e : i = k
    · subst e; simp only [if_pos]; exact hnew hu ha
    · simp only [if_neg e]; exact hnew (h.ents i hi (by omega)) (h.aside i hi (by omega))
theorem PartDf.ofSet {w : World} {base b o : Nat} {v x : Value} {n k : Nat} {f : List Dfn} {vs : Nat → Value} {xs : List Value} (h : PartDf w base v n f k vs xs) (hb : b < base) : PartDf (w.setCell ⟨b, o, none⟩ x) base v n f k vs xs := h.grown grown_set hb
theorem two_newA (w : World) (n x : Value) (T : TypeId) : ∀ j u, [n, x][j]? = some u → (w.alloc (.cells #[n, x] T)).cell? ((⟨w.heap.size, 0, none⟩ : Addr).add j) = some u := by
  intro j u hj
  match j, hj with
  | 0, hj => simp at hj; subst hj; simp [Addr.add, go_sem]
  | 1, hj => simp at hj; subst hj; simp [Addr.add, go_sem]
  | j + 2, hj => simp at hj
theorem two_oneA (n : Value) (h : n.oneCell' = true) (p : Option Addr) (l c : Nat) : ∀ u ∈ [n, .slice p l c], u.oneCell' = true := by
  intro u hu
  simp at hu
  rcases hu with rfl | rfl
  · exact h
  · rfl
theorem chg_low {B : Nat} {w w' : World} (h : Below B w w') : Chg B w.heap.size w w' := ⟨h.os, h.tape, h.output, h.size, fun k hk ho => h.block k (by omega)⟩
/-- The argument's box of three cells in the first new block, the answer's three cells in the second. -/
structure MkS (w W : World) (x y z : Value) : Prop where
  bel : Below w.heap.size w W
  lt : w.heap.size + 1 < W.heap.size
  b0 : W.cell? ⟨w.heap.size, 0, none⟩ = some x
  b1 : W.cell? ⟨w.heap.size, 1, none⟩ = some y
  b2 : W.cell? ⟨w.heap.size, 2, none⟩ = some z
  r0 : ∃ u, W.cell? ⟨w.heap.size + 1, 0, none⟩ = some u
  r1 : ∃ u, W.cell? ⟨w.heap.size + 1, 1, none⟩ = some u
  r2 : ∃ u, W.cell? ⟨w.heap.size + 1, 2, none⟩ = some u
  y0 : ∀ o, W.frozen? ⟨w.heap.size + 1, o, none⟩ = false
theorem MkS.start (w : World) (x y z p q r : Value) (T T2 : TypeId) : MkS w ((w.alloc (.cells #[x, y, z] T)).alloc (.cells #[p, q, r] T2)) x y z :=
  ⟨((Below.refl _ _).alloc (Nat.le_refl _) _).alloc (by simp) _, by simp, by simp [go_sem], by simp [go_sem], by simp [go_sem], ⟨p, by simp [go_sem]⟩, ⟨q, by simp [go_sem]⟩, ⟨r, by simp [go_sem]⟩, fun o => by simp [go_sem]⟩
theorem MkS.step {w W W' : World} {x y z : Value} {B : Nat} (h : MkS w W x y z) (hb : Below B W W') (hB : w.heap.size + 2 ≤ B) : MkS w W' x y z := by
  have hc : ∀ b o, b < B → W'.cell? ⟨b, o, none⟩ = W.cell? ⟨b, o, none⟩ := fun b o hh => hb.cell (p := ⟨b, o, none⟩) hh
  have hf : ∀ b o, b < B → W'.frozen? ⟨b, o, none⟩ = W.frozen? ⟨b, o, none⟩ := fun b o hh => hb.frozen (p := ⟨b, o, none⟩) hh
  refine ⟨h.bel.trans (hb.mono (by omega)), Nat.lt_of_lt_of_le h.lt hb.size, ?_, ?_, ?_, ?_, ?_, ?_, fun o => ?_⟩
  · rw [hc _ _ (by omega)]; exact h.b0
  · rw [hc _ _ (by omega)]; exact h.b1
  · rw [hc _ _ (by omega)]; exact h.b2
  · rw [hc _ _ (by omega)]; exact h.r0
  · rw [hc _ _ (by omega)]; exact h.r1
  · rw [hc _ _ (by omega)]; exact h.r2
  · rw [hf _ _ (by omega)]; exact h.y0 o
theorem MkS.next {w W W' : World} {x y z : Value} (h : MkS w W x y z) (hb : Below W.heap.size W W') : MkS w W' x y z := h.step hb (by have := h.lt; omega)
/-- .. and a collection that is being made in a later block. -/
structure MkL (w W : World) (g : Nat) (z nm v u : Value) : Prop where
  bel : Below w.heap.size w W
  lo : w.heap.size + 1 < g
  lt : g < W.heap.size
  b2 : W.cell? ⟨w.heap.size, 2, none⟩ = some z
  r0 : ∃ u, W.cell? ⟨w.heap.size + 1, 0, none⟩ = some u
  r1 : ∃ u, W.cell? ⟨w.heap.size + 1, 1, none⟩ = some u
  r2 : ∃ u, W.cell? ⟨w.heap.size + 1, 2, none⟩ = some u
  y0 : ∀ o, W.frozen? ⟨w.heap.size + 1, o, none⟩ = false
  c0 : W.cell? ⟨g, 0, none⟩ = some nm
  c1 : W.cell? ⟨g, 1, none⟩ = some v
  c2 : W.cell? ⟨g, 2, none⟩ = some u
  z0 : ∀ o, W.frozen? ⟨g, o, none⟩ = false
theorem MkL.start {w W : World} {x y z : Value} (h : MkS w W x y z) (nm v u : Value) (T : TypeId) : MkL w (W.alloc (.cells #[nm, v, u] T)) W.heap.size z nm v u := by
  have h1 := h.next (W' := W.alloc (.cells #[nm, v, u] T)) ((Below.refl _ _).alloc (Nat.le_refl _) _)
  exact ⟨h1.bel, h.lt, by simp, h1.b2, h1.r0, h1.r1, h1.r2, h1.y0, by simp [go_sem], by simp [go_sem], by simp [go_sem], fun o => by simp [go_sem]⟩
theorem MkL.step {w W W' : World} {g : Nat} {z nm v u : Value} {B : Nat} (h : MkL w W g z nm v u) (hb : Below B W W') (hB : g + 1 ≤ B) : MkL w W' g z nm v u := by
  have hg := h.lo
  have hc : ∀ b o, b < B → W'.cell? ⟨b, o, none⟩ = W.cell? ⟨b, o, none⟩ := fun b o hh => hb.cell (p := ⟨b, o, none⟩) hh
  have hf : ∀ b o, b < B → W'.frozen? ⟨b, o, none⟩ = W.frozen? ⟨b, o, none⟩ := fun b o hh => hb.frozen (p := ⟨b, o, none⟩) hh
  refine ⟨h.bel.trans (hb.mono (by omega)), hg, Nat.lt_of_lt_of_le h.lt hb.size, ?_, ?_, ?_, ?_, fun o => ?_, ?_, ?_, ?_, fun o => ?_⟩
  · rw [hc _ _ (by omega)]; exact h.b2
  · rw [hc _ _ (by omega)]; exact h.r0
  · rw [hc _ _ (by omega)]; exact h.r1
  · rw [hc _ _ (by omega)]; exact h.r2
  · rw [hf _ _ (by omega)]; exact h.y0 o
  · rw [hc _ _ (by omega)]; exact h.c0
  · rw [hc _ _ (by omega)]; exact h.c1
  · rw [hc _ _ (by omega)]; exact h.c2
  · rw [hf _ _ (by omega)]; exact h.z0 o
theorem MkL.next {w W W' : World} {g : Nat} {z nm v u : Value} (h : MkL w W g z nm v u) (hb : Below W.heap.size W W') : MkL w W' g z nm v u := h.step hb h.lt
theorem MkL.set1 {w W : World} {g : Nat} {z nm v u : Value} (h : MkL w W g z nm v u) (v' : Value) : MkL w (W.setCell ⟨g, 1, none⟩ v') g z nm v' u := by
  obtain ⟨u0, h0⟩ := h.r0
  obtain ⟨u1, h1⟩ := h.r1
  obtain ⟨u2, h2⟩ := h.r2
  have hlo := h.lo
  have hne : ¬ w.heap.size + 1 = g := by omega
  have hne2 : ¬ g = w.heap.size + 1 := by omega
  have hne3 : ¬ w.heap.size = g := by omega
  have hne4 : ¬ g = w.heap.size := by omega
  have h3 := h.y0; have h4 := h.c0; have h5 := h.c1; have h6 := h.z0; have h7 := h.c2; have h8 := h.b2
  exact ⟨h.bel.setCell (by simp; omega) _, hlo, by simpa [World.setCell] using h.lt, by simp [go_sem, *], ⟨u0, by simp [go_sem, *]⟩, ⟨u1, by simp [go_sem, *]⟩, ⟨u2, by simp [go_sem, *]⟩, fun o => by simp [go_sem, *], by simp [go_sem, *], by simp [go_sem, *], by simp [go_sem, *], fun o => by simp [go_sem, *]⟩
theorem MkL.set2 {w W : World} {g : Nat} {z nm v u : Value} (h : MkL w W g z nm v u) (v' : Value) : MkL w (W.setCell ⟨g, 2, none⟩ v') g z nm v v' := by
  obtain ⟨u0, h0⟩ := h.r0
  obtain ⟨u1, h1⟩ := h.r1
  obtain ⟨u2, h2⟩ := h.r2
  have hlo := h.lo
  have hne : ¬ w.heap.size + 1 = g := by omega
  have hne2 : ¬ g = w.heap.size + 1 := by omega
  have hne3 : ¬ w.heap.size = g := by omega
  have hne4 : ¬ g = w.heap.size := by omega
  have h3 := h.y0; have h4 := h.c0; have h5 := h.c1; have h6 := h.z0; have h7 := h.c2; have h8 := h.b2
  exact ⟨h.bel.setCell (by simp; omega) _, hlo, by simpa [World.setCell] using h.lt, by simp [go_sem, *], ⟨u0, by simp [go_sem, *]⟩, ⟨u1, by simp [go_sem, *]⟩, ⟨u2, by simp [go_sem, *]⟩, fun o => by simp [go_sem, *], by simp [go_sem, *], by simp [go_sem, *], by simp [go_sem, *], fun o => by simp [go_sem, *]⟩

end Go.Proofs.YtncpijfbbgipaaaGreatDoor.Co

/- Collections copied by the program: what it answers. -/
namespace Go.Proofs.YtncpijfbbgipaaaGreatDoor.Co
open Go.RowKit Tr
set_option linter.unusedVariables false

theorem wpList_apqCh {w : World} {ops : Array Oper} {rest : List Oper} {o : Oper} {a : Act} {Q : Exit → Act → World → Prop} (hgd : o.guard = none) (s x : Operand)
    (ho : o.op = .call { callee := .builtin .append, args := #[s, x], argTypes := #[32, 32] }) (base n : Nat) (v : Value) (xs : List Value)
    (hs : a.eval s = v) (hown : w.ownsRow base 67 2 v n xs) (ad : Addr) (m c : Nat) (news : List Value) (hx : a.eval x = .slice (some ad) m c) (hl : news.length = m * 2) (hnews : ∀ j u, news[j]? = some u → w.cell? (ad.add j) = some u) (h1 : ∀ u ∈ news, u.oneCell' = true)
    (hn : n ≤ 1000) (hm : m ≤ 1000) (hbase : base ≤ w.heap.size)
    (hK : ∀ v' w', w'.ownsRow base 67 2 v' (n + m) (xs ++ news) → w.grownBy w' v.ownBlock → (v'.ownBlock = v.ownBlock ∨ v'.ownBlock = some w.heap.size) → wpList Tryz.prog ops Q rest (a.put o.dst v') w') : wpList Tryz.prog ops Q (o :: rest) a w := by
  refine wpList_plain hgd fun K hK2 => ?_
  obtain ⟨i0, hi, hz0, hz1, hz2⟩ := info_parts infoCh
  obtain ⟨v', w', hr, h2, h3, h4, h5⟩ := run_append_own_at (P := Tryz.prog) w base 32 o.type 67 i0 (.agg #[.int .i64 0, .slice none 0 0]) 2 32 Tryz.underlying32 hi hz0 hz1 hz2 rfl (by decide) v n xs hown ad m c news hl hnews h1 (by unfold maxLen; omega) (by omega) hbase
  unfold Oper.wp execOp
  simp only [ho, resolve, invoke, builtin, Sem.run_bind, Sem.run_pure, Result.andThen_ok, List.map_toArray, List.map_cons, List.map_nil, hs, hx, hr]
  exact hK2 _ _ (hK v' w' h2 h3 h5)
theorem wpList_apqDf {w : World} {ops : Array Oper} {rest : List Oper} {o : Oper} {a : Act} {Q : Exit → Act → World → Prop} (hgd : o.guard = none) (s x : Operand)
    (ho : o.op = .call { callee := .builtin .append, args := #[s, x], argTypes := #[33, 33] }) (base n : Nat) (v : Value) (xs : List Value)
    (hs : a.eval s = v) (hown : w.ownsRow base 86 2 v n xs) (ad : Addr) (m c : Nat) (news : List Value) (hx : a.eval x = .slice (some ad) m c) (hl : news.length = m * 2) (hnews : ∀ j u, news[j]? = some u → w.cell? (ad.add j) = some u) (h1 : ∀ u ∈ news, u.oneCell' = true)
    (hn : n ≤ 1000) (hm : m ≤ 1000) (hbase : base ≤ w.heap.size)
    (hK : ∀ v' w', w'.ownsRow base 86 2 v' (n + m) (xs ++ news) → w.grownBy w' v.ownBlock → (v'.ownBlock = v.ownBlock ∨ v'.ownBlock = some w.heap.size) → wpList Tryz.prog ops Q rest (a.put o.dst v') w') : wpList Tryz.prog ops Q (o :: rest) a w := by
  refine wpList_plain hgd fun K hK2 => ?_
  obtain ⟨i0, hi, hz0, hz1, hz2⟩ := info_parts infoDf
  obtain ⟨v', w', hr, h2, h3, h4, h5⟩ := run_append_own_at (P := Tryz.prog) w base 33 o.type 86 i0 (.agg #[.string em, .slice none 0 0]) 2 40 Tryz.underlying33 hi hz0 hz1 hz2 rfl (by decide) v n xs hown ad m c news hl hnews h1 (by unfold maxLen; omega) (by omega) hbase
  unfold Oper.wp execOp
  simp only [ho, resolve, invoke, builtin, Sem.run_bind, Sem.run_pure, Result.andThen_ok, List.map_toArray, List.map_cons, List.map_nil, hs, hx, hr]
  exact hK2 _ _ (hK v' w' h2 h3 h5)
set_option maxRecDepth 4000 in
set_option maxHeartbeats 2000000 in
theorem ownListCh_any (a : Option Addr) (cap : Nat) (f : List Chn) (w : World) (hin : InCh w a f) (hl : f.length ≤ 1000) (hs : ∀ p ∈ f, p.vs.length ≤ 1000 ∧ ∀ e ∈ p.vs, e.doc.t.size ≤ 1048576) :
    Calls Tryz.prog 55 #[.slice a f.length cap, .func (.func 56) #[] #[]] w fun e' w' => (∃ p c, e' = .returned (.slice p f.length c) ∧ OwnChH w' w.heap.size w'.heap.size (.slice p f.length c) f) ∧ Below w.heap.size w w' := by
  have HIN : Hid (InCh _ _ _) := hin
  have HK : Hid _ := hs
  clear hin hs
  go_enter Tryz.func55, Tryz.ntmps55
  go_wp2_with fail
  go_loopw [5, 10] (fun u i wr => ∃ (k : Nat) (pv : Option Addr) (cv : Nat) (vs : Nat → Value) (xs : List Value), k ≤ f.length ∧ i = .int .i64 k ∧ u = .slice pv k cv ∧ PartCh wr w.heap.size (.slice pv k cv) k f k vs xs ∧ Below w.heap.size w wr) (fun _ i _ => f.length - (intOf i).toNat)
  case atStart => exact ⟨0, none, 0, fun _ => .slice none 0 0, [], Nat.zero_le _, rfl, rfl, ⟨⟨rfl, .inl ⟨rfl, rfl⟩⟩, fun i h hi => absurd hi (by omega), fun i h hi => absurd hi (by omega), fun i j h h2 hi => absurd hi (by omega), fun i h hi => absurd hi (by omega)⟩, Below.refl _ _⟩
  case round =>
    obtain ⟨k, pv, cv, vs, xs, hk, rfl, rfl, hP, hbel⟩ := hrel
    have hz := hbel.size
    have HP : Hid (PartCh _ _ _ _ _ _ _ _) := hP
    have HB : Hid (Below _ _ _) := hbel
    clear hP
    by_cases hlt : k < f.length
    · have hlt2 : (k : Int) < (f.length : Int) := by omega
      rcases HIN.out.step hbel with h0 | ⟨b2, off, rfl, hbl2, hc⟩
      · omega
      obtain ⟨z0, pa, ca, z1, hV⟩ := hc k hlt
      have hks := HK.out f[k] (List.getElem_mem _)
      obtain ⟨en, hen⟩ : ∃ en, en = f[k] := ⟨_, rfl⟩
      rw [← hen] at z0 z1 hks hV
      have HEN : Hid _ := hen
      have hbA : Below wr.heap.size wr (wr.alloc (.cells #[.int .i64 en.id, .slice pa en.vs.length ca] 67)) := (Below.refl _ _).alloc (Nat.le_refl _) _
      have HPA : Hid (PartCh _ _ _ _ _ _ _ _) := HP.out.next hbA
      have HBA : Hid (Below w.heap.size w (wr.alloc (.cells #[.int .i64 en.id, .slice pa en.vs.length ca] 67))) := hbel.trans (hbA.mono hz)
      have HV := hV.step hbA
      have hzA := hbA.size
      clear hc hen hbA hV HP hbel HB
      go_wp2_with fail
      generalize (wr.alloc (.cells #[.int .i64 en.id, .slice pa en.vs.length ca] 67)) = WA at HPA HBA HV hzA ⊢
      refine (ownChain_any en pa ca WA HV hks.1 hks.2).mono ?_
      rintro e w6 ⟨⟨u6, rfl, hU⟩, hb6⟩
      obtain ⟨pu, cu, rfl, _⟩ := hU.inVr
      have P6 : Hid (PartCh _ _ _ _ _ _ _ _) := HPA.out.next hb6
      have U6 : Hid (OwnVr w6 WA.heap.size (.slice pu en.vs.length cu) en.vs) := hU
      have hB6 : Below w.heap.size w w6 := HBA.out.trans (hb6.mono HBA.out.size)
      have hz6 := hB6.size
      have HB6 : Hid (Below w.heap.size w w6) := hB6
      have hzW : w.heap.size ≤ WA.heap.size := HBA.out.size
      clear hb6 hB6 HBA hU HV hks
      go_wp2_with (at_builtin; refine wpList_apqCh rfl (.tmp 14) (.tmp 18) rfl w.heap.size k (.slice pv k cv) xs rfl (P6.out.row.alloc _) ⟨w6.heap.size, 0, none⟩ 1 1 [.int .i64 en.id, .slice pu en.vs.length cu] rfl rfl (two_newA _ _ _ _) (two_oneA _ rfl _ _ _) (by omega) (by omega) (by simp; omega) ?_)
      intro v7 w7 o7 g7 at7
      obtain ⟨gv, cw, hvv, _, _, _, _⟩ := rowForm o7 (by omega)
      subst hvv
      have hfr : ∀ {x : Value} {T : TypeId} {s m : Nat} {ys : List Value}, WA.ownsRow w.heap.size T s x m ys → (Value.slice pu en.vs.length cu).ownBlock = none ∨ (Value.slice pu en.vs.length cu).ownBlock ≠ x.ownBlock := by
        intro x T s m ys hx
        cases hb : (Value.slice pu en.vs.length cu).ownBlock with
        | none => exact .inl rfl
        | some g => exact .inr (fun e => by have h1 := (World.ownsRow.lt U6.out g hb).1; have h2 := (hx.lt g e.symm).2; omega)
      have HP8 : Hid (PartCh _ _ _ _ _ _ _ _) := P6.out.snoc hlt HEN.out (owns_mono U6.out hzW) (fun i hi hik => hfr (HPA.out.ents i hi hik)) (hfr HPA.out.row) o7 g7 (by rw [heap_size_alloc]; exact at7)
      have HB8 : Hid (Below w.heap.size w w7) := HB6.out.trans (Below.grown ((Below.refl _ w6).alloc (by omega) (.cells #[.int .i64 en.id, .slice pu en.vs.length cu] 67)) g7 (by simp; omega) (fun b hb => (P6.out.row.lt b hb).1))
      clear o7 g7 at7 hfr P6 U6 HB6 HPA
      go_wp2_with fail
      go_roundw
      case rel => exact ⟨k + 1, _, _, _, _, by omega, by go_num, rfl, HP8.out, HB8.out⟩
      case measure => simp [intOf]; omega
    · obtain rfl : k = f.length := by omega
      have HC0 : Hid (OwnChH wr w.heap.size wr.heap.size (.slice pv f.length cv) f) := OwnCh.ownH ⟨vs, xs, HP.out⟩
      clear HP
      go_wp2_with fail
      go_ret
      exact ⟨⟨_, _, rfl, HC0.out⟩, HB.out⟩
set_option maxRecDepth 4000 in
set_option maxHeartbeats 2000000 in
theorem ownListDf_any (a : Option Addr) (cap : Nat) (f : List Dfn) (w : World) (hin : InDf w a f) (hl : f.length ≤ 1000) (hs : ∀ p ∈ f, p.name.size ≤ 1048576 ∧ p.ps.length ≤ 1000 ∧ ∀ e ∈ p.ps, e.path.size ≤ 1048576) :
    Calls Tryz.prog 57 #[.slice a f.length cap, .func (.func 58) #[] #[]] w fun e' w' => (∃ p c, e' = .returned (.slice p f.length c) ∧ OwnDfH w' w.heap.size w'.heap.size (.slice p f.length c) f) ∧ Below w.heap.size w w' := by
  have HIN : Hid (InDf _ _ _) := hin
  have HK : Hid _ := hs
  clear hin hs
  go_enter Tryz.func57, Tryz.ntmps57
  go_wp2_with fail
  go_loopw [5, 10] (fun u i wr => ∃ (k : Nat) (pv : Option Addr) (cv : Nat) (vs : Nat → Value) (xs : List Value), k ≤ f.length ∧ i = .int .i64 k ∧ u = .slice pv k cv ∧ PartDf wr w.heap.size (.slice pv k cv) k f k vs xs ∧ Below w.heap.size w wr) (fun _ i _ => f.length - (intOf i).toNat)
  case atStart => exact ⟨0, none, 0, fun _ => .slice none 0 0, [], Nat.zero_le _, rfl, rfl, ⟨⟨rfl, .inl ⟨rfl, rfl⟩⟩, fun i h hi => absurd hi (by omega), fun i h hi => absurd hi (by omega), fun i j h h2 hi => absurd hi (by omega), fun i h hi => absurd hi (by omega)⟩, Below.refl _ _⟩
  case round =>
    obtain ⟨k, pv, cv, vs, xs, hk, rfl, rfl, hP, hbel⟩ := hrel
    have hz := hbel.size
    have HP : Hid (PartDf _ _ _ _ _ _ _ _) := hP
    have HB : Hid (Below _ _ _) := hbel
    clear hP
    by_cases hlt : k < f.length
    · have hlt2 : (k : Int) < (f.length : Int) := by omega
      rcases HIN.out.step hbel with h0 | ⟨b2, off, rfl, hbl2, hc⟩
      · omega
      obtain ⟨z0, pa, ca, z1, hV⟩ := hc k hlt
      have hks := HK.out f[k] (List.getElem_mem _)
      obtain ⟨en, hen⟩ : ∃ en, en = f[k] := ⟨_, rfl⟩
      rw [← hen] at z0 z1 hks hV
      have HEN : Hid _ := hen
      have hbA : Below wr.heap.size wr (wr.alloc (.cells #[.string en.name, .slice pa en.ps.length ca] 86)) := (Below.refl _ _).alloc (Nat.le_refl _) _
      have HPA : Hid (PartDf _ _ _ _ _ _ _ _) := HP.out.next hbA
      have HBA : Hid (Below w.heap.size w (wr.alloc (.cells #[.string en.name, .slice pa en.ps.length ca] 86))) := hbel.trans (hbA.mono hz)
      have HV := hV.step hbA
      have hzA := hbA.size
      clear hc hen hbA hV HP hbel HB
      go_wp2_with fail
      generalize (wr.alloc (.cells #[.string en.name, .slice pa en.ps.length ca] 86)) = WA at HPA HBA HV hzA ⊢
      refine (ownDef_any en pa ca WA HV hks.1 hks.2.1 hks.2.2).mono ?_
      rintro e w6 ⟨⟨u6, rfl, hU⟩, hb6⟩
      obtain ⟨pu, cu, rfl, _⟩ := hU.inD
      have P6 : Hid (PartDf _ _ _ _ _ _ _ _) := HPA.out.next hb6
      have U6 : Hid (OwnD w6 WA.heap.size (.slice pu en.ps.length cu) en.ps) := hU
      have hB6 : Below w.heap.size w w6 := HBA.out.trans (hb6.mono HBA.out.size)
      have hz6 := hB6.size
      have HB6 : Hid (Below w.heap.size w w6) := hB6
      have hzW : w.heap.size ≤ WA.heap.size := HBA.out.size
      clear hb6 hB6 HBA hU HV hks
      go_wp2_with (at_builtin; refine wpList_apqDf rfl (.tmp 14) (.tmp 18) rfl w.heap.size k (.slice pv k cv) xs rfl (P6.out.row.alloc _) ⟨w6.heap.size, 0, none⟩ 1 1 [.string en.name, .slice pu en.ps.length cu] rfl rfl (two_newA _ _ _ _) (two_oneA _ rfl _ _ _) (by omega) (by omega) (by simp; omega) ?_)
      intro v7 w7 o7 g7 at7
      obtain ⟨gv, cw, hvv, _, _, _, _⟩ := rowForm o7 (by omega)
      subst hvv
      have hfr : ∀ {x : Value} {T : TypeId} {s m : Nat} {ys : List Value}, WA.ownsRow w.heap.size T s x m ys → (Value.slice pu en.ps.length cu).ownBlock = none ∨ (Value.slice pu en.ps.length cu).ownBlock ≠ x.ownBlock := by
        intro x T s m ys hx
        cases hb : (Value.slice pu en.ps.length cu).ownBlock with
        | none => exact .inl rfl
        | some g => exact .inr (fun e => by have h1 := (World.ownsRow.lt U6.out g hb).1; have h2 := (hx.lt g e.symm).2; omega)
      have HP8 : Hid (PartDf _ _ _ _ _ _ _ _) := P6.out.snoc hlt HEN.out (owns_mono U6.out hzW) (fun i hi hik => hfr (HPA.out.ents i hi hik)) (hfr HPA.out.row) o7 g7 (by rw [heap_size_alloc]; exact at7)
      have HB8 : Hid (Below w.heap.size w w7) := HB6.out.trans (Below.grown ((Below.refl _ w6).alloc (by omega) (.cells #[.string en.name, .slice pu en.ps.length cu] 86)) g7 (by simp; omega) (fun b hb => (P6.out.row.lt b hb).1))
      clear o7 g7 at7 hfr P6 U6 HB6 HPA
      go_wp2_with fail
      go_roundw
      case rel => exact ⟨k + 1, _, _, _, _, by omega, by go_num, rfl, HP8.out, HB8.out⟩
      case measure => simp [intOf]; omega
    · obtain rfl : k = f.length := by omega
      have HC0 : Hid (OwnDfH wr w.heap.size wr.heap.size (.slice pv f.length cv) f) := OwnDf.ownH ⟨vs, xs, HP.out⟩
      clear HP
      go_wp2_with fail
      go_ret
      exact ⟨⟨_, _, rfl, HC0.out⟩, HB.out⟩
theorem keepS {w W W' : World} {x y z : Value} (h : MkS w W x y z) (hb : Below (w.heap.size + 1) W W') : W'.cell? ⟨w.heap.size, 0, none⟩ = some x ∧ W'.cell? ⟨w.heap.size, 1, none⟩ = some y ∧ W'.cell? ⟨w.heap.size, 2, none⟩ = some z :=
  have hl : w.heap.size < w.heap.size + 1 := Nat.lt_succ_self _
  ⟨(hb.cell hl).trans h.b0, (hb.cell hl).trans h.b1, (hb.cell hl).trans h.b2⟩
set_option maxRecDepth 4000 in
set_option maxHeartbeats 4000000 in
theorem ownColl_any (nm : ByteArray) (a d : Option Addr) (cap capd : Nat) (f : List Chn) (ds : List Dfn) (w : World) (hin : InCh w a f) (hid : InDf w d ds) (hn : nm.size ≤ 1048576) (hl : f.length ≤ 1000) (hs : ∀ p ∈ f, p.vs.length ≤ 1000 ∧ ∀ e ∈ p.vs, e.doc.t.size ≤ 1048576) (hld : ds.length ≤ 1000) (hsd : ∀ p ∈ ds, p.name.size ≤ 1048576 ∧ p.ps.length ≤ 1000 ∧ ∀ e ∈ p.ps, e.path.size ≤ 1048576) :
    Calls Tryz.prog 30 #[.agg #[.string nm, .slice a f.length cap, .slice d ds.length capd]] w fun e' w' => (∃ v u mid, e' = .returned (.agg #[.string nm, v, u]) ∧ w.heap.size ≤ mid ∧ mid ≤ w'.heap.size ∧ OwnChH w' w.heap.size mid v f ∧ OwnDfH w' mid w'.heap.size u ds) ∧ Below w.heap.size w w' := by
  have M0 := MkS.start w (.string nm) (.slice a f.length cap) (.slice d ds.length capd) (.string em) (.slice none 0 0) (.slice none 0 0) 35 35
  have HN : Hid (∀ W : World, Calls _ _ _ W _) := fun W => strClone_any nm W hn
  have HL0 := fun (W : World) (hW : Below w.heap.size w W) => ownListCh_any a cap f W (hin.step hW) hl hs
  have HD0 := fun (W : World) (hW : Below w.heap.size w W) => ownListDf_any d capd ds W (hid.step hW) hld hsd
  clear hin hid hs hsd hn
  go_enter Tryz.func30, Tryz.ntmps30
  go_wp2_with fail
  generalize (w.alloc (.cells #[.string nm, .slice a f.length cap, .slice d ds.length capd] 35)).alloc (.cells #[.string em, .slice none 0 0, .slice none 0 0] 35) = W0 at M0 ⊢
  have hbw := M0.bel
  have HL : Hid (∀ W : World, Below W0.heap.size W0 W → Calls _ _ _ W _) := fun W hW => HL0 W (hbw.trans (hW.mono hbw.size))
  have HD : Hid (∀ W : World, Below W0.heap.size W0 W → Calls _ _ _ W _) := fun W hW => HD0 W (hbw.trans (hW.mono hbw.size))
  have b0 := M0.b0
  have b1 := M0.b1
  have b2 := M0.b2
  have hlt0 := M0.lt
  have hltw : w.heap.size < W0.heap.size := Nat.lt_of_succ_lt hlt0
  clear HL0 HD0
  go_region_held3 (fun w0 => w0.cell? ⟨w.heap.size, 0, none⟩ = some (.string nm) ∧ w0.cell? ⟨w.heap.size, 1, none⟩ = some (.slice a f.length cap) ∧ w0.cell? ⟨w.heap.size, 2, none⟩ = some (.slice d ds.length capd)) ((refine keepS M0 ?_; (repeat (first | (with_reducible exact Below.refl _ _) | (with_reducible assumption) | (with_reducible apply below_drewN) | (with_reducible apply Below.drew) | ((with_reducible refine Below.setCell ?_ ?_ _); rotate_left; focus (first | (simp; done) | (simp; omega) | omega)) | ((with_reducible refine Below.alloc ?_ ?_ _); rotate_left; focus (first | (simp; done) | (simp; omega) | omega)))))) ((first | (go_at_call 54; refine (HN.out _).mono ?_; rintro e w5 ⟨rfl, hb⟩; have hB5 : Below W0.heap.size W0 w5 := (show Below W0.heap.size W0 _ by (repeat (first | (with_reducible exact Below.refl _ _) | (with_reducible assumption) | (with_reducible apply below_drewN) | (with_reducible apply Below.drew) | ((with_reducible refine Below.setCell ?_ ?_ _); rotate_left; focus (first | (simp; done) | (simp; omega) | omega)) | ((with_reducible refine Below.alloc ?_ ?_ _); rotate_left; focus (first | (simp; done) | (simp; omega) | omega))))).trans (hb.mono (by first | (simp; done) | (simp; omega) | omega)); have hB5' : Below (w.heap.size + 1) W0 w5 := hB5.mono (by omega); have hz5 := hB5.size; have hn5 := Nat.lt_of_lt_of_le hltw hB5.size; clear hb) | (go_at_call 55; refine (HL.out _ (by (repeat (first | (with_reducible exact Below.refl _ _) | (with_reducible assumption) | (with_reducible apply below_drewN) | (with_reducible apply Below.drew) | ((with_reducible refine Below.setCell ?_ ?_ _); rotate_left; focus (first | (simp; done) | (simp; omega) | omega)) | ((with_reducible refine Below.alloc ?_ ?_ _); rotate_left; focus (first | (simp; done) | (simp; omega) | omega)))))).mono ?_; rintro e w6 ⟨⟨p1, c1, rfl, hU⟩, hb⟩; have hB6 : Below W0.heap.size W0 w6 := (show Below W0.heap.size W0 _ by (repeat (first | (with_reducible exact Below.refl _ _) | (with_reducible assumption) | (with_reducible apply below_drewN) | (with_reducible apply Below.drew) | ((with_reducible refine Below.setCell ?_ ?_ _); rotate_left; focus (first | (simp; done) | (simp; omega) | omega)) | ((with_reducible refine Below.alloc ?_ ?_ _); rotate_left; focus (first | (simp; done) | (simp; omega) | omega))))).trans (hb.mono (by first | (simp; done) | (simp; omega) | omega)); have hB6' : Below (w.heap.size + 1) W0 w6 := hB6.mono (by omega); have hz6 := hB6.size; have hn6 := Nat.lt_of_lt_of_le hltw hB6.size; have U6 : Hid (OwnChH w6 W0.heap.size w6.heap.size (.slice p1 f.length c1) f) := hU.mono (by first | (simp; done) | (simp; omega) | omega) (Nat.le_refl _); clear hb hU) | (go_at_call 57; refine (HD.out _ (by (repeat (first | (with_reducible exact Below.refl _ _) | (with_reducible assumption) | (with_reducible apply below_drewN) | (with_reducible apply Below.drew) | ((with_reducible refine Below.setCell ?_ ?_ _); rotate_left; focus (first | (simp; done) | (simp; omega) | omega)) | ((with_reducible refine Below.alloc ?_ ?_ _); rotate_left; focus (first | (simp; done) | (simp; omega) | omega)))))).mono ?_; rintro e w7 ⟨⟨p2, c2, rfl, hU⟩, hb⟩; have hB67 : Below w6.heap.size w6 w7 := (show Below w6.heap.size w6 _ by (repeat (first | (with_reducible exact Below.refl _ _) | (with_reducible assumption) | (with_reducible apply below_drewN) | (with_reducible apply Below.drew) | ((with_reducible refine Below.setCell ?_ ?_ _); rotate_left; focus (first | (simp; done) | (simp; omega) | omega)) | ((with_reducible refine Below.alloc ?_ ?_ _); rotate_left; focus (first | (simp; done) | (simp; omega) | omega))))).trans (hb.mono (by first | (simp; done) | (simp; omega) | omega)); have V7 : Hid (OwnDfH w7 w6.heap.size w7.heap.size (.slice p2 ds.length c2) ds) := hU.mono (by first | (simp; done) | (simp; omega) | omega) (Nat.le_refl _); have U7 : Hid (OwnChH w7 W0.heap.size w6.heap.size (.slice p1 f.length c1) f) := U6.out.next hB67; have hB7 : Below W0.heap.size W0 w7 := hB6.trans (hB67.mono hz6); have hB7' : Below (w.heap.size + 1) W0 w7 := hB7.mono (by omega); have hn7 := Nat.lt_of_lt_of_le hltw hB7.size; have ho7 := Nat.lt_of_lt_of_le hlt0 hB7.size; have M7 := M0.next hB7; obtain ⟨r0, mr0⟩ := M7.r0; obtain ⟨r1, mr1⟩ := M7.r1; obtain ⟨r2, mr2⟩ := M7.r2; have my0 := M7.y0; clear hb hU M7)))
  all_goals
    try go_wp2_with fail
    have hz67 := hB67.size
    refine bodyPost_ret (v := .agg #[.string nm, .slice p1 f.length c1, .slice p2 ds.length c2]) (by simp [results, Tryz.results30, go_sem, *]) rfl ⟨⟨_, _, w6.heap.size, rfl, by omega, ?_, ?_, ?_⟩, ?_⟩
    · simp [World.setCell]; exact hz67
    · exact (chH_at (chH_at (chH_at U7.out _ _ _ (by omega)) _ _ _ (by omega)) _ _ _ (by omega)).mono (by omega) (Nat.le_refl _)
    · exact (dfH_at (dfH_at (dfH_at V7.out _ _ _ (by omega)) _ _ _ (by omega)) _ _ _ (by omega)).mono (Nat.le_refl _) (by simp [World.setCell])
    · have hbb := hbw.trans (hB7.mono hbw.size)
      (repeat (first | (with_reducible exact Below.refl _ _) | (with_reducible assumption) | (with_reducible apply below_drewN) | (with_reducible apply Below.drew) | ((with_reducible refine Below.setCell ?_ ?_ _); rotate_left; focus (first | (simp; done) | (simp; omega) | omega)) | ((with_reducible refine Below.alloc ?_ ?_ _); rotate_left; focus (first | (simp; done) | (simp; omega) | omega))))

end Go.Proofs.YtncpijfbbgipaaaGreatDoor.Co

/- Collections copied by the specification: what it answers. -/
namespace Go.Proofs.YtncpijfbbgipaaaGreatDoor.Co
open Go.RowKit Tr
set_option linter.unusedVariables false

theorem InVr.cellsOf {w : World} {b off : Nat} {l : List Ver} (hc : ∀ i (h : i < l.length), w.cell? ⟨b, off + i * 5, none⟩ = some (.int .i64 l[i].tm) ∧ w.cell? ⟨b, off + i * 5 + 1, none⟩ = some (.bool l[i].gone) ∧ w.cell? ⟨b, off + i * 5 + 2, none⟩ = some (.int .i64 l[i].doc.k) ∧ w.cell? ⟨b, off + i * 5 + 3, none⟩ = some (.int .i64 l[i].doc.n) ∧ w.cell? ⟨b, off + i * 5 + 4, none⟩ = some (.string l[i].doc.t)) : ∀ j u, (flatVr l)[j]? = some u → w.cell? ((⟨b, off, none⟩ : Addr).add j) = some u := by
  intro j u hj
  have hjl : j < l.length * 5 := by
    rcases Nat.lt_or_ge j (l.length * 5) with h | h
    · exact h
    · rw [List.getElem?_eq_none (by rw [flatVr_len]; exact h)] at hj; cases hj
  have hadd : (⟨b, off, none⟩ : Addr).add j = ⟨b, off + j, none⟩ := by unfold Addr.add; split <;> simp_all
  rw [hadd]
  have hg := flatVr_get l (j / 5) (by omega)
  have hcc := hc (j / 5) (by omega)
  rcases (show j % 5 = 0 ∨ j % 5 = 1 ∨ j % 5 = 2 ∨ j % 5 = 3 ∨ j % 5 = 4 by omega) with h | h | h | h | h
  · have e : j = j / 5 * 5 := by omega
    rw [show (flatVr l)[j]? = (flatVr l)[j / 5 * 5]? by rw [← e], hg.1] at hj
    rw [show off + j = off + j / 5 * 5 by omega, hcc.1]; exact hj
  · have e : j = j / 5 * 5 + 1 := by omega
    rw [show (flatVr l)[j]? = (flatVr l)[j / 5 * 5 + 1]? by rw [← e], hg.2.1] at hj
    rw [show off + j = off + j / 5 * 5 + 1 by omega, hcc.2.1]; exact hj
  · have e : j = j / 5 * 5 + 2 := by omega
    rw [show (flatVr l)[j]? = (flatVr l)[j / 5 * 5 + 2]? by rw [← e], hg.2.2.1] at hj
    rw [show off + j = off + j / 5 * 5 + 2 by omega, hcc.2.2.1]; exact hj
  · have e : j = j / 5 * 5 + 3 := by omega
    rw [show (flatVr l)[j]? = (flatVr l)[j / 5 * 5 + 3]? by rw [← e], hg.2.2.2.1] at hj
    rw [show off + j = off + j / 5 * 5 + 3 by omega, hcc.2.2.2.1]; exact hj
  · have e : j = j / 5 * 5 + 4 := by omega
    rw [show (flatVr l)[j]? = (flatVr l)[j / 5 * 5 + 4]? by rw [← e], hg.2.2.2.2] at hj
    rw [show off + j = off + j / 5 * 5 + 4 by omega, hcc.2.2.2.2]; exact hj
theorem flatVr_one (l : List Ver) : ∀ u ∈ flatVr l, u.oneCell' = true := by
  intro u hu
  unfold flatVr at hu
  obtain ⟨e, _, he⟩ := List.mem_flatMap.1 hu
  exact five_one e u he
theorem InD.cellsOf {w : World} {b off : Nat} {l : List Prt} (hc : ∀ i (h : i < l.length), w.cell? ⟨b, off + i * 2, none⟩ = some (.string l[i].path) ∧ w.cell? ⟨b, off + i * 2 + 1, none⟩ = some (.bool l[i].desc)) : ∀ j u, (flatD l)[j]? = some u → w.cell? ((⟨b, off, none⟩ : Addr).add j) = some u := by
  intro j u hj
  have hjl : j < l.length * 2 := by
    rcases Nat.lt_or_ge j (l.length * 2) with h | h
    · exact h
    · rw [List.getElem?_eq_none (by rw [flatD_len]; exact h)] at hj; cases hj
  have hadd : (⟨b, off, none⟩ : Addr).add j = ⟨b, off + j, none⟩ := by unfold Addr.add; split <;> simp_all
  rw [hadd]
  have hg := flatD_get l (j / 2) (by omega)
  have hcc := hc (j / 2) (by omega)
  rcases (show j % 2 = 0 ∨ j % 2 = 1 by omega) with h | h
  · have e : j = j / 2 * 2 := by omega
    rw [show (flatD l)[j]? = (flatD l)[j / 2 * 2]? by rw [← e], hg.1] at hj
    rw [show off + j = off + j / 2 * 2 by omega, hcc.1]; exact hj
  · have e : j = j / 2 * 2 + 1 := by omega
    rw [show (flatD l)[j]? = (flatD l)[j / 2 * 2 + 1]? by rw [← e], hg.2] at hj
    rw [show off + j = off + j / 2 * 2 + 1 by omega, hcc.2]; exact hj
theorem flatD_one (l : List Prt) : ∀ u ∈ flatD l, u.oneCell' = true := by
  intro u hu
  unfold flatD at hu
  obtain ⟨e, _, he⟩ := List.mem_flatMap.1 hu
  unfold rowD at he
  simp at he
  rcases he with rfl | rfl <;> rfl
theorem rowInD {w : World} {p : Option Addr} {l : List Prt} (h : RowD w p l) : InD w p l := by
  rcases h with rfl | ⟨g, rfl, h⟩
  · exact .inl rfl
  · exact h.inD
/-- A collection's own cells in the first new block, the answer's in the second. -/
structure MkQ (w W : World) (nm v u : Value) : Prop where
  bel : Below w.heap.size w W
  lt : w.heap.size + 1 < W.heap.size
  c0 : W.cell? ⟨w.heap.size, 0, none⟩ = some nm
  c1 : W.cell? ⟨w.heap.size, 1, none⟩ = some v
  c2 : W.cell? ⟨w.heap.size, 2, none⟩ = some u
  z0 : ∀ o, W.frozen? ⟨w.heap.size, o, none⟩ = false
  r0 : ∃ x, W.cell? ⟨w.heap.size + 1, 0, none⟩ = some x
  r1 : ∃ x, W.cell? ⟨w.heap.size + 1, 1, none⟩ = some x
  r2 : ∃ x, W.cell? ⟨w.heap.size + 1, 2, none⟩ = some x
  y0 : ∀ o, W.frozen? ⟨w.heap.size + 1, o, none⟩ = false
theorem MkQ.start (w : World) (nm v u p q r : Value) (T T2 : TypeId) : MkQ w ((w.alloc (.cells #[nm, v, u] T)).alloc (.cells #[p, q, r] T2)) nm v u :=
  ⟨((Below.refl _ _).alloc (Nat.le_refl _) _).alloc (by simp) _, by simp, by simp [go_sem], by simp [go_sem], by simp [go_sem], fun o => by simp [go_sem], ⟨p, by simp [go_sem]⟩, ⟨q, by simp [go_sem]⟩, ⟨r, by simp [go_sem]⟩, fun o => by simp [go_sem]⟩
theorem MkQ.step {w W W' : World} {nm v u : Value} {B : Nat} (h : MkQ w W nm v u) (hb : Below B W W') (hB : w.heap.size + 2 ≤ B) : MkQ w W' nm v u := by
  have hc : ∀ b o, b < B → W'.cell? ⟨b, o, none⟩ = W.cell? ⟨b, o, none⟩ := fun b o hh => hb.cell (p := ⟨b, o, none⟩) hh
  have hf : ∀ b o, b < B → W'.frozen? ⟨b, o, none⟩ = W.frozen? ⟨b, o, none⟩ := fun b o hh => hb.frozen (p := ⟨b, o, none⟩) hh
  refine ⟨h.bel.trans (hb.mono (by omega)), Nat.lt_of_lt_of_le h.lt hb.size, (hc _ _ (by omega)).trans h.c0, (hc _ _ (by omega)).trans h.c1, (hc _ _ (by omega)).trans h.c2, fun o => (hf _ _ (by omega)).trans (h.z0 o), ?_, ?_, ?_, fun o => (hf _ _ (by omega)).trans (h.y0 o)⟩
  · rw [hc _ _ (by omega)]; exact h.r0
  · rw [hc _ _ (by omega)]; exact h.r1
  · rw [hc _ _ (by omega)]; exact h.r2
theorem MkQ.next {w W W' : World} {nm v u : Value} (h : MkQ w W nm v u) (hb : Below W.heap.size W W') : MkQ w W' nm v u := h.step hb (by have := h.lt; omega)
theorem keepQ {w wr w0 : World} {o g k : Nat} {v x y : Value} (h2 : g < w.heap.size) (a0 : wr.cell? ⟨w.heap.size, o, none⟩ = some v) (x0 : wr.cell? ⟨g, k * 2, none⟩ = some x) (x1 : wr.cell? ⟨g, k * 2 + 1, none⟩ = some y) (hb : Below (w.heap.size + 2) wr w0) :
    w0.cell? ⟨w.heap.size, o, none⟩ = some v ∧ w0.cell? ⟨g, k * 2, none⟩ = some x ∧ w0.cell? ⟨g, k * 2 + 1, none⟩ = some y :=
  ⟨(hb.cell (p := ⟨w.heap.size, o, none⟩) (by simp)).trans a0, (hb.cell (p := ⟨g, k * 2, none⟩) (by simp; omega)).trans x0, (hb.cell (p := ⟨g, k * 2 + 1, none⟩) (by simp; omega)).trans x1⟩
set_option maxRecDepth 4000 in
set_option maxHeartbeats 4000000 in
theorem specOwnC_any (nm : ByteArray) (a d : Option Addr) (cap capd : Nat) (f : List Chn) (ds : List Dfn) (w : World) (hin : RowCh w a f) (hid : RowDf w d ds) (hl : f.length ≤ 1000) (hs : ∀ p ∈ f, p.vs.length ≤ 1000 ∧ 0 < p.vs.length) (hld : ds.length ≤ 1000) (hsd : ∀ p ∈ ds, p.ps.length ≤ 1000 ∧ 0 < p.ps.length) :
    Calls Tryz.prog 23 #[.agg #[.string nm, .slice a f.length cap, .slice d ds.length capd]] w fun e' w' => (∃ v u mid, e' = .returned (.agg #[.string nm, v, u]) ∧ w.heap.size ≤ mid ∧ mid ≤ w'.heap.size ∧ OwnChH w' w.heap.size mid v f ∧ OwnDfH w' mid w'.heap.size u ds) ∧ Below w.heap.size w w' := by
  have HIN : Hid (RowCh _ _ _) := hin
  have HID : Hid (RowDf _ _ _) := hid
  have HK : Hid _ := hs
  have HKD : Hid _ := hsd
  have M0 := MkQ.start w (.string nm) (.slice a f.length cap) (.slice d ds.length capd) (.string em) (.slice none 0 0) (.slice none 0 0) 35 35
  have hO0 := World.ownsRow_made (size := 2) (base := w.heap.size + 2) (e := 67) ((w.alloc (.cells #[.string nm, .slice a f.length cap, .slice d ds.length capd] 35)).alloc (.cells #[.string em, .slice none 0 0, .slice none 0 0] 35)) #[] 0 (by simp) (by unfold maxLen; omega) rfl
  simp at hO0
  have M1 := M0.next ((Below.refl _ _).alloc (Nat.le_refl _) (.cells #[] 67))
  clear hin hid hs hsd M0
  go_enter Tryz.func23, Tryz.ntmps23
  go_wp2_with fail
  generalize ((w.alloc (.cells #[.string nm, .slice a f.length cap, .slice d ds.length capd] 35)).alloc (.cells #[.string em, .slice none 0 0, .slice none 0 0] 35)).alloc (.cells #[] 67) = W0 at M1 hO0 ⊢
  go_loopw [3, 4] (fun v i wr => ∃ (k : Nat) (gv cv : Nat) (vs : Nat → Value) (xs : List Value), k ≤ f.length ∧ i = .int .i64 k ∧ v = .slice (some ⟨gv, 0, none⟩) k cv ∧ MkQ w wr (.string nm) (.slice a f.length cap) (.slice d ds.length capd) ∧ PartCh wr (w.heap.size + 2) (.slice (some ⟨gv, 0, none⟩) k cv) k f k vs xs) (fun _ i _ => f.length - (intOf i).toNat)
  case atStart => exact ⟨0, _, _, fun _ => .slice none 0 0, [], Nat.zero_le _, rfl, rfl, M1, ⟨hO0, fun i h hi => absurd hi (by omega), fun i h hi => absurd hi (by omega), fun i j h h2 hi => absurd hi (by omega), fun i h hi => absurd hi (by omega)⟩⟩
  case round =>
    obtain ⟨k, gv, cv, vs, xs, hk, rfl, rfl, M, hP⟩ := hrel
    have hz := M.lt
    have HP : Hid (PartCh _ _ _ _ _ _ _ _) := hP
    have HM : Hid (MkQ _ _ _ _ _) := M
    skip
    have a0 := M.c1
    clear hP M1 hO0 
    by_cases hlt : k < f.length
    · have hlt2 : (k : Int) < (f.length : Int) := by omega
      rcases HIN.out with h0 | ⟨g, rfl, R0⟩
      · subst h0; simp at hlt
      have hgw := R0.lt
      have R := R0.next M.bel
      obtain ⟨x0, pa, ca, x1, t1⟩ := R.cells k hlt
      have hgl := R.lt
      have hsk := (HK.out f[k] (List.getElem_mem _)).1
      have hpos := (HK.out f[k] (List.getElem_mem _)).2
      clear R R0 M
      rcases t1 with h0 | ⟨b2, off, rfl, hbl, hc⟩
      · omega
      have hcs := InVr.cellsOf hc
      have HCS : Hid (∀ W : World, Below wr.heap.size wr W → ∀ j u, (flatVr f[k].vs)[j]? = some u → W.cell? ((⟨b2, off, none⟩ : Addr).add j) = some u) := fun W hW j u hj => by
        have := hcs j u hj
        have hadd : (⟨b2, off, none⟩ : Addr).add j = ⟨b2, off + j, none⟩ := by unfold Addr.add; split <;> simp_all
        rw [hadd] at this ⊢
        exact (hW.cell hbl).trans this
      have hz1 : w.heap.size < wr.heap.size := by omega
      clear hc hcs
      go_wp2_with fail
      go_region_held3 (fun w0 => w0.cell? ⟨w.heap.size, 1, none⟩ = some (.slice (some ⟨g, 0, none⟩) f.length cap) ∧ w0.cell? ⟨g, k * 2, none⟩ = some (.int .i64 f[k].id) ∧ w0.cell? ⟨g, k * 2 + 1, none⟩ = some (.slice (some ⟨b2, off, none⟩) f[k].vs.length ca)) ((refine keepQ hgw a0 x0 x1 ?_; (repeat (first | (with_reducible exact Below.refl _ _) | (with_reducible assumption) | (with_reducible apply below_drewN) | (with_reducible apply Below.drew) | ((with_reducible refine Below.setCell ?_ ?_ _); rotate_left; focus (first | (simp; done) | (simp; omega) | omega)) | ((with_reducible refine Below.alloc ?_ ?_ _); rotate_left; focus (first | (simp; done) | (simp; omega) | omega)))))) (first
        | (refine step_appVr rfl (.tmp 22) (.tmp 28) rfl wr.heap.size 0 (.slice (some ⟨wr.heap.size, 0, none⟩) 0 0) [] (by simp [Act.eval]) (World.ownsRow_made (size := 5) (base := wr.heap.size) (e := 69) _ #[] 0 (by simp) (by unfold maxLen; omega) rfl) ⟨b2, off, none⟩ f[k].vs.length ca (flatVr f[k].vs) (by simp [Act.eval]) (flatVr_len _) (HCS.out _ (by (repeat (first | (with_reducible exact Below.refl _ _) | (with_reducible assumption) | (with_reducible apply below_drewN) | (with_reducible apply Below.drew) | ((with_reducible refine Below.setCell ?_ ?_ _); rotate_left; focus (first | (simp; done) | (simp; omega) | omega)) | ((with_reducible refine Below.alloc ?_ ?_ _); rotate_left; focus (first | (simp; done) | (simp; omega) | omega)))))) (flatVr_one _) (by omega) (by omega) (by simp) ?_; intro v1 w5 o5 g5 at5; obtain ⟨gu, cu, hvu, hgu1, hgu2, _, _⟩ := rowForm o5 (by omega); subst hvu; have B5 : Below wr.heap.size wr w5 := Below.grown (show Below wr.heap.size wr _ by (repeat (first | (with_reducible exact Below.refl _ _) | (with_reducible assumption) | (with_reducible apply below_drewN) | (with_reducible apply Below.drew) | ((with_reducible refine Below.setCell ?_ ?_ _); rotate_left; focus (first | (simp; done) | (simp; omega) | omega)) | ((with_reducible refine Below.alloc ?_ ?_ _); rotate_left; focus (first | (simp; done) | (simp; omega) | omega))))) g5 (by simp) (fun b hb => Nat.le_of_eq (Option.some.inj (show some wr.heap.size = some b from hb))); have c05 := (B5.cell hz1).trans a0; have x05 := (B5.cell hgl).trans x0; have x15 := (B5.cell hgl).trans x1; have hz5 := B5.size; have B5' : Below (w.heap.size + 2) wr w5 := B5.mono (by omega); clear at5)
        | (refine step_appCh rfl (.tmp 15) (.tmp 31) rfl (w.heap.size + 2) k (.slice (some ⟨gv, 0, none⟩) k cv) xs (by simp [Act.eval]) ((HP.out.next B5).row.alloc _) ⟨w5.heap.size, 0, none⟩ 1 1 [.int .i64 f[k].id, .slice (some ⟨gu, 0, none⟩) f[k].vs.length cu] (by simp [Act.eval]) rfl (two_newA _ _ _ _) (two_oneA _ rfl _ _ _) (by omega) (by omega) (by simp; omega) ?_; intro v2 w7 o7 g7 at7; have B7 : Below (w.heap.size + 2) w5 w7 := Below.grown ((Below.refl _ w5).alloc (by omega) (.cells #[.int .i64 f[k].id, .slice (some ⟨gu, 0, none⟩) f[k].vs.length cu] 67)) g7 (by simp; omega) (fun b hb => (HP.out.row.lt b hb).1); have B7' : Below (w.heap.size + 2) wr w7 := B5'.trans (B7.mono (by omega))))
      all_goals
        have hP8 := (HP.out.next B5).snoc hlt rfl (show OwnVr w5 (w.heap.size + 2) (.slice (some ⟨gu, 0, none⟩) f[k].vs.length cu) f[k].vs from owns_mono (by have h := o5; rw [Nat.zero_add, List.nil_append] at h; exact h) (by omega)) (fun i hi hik => .inr (fun e => by have := (World.ownsRow.lt (HP.out.ents i hi hik) gu e.symm).2; omega)) (.inr (fun e => by have := (HP.out.row.lt gu e.symm).2; omega)) o7 g7 at7
        obtain ⟨gw, cw, hvw, _, _, _, _⟩ := rowForm o7 (by omega)
        subst hvw
        have HP8 : Hid (PartCh _ _ _ _ _ _ _ _) := hP8
        have HM8 : Hid (MkQ _ _ _ _ _) := HM.out.step B7' (Nat.le_refl _)
        skip
        clear o7 g7 at7 hP8 o5 g5 B5 B5' B7' B7 c05 x05 x15
        go_wp2_with fail
        go_roundw
        case rel => exact ⟨k + 1, gw, cw, _, _, by omega, by go_num, rfl, HM8.out, HP8.out⟩
        case measure => simp [intOf]; omega
    · obtain rfl : k = f.length := by omega
      have hC0 : OwnChH wr (w.heap.size + 2) wr.heap.size (.slice (some ⟨gv, 0, none⟩) f.length cv) f := OwnCh.ownH ⟨vs, xs, HP.out⟩
      have hbD : Below wr.heap.size wr (wr.alloc (.cells #[] 86)) := (Below.refl _ _).alloc (Nat.le_refl _) _
      have hO0 := World.ownsRow_made (size := 2) (base := wr.heap.size) (e := 86) wr #[] 0 (Nat.le_refl _) (by unfold maxLen; omega) rfl
      try simp at hO0
      have HC0 : Hid (OwnChH _ _ _ _ _) := hC0.next hbD
      have M1 := M.next hbD
      have hmid := hbD.size
      have hl1 : w.heap.size < wr.heap.size := by omega
      clear hC0 HP HM hbD M
      go_wp2_with fail
      generalize wr.alloc (.cells #[] 86) = W2 at HC0 M1 hmid hO0 ⊢
      obtain ⟨mid, hmid'⟩ : ∃ mid, mid = wr.heap.size := ⟨_, rfl⟩
      have hGm : w.heap.size + 2 ≤ mid := by omega
      rw [← hmid'] at HC0 hmid hO0 ⊢
      obtain ⟨g1, hg1⟩ : ∃ g1, g1 = gv := ⟨_, rfl⟩
      obtain ⟨c1, hc1⟩ : ∃ c1, c1 = cv := ⟨_, rfl⟩
      rw [← hg1, ← hc1] at HC0 ⊢
      clear hg1 hc1 hmid' a0
      go_loopw [5, 6] (fun v i wr => ∃ (k : Nat) (gv cv : Nat) (vs : Nat → Value) (xs : List Value), k ≤ ds.length ∧ i = .int .i64 k ∧ v = .slice (some ⟨gv, 0, none⟩) k cv ∧ MkQ w wr (.string nm) (.slice a f.length cap) (.slice d ds.length capd) ∧ mid ≤ wr.heap.size ∧ OwnChH wr (w.heap.size + 2) mid (.slice (some ⟨g1, 0, none⟩) f.length c1) f ∧ PartDf wr (mid) (.slice (some ⟨gv, 0, none⟩) k cv) k ds k vs xs) (fun _ i _ => ds.length - (intOf i).toNat)
      case atStart => exact ⟨0, _, _, fun _ => .slice none 0 0, [], Nat.zero_le _, rfl, rfl, M1, hmid, HC0.out, ⟨hO0, fun i h hi => absurd hi (by omega), fun i h hi => absurd hi (by omega), fun i j h h2 hi => absurd hi (by omega), fun i h hi => absurd hi (by omega)⟩⟩
      case round =>
        obtain ⟨k, gv, cv, vs, xs, hk, rfl, rfl, M, hmr, hC, hP⟩ := hrel
        have hz := M.lt
        have HP : Hid (PartDf _ _ _ _ _ _ _ _) := hP
        have HM : Hid (MkQ _ _ _ _ _) := M
        have HCC : Hid (OwnChH _ _ _ _ _) := hC
        have a0 := M.c2
        clear hP M1 hO0 hC HC0
        by_cases hlt : k < ds.length
        · have hlt2 : (k : Int) < (ds.length : Int) := by omega
          rcases HID.out with h0 | ⟨g, rfl, R0⟩
          · subst h0; simp at hlt
          have hgw := R0.lt
          have R := R0.next M.bel
          obtain ⟨x0, pa, ca, x1, _, t0⟩ := R.cells k hlt
          have t1 := rowInD t0
          clear t0
          have hgl := R.lt
          have hsk := (HKD.out ds[k] (List.getElem_mem _)).1
          have hpos := (HKD.out ds[k] (List.getElem_mem _)).2
          clear R R0 M
          rcases t1 with h0 | ⟨b2, off, rfl, hbl, hc⟩
          · omega
          have hcs := InD.cellsOf hc
          have HCS : Hid (∀ W : World, Below wr.heap.size wr W → ∀ j u, (flatD ds[k].ps)[j]? = some u → W.cell? ((⟨b2, off, none⟩ : Addr).add j) = some u) := fun W hW j u hj => by
            have := hcs j u hj
            have hadd : (⟨b2, off, none⟩ : Addr).add j = ⟨b2, off + j, none⟩ := by unfold Addr.add; split <;> simp_all
            rw [hadd] at this ⊢
            exact (hW.cell hbl).trans this
          have hz1 : w.heap.size < wr.heap.size := by omega
          clear hc hcs
          go_wp2_with fail
          go_region_held3 (fun w0 => w0.cell? ⟨w.heap.size, 2, none⟩ = some (.slice (some ⟨g, 0, none⟩) ds.length capd) ∧ w0.cell? ⟨g, k * 2, none⟩ = some (.string ds[k].name) ∧ w0.cell? ⟨g, k * 2 + 1, none⟩ = some (.slice (some ⟨b2, off, none⟩) ds[k].ps.length ca)) ((refine keepQ hgw a0 x0 x1 ?_; (repeat (first | (with_reducible exact Below.refl _ _) | (with_reducible assumption) | (with_reducible apply below_drewN) | (with_reducible apply Below.drew) | ((with_reducible refine Below.setCell ?_ ?_ _); rotate_left; focus (first | (simp; done) | (simp; omega) | omega)) | ((with_reducible refine Below.alloc ?_ ?_ _); rotate_left; focus (first | (simp; done) | (simp; omega) | omega)))))) (first
            | (refine step_appD rfl (.tmp 48) (.tmp 54) rfl wr.heap.size 0 (.slice (some ⟨wr.heap.size, 0, none⟩) 0 0) [] (by simp [Act.eval]) (World.ownsRow_made (size := 2) (base := wr.heap.size) (e := 112) _ #[] 0 (by simp) (by unfold maxLen; omega) rfl) ⟨b2, off, none⟩ ds[k].ps.length ca (flatD ds[k].ps) (by simp [Act.eval]) (flatD_len _) (HCS.out _ (by (repeat (first | (with_reducible exact Below.refl _ _) | (with_reducible assumption) | (with_reducible apply below_drewN) | (with_reducible apply Below.drew) | ((with_reducible refine Below.setCell ?_ ?_ _); rotate_left; focus (first | (simp; done) | (simp; omega) | omega)) | ((with_reducible refine Below.alloc ?_ ?_ _); rotate_left; focus (first | (simp; done) | (simp; omega) | omega)))))) (flatD_one _) (by omega) (by omega) (by simp) ?_; intro v1 w5 o5 g5 at5; obtain ⟨gu, cu, hvu, hgu1, hgu2, _, _⟩ := rowForm o5 (by omega); subst hvu; have B5 : Below wr.heap.size wr w5 := Below.grown (show Below wr.heap.size wr _ by (repeat (first | (with_reducible exact Below.refl _ _) | (with_reducible assumption) | (with_reducible apply below_drewN) | (with_reducible apply Below.drew) | ((with_reducible refine Below.setCell ?_ ?_ _); rotate_left; focus (first | (simp; done) | (simp; omega) | omega)) | ((with_reducible refine Below.alloc ?_ ?_ _); rotate_left; focus (first | (simp; done) | (simp; omega) | omega))))) g5 (by simp) (fun b hb => Nat.le_of_eq (Option.some.inj (show some wr.heap.size = some b from hb))); have c05 := (B5.cell hz1).trans a0; have x05 := (B5.cell hgl).trans x0; have x15 := (B5.cell hgl).trans x1; have hz5 := B5.size; have B5' : Below (w.heap.size + 2) wr w5 := B5.mono (by omega); clear at5)
            | (refine step_appDf rfl (.tmp 41) (.tmp 57) rfl (mid) k (.slice (some ⟨gv, 0, none⟩) k cv) xs (by simp [Act.eval]) ((HP.out.next B5).row.alloc _) ⟨w5.heap.size, 0, none⟩ 1 1 [.string ds[k].name, .slice (some ⟨gu, 0, none⟩) ds[k].ps.length cu] (by simp [Act.eval]) rfl (two_newA _ _ _ _) (two_oneA _ rfl _ _ _) (by omega) (by omega) (by simp; omega) ?_; intro v2 w7 o7 g7 at7; have B7 : Below (mid) w5 w7 := Below.grown ((Below.refl _ w5).alloc (by omega) (.cells #[.string ds[k].name, .slice (some ⟨gu, 0, none⟩) ds[k].ps.length cu] 86)) g7 (by simp; omega) (fun b hb => (HP.out.row.lt b hb).1); have B7' : Below (w.heap.size + 2) wr w7 := B5'.trans (B7.mono (by omega))))
          all_goals
            have hP8 := (HP.out.next B5).snoc hlt rfl (show OwnD w5 (mid) (.slice (some ⟨gu, 0, none⟩) ds[k].ps.length cu) ds[k].ps from owns_mono (by have h := o5; rw [Nat.zero_add, List.nil_append] at h; exact h) (by omega)) (fun i hi hik => .inr (fun e => by have := (World.ownsRow.lt (HP.out.ents i hi hik) gu e.symm).2; omega)) (.inr (fun e => by have := (HP.out.row.lt gu e.symm).2; omega)) o7 g7 at7
            obtain ⟨gw, cw, hvw, _, _, _, _⟩ := rowForm o7 (by omega)
            subst hvw
            have HP8 : Hid (PartDf _ _ _ _ _ _ _ _) := hP8
            have HM8 : Hid (MkQ _ _ _ _ _) := HM.out.step B7' (Nat.le_refl _)
            have HC8 : Hid (OwnChH _ _ _ _ _) := (HCC.out.next B5).chg (chg_low B7) (.inl (Nat.le_refl _))
            have hm7 : mid ≤ w7.heap.size := Nat.le_trans (Nat.le_trans hmr B5.size) B7.size
            clear o7 g7 at7 hP8 o5 g5 B5 B5' B7' B7 c05 x05 x15
            go_wp2_with fail
            go_roundw
            case rel => exact ⟨k + 1, gw, cw, _, _, by omega, by go_num, rfl, HM8.out, hm7, HC8.out, HP8.out⟩
            case measure => simp [intOf]; omega
        · obtain rfl : k = ds.length := by omega
          have HT : Hid (OwnDf wr mid (.slice (some ⟨gv, 0, none⟩) ds.length cv) ds) := ⟨vs, xs, HP.out⟩
          obtain ⟨mb, ml, mc0, mc1, mc2, mz0, ⟨r0, mr0⟩, ⟨r1, mr1⟩, ⟨r2, mr2⟩, my0⟩ := M
          clear HP HM
          go_wp2_with fail
          refine bodyPost_ret (v := .agg #[.string nm, .slice (some ⟨g1, 0, none⟩) f.length c1, .slice (some ⟨gv, 0, none⟩) ds.length cv]) (by simp [results, Tryz.results23, go_sem, *]) rfl ⟨⟨_, _, mid, rfl, by omega, ?_, ?_, ?_⟩, ?_⟩
          · simp [World.setCell]; exact hmr
          · exact (chH_at (chH_at (chH_at (chH_at (chH_at HCC.out _ _ _ (by omega)) _ _ _ (by omega)) _ _ _ (by omega)) _ _ _ (by omega)) _ _ _ (by omega)).mono (by omega) (Nat.le_refl _)
          · exact (dfH_at (dfH_at (dfH_at (dfH_at (dfH_at HT.out.ownH _ _ _ (by omega)) _ _ _ (by omega)) _ _ _ (by omega)) _ _ _ (by omega)) _ _ _ (by omega)).mono (Nat.le_refl _) (by simp [World.setCell])
          · (repeat (first | (with_reducible exact Below.refl _ _) | (with_reducible assumption) | (with_reducible apply below_drewN) | (with_reducible apply Below.drew) | ((with_reducible refine Below.setCell ?_ ?_ _); rotate_left; focus (first | (simp; done) | (simp; omega) | omega)) | ((with_reducible refine Below.alloc ?_ ?_ _); rotate_left; focus (first | (simp; done) | (simp; omega) | omega))))

end Go.Proofs.YtncpijfbbgipaaaGreatDoor.Co
