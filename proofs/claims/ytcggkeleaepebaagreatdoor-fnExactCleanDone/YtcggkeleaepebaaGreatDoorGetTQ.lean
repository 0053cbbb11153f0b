/- What the specification's way along a path answers, for every right value: the whole of it. -/
import Derived.Test.YtcggkeleaepebaaGreatDoorDocBQ
import Derived.Laws.AppendOwnNone
import Derived.Deep.DeepCutAuto
import Derived.Maps.AppendAt
import Derived.Deep.RegionWith
import Derived.Test.YtcggkeleaepebaaGreatDoorSplitS
namespace Go.Proofs.YtcggkeleaepebaaGreatDoor
open Go.RowKit
set_option linter.unusedVariables false

/-- A row of values in new memory is answered. -/
def OutV (l : List Val) (w' : World) (e : Ending) : Prop := ∃ g cap, e = .returned (.slice (some ⟨g, 0, none⟩) l.length cap) ∧ ReadV w' g l
theorem OutV.mk {l : List Val} {w' : World} {e : Ending} (g cap : Nat) (h : e = .returned (.slice (some ⟨g, 0, none⟩) l.length cap)) (hr : ReadV w' g l) : OutV l w' e := ⟨g, cap, h, hr⟩
theorem owns_one (w : World) (v : Val) {base : Nat} (hb : base ≤ w.heap.size) : (w.alloc (.cells #[.int .i64 v.k, .int .i64 v.n, .string v.t] 82)).ownsRow base 82 3 (.slice (some ⟨w.heap.size, 0, none⟩) 1 1) 1 (flat [v]) :=
  ⟨rfl, .inr ⟨w.heap.size, 1, _, rfl, hb, heap_alloc_new w _, Nat.le_refl _, by unfold maxLen; omega, rfl, rfl⟩⟩
theorem flat_one (l : List Val) : ∀ u ∈ flat l, u.oneCell' = true := by
  intro u hu
  unfold flat at hu
  obtain ⟨v, _, hv⟩ := List.mem_flatMap.mp hu
  simp [row] at hv
  rcases hv with rfl | rfl | rfl <;> rfl
theorem addr0 (g j : Nat) : (⟨g, 0, none⟩ : Addr).add j = ⟨g, j, none⟩ := by unfold Addr.add; split <;> simp_all
theorem ReadV.flat {w : World} {g : Nat} {l : List Val} (h : ReadV w g l) : ∀ j u, (flat l)[j]? = some u → w.cell? ((⟨g, 0, none⟩ : Addr).add j) = some u := by
  intro j u hu
  rw [addr0]
  obtain ⟨i, hi, hc⟩ := flat_at l j u hu
  have hx := h.cells i hi
  rcases hc with ⟨rfl, rfl⟩ | ⟨rfl, rfl⟩ | ⟨rfl, rfl⟩
  · exact hx.1
  · exact hx.2.1
  · exact hx.2.2
theorem flat_app (a b : List Val) : flat (a ++ b) = flat a ++ flat b := by unfold flat; simp

/-- Some block of U holds three cells, and all that lay in w lies in U as it did. -/
structure Lies3 (w U : World) (b : Nat) (x y z : Value) : Prop where
  bel : Below w.heap.size w U
  lt : b < U.heap.size
  c0 : U.cell? ⟨b, 0, none⟩ = some x
  c1 : U.cell? ⟨b, 1, none⟩ = some y
  c2 : U.cell? ⟨b, 2, none⟩ = some z

def GetAt (ws : List ByteArray) : Prop := ∀ (d : Nat) (v : Val) (g off cap : Nat) (w : World), fits d v = true → v.t.size ≤ 300 → ws.length ≤ cap → ReadS w g off ws →
    Calls Tryz.prog 165 #[.agg #[.int .i64 v.k, .int .i64 v.n, .string v.t], .slice (some ⟨g, off, none⟩) ws.length cap] w fun e w' => OutV (getP ws v) w' e ∧ Below w.heap.size w w'

set_option maxRecDepth 4000 in
set_option maxHeartbeats 2000000 in
theorem get_end : GetAt [] := by
  intro d v g off cap w hf hs hcap hr
  obtain ⟨i0, hi0, hz0, hz1, hz2⟩ := info_parts infoV
  rw [getP_end]
  have X0 := Boxed.start w (.int .i64 v.k) (.int .i64 v.n) (.string v.t) 82
  have X1 := X0.step ((Below.refl _ _).alloc (Nat.le_refl _) (.cells #[.int .i64 v.k, .int .i64 v.n, .string v.t] 82))
  have O1 := owns_one (w.alloc (.cells #[.int .i64 v.k, .int .i64 v.n, .string v.t] 82)) v (base := w.heap.size) (by simp)
  clear hr
  by_cases h4 : v.k = 4
  · rw [if_pos h4]
    obtain ⟨hs1, hi, hl, _⟩ := list_parts d v hf h4
    have HI : Hid _ := hi
    obtain ⟨L, hL⟩ : ∃ L, L = itms v := ⟨_, rfl⟩
    rw [← hL] at HI hl ⊢
    have e4 : (v.k == 4) = true := by simp [h4]
    clear hi hL hf h4 X0
    go_enter Tryz.func165, Tryz.ntmps165
    go_wp2_with fail
    refine (l01Items_any v.t _ (by omega)).mono ?_
    rintro e w1 ⟨⟨g1, m, cap1, rfl, hown0⟩, hb⟩
    obtain ⟨rfl, hown1⟩ := hown0 L HI.out
    rw [HI.out]
    have O2 := owns_below O1 hb
    have X2 := X1.step hb
    have hbw := X2.bel
    have hz := hbw.size
    simp only [heap_size_alloc] at O2
    clear hown0 hb X1 X2 O1
    go_wp2_with (at_builtin; refine wpList_append_own _ rfl (.tmp 28) (.tmp 29) 181 rfl w.heap.size 82 i0 (.agg #[.int .i64 0, .int .i64 0, .string em]) 3 32 Tryz.underlying181 hi0 hz0 hz1 hz2 rfl (by decide) _ _ _ rfl O2 ⟨g1, 0, none⟩ L.length cap1 (flat L) rfl (flat_len L) (hown1.cells rfl) (flat_one L) ?c3 ?c4 hz ?_)
    case c3 => unfold maxLen; omega
    case c4 => omega
    intro v' w2 hown2 hgrow hnv
    have hb2 : Below w.heap.size w w2 := Below.grown hbw hgrow hz (owns_block O2)
    rw [← flat_app, show 1 + L.length = (v :: L).length by simp; omega] at hown2
    obtain ⟨g3, cap3, hv⟩ := owns_shape hown2 hnv
    subst hv
    have R := ReadV.of_own hown2
    have HR : Hid _ := R
    clear hown2 hgrow hnv hown1 O2 R hbw hz
    go_wp2_with fail
    go_ret
    exact ⟨OutV.mk g3 cap3 rfl HR.out, hb2⟩
  · rw [if_neg h4]
    have e4 : (v.k == 4) = false := beq_eq_false_iff_ne.mpr h4
    have R := ReadV.of_own (l := [v]) O1
    simp only [heap_size_alloc] at R
    have HR : Hid _ := R
    have hbw := X1.bel
    clear R O1 X0 hf h4 X1
    go_enter Tryz.func165, Tryz.ntmps165
    go_wp2_with fail
    go_ret
    exact ⟨OutV.mk _ 1 rfl HR.out, hbw⟩

theorem tailS {w : World} {g off : Nat} {x : ByteArray} {l : List ByteArray} (h : ReadS w g off (x :: l)) (cap : Nat) (hcap : l.length + 1 ≤ cap) : ReadS w g (if cap - 1 = 0 then off else off + 1) l := by
  by_cases hc : cap - 1 = 0
  · rw [if_pos hc]
    have : l = [] := List.eq_nil_of_length_eq_zero (by omega)
    subst this
    exact ⟨h.lt, fun i hi => absurd hi (by simp)⟩
  · rw [if_neg hc]; exact h.tail
set_option maxRecDepth 4000 in
set_option maxHeartbeats 2000000 in
theorem get_doc (nm : ByteArray) (ws : List ByteArray) (ih : GetAt ws) (d : Nat) (n : Int) (t : ByteArray) (g off cap : Nat) (w : World) (hf : fits d ⟨5, n, t⟩ = true) (hr : ReadS w g off (nm :: ws)) (hws : ws.length ≤ 1000) (hcap : ws.length + 1 ≤ cap) :
    Calls Tryz.prog 165 #[.agg #[.int .i64 5, .int .i64 n, .string t], .slice (some ⟨g, off, none⟩) (ws.length + 1) cap] w fun e w' => OutV (docP (getP ws) nm ⟨5, n, t⟩) w' e ∧ Below w.heap.size w w' := by
  obtain ⟨hs, hfi, hl, hrise, d', rfl, hall, _⟩ := doc_parts d ⟨5, n, t⟩ hf rfl
  obtain ⟨L, hL⟩ : ∃ L, L = flds ⟨5, n, t⟩ := ⟨_, rfl⟩
  rw [← hL] at hfi hall hl
  have HA : Hid _ := hall
  have hs' : t.size ≤ 300 := hs
  have hfi' : fields t = some L := hfi
  have X0 := Boxed.start w (.int .i64 5) (.int .i64 n) (.string t) 82
  have R0 := hr.next X0.bel
  have n0 := R0.cells 0 (by simp)
  rw [Nat.add_zero] at n0
  have n1 : (w.alloc (.cells #[.int .i64 5, .int .i64 n, .string t] 82)).cell? ⟨g, off, none⟩ = some (.string nm) := n0
  have hgl := hr.lt
  have HT : Hid _ := tailS hr cap hcap
  have HC1 := fun W : World => l02Field_any 5 n t nm L W (by omega) hfi' (by omega)
  have HI : Hid (GetAt _) := ih
  obtain ⟨P, hP⟩ : ∃ P, P = fieldR nm L := ⟨_, rfl⟩
  rw [← hP] at HC1
  obtain ⟨⟨xk, xn, xt⟩, xb⟩ := P
  have HC0 : ∀ W : World, Calls Tryz.prog 131 #[.agg #[.int .i64 5, .int .i64 n, .string t], .string nm] W fun e w' => e = .returned (.tuple #[.agg #[.int .i64 xk, .int .i64 xn, .string xt], .bool xb]) ∧ Below W.heap.size W w' := HC1
  obtain ⟨D, hD⟩ : ∃ D, D = docP (getP ws) nm ⟨5, n, t⟩ := ⟨_, rfl⟩
  rw [← hD]
  have hcase : (xb = false ∧ D = []) ∨ (xb = true ∧ D = getP ws ⟨xk, xn, xt⟩ ∧ fits d' ⟨xk, xn, xt⟩ = true ∧ xt.size ≤ 300) := by
    cases hfv : fieldV nm L with
    | none =>
      rw [fieldR_none nm L hfv] at hP
      injection hP with h1 h2
      exact .inl ⟨h2, by rw [hD, docP_none _ _ _ (by rw [← hL]; exact hfv)]⟩
    | some x =>
      rw [fieldR_some nm L x hfv] at hP
      injection hP with h1 h2
      obtain ⟨f, hfm, hfx⟩ := fieldV_mem nm x L hfv
      have hok := hall f hfm
      rw [hfx, ← h1] at hok
      exact .inr ⟨h2, by rw [hD, docP_some _ _ _ _ (by rw [← hL]; exact hfv), h1], hok.1, hok.2.1⟩
  have HC : Hid _ := HC0
  have HCS : Hid _ := hcase
  clear n0 HC0 HC1 ih hL hfi hfi' hs hf hD hP hall hcase
  go_enter Tryz.func165, Tryz.ntmps165
  go_wp2_with fail
  generalize w.alloc (.cells #[.int .i64 5, .int .i64 n, .string t] 82) = W0 at X0 R0 n1 ⊢
  have a0 := X0.c0
  have a1 := X0.c1
  have a2 := X0.c2
  have hlt0 := X0.lt
  have hgW := R0.lt
  have hpos : (0 : Int) < (ws.length : Int) + 1 := by omega
  go_cut [8, 9] (fun s8 s9 wx => ∃ b, s8 = .pointer (some ⟨b, 0, none⟩) ∧ s9 = .bool xb ∧ Lies3 w wx b (.int .i64 xk) (.int .i64 xn) (.string xt))
  case first =>
    go_region_with (go_at_call 131; refine (HC.out _).mono ?_; rintro e w1 ⟨rfl, hb⟩; obtain ⟨hc, hf⟩ := bcell hb; have hz := hb.size; simp at hz)
    all_goals
      have hbw0 : Below W0.heap.size W0 w1 := by first | exact (Below.refl _ _).drew.trans (hb.mono (by simp)) | exact ((Below.refl _ _).alloc (Nat.le_refl _) _).drew.trans (hb.mono (by simp))
      have hbw : Below w.heap.size w w1 := X0.bel.trans (hbw0.mono X0.bel.size)
      have hzz := hbw0.size
      have hz1 := hbw.size
      try go_wp2_with fail
      go_meet
      exact ⟨_, rfl, rfl, ⟨by (repeat (first | (with_reducible exact Below.refl _ _) | (with_reducible assumption) | (with_reducible apply below_drewN) | (with_reducible apply Below.drew) | ((with_reducible refine Below.setCell ?_ ?_ _); rotate_left; focus (first | (simp; done) | (simp; omega) | omega)) | ((with_reducible refine Below.alloc ?_ ?_ _); rotate_left; focus (first | (simp; done) | (simp; omega) | omega)))), by simp; try omega, by simp [go_sem, *], by simp [go_sem, *], by simp [go_sem, *]⟩⟩
  case rest =>
    obtain ⟨b, rfl, rfl, Y⟩ := hcut
    have b0 := Y.c0
    have b1 := Y.c1
    have b2 := Y.c2
    have hblt := Y.lt
    have hbw := Y.bel
    have hz1 := hbw.size
    rcases HCS.out with ⟨hxb, hD⟩ | ⟨hxb, hD, hfx, hsx⟩
    · subst hxb hD
      clear Y
      go_wp2_with fail
      go_ret
      exact ⟨OutV.mk _ _ rfl ⟨by simp, fun i hi => absurd hi (by simp)⟩, by (repeat (first | (with_reducible exact Below.refl _ _) | (with_reducible assumption) | (with_reducible apply below_drewN) | (with_reducible apply Below.drew) | ((with_reducible refine Below.setCell ?_ ?_ _); rotate_left; focus (first | (simp; done) | (simp; omega) | omega)) | ((with_reducible refine Below.alloc ?_ ?_ _); rotate_left; focus (first | (simp; done) | (simp; omega) | omega))))⟩
    · subst hxb hD
      have HK : Hid _ := hfx
      have hrt := HT.out.next hbw
      have hgc : g < wc.heap.size := by omega
      clear hfx Y
      by_cases hc1 : cap - 1 = 0
      · rw [if_pos hc1] at hrt
        have HRT : Hid _ := hrt
        clear hrt
        go_wp2_with fail
        go_region_with (go_at_call 165; refine (HI.out d' ⟨xk, xn, xt⟩ g off _ _ HK.out hsx (by omega) (HRT.out.next (by (repeat (first | (with_reducible exact Below.refl _ _) | (with_reducible assumption) | (with_reducible apply below_drewN) | (with_reducible apply Below.drew) | ((with_reducible refine Below.setCell ?_ ?_ _); rotate_left; focus (first | (simp; done) | (simp; omega) | omega)) | ((with_reducible refine Below.alloc ?_ ?_ _); rotate_left; focus (first | (simp; done) | (simp; omega) | omega))))))).mono ?_; rintro e w2 ⟨⟨g2, cap2, rfl, R2⟩, hb2⟩)
        all_goals
          have HR2 : Hid _ := R2
          have hb3 : Below w.heap.size w w2 := hbw.trans ((show Below wc.heap.size wc w2 from (show Below wc.heap.size wc _ by (repeat (first | (with_reducible exact Below.refl _ _) | (with_reducible assumption) | (with_reducible apply below_drewN) | (with_reducible apply Below.drew) | ((with_reducible refine Below.setCell ?_ ?_ _); rotate_left; focus (first | (simp; done) | (simp; omega) | omega)) | ((with_reducible refine Below.alloc ?_ ?_ _); rotate_left; focus (first | (simp; done) | (simp; omega) | omega))))).trans (hb2.mono (by simp))).mono hz1)
          clear R2 hb2
          go_wp2_with fail
          go_ret
          exact ⟨OutV.mk g2 cap2 rfl HR2.out, hb3⟩
      · rw [if_neg hc1] at hrt
        have HRT : Hid _ := hrt
        clear hrt
        go_wp2_with fail
        go_region_with (go_at_call 165; refine (HI.out d' ⟨xk, xn, xt⟩ g (off + 1) _ _ HK.out hsx (by omega) (HRT.out.next (by (repeat (first | (with_reducible exact Below.refl _ _) | (with_reducible assumption) | (with_reducible apply below_drewN) | (with_reducible apply Below.drew) | ((with_reducible refine Below.setCell ?_ ?_ _); rotate_left; focus (first | (simp; done) | (simp; omega) | omega)) | ((with_reducible refine Below.alloc ?_ ?_ _); rotate_left; focus (first | (simp; done) | (simp; omega) | omega))))))).mono ?_; rintro e w2 ⟨⟨g2, cap2, rfl, R2⟩, hb2⟩)
        all_goals
          have HR2 : Hid _ := R2
          have hb3 : Below w.heap.size w w2 := hbw.trans ((show Below wc.heap.size wc w2 from (show Below wc.heap.size wc _ by (repeat (first | (with_reducible exact Below.refl _ _) | (with_reducible assumption) | (with_reducible apply below_drewN) | (with_reducible apply Below.drew) | ((with_reducible refine Below.setCell ?_ ?_ _); rotate_left; focus (first | (simp; done) | (simp; omega) | omega)) | ((with_reducible refine Below.alloc ?_ ?_ _); rotate_left; focus (first | (simp; done) | (simp; omega) | omega))))).trans (hb2.mono (by simp))).mono hz1)
          clear R2 hb2
          go_wp2_with fail
          go_ret
          exact ⟨OutV.mk g2 cap2 rfl HR2.out, hb3⟩

end Go.Proofs.YtcggkeleaepebaaGreatDoor

/- What the specification's way along a path answers, for every right value and all names. -/
namespace Go.Proofs.YtcggkeleaepebaaGreatDoor
open Go.RowKit
set_option linter.unusedVariables false

theorem ReadV.grown {w w' : World} {g : Nat} {l : List Val} {row : Option Nat} (h : ReadV w g l) (hg : w.grownBy w' row) (hne : some g ≠ row) : ReadV w' g l :=
  ⟨Nat.lt_of_lt_of_le h.lt hg.size, fun i hi => ⟨(World.cell?_of_block (hg.block g h.lt hne)).trans (h.cells i hi).1, (World.cell?_of_block (hg.block g h.lt hne)).trans (h.cells i hi).2.1, (World.cell?_of_block (hg.block g h.lt hne)).trans (h.cells i hi).2.2⟩⟩
theorem get_doc' (nm : ByteArray) (ws : List ByteArray) (ih : GetAt ws) (d : Nat) (v : Val) (g off cap : Nat) (w : World) (h5 : v.k = 5) (hf : fits d v = true) (hr : ReadS w g off (nm :: ws)) (hws : ws.length ≤ 1000) (hcap : ws.length + 1 ≤ cap) :
    Calls Tryz.prog 165 #[.agg #[.int .i64 v.k, .int .i64 v.n, .string v.t], .slice (some ⟨g, off, none⟩) (ws.length + 1) cap] w fun e w' => OutV (docP (getP ws) nm v) w' e ∧ Below w.heap.size w w' := by
  obtain ⟨k, n, t⟩ := v
  have h5' : k = 5 := h5
  subst h5'
  exact get_doc nm ws ih d n t g off cap w hf hr hws hcap
/-- What comes behind a name of the first items. -/
def accP (r : Val → List Val) (nm : ByteArray) (l : List Val) (k : Nat) : List Val := (l.take k).flatMap (fun it => if it.k = 5 then docP r nm it else [])
theorem accP_succ (r : Val → List Val) (nm : ByteArray) (l : List Val) (k : Nat) (h : k < l.length) : accP r nm l (k + 1) = accP r nm l k ++ (if l[k].k = 5 then docP r nm l[k] else []) := by
  unfold accP; rw [List.take_succ_eq_append_getElem h, List.flatMap_append, List.flatMap_singleton]
theorem accP_full (r : Val → List Val) (nm : ByteArray) (l : List Val) (k : Nat) (h : l.length ≤ k) : accP r nm l k = l.flatMap (fun it => if it.k = 5 then docP r nm it else []) := by
  unfold accP; rw [List.take_of_length_le h]
theorem accP_len (ws : List ByteArray) (nm : ByteArray) (l : List Val) (k : Nat) : (accP (getP ws) nm l k).length ≤ (l.map (fun u => u.t.size)).sum := by
  have h1 := flat_len_le (f := fun it => if it.k = 5 then docP (getP ws) nm it else []) (l.take k) (fun u => by
    show (if u.k = 5 then docP (getP ws) nm u else []).length ≤ _
    split
    · exact docP_len (getP ws) (getP_len ws) nm u
    · simp)
  have h2 : ∀ (l : List Val) (k : Nat), ((l.take k).map (fun u => u.t.size)).sum ≤ (l.map (fun u => u.t.size)).sum := by
    intro l
    induction l with
    | nil => intro k; simp
    | cons u l ih =>
      intro k
      cases k with
      | zero => simp
      | succ k => rw [List.take_succ_cons, List.map_cons, List.map_cons, List.sum_cons, List.sum_cons]; have := ih k; omega
  unfold accP
  have := h2 l k
  omega

set_option maxRecDepth 4000 in
set_option maxHeartbeats 2000000 in
theorem get_list (nm : ByteArray) (ws : List ByteArray) (ih : GetAt ws) (d : Nat) (n : Int) (t : ByteArray) (g off cap : Nat) (w : World) (hf : fits d ⟨4, n, t⟩ = true) (hr : ReadS w g off (nm :: ws)) (hws : ws.length ≤ 1000) (hcap : ws.length + 1 ≤ cap) :
    Calls Tryz.prog 165 #[.agg #[.int .i64 4, .int .i64 n, .string t], .slice (some ⟨g, off, none⟩) (ws.length + 1) cap] w fun e w' => OutV ((itms ⟨4, n, t⟩).flatMap (fun it => if it.k = 5 then docP (getP ws) nm it else [])) w' e ∧ Below w.heap.size w w' := by
  obtain ⟨hs, hfi, hl, d', rfl, hall⟩ := list_parts d ⟨4, n, t⟩ hf rfl
  have hsum := itms_sum ⟨4, n, t⟩
  obtain ⟨i0, hi0, hz0, hz1, hz2⟩ := info_parts infoV
  obtain ⟨L, hL⟩ : ∃ L, L = itms ⟨4, n, t⟩ := ⟨_, rfl⟩
  rw [← hL] at hfi hall hl hsum ⊢
  have hs' : t.size ≤ 300 := hs
  have hfi' : items t = some L := hfi
  have hsum' : (L.map (fun u => u.t.size)).sum ≤ 300 := Nat.le_trans hsum hs
  have hacc := fun k => Nat.le_trans (accP_len ws nm L k) hsum'
  obtain ⟨D, hD⟩ : ∃ D, D = L.flatMap (fun it => if it.k = 5 then docP (getP ws) nm it else []) := ⟨_, rfl⟩
  rw [← hD]
  have HD : Hid _ := hD
  have HA : Hid _ := hall
  have HF : Hid _ := hfi'
  have HI : Hid (GetAt _) := ih
  have HR : Hid _ := hr
  have HACC : Hid _ := hacc
  have X0 := Boxed.start w (.int .i64 4) (.int .i64 n) (.string t) 82
  have X1 := X0.step ((Below.refl _ _).alloc (Nat.le_refl _) (.cells #[] 82))
  have O1 := World.ownsRow_made (base := w.heap.size) (size := 3) (e := 82) (w.alloc (.cells #[.int .i64 4, .int .i64 n, .string t] 82)) #[] 0 (by simp) (by unfold maxLen; omega) rfl
  clear hD hall hfi hfi' ih hr hacc hL hf hs hsum X0
  go_enter Tryz.func165, Tryz.ntmps165
  go_wp2_with fail
  refine (l01Items_any t _ (by omega)).mono ?_
  rintro e w1 ⟨⟨g1, m, cap1, rfl, hown0⟩, hb⟩
  obtain ⟨rfl, hown1⟩ := hown0 L HF.out
  rw [HF.out]
  have O2 := owns_below O1 hb
  have X2 := X1.step hb
  have hbw := X2.bel
  have R1 := ReadV.of_own hown1
  have hg1 := (hown1.lt g1 rfl).1
  simp only [heap_size_alloc] at O2 hg1
  have HO2 : Hid (World.ownsRow _ _ _ _ _ _ _) := O2
  have HBW : Hid _ := hbw
  have HR1 : Hid _ := R1
  clear hown0 hb X1 X2 O1 hown1 O2 hbw R1
  go_wp2_with fail
  go_loopw [10, 13] (fun u i wr => ∃ q : Nat, q ≤ L.length ∧ i = .int .i64 q ∧ wr.ownsRow w.heap.size 82 3 u (accP (getP ws) nm L q).length (flat (accP (getP ws) nm L q)) ∧ (¬ u = .slice none 0 0) ∧ (∀ k, u.ownBlock = some k → k ≠ g1) ∧ ReadV wr g1 L ∧ Below w.heap.size w wr) (fun _ i _ => L.length - (intOf i).toNat)
  case atStart => exact ⟨0, Nat.zero_le _, rfl, HO2.out, by simp, fun k hk => by simp [Value.ownBlock] at hk; omega, HR1.out, HBW.out⟩
  case round =>
    obtain ⟨q, hq, rfl, hown, hnn, hown2, hR, hbel⟩ := hrel
    have HN : Hid _ := hnn
    have HB2 : Hid _ := hown2
    have hz := hbel.size
    clear hnn hown2
    by_cases hlt : q < L.length
    · obtain ⟨x0, x1, x2⟩ := hR.cells q hlt
      have hgl := hR.lt
      have hlen1 := HACC.out q
      have hlen2 := HACC.out (q + 1)
      have hsucc := accP_succ (getP ws) nm L q hlt
      by_cases h5 : L[q].k = 5
      · rw [if_pos h5] at hsucc
        have e5 : (L[q].k == 5) = true := by simp [h5]
        have hdl : (docP (getP ws) nm L[q]).length ≤ 300 := by rw [hsucc, List.length_append] at hlen2; omega
        have HS : Hid _ := hsucc
        have H5 : Hid _ := h5
        have HRW : Hid _ := HR.out.next hbel
        have HRV : Hid _ := hR
        clear hsucc h5 hlen2 hR
        go_wp2_with fail
        refine (get_doc' nm ws HI.out d' L[q] g off cap _ H5.out (HA.out L[q] (List.getElem_mem _)).1 HRW.out hws hcap).mono ?_
        rintro e w2 ⟨⟨g2, cap2, rfl, R2⟩, hb⟩
        have O3 := owns_below hown hb
        have R3 := HRV.out.next hb
        have hb2 : Below w.heap.size w w2 := hbel.trans (hb.mono hz)
        have hzw := hb2.size
        clear hb hown
        go_wp2_with (at_builtin; refine wpList_append_own_at _ rfl (.tmp 72) (.tmp 78) 181 rfl w.heap.size 82 i0 (.agg #[.int .i64 0, .int .i64 0, .string em]) 3 32 Tryz.underlying181 hi0 hz0 hz1 hz2 rfl (by decide) _ _ _ rfl O3 ⟨g2, 0, none⟩ (docP (getP ws) nm L[q]).length cap2 (flat (docP (getP ws) nm L[q])) rfl (flat_len _) R2.flat (flat_one _) ?c3 ?c4 hzw ?_)
        case c3 => unfold maxLen; omega
        case c4 => omega
        intro v' w3 hown4 hgrow hnv hat
        have hne : ∀ k, v'.ownBlock = some k → k ≠ g1 := by
          intro k hk
          rcases hat with e | e
          · exact HB2.out k (e ▸ hk)
          · rw [e] at hk; injection hk with hk; have := R3.lt; omega
        have R4 := R3.grown hgrow (fun e => HB2.out g1 e.symm rfl)
        have hb4 : Below w.heap.size w w3 := Below.grown hb2 hgrow hzw (owns_block O3)
        rw [← flat_app, ← List.length_append, ← HS.out] at hown4
        have HO4 : Hid (World.ownsRow _ _ _ _ _ _ _) := hown4
        have HNE : Hid _ := hne
        have HR4 : Hid _ := R4
        have hnv' : ¬ v' = .slice none 0 0 := fun e => HN.out (hnv.mp e).1
        have HNV : Hid _ := hnv'
        clear hgrow hat hown4 hne R4 R3 O3 R2 hnv hnv'
        go_wp2_with fail
        go_roundw
        case rel => exact ⟨q + 1, by omega, by go_num, HO4.out, HNV.out, HNE.out, HR4.out, hb4⟩
        case measure => simp [intOf]; omega
      · rw [if_neg h5, List.append_nil] at hsucc
        have e5 : (L[q].k == 5) = false := beq_eq_false_iff_ne.mpr h5
        have HS : Hid _ := hsucc
        clear hsucc h5
        go_wp2_with fail
        go_roundw
        case rel => exact ⟨q + 1, by omega, by go_num, by rw [HS.out]; exact hown, HN.out, HB2.out, hR, hbel⟩
        case measure => simp [intOf]; omega
    · rw [accP_full _ _ _ _ (by omega), ← HD.out] at hown
      obtain ⟨g3, cap3, hv⟩ := owns_shape hown HN.out
      subst hv
      have R := ReadV.of_own hown
      have HR5 : Hid _ := R
      clear R hown HN HB2
      go_wp2_with fail
      go_ret
      exact ⟨OutV.mk g3 cap3 rfl HR5.out, hbel⟩

set_option maxRecDepth 4000 in
set_option maxHeartbeats 1000000 in
theorem get_other (nm : ByteArray) (ws : List ByteArray) (v : Val) (g off cap : Nat) (w : World) (h5 : v.k ≠ 5) (h4 : v.k ≠ 4) (hws : ws.length ≤ 1000) :
    Calls Tryz.prog 165 #[.agg #[.int .i64 v.k, .int .i64 v.n, .string v.t], .slice (some ⟨g, off, none⟩) (ws.length + 1) cap] w fun e w' => OutV [] w' e ∧ Below w.heap.size w w' := by
  have e5 : (v.k == 5) = false := beq_eq_false_iff_ne.mpr h5
  have e4 : (v.k == 4) = false := beq_eq_false_iff_ne.mpr h4
  go_enter Tryz.func165, Tryz.ntmps165
  go_wp2_with fail
  go_ret
  exact ⟨OutV.mk _ _ rfl ⟨by simp, fun i hi => absurd hi (by simp)⟩, by (repeat (first | (with_reducible exact Below.refl _ _) | (with_reducible assumption) | (with_reducible apply below_drewN) | (with_reducible apply Below.drew) | ((with_reducible refine Below.setCell ?_ ?_ _); rotate_left; focus (first | (simp; done) | (simp; omega) | omega)) | ((with_reducible refine Below.alloc ?_ ?_ _); rotate_left; focus (first | (simp; done) | (simp; omega) | omega))))⟩
theorem get_at : ∀ ws : List ByteArray, ws.length ≤ 1000 → GetAt ws
  | [], _ => get_end
  | nm :: ws, h => by
    have ih := get_at ws (by simp at h; omega)
    intro d v g off cap w hf hs hcap hr
    rw [List.length_cons] at hcap h ⊢
    by_cases h5 : v.k = 5
    · rw [getP_doc nm ws v h5]
      exact get_doc' nm ws ih d v g off cap w h5 hf hr (by omega) hcap
    · by_cases h4 : v.k = 4
      · rw [getP_list nm ws v h4]
        obtain ⟨k, n, t⟩ := v
        have h4' : k = 4 := h4
        subst h4'
        exact get_list nm ws ih d n t g off cap w hf hr (by omega) hcap
      · rw [getP_none nm ws v h5 h4]
        exact get_other nm ws v g off cap w h5 h4 (by omega)

end Go.Proofs.YtcggkeleaepebaaGreatDoor

/- What the program's way along a path answers, for every right value and all names: the value itself with its items, and what a document's field comes to. -/
namespace Go.Proofs.YtcggkeleaepebaaGreatDoor
open Go.RowKit
set_option linter.unusedVariables false

/-- A row of values is answered, nil only where it has none. -/
def RowO (l : List Val) (w' : World) (e : Ending) : Prop := (e = .returned (.slice none 0 0) ∧ l = []) ∨ ∃ g cap, e = .returned (.slice (some ⟨g, 0, none⟩) l.length cap) ∧ ReadV w' g l
theorem RowO.nil {l : List Val} {w' : World} {e : Ending} (h : e = .returned (.slice none 0 0)) (hl : l = []) : RowO l w' e := .inl ⟨h, hl⟩
theorem RowO.mk {l : List Val} {w' : World} {e : Ending} (g cap : Nat) (h : e = .returned (.slice (some ⟨g, 0, none⟩) l.length cap)) (hr : ReadV w' g l) : RowO l w' e := .inr ⟨g, cap, h, hr⟩
theorem RowO.row {l : List Val} {w' : World} {e : Ending} (h : RowO l w' e) : ∃ p cap, e = .returned (.slice p l.length cap) ∧ RowV w' p l := by
  rcases h with ⟨he, hl⟩ | ⟨g, cap, he, hr⟩
  · subst hl; exact ⟨none, 0, he, .inl rfl⟩
  · exact ⟨_, cap, he, .inr ⟨g, rfl, hr⟩⟩

set_option maxRecDepth 4000 in
set_option maxHeartbeats 2000000 in
theorem withItems_any (d : Nat) (v : Val) (w : World) (hf : fits d v = true) (hs : v.t.size ≤ 300) :
    Calls Tryz.prog 187 #[.agg #[.int .i64 v.k, .int .i64 v.n, .string v.t]] w fun e w' => RowO (getP [] v) w' e ∧ Below w.heap.size w w' := by
  obtain ⟨i0, hi0, hz0, hz1, hz2⟩ := info_parts infoV
  rw [getP_end]
  have X0 := Boxed.start w (.int .i64 v.k) (.int .i64 v.n) (.string v.t) 82
  have X1 := X0.step ((Below.refl _ _).alloc (Nat.le_refl _) (.cells #[.int .i64 v.k, .int .i64 v.n, .string v.t] 82))
  have O1 := owns_one (w.alloc (.cells #[.int .i64 v.k, .int .i64 v.n, .string v.t] 82)) v (base := w.heap.size) (by simp)
  by_cases h4 : v.k = 4
  · rw [if_pos h4]
    obtain ⟨hs1, hi, hl, _⟩ := list_parts d v hf h4
    have HI : Hid _ := hi
    obtain ⟨L, hL⟩ : ∃ L, L = itms v := ⟨_, rfl⟩
    rw [← hL] at HI hl ⊢
    have e4 : (v.k == 4) = true := by simp [h4]
    clear hi hL hf h4 X0
    by_cases hL0 : L = []
    · subst hL0
      go_enter Tryz.func187, Tryz.ntmps187
      go_wp2_with fail
      refine (itemsIn_nil v.t _ (by omega) HI.out).mono ?_
      rintro e w1 ⟨rfl, hb⟩
      have O2 := owns_below O1 hb
      have X2 := X1.step hb
      have hbw := X2.bel
      simp only [heap_size_alloc] at O2
      clear hb X1 X2 O1
      have R := ReadV.of_own (l := [v]) O2
      have HR : Hid _ := R
      clear R
      go_wp2_with (at_builtin; refine wpList_append_own_none rfl (.tmp 9) (.tmp 12) 181 rfl w.heap.size 82 i0 3 Tryz.underlying181 hi0 _ _ _ rfl O2 rfl ?_)
      go_wp2_with fail
      go_ret
      exact ⟨RowO.mk _ 1 rfl HR.out, hbw⟩
    · go_enter Tryz.func187, Tryz.ntmps187
      go_wp2_with fail
      refine (itemsIn_cons v.t L _ (by omega) HI.out hL0).mono ?_
      rintro e w1 ⟨⟨g1, cap1, rfl, hown1⟩, hb⟩
      have O2 := owns_below O1 hb
      have X2 := X1.step hb
      have hbw := X2.bel
      have hz := hbw.size
      simp only [heap_size_alloc] at O2
      clear hb X1 X2 O1 hL0
      go_wp2_with (at_builtin; refine wpList_append_own _ rfl (.tmp 9) (.tmp 12) 181 rfl w.heap.size 82 i0 (.agg #[.int .i64 0, .int .i64 0, .string em]) 3 32 Tryz.underlying181 hi0 hz0 hz1 hz2 rfl (by decide) _ _ _ rfl O2 ⟨g1, 0, none⟩ L.length cap1 (flat L) rfl (flat_len L) (hown1.cells rfl) (flat_one L) ?c3 ?c4 hz ?_)
      case c3 => unfold maxLen; omega
      case c4 => omega
      intro v' w2 hown2 hgrow hnv
      have hnn : ¬ v' = .slice none 0 0 := hnv
      have hb2 : Below w.heap.size w w2 := Below.grown hbw hgrow hz (owns_block O2)
      rw [← flat_app, show 1 + L.length = (v :: L).length by simp; omega] at hown2
      obtain ⟨g3, cap3, hv⟩ := owns_shape hown2 hnn
      subst hv
      have R := ReadV.of_own hown2
      have HR : Hid _ := R
      clear hown2 hgrow hnv hown1 O2 R hbw hz hnn
      go_wp2_with fail
      go_ret
      exact ⟨RowO.mk g3 cap3 rfl HR.out, hb2⟩
  · rw [if_neg h4]
    have e4 : (v.k == 4) = false := beq_eq_false_iff_ne.mpr h4
    have R := ReadV.of_own (l := [v]) O1
    simp only [heap_size_alloc] at R
    have HR : Hid _ := R
    have hbw := X1.bel
    clear R O1 X0 hf h4 X1
    go_enter Tryz.func187, Tryz.ntmps187
    go_wp2_with fail
    go_ret
    exact ⟨RowO.mk _ 1 rfl HR.out, hbw⟩

def ComeAt (ws : List ByteArray) : Prop := ∀ (d : Nat) (v : Val) (g off cap : Nat) (w : World), fits d v = true → v.t.size ≤ 300 → ws.length ≤ cap → ReadS w g off ws →
    Calls Tryz.prog 173 #[.agg #[.int .i64 v.k, .int .i64 v.n, .string v.t], .slice (some ⟨g, off, none⟩) ws.length cap] w fun e w' => RowO (getP ws v) w' e ∧ Below w.heap.size w w'

set_option maxRecDepth 4000 in
set_option maxHeartbeats 1000000 in
theorem come_end : ComeAt [] := by
  intro d v g off cap w hf hs hcap hr
  have X0 := Boxed.start w (.int .i64 v.k) (.int .i64 v.n) (.string v.t) 82
  have HC : Hid (∀ W : World, Calls _ _ _ W _) := fun W => withItems_any d v W hf hs
  clear hf hr
  go_enter Tryz.func173, Tryz.ntmps173
  go_wp2_with fail
  refine (HC.out _).mono ?_
  rintro e w1 ⟨hO, hb⟩
  have HB : Hid _ := (X0.step hb).bel
  have HO : Hid (RowO _ _ _) := hO
  obtain ⟨p, c, rfl, _⟩ := hO.row
  clear hb hO
  go_wp2_with fail
  go_ret
  exact ⟨HO.out, HB.out⟩

set_option maxRecDepth 4000 in
set_option maxHeartbeats 2000000 in
theorem field_come (nm : ByteArray) (ws : List ByteArray) (ih : ComeAt ws) (d : Nat) (v : Val) (g off cap : Nat) (w : World) (h5 : v.k = 5) (hf : fits d v = true) (hr : ReadS w g off (nm :: ws)) (hws : ws.length ≤ 1000) (hcap : ws.length + 1 ≤ cap) :
    Calls Tryz.prog 188 #[.agg #[.int .i64 v.k, .int .i64 v.n, .string v.t], .slice (some ⟨g, off, none⟩) (ws.length + 1) cap] w fun e w' => RowO (docP (getP ws) nm v) w' e ∧ Below w.heap.size w w' := by
  obtain ⟨hs, hfi, hl, hrise, d', rfl, hall, _⟩ := doc_parts d v hf h5
  obtain ⟨D, hD⟩ : ∃ D, D = docP (getP ws) nm v := ⟨_, rfl⟩
  rw [← hD]
  have HDN : Hid (fieldV nm (flds v) = none → D = []) := fun h => by rw [hD, docP_none _ _ _ h]
  have HDS : Hid (∀ x, fieldV nm (flds v) = some x → D = getP ws x) := fun x h => by rw [hD, docP_some _ _ _ x h]
  obtain ⟨L, hL⟩ : ∃ L, L = flds v := ⟨_, rfl⟩
  rw [← hL] at hfi hall hl hrise HDN HDS
  have HA : Hid _ := hall
  have HF : Hid _ := hfi
  have HS : Hid (Rise _) := hrise
  have HI : Hid (ComeAt _) := ih
  have HR : Hid (ReadS _ _ _ _) := hr
  have HT : Hid _ := tailS hr cap hcap
  have hgl := hr.lt
  have X0 := Boxed.start w (.int .i64 v.k) (.int .i64 v.n) (.string v.t) 82
  clear hD hL hall hfi hrise ih hr hf h5
  go_enter Tryz.func188, Tryz.ntmps188
  go_wp2_with fail
  refine (fieldsIn_row v.t L _ (by omega) HF.out).mono ?_
  rintro e w1 ⟨⟨p, fcap, rfl, R1⟩, hb⟩
  have hbw := (X0.step hb).bel
  have n0 := (HR.out.next hbw).cells 0 (by simp)
  rw [Nat.add_zero] at n0
  have n1 : w1.cell? ⟨g, off, none⟩ = some (.string nm) := n0
  have hpos : (0 : Int) < (ws.length : Int) + 1 := by omega
  have HR1 : Hid (RowF _ _ _) := R1
  clear hb n0 R1 X0
  go_wp2_with fail
  refine (fieldPlace_any p fcap L nm _ HR1.out HS.out (by omega)).mono ?_
  rintro e w2 ⟨⟨i, b, rfl, hp⟩, hb⟩
  have hbw2 : Below w.heap.size w w2 := hbw.trans (hb.mono hbw.size)
  have R2 := HR1.out.next hb
  have hz2 := hbw2.size
  have HP : Hid (Place _ _ _ _) := hp
  clear hb hp HR1 n1
  cases b
  · have hDe := HDN.out (Place.none HS.out HP.out)
    clear HP HDN HDS
    go_wp2_with fail
    go_ret
    exact ⟨RowO.nil rfl hDe, hbw2⟩
  · obtain ⟨hi, hname, hfv⟩ := HP.out.some
    rcases R2 with h0 | ⟨gf, rfl, RF⟩
    · subst h0; simp at hi
    have hDe := HDS.out _ hfv
    obtain ⟨x0, x1, x2, x3⟩ := RF.cells i hi
    have hgf := RF.lt
    obtain ⟨⟨xk, xn, xt⟩, hx⟩ : ∃ x : Val, x = L[i].v := ⟨_, rfl⟩
    have hok := HA.out L[i] (List.getElem_mem _)
    rw [← hx] at hok
    have e1 : L[i].v.k = xk := by rw [← hx]
    have e2 : L[i].v.n = xn := by rw [← hx]
    have e3 : L[i].v.t = xt := by rw [← hx]
    rw [e1] at x1
    rw [e2] at x2
    rw [e3] at x3
    rw [← hx] at hDe
    have HDE : Hid _ := hDe
    have HK : Hid _ := hok.1
    have hsx : xt.size ≤ 300 := hok.2.1
    have hi2 : (i : Int) < (L.length : Int) := by omega
    have hrt := HT.out.next hbw2
    have hgc : g < w2.heap.size := by omega
    clear HP HDN HDS hname hfv hok e1 e2 e3 hx x0 RF hDe
    by_cases hc1 : cap - 1 = 0
    · rw [if_pos hc1] at hrt
      have HRT : Hid _ := hrt
      clear hrt
      go_wp2_with fail
      go_region_with (go_at_call 173; refine (HI.out d' ⟨xk, xn, xt⟩ g off _ _ HK.out hsx (by omega) (HRT.out.next (by (repeat (first | (with_reducible exact Below.refl _ _) | (with_reducible assumption) | (with_reducible apply below_drewN) | (with_reducible apply Below.drew) | ((with_reducible refine Below.setCell ?_ ?_ _); rotate_left; focus (first | (simp; done) | (simp; omega) | omega)) | ((with_reducible refine Below.alloc ?_ ?_ _); rotate_left; focus (first | (simp; done) | (simp; omega) | omega))))))).mono ?_; rintro e w3 ⟨hO, hb3⟩; have HO : Hid (RowO _ _ _) := hO; obtain ⟨p3, c3, rfl, _⟩ := hO.row; clear hO)
      all_goals
        have hb4 : Below w.heap.size w w3 := hbw2.trans ((show Below w2.heap.size w2 w3 from (show Below w2.heap.size w2 _ by (repeat (first | (with_reducible exact Below.refl _ _) | (with_reducible assumption) | (with_reducible apply below_drewN) | (with_reducible apply Below.drew) | ((with_reducible refine Below.setCell ?_ ?_ _); rotate_left; focus (first | (simp; done) | (simp; omega) | omega)) | ((with_reducible refine Below.alloc ?_ ?_ _); rotate_left; focus (first | (simp; done) | (simp; omega) | omega))))).trans (hb3.mono (by simp))).mono hz2)
        clear hb3
        go_wp2_with fail
        go_ret
        exact ⟨by rw [HDE.out]; exact HO.out, hb4⟩
    · rw [if_neg hc1] at hrt
      have HRT : Hid _ := hrt
      clear hrt
      go_wp2_with fail
      go_region_with (go_at_call 173; refine (HI.out d' ⟨xk, xn, xt⟩ g (off + 1) _ _ HK.out hsx (by omega) (HRT.out.next (by (repeat (first | (with_reducible exact Below.refl _ _) | (with_reducible assumption) | (with_reducible apply below_drewN) | (with_reducible apply Below.drew) | ((with_reducible refine Below.setCell ?_ ?_ _); rotate_left; focus (first | (simp; done) | (simp; omega) | omega)) | ((with_reducible refine Below.alloc ?_ ?_ _); rotate_left; focus (first | (simp; done) | (simp; omega) | omega))))))).mono ?_; rintro e w3 ⟨hO, hb3⟩; have HO : Hid (RowO _ _ _) := hO; obtain ⟨p3, c3, rfl, _⟩ := hO.row; clear hO)
      all_goals
        have hb4 : Below w.heap.size w w3 := hbw2.trans ((show Below w2.heap.size w2 w3 from (show Below w2.heap.size w2 _ by (repeat (first | (with_reducible exact Below.refl _ _) | (with_reducible assumption) | (with_reducible apply below_drewN) | (with_reducible apply Below.drew) | ((with_reducible refine Below.setCell ?_ ?_ _); rotate_left; focus (first | (simp; done) | (simp; omega) | omega)) | ((with_reducible refine Below.alloc ?_ ?_ _); rotate_left; focus (first | (simp; done) | (simp; omega) | omega))))).trans (hb3.mono (by simp))).mono hz2)
        clear hb3
        go_wp2_with fail
        go_ret
        exact ⟨by rw [HDE.out]; exact HO.out, hb4⟩

end Go.Proofs.YtcggkeleaepebaaGreatDoor

/- What the program's way along a path answers, for every right value and all names: through lists, and the whole of it. -/
namespace Go.Proofs.YtcggkeleaepebaaGreatDoor
open Go.RowKit
set_option linter.unusedVariables false

set_option maxRecDepth 4000 in
set_option maxHeartbeats 2000000 in
theorem items_come (nm : ByteArray) (ws : List ByteArray) (ih : ComeAt ws) (d : Nat) (v : Val) (g off cap : Nat) (w : World) (h4 : v.k = 4) (hf : fits d v = true) (hr : ReadS w g off (nm :: ws)) (hws : ws.length ≤ 1000) (hcap : ws.length + 1 ≤ cap) :
    Calls Tryz.prog 189 #[.agg #[.int .i64 v.k, .int .i64 v.n, .string v.t], .slice (some ⟨g, off, none⟩) (ws.length + 1) cap] w fun e w' => RowO ((itms v).flatMap (fun it => if it.k = 5 then docP (getP ws) nm it else [])) w' e ∧ Below w.heap.size w w' := by
  obtain ⟨hs, hfi, hl, d', rfl, hall⟩ := list_parts d v hf h4
  have hsum := itms_sum v
  obtain ⟨i0, hi0, hz0, hz1, hz2⟩ := info_parts infoV
  obtain ⟨L, hL⟩ : ∃ L, L = itms v := ⟨_, rfl⟩
  rw [← hL] at hfi hall hl hsum ⊢
  have hsum' : (L.map (fun u => u.t.size)).sum ≤ 300 := Nat.le_trans hsum hs
  have hacc := fun k => Nat.le_trans (accP_len ws nm L k) hsum'
  obtain ⟨D, hD⟩ : ∃ D, D = L.flatMap (fun it => if it.k = 5 then docP (getP ws) nm it else []) := ⟨_, rfl⟩
  rw [← hD]
  have HD : Hid _ := hD
  have HA : Hid _ := hall
  have HF : Hid _ := hfi
  have HI : Hid (ComeAt _) := ih
  have HR : Hid (ReadS _ _ _ _) := hr
  have HACC : Hid _ := hacc
  have X0 := Boxed.start w (.int .i64 v.k) (.int .i64 v.n) (.string v.t) 82
  clear hD hall hfi ih hr hacc hL hf hsum h4
  go_enter Tryz.func189, Tryz.ntmps189
  go_wp2_with fail
  refine (itemsIn_row v.t L _ (by omega) HF.out).mono ?_
  rintro e w1 ⟨⟨p, cap1, rfl, R1⟩, hb⟩
  have hbw := (X0.step hb).bel
  have HBW : Hid _ := hbw
  have HR1 : Hid (RowV _ _ _) := R1
  have hgp : ∀ g1, p = some ⟨g1, 0, none⟩ → 0 < L.length → g1 < w1.heap.size := by
    intro g1 hp hl0
    rcases R1 with h0 | ⟨g2, hp2, R⟩
    · subst h0; simp at hl0
    · rw [hp] at hp2; injection hp2 with hp2; injection hp2 with hp2; subst hp2; exact R.lt
  have HGP : Hid _ := hgp
  clear hb X0 hbw R1 hgp
  go_wp2_with fail
  go_loopw [5, 12] (fun u i wr => ∃ q : Nat, q ≤ L.length ∧ i = .int .i64 q ∧ wr.ownsRow w.heap.size 82 3 u (accP (getP ws) nm L q).length (flat (accP (getP ws) nm L q)) ∧ (∀ k, u.ownBlock = some k → w1.heap.size ≤ k) ∧ RowV wr p L ∧ w1.heap.size ≤ wr.heap.size ∧ Below w.heap.size w wr) (fun _ i _ => L.length - (intOf i).toNat)
  case atStart => exact ⟨0, Nat.zero_le _, rfl, World.ownsRow_nil _ _ _ _, (fun k hk => by cases hk), HR1.out, Nat.le_refl _, HBW.out⟩
  case round =>
    obtain ⟨q, hq, rfl, hown, hown2, hR, hz1w, hbel⟩ := hrel
    have HB2 : Hid _ := hown2
    have hz := hbel.size
    clear hown2
    by_cases hlt : q < L.length
    · rcases hR with h0 | ⟨g1, rfl, R⟩
      · subst h0; simp at hlt
      obtain ⟨x0, x1, x2⟩ := R.cells q hlt
      have hgl := R.lt
      have hg1 := HGP.out g1 rfl (by omega)
      have hlen1 := HACC.out q
      have hlen2 := HACC.out (q + 1)
      have hsucc := accP_succ (getP ws) nm L q hlt
      have hlt2 : (q : Int) < (L.length : Int) := by omega
      by_cases h5 : L[q].k = 5
      · rw [if_pos h5] at hsucc
        have e5 : (L[q].k == 5) = true := by simp [h5]
        have hdl : (docP (getP ws) nm L[q]).length ≤ 300 := by rw [hsucc, List.length_append] at hlen2; omega
        have HS : Hid _ := hsucc
        have H5 : Hid _ := h5
        have hba : Below w.heap.size w (wr.alloc (.cells #[.int .i64 L[q].k, .int .i64 L[q].n, .string L[q].t] 82)) := hbel.alloc hz _
        have HRW : Hid (ReadS _ _ _ _) := HR.out.next hba
        have HRV : Hid (ReadV _ _ _) := R.next ((Below.refl _ _).alloc (Nat.le_refl _) (.cells #[.int .i64 L[q].k, .int .i64 L[q].n, .string L[q].t] 82))
        have HOW : Hid (World.ownsRow _ _ _ _ _ _ _) := hown.alloc (.cells #[.int .i64 L[q].k, .int .i64 L[q].n, .string L[q].t] 82)
        clear hsucc h5 hlen2 R hown
        go_wp2_with fail
        refine (field_come nm ws HI.out d' L[q] g off cap _ H5.out (HA.out L[q] (List.getElem_mem _)).1 HRW.out hws hcap).mono ?_
        rintro e w2 ⟨hO, hb⟩
        have O3 := owns_below HOW.out hb
        have R3 := HRV.out.next hb
        have hb2 : Below w.heap.size w w2 := hba.trans (hb.mono hba.size)
        have hzw := hb2.size
        have hzw1 : w1.heap.size ≤ w2.heap.size := by have := hb.size; simp at this; omega
        clear hb hba
        rcases hO with ⟨rfl, hnil⟩ | ⟨g2, cap2, rfl, R2⟩
        · have hsame : accP (getP ws) nm L (q + 1) = accP (getP ws) nm L q := by rw [HS.out, hnil, List.append_nil]
          have HSA : Hid _ := hsame
          clear hnil hsame HS hdl
          go_wp2_with (at_builtin; refine wpList_append_own_none rfl (.tmp 19) (.tmp 22) 181 rfl w.heap.size 82 i0 3 Tryz.underlying181 hi0 _ _ _ rfl O3 rfl ?_)
          have HO3 : Hid (World.ownsRow _ _ _ _ _ _ _) := O3
          have HR3 : Hid (ReadV _ _ _) := R3
          clear O3 R3
          go_wp2_with fail
          go_roundw
          case rel => exact ⟨q + 1, by omega, by go_num, by rw [HSA.out]; exact HO3.out, HB2.out, .inr ⟨g1, rfl, HR3.out⟩, hzw1, hb2⟩
          case measure => simp [intOf]; omega
        · go_wp2_with (at_builtin; refine wpList_append_own_at _ rfl (.tmp 19) (.tmp 22) 181 rfl w.heap.size 82 i0 (.agg #[.int .i64 0, .int .i64 0, .string em]) 3 32 Tryz.underlying181 hi0 hz0 hz1 hz2 rfl (by decide) _ _ _ rfl O3 ⟨g2, 0, none⟩ (docP (getP ws) nm L[q]).length cap2 (flat (docP (getP ws) nm L[q])) rfl (flat_len _) R2.flat (flat_one _) ?c3 ?c4 hzw ?_)
          case c3 => unfold maxLen; omega
          case c4 => omega
          intro v' w3 hown4 hgrow hnv hat
          have hne : ∀ k, v'.ownBlock = some k → w1.heap.size ≤ k := by
            intro k hk
            rcases hat with e | e
            · exact HB2.out k (e ▸ hk)
            · rw [e] at hk; injection hk with hk; omega
          have R4 := R3.grown hgrow (fun e => by have := HB2.out g1 e.symm; omega)
          have hb4 : Below w.heap.size w w3 := Below.grown hb2 hgrow hzw (owns_block O3)
          have hz4 := hgrow.size
          rw [← flat_app, ← List.length_append, ← HS.out] at hown4
          have HO4 : Hid (World.ownsRow _ _ _ _ _ _ _) := hown4
          have HNE : Hid _ := hne
          have HR4 : Hid (ReadV _ _ _) := R4
          clear hgrow hat hown4 hne R4 R3 O3 R2 hnv
          go_wp2_with fail
          go_roundw
          case rel => exact ⟨q + 1, by omega, by go_num, HO4.out, HNE.out, .inr ⟨g1, rfl, HR4.out⟩, by omega, hb4⟩
          case measure => simp [intOf]; omega
      · rw [if_neg h5, List.append_nil] at hsucc
        have e5 : (L[q].k == 5) = false := beq_eq_false_iff_ne.mpr h5
        have HS : Hid _ := hsucc
        have HRV : Hid (ReadV _ _ _) := R.next ((Below.refl _ _).alloc (Nat.le_refl _) (.cells #[.int .i64 L[q].k, .int .i64 L[q].n, .string L[q].t] 82))
        have HOW : Hid (World.ownsRow _ _ _ _ _ _ _) := hown.alloc (.cells #[.int .i64 L[q].k, .int .i64 L[q].n, .string L[q].t] 82)
        clear hsucc h5 R hown
        go_wp2_with fail
        go_roundw
        case rel => exact ⟨q + 1, by omega, by go_num, by rw [HS.out]; exact HOW.out, HB2.out, .inr ⟨g1, rfl, HRV.out⟩, by simp; omega, by (repeat (first | (with_reducible exact Below.refl _ _) | (with_reducible assumption) | (with_reducible apply below_drewN) | (with_reducible apply Below.drew) | ((with_reducible refine Below.setCell ?_ ?_ _); rotate_left; focus (first | (simp; done) | (simp; omega) | omega)) | ((with_reducible refine Below.alloc ?_ ?_ _); rotate_left; focus (first | (simp; done) | (simp; omega) | omega))))⟩
        case measure => simp [intOf]; omega
    · have hlt2 : ¬ (q : Int) < (L.length : Int) := by omega
      rw [accP_full _ _ _ _ (by omega), ← HD.out] at hown
      by_cases hn : u5 = .slice none 0 0
      · subst hn
        have hd0 : D = [] := by
          obtain ⟨_, h2⟩ := hown
          rcases h2 with ⟨_, h3⟩ | ⟨g', c', cur, e, _⟩
          · exact List.eq_nil_of_length_eq_zero (by simpa using h3)
          · cases e
        have HD0 : Hid _ := hd0
        clear hown HB2 hR hd0
        go_wp2_with fail
        go_ret
        exact ⟨RowO.nil rfl HD0.out, hbel⟩
      · obtain ⟨g3, cap3, hv⟩ := owns_shape hown hn
        subst hv
        have R := ReadV.of_own hown
        have HR5 : Hid (ReadV _ _ _) := R
        clear R hown HB2 hn hR
        go_wp2_with fail
        go_ret
        exact ⟨RowO.mk g3 cap3 rfl HR5.out, hbel⟩

set_option maxRecDepth 4000 in
set_option maxHeartbeats 1000000 in
theorem come_cons (nm : ByteArray) (ws : List ByteArray) (ih : ComeAt ws) (hws : ws.length ≤ 1000) : ComeAt (nm :: ws) := by
  intro d v g off cap w hf hs hcap hr
  rw [List.length_cons] at hcap ⊢
  have X0 := Boxed.start w (.int .i64 v.k) (.int .i64 v.n) (.string v.t) 82
  have HR : Hid (ReadS _ _ _ _) := hr.next X0.bel
  have hnz : (((ws.length : Int) + 1) == 0) = false := beq_eq_false_iff_ne.mpr (by omega)
  clear hr
  by_cases h5 : v.k = 5
  · rw [getP_doc nm ws v h5]
    have e5 : (v.k == 5) = true := by simp [h5]
    have HC : Hid (∀ W : World, ReadS W g off (nm :: ws) → Calls _ _ _ W _) := fun W hW => field_come nm ws ih d v g off cap W h5 hf hW hws hcap
    obtain ⟨D, hD⟩ : ∃ D, D = docP (getP ws) nm v := ⟨_, rfl⟩
    rw [← hD] at HC ⊢
    clear hf h5 hD
    go_enter Tryz.func173, Tryz.ntmps173
    go_wp2_with fail
    refine (HC.out _ HR.out).mono ?_
    rintro e w1 ⟨hO, hb⟩
    have HB : Hid _ := (X0.step hb).bel
    have HO : Hid (RowO _ _ _) := hO
    obtain ⟨p, c, rfl, _⟩ := hO.row
    clear hb hO
    go_wp2_with fail
    go_ret
    exact ⟨HO.out, HB.out⟩
  have e5 : (v.k == 5) = false := beq_eq_false_iff_ne.mpr h5
  by_cases h4 : v.k = 4
  · rw [getP_list nm ws v h4]
    have e4 : (v.k == 4) = true := by simp [h4]
    have HC : Hid (∀ W : World, ReadS W g off (nm :: ws) → Calls _ _ _ W _) := fun W hW => items_come nm ws ih d v g off cap W h4 hf hW hws hcap
    obtain ⟨D, hD⟩ : ∃ D, D = (itms v).flatMap (fun it => if it.k = 5 then docP (getP ws) nm it else []) := ⟨_, rfl⟩
    rw [← hD] at HC ⊢
    clear hf h4 hD
    go_enter Tryz.func173, Tryz.ntmps173
    go_wp2_with fail
    refine (HC.out _ HR.out).mono ?_
    rintro e w1 ⟨hO, hb⟩
    have HB : Hid _ := (X0.step hb).bel
    have HO : Hid (RowO _ _ _) := hO
    obtain ⟨p, c, rfl, _⟩ := hO.row
    clear hb hO
    go_wp2_with fail
    go_ret
    exact ⟨HO.out, HB.out⟩
  rw [getP_none nm ws v h5 h4]
  have e4 : (v.k == 4) = false := beq_eq_false_iff_ne.mpr h4
  clear hf
  go_enter Tryz.func173, Tryz.ntmps173
  go_wp2_with fail
  go_ret
  exact ⟨RowO.nil rfl rfl, X0.bel⟩
theorem come_at : ∀ ws : List ByteArray, ws.length ≤ 1000 → ComeAt ws
  | [], _ => come_end
  | nm :: ws, h => come_cons nm ws (come_at ws (by simp at h; omega)) (by simp at h; omega)

end Go.Proofs.YtcggkeleaepebaaGreatDoor

/- What the specification's parting of a path answers, with the room of the row; and the program's. -/
namespace Go.Proofs.YtcggkeleaepebaaGreatDoor
open Go.RowKit
set_option linter.unusedVariables false

theorem owns_cap {w : World} {base e size g n cap : Nat} {xs : List Value} (h : w.ownsRow base e size (.slice (some ⟨g, 0, none⟩) n cap) n xs) : n ≤ cap := by
  obtain ⟨_, h2⟩ := h
  rcases h2 with ⟨e, _⟩ | ⟨g', c', cur, e, _, _, hle, _⟩
  · cases e
  · injection e with _ _ e3; omega
set_option maxRecDepth 4000 in
set_option maxHeartbeats 1000000 in
theorem namesOfC_any (s : ByteArray) (w : World) (hs : s.size ≤ 1048576) :
    Calls Tryz.prog 174 #[.string s] w fun e w' => (∃ g cap, e = .returned (.slice (some ⟨g, 0, none⟩) (pieces s).length cap) ∧ (pieces s).length ≤ cap ∧ ReadS w' g 0 (pieces s)) ∧ Below w.heap.size w w' := by
  go_enter Tryz.func174, Tryz.ntmps174
  go_wp2_with (go_at_call 190; refine (split_any s _ hs).mono ?_; rintro e w' ⟨rfl, rfl⟩)
  go_ret
  exact ⟨⟨_, _, rfl, Nat.le_refl _, readS_alloc _ _ _⟩, (Below.refl _ _).alloc (Nat.le_refl _) _⟩

set_option maxRecDepth 8000 in
set_option maxHeartbeats 2000000 in
theorem l00CutC_any (s : ByteArray) (w : World) (hs : s.size ≤ 1048576) :
    Calls Tryz.prog 146 #[.string s, .int .u8 46] w fun e w' => (∃ g cap, e = .returned (.slice (some ⟨g, 0, none⟩) (pieces s).length cap) ∧  (pieces s).length ≤ cap ∧ ReadS w' g 0 (pieces s)) ∧ Below w.heap.size w w' := by
  obtain ⟨i0, hi, hz0, hz1, hz2⟩ := info_parts infoS
  go_enter Tryz.func146, Tryz.ntmps146
  go_wp2_with fail
  go_loopw [5, 6, 7] (fun v f i wr => ∃ (done : List ByteArray) (a k : Nat), k ≤ s.size ∧ a ≤ k ∧ f = .int .i64 a ∧ i = .int .i64 k ∧ pieces s = done ++ pieces (s.extract a s.size) ∧ (∀ j (hj : j < s.size), a ≤ j → j < k → s[j] ≠ 46) ∧ done.length ≤ k ∧ wr.ownsRow w.heap.size 9 1 v done.length (strs done) ∧ v ≠ .slice none 0 0 ∧ Below w.heap.size w wr) (fun _ _ i _ => s.size - (intOf i).toNat)
  case atStart => exact ⟨[], 0, 0, Nat.zero_le _, Nat.le_refl _, rfl, rfl, by rw [ByteArray.extract_zero_size]; rfl, fun j hj h1 h2 => absurd h2 (by omega), Nat.le_refl _, World.ownsRow_made w #[] 0 (Nat.le_refl _) (by unfold maxLen; omega) rfl, by simp, (Below.refl _ _).alloc (Nat.le_refl _) _⟩
  case round =>
    obtain ⟨done, a, k, hk, hak, rfl, rfl, hp, hno, hdk, hown, hnn, hbel⟩ := hrel
    have HP : Hid _ := hp
    have HO : Hid _ := hno
    have HN : Hid _ := hnn
    have hsz0 := hbel.size
    have hak2 : (a : Int) ≤ (k : Int) := by omega
    clear hp hno hnn
    by_cases hlt : k < s.size
    · by_cases hc : s[k] = 46
      · have e46 : ((s[k].toNat : Int) == 46) = true := by rw [hc]; rfl
        have hpc := pieces_from s a k hak hlt hc HO.out
        have HQ : Hid _ := hpc
        clear hpc hc
        go_wp2_with (at_builtin; refine wpList_append_own _ rfl (.tmp 20) (.tmp 25) 173 rfl w.heap.size 9 i0 (.string ByteArray.empty) 1 16 Tryz.underlying173 hi hz0 hz1 hz2 rfl (by decide) _ _ _ rfl (hown.alloc _) ⟨wr.heap.size, 0, none⟩ 1 1 [.string (s.extract a k)] rfl rfl ?c1 ?c2 ?c3 ?c4 ?c5 ?_)
        case c1 =>
          intro j u hj
          match j, hj with
          | 0, hj => simp at hj; subst hj; simp [Addr.add, go_sem]
          | j + 1, hj => simp at hj
        case c2 => intro u hu; simp at hu; subst hu; rfl
        case c3 => unfold maxLen; omega
        case c4 => omega
        case c5 => simp; omega
        intro v' w2 hown2 hgrow hnv
        have HV : Hid _ := hnv
        clear hnv
        have hb2 : Below w.heap.size w w2 := Below.grown (hbel.alloc (by omega) _) hgrow (by simp; omega) (owns_block hown)
        clear hgrow hown hbel
        go_wp2_with fail
        go_roundw
        case rel => exact ⟨done ++ [s.extract a k], k + 1, k + 1, by omega, by omega, by go_num, by go_num, by rw [HP.out, HQ.out]; simp, fun j hj h1 h2 => absurd h2 (by omega), by simp; omega, by rw [strs_snoc, List.length_append]; exact hown2, HV.out, hb2⟩
        case measure => simp [intOf]; omega
      · have e46 : ((s[k].toNat : Int) == 46) = false := beq_eq_false_iff_ne.mpr (fun e => hc (UInt8.toNat_inj.mp (by show s[k].toNat = 46; omega)))
        have HC : Hid _ := hc
        clear hc
        go_wp2_with fail
        go_roundw
        case rel => exact ⟨done, a, k + 1, by omega, by omega, rfl, by go_num, HP.out, fun j hj h1 h2 => by
          by_cases hjk : j = k
          · subst hjk; exact HC.out
          · exact HO.out j hj h1 (by omega), by omega, hown, HN.out, hbel⟩
        case measure => simp [intOf]; omega
    · have hk2 : k = s.size := by omega
      have hpr := pieces_rest s a (fun j hj h => HO.out j hj h (by omega))
      have has : (a : Int) ≤ (s.size : Int) := by omega
      have HQ : Hid _ := hpr
      clear hpr
      go_wp2_with (at_builtin; refine wpList_append_own _ rfl (.tmp 29) (.tmp 33) 173 rfl w.heap.size 9 i0 (.string ByteArray.empty) 1 16 Tryz.underlying173 hi hz0 hz1 hz2 rfl (by decide) _ _ _ rfl (hown.alloc _) ⟨wr.heap.size, 0, none⟩ 1 1 [.string (s.extract a s.size)] rfl rfl ?c1 ?c2 ?c3 ?c4 ?c5 ?_)
      case c1 =>
        intro j u hj
        match j, hj with
        | 0, hj => simp at hj; subst hj; simp [Addr.add, go_sem]
        | j + 1, hj => simp at hj
      case c2 => intro u hu; simp at hu; subst hu; rfl
      case c3 => unfold maxLen; omega
      case c4 => omega
      case c5 => simp; omega
      intro v' w2 hown2 hgrow hnv
      have hb2 : Below w.heap.size w w2 := Below.grown (hbel.alloc (by omega) _) hgrow (by simp; omega) (owns_block hown)
      have hpp : done ++ [s.extract a s.size] = pieces s := by rw [HP.out, HQ.out]
      have hown3 : w2.ownsRow w.heap.size 9 1 v' (pieces s).length (strs (pieces s)) := by
        rw [← hpp, strs_snoc, List.length_append]; exact hown2
      obtain ⟨g, cap, hv⟩ := owns_shape hown3 hnv
      subst hv
      have hgl : (pieces s).length ≤ cap := owns_cap hown3
      have HO3 : Hid _ := readS_own hown3
      clear hgrow hown hbel hown2 hown3 hpp hnv
      go_wp2_with fail
      go_ret
      exact ⟨⟨g, cap, rfl, hgl, HO3.out⟩, hb2⟩

end Go.Proofs.YtcggkeleaepebaaGreatDoor
