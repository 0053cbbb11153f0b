/- What the specification's way along a path answers, for every right value and all names. -/
import Derived.Test.YtdchhjnmhnehiaaGreatDoorGetT
import Derived.Maps.AppendAt
namespace Go.Proofs.YtdchhjnmhnehiaaGreatDoor
open Go.RowKit
set_option linter.unusedVariables false

theorem ReadV.grown {w w' : World} {g : Nat} {l : List Val} {row : Option Nat} (h : ReadV w g l) (hg : w.grownBy w' row) (hne : some g ≠ row) : ReadV w' g l :=
  ⟨Nat.lt_of_lt_of_le h.lt hg.size, fun i hi => ⟨(World.cell?_of_block (hg.block g h.lt hne)).trans (h.cells i hi).1, (World.cell?_of_block (hg.block g h.lt hne)).trans (h.cells i hi).2.1, (World.cell?_of_block (hg.block g h.lt hne)).trans (h.cells i hi).2.2⟩⟩
theorem get_doc' (nm : ByteArray) (ws : List ByteArray) (ih : GetAt ws) (d : Nat) (v : Val) (g off cap : Nat) (w : World) (h5 : v.k = 5) (hf : fits d v = true) (hr : ReadS w g off (nm :: ws)) (hws : ws.length ≤ 1000) (hcap : ws.length + 1 ≤ cap) :
    Calls Tryz.prog 125 #[.agg #[.int .i64 v.k, .int .i64 v.n, .string v.t], .slice (some ⟨g, off, none⟩) (ws.length + 1) cap] w fun e w' => OutV (docP (getP ws) nm v) w' e ∧ Below w.heap.size w w' := by
  obtain ⟨k, n, t⟩ := v
  have h5' : k = 5 := h5
  subst h5'
  exact get_doc nm ws ih d n t g off cap w hf hr hws hcap
/-- What comes behind a name of the first items. -/
def accP (r : Val → List Val) (nm : ByteArray) (l : List Val) (k : Nat) : List Val := (l.take k).flatMap (fun it => if it.k = 5 then docP r nm it else [])
theorem accP_succ (r : Val → List Val) (nm : ByteArray) (l : List Val) (k : Nat) (h : k < l.length) : accP r nm l (k + 1) = accP r nm l k ++ (if l[k].k = 5 then docP r nm l[k] else []) := by
  unfold accP; rw [List.take_succ_eq_append_getElem h, List.flatMap_append, List.flatMap_singleton]
theorem accP_full (r : Val → List Val) (nm : ByteArray) (l : List Val) (k : Nat) (h : l.length ≤ k) : accP r nm l k = l.flatMap (fun it => if it.k = 5 then docP r nm it else []) := by
  unfold accP; rw [List.take_of_length_le h]
theorem accP_len (ws : List ByteArray) (nm : ByteArray) (l : List Val) (k : Nat) : (accP (getP ws) nm l k).length ≤ (l.map (fun u => u.t.size)).sum := by
  have h1 := flat_len_le (f := fun it => if it.k = 5 then docP (getP ws) nm it else []) (l.take k) (fun u => by
    show (if u.k = 5 then docP (getP ws) nm u else []).length ≤ _
    split
    · exact docP_len (getP ws) (getP_len ws) nm u
    · simp)
  have h2 : ∀ (l : List Val) (k : Nat), ((l.take k).map (fun u => u.t.size)).sum ≤ (l.map (fun u => u.t.size)).sum := by
    intro l
    induction l with
    | nil => intro k; simp
    | cons u l ih =>
      intro k
      cases k with
      | zero => simp
      | succ k => rw [List.take_succ_cons, List.map_cons, List.map_cons, List.sum_cons, List.sum_cons]; have := ih k; omega
  unfold accP
  have := h2 l k
  omega

set_option maxRecDepth 4000 in
set_option maxHeartbeats 2000000 in
theorem get_list (nm : ByteArray) (ws : List ByteArray) (ih : GetAt ws) (d : Nat) (n : Int) (t : ByteArray) (g off cap : Nat) (w : World) (hf : fits d ⟨4, n, t⟩ = true) (hr : ReadS w g off (nm :: ws)) (hws : ws.length ≤ 1000) (hcap : ws.length + 1 ≤ cap) :
    Calls Tryz.prog 125 #[.agg #[.int .i64 4, .int .i64 n, .string t], .slice (some ⟨g, off, none⟩) (ws.length + 1) cap] w fun e w' => OutV ((itms ⟨4, n, t⟩).flatMap (fun it => if it.k = 5 then docP (getP ws) nm it else [])) w' e ∧ Below w.heap.size w w' := by
  obtain ⟨hs, hfi, hl, d', rfl, hall⟩ := list_parts d ⟨4, n, t⟩ hf rfl
  have hsum := itms_sum ⟨4, n, t⟩
  obtain ⟨i0, hi0, hz0, hz1, hz2⟩ := info_parts infoV
  obtain ⟨L, hL⟩ : ∃ L, L = itms ⟨4, n, t⟩ := ⟨_, rfl⟩
  rw [← hL] at hfi hall hl hsum ⊢
  have hs' : t.size ≤ 300 := hs
  have hfi' : items t = some L := hfi
  have hsum' : (L.map (fun u => u.t.size)).sum ≤ 300 := Nat.le_trans hsum hs
  have hacc := fun k => Nat.le_trans (accP_len ws nm L k) hsum'
  obtain ⟨D, hD⟩ : ∃ D, D = L.flatMap (fun it => if it.k = 5 then docP (getP ws) nm it else []) := ⟨_, rfl⟩
  rw [← hD]
  have HD : Hid _ := hD
  have HA : Hid _ := hall
  have HF : Hid _ := hfi'
  have HI : Hid (GetAt _) := ih
  have HR : Hid _ := hr
  have HACC : Hid _ := hacc
  have X0 := Boxed.start w (.int .i64 4) (.int .i64 n) (.string t) 38
  have X1 := X0.step ((Below.refl _ _).alloc (Nat.le_refl _) (.cells #[] 38))
  have O1 := World.ownsRow_made (base := w.heap.size) (size := 3) (e := 38) (w.alloc (.cells #[.int .i64 4, .int .i64 n, .string t] 38)) #[] 0 (by simp) (by unfold maxLen; omega) rfl
  clear hD hall hfi hfi' ih hr hacc hL hf hs hsum X0
  go_enter Tryz.func125, Tryz.ntmps125
  go_wp2_with fail
  refine (l01Items_any t _ (by omega)).mono ?_
  rintro e w1 ⟨⟨g1, m, cap1, rfl, hown0⟩, hb⟩
  obtain ⟨rfl, hown1⟩ := hown0 L HF.out
  rw [HF.out]
  have O2 := owns_below O1 hb
  have X2 := X1.step hb
  have hbw := X2.bel
  have R1 := ReadV.of_own hown1
  have hg1 := (hown1.lt g1 rfl).1
  simp only [heap_size_alloc] at O2 hg1
  have HO2 : Hid (World.ownsRow _ _ _ _ _ _ _) := O2
  have HBW : Hid _ := hbw
  have HR1 : Hid _ := R1
  clear hown0 hb X1 X2 O1 hown1 O2 hbw R1
  go_wp2_with fail
  go_loopw [10, 13] (fun u i wr => ∃ q : Nat, q ≤ L.length ∧ i = .int .i64 q ∧ wr.ownsRow w.heap.size 38 3 u (accP (getP ws) nm L q).length (flat (accP (getP ws) nm L q)) ∧ (¬ u = .slice none 0 0) ∧ (∀ k, u.ownBlock = some k → k ≠ g1) ∧ ReadV wr g1 L ∧ Below w.heap.size w wr) (fun _ i _ => L.length - (intOf i).toNat)
  case atStart => exact ⟨0, Nat.zero_le _, rfl, HO2.out, by simp, fun k hk => by simp [Value.ownBlock] at hk; omega, HR1.out, HBW.out⟩
  case round =>
    obtain ⟨q, hq, rfl, hown, hnn, hown2, hR, hbel⟩ := hrel
    have HN : Hid _ := hnn
    have HB2 : Hid _ := hown2
    have hz := hbel.size
    clear hnn hown2
    by_cases hlt : q < L.length
    · obtain ⟨x0, x1, x2⟩ := hR.cells q hlt
      have hgl := hR.lt
      have hlen1 := HACC.out q
      have hlen2 := HACC.out (q + 1)
      have hsucc := accP_succ (getP ws) nm L q hlt
      by_cases h5 : L[q].k = 5
      · rw [if_pos h5] at hsucc
        have e5 : (L[q].k == 5) = true := by simp [h5]
        have hdl : (docP (getP ws) nm L[q]).length ≤ 300 := by rw [hsucc, List.length_append] at hlen2; omega
        have HS : Hid _ := hsucc
        have H5 : Hid _ := h5
        have HRW : Hid _ := HR.out.next hbel
        have HRV : Hid _ := hR
        clear hsucc h5 hlen2 hR
        go_wp2_with fail
        refine (get_doc' nm ws HI.out d' L[q] g off cap _ H5.out (HA.out L[q] (List.getElem_mem _)).1 HRW.out hws hcap).mono ?_
        rintro e w2 ⟨⟨g2, cap2, rfl, R2⟩, hb⟩
        have O3 := owns_below hown hb
        have R3 := HRV.out.next hb
        have hb2 : Below w.heap.size w w2 := hbel.trans (hb.mono hz)
        have hzw := hb2.size
        clear hb hown
        go_wp2_with (at_builtin; refine wpList_append_own_at _ rfl (.tmp 72) (.tmp 78) 107 rfl w.heap.size 38 i0 (.agg #[.int .i64 0, .int .i64 0, .string em]) 3 32 Tryz.underlying107 hi0 hz0 hz1 hz2 rfl (by decide) _ _ _ rfl O3 ⟨g2, 0, none⟩ (docP (getP ws) nm L[q]).length cap2 (flat (docP (getP ws) nm L[q])) rfl (flat_len _) R2.flat (flat_one _) ?c3 ?c4 hzw ?_)
        case c3 => unfold maxLen; omega
        case c4 => omega
        intro v' w3 hown4 hgrow hnv hat
        have hne : ∀ k, v'.ownBlock = some k → k ≠ g1 := by
          intro k hk
          rcases hat with e | e
          · exact HB2.out k (e ▸ hk)
          · rw [e] at hk; injection hk with hk; have := R3.lt; omega
        have R4 := R3.grown hgrow (fun e => HB2.out g1 e.symm rfl)
        have hb4 : Below w.heap.size w w3 := Below.grown hb2 hgrow hzw (owns_block O3)
        rw [← flat_app, ← List.length_append, ← HS.out] at hown4
        have HO4 : Hid (World.ownsRow _ _ _ _ _ _ _) := hown4
        have HNE : Hid _ := hne
        have HR4 : Hid _ := R4
        have hnv' : ¬ v' = .slice none 0 0 := fun e => HN.out (hnv.mp e).1
        have HNV : Hid _ := hnv'
        clear hgrow hat hown4 hne R4 R3 O3 R2 hnv hnv'
        go_wp2_with fail
        go_roundw
        case rel => exact ⟨q + 1, by omega, by go_num, HO4.out, HNV.out, HNE.out, HR4.out, hb4⟩
        case measure => simp [intOf]; omega
      · rw [if_neg h5, List.append_nil] at hsucc
        have e5 : (L[q].k == 5) = false := beq_eq_false_iff_ne.mpr h5
        have HS : Hid _ := hsucc
        clear hsucc h5
        go_wp2_with fail
        go_roundw
        case rel => exact ⟨q + 1, by omega, by go_num, by rw [HS.out]; exact hown, HN.out, HB2.out, hR, hbel⟩
        case measure => simp [intOf]; omega
    · rw [accP_full _ _ _ _ (by omega), ← HD.out] at hown
      obtain ⟨g3, cap3, hv⟩ := owns_shape hown HN.out
      subst hv
      have R := ReadV.of_own hown
      have HR5 : Hid _ := R
      clear R hown HN HB2
      go_wp2_with fail
      go_ret
      exact ⟨OutV.mk g3 cap3 rfl HR5.out, hbel⟩

set_option maxRecDepth 4000 in
set_option maxHeartbeats 1000000 in
theorem get_other (nm : ByteArray) (ws : List ByteArray) (v : Val) (g off cap : Nat) (w : World) (h5 : v.k ≠ 5) (h4 : v.k ≠ 4) (hws : ws.length ≤ 1000) :
    Calls Tryz.prog 125 #[.agg #[.int .i64 v.k, .int .i64 v.n, .string v.t], .slice (some ⟨g, off, none⟩) (ws.length + 1) cap] w fun e w' => OutV [] w' e ∧ Below w.heap.size w w' := by
  have e5 : (v.k == 5) = false := beq_eq_false_iff_ne.mpr h5
  have e4 : (v.k == 4) = false := beq_eq_false_iff_ne.mpr h4
  go_enter Tryz.func125, Tryz.ntmps125
  go_wp2_with fail
  go_ret
  exact ⟨OutV.mk _ _ rfl ⟨by simp, fun i hi => absurd hi (by simp)⟩, by (repeat (first | (with_reducible exact Below.refl _ _) | (with_reducible assumption) | (with_reducible apply below_drewN) | (with_reducible apply Below.drew) | ((with_reducible refine Below.setCell ?_ ?_ _); rotate_left; focus (first | (simp; done) | (simp; omega) | omega)) | ((with_reducible refine Below.alloc ?_ ?_ _); rotate_left; focus (first | (simp; done) | (simp; omega) | omega))))⟩
theorem get_at : ∀ ws : List ByteArray, ws.length ≤ 1000 → GetAt ws
  | [], _ => get_end
  | nm :: ws, h => by
    have ih := get_at ws (by simp at h; omega)
    intro d v g off cap w hf hs hcap hr
    rw [List.length_cons] at hcap h ⊢
    by_cases h5 : v.k = 5
    · rw [getP_doc nm ws v h5]
      exact get_doc' nm ws ih d v g off cap w h5 hf hr (by omega) hcap
    · by_cases h4 : v.k = 4
      · rw [getP_list nm ws v h4]
        obtain ⟨k, n, t⟩ := v
        have h4' : k = 4 := h4
        subst h4'
        exact get_list nm ws ih d n t g off cap w hf hr (by omega) hcap
      · rw [getP_none nm ws v h5 h4]
        exact get_other nm ws v g off cap w h5 h4 (by omega)

end Go.Proofs.YtdchhjnmhnehiaaGreatDoor
