/- The specification's copies of reads: rows of their own, each in blocks of its own. -/
import Derived.Test.YtcggkeleaepebaaGreatDoorHxOQ
import Derived.Test.YtcggkeleaepebaaGreatDoorHxGQ
import Derived.Test.YtcggkeleaepebaaGreatDoorDnsIQ
import Derived.Test.YtcggkeleaepebaaGreatDoorDnsRQ
namespace Go.Proofs.YtcggkeleaepebaaGreatDoor.Hx
open Go.RowKit Go.ChangeShapes Go.WideShapes Go.ChangeAt Go.Joins Tr Co Rea Ce
set_option linter.unusedVariables false

theorem flat_cut {α : Type} (row : α → List Value) (n : Nat) (hn : ∀ x, (row x).length = n) : ∀ (l : List α) (i : Nat) (h : i < l.length), ((l.flatMap row).drop (i * n)).take n = row l[i]
  | [], i, h => by simp at h
  | x :: t, 0, _ => by
    rw [Nat.zero_mul, List.drop_zero, List.flatMap_cons, List.take_append_of_le_length (by rw [hn]; exact Nat.le_refl _), List.take_of_length_le (by rw [hn]; exact Nat.le_refl _)]
    rfl
  | x :: t, i + 1, h => by
    have e : (i + 1) * n - (row x).length = i * n := by rw [hn, Nat.add_mul]; omega
    rw [List.flatMap_cons, List.drop_append, List.drop_of_length_le (by rw [hn, Nat.add_mul]; omega), List.nil_append, e, flat_cut row n hn t i (by simpa using h)]
    rfl
theorem rowH_flat {α : Type} {E : ElP α} {T : TypeId} {n : Nat} {w : World} {lo hi : Nat} {v : Value} {l : List α} (row : α → List Value) (hE : ∀ a b x, E w a b (row x) x) (hn : ∀ x, (row x).length = n) (ho : w.ownsRow lo T n v l.length (l.flatMap row)) (hg : ∀ g, v.ownBlock = some g → g < hi) (hlo : lo ≤ hi) : RowH E T n w lo hi v l :=
  ⟨_, fun _ => hi, fun _ => hi, ho, hg, fun i h => ⟨hlo, Nat.le_refl _, Nat.le_refl _, fun g e => .inl (hg g e), by rw [flat_cut row n hn]; exact hE _ _ _⟩, fun _ _ _ _ => Nat.le_refl _⟩
theorem RowH.made {α : Type} (E : ElP α) {T : TypeId} {sz : Nat} {w : World} {lo hi : Nat} {v : Value} (ho : w.ownsRow lo T sz v 0 []) (hg : ∀ g, v.ownBlock = some g → g < hi) : RowH E T sz w lo hi v [] := by
  refine ⟨[], fun _ => 0, fun _ => 0, ho, hg, ?_, ?_⟩
  · intro i h
    simp at h
  · intro i j _ h
    simp at h
theorem RowH.slice {α : Type} {E : ElP α} {T : TypeId} {sz : Nat} {w : World} {lo hi : Nat} {v : Value} {l : List α} (h : RowH E T sz w lo hi v l) : ∃ p c, v = .slice p l.length c := by
  rcases h.form with ⟨rfl, rfl⟩ | ⟨g, c, rfl, _⟩
  · exact ⟨_, _, rfl⟩
  · exact ⟨_, _, rfl⟩
theorem cellsTm {w : World} {g : Nat} {l : List Trm} (h : ReadT w g l) : ∀ (j : Nat) (u : Value), (flatT l)[j]? = some u → w.cell? ((⟨g, 0, none⟩ : Addr).add j) = some u := by
  intro j u hj
  rw [addO, Nat.zero_add]
  have hjl := (List.getElem?_eq_some_iff.1 hj).1
  rw [flatT_len] at hjl
  obtain ⟨i, r, hr, rfl⟩ : ∃ i r, r < 5 ∧ j = i * 5 + r := ⟨j / 5, j % 5, by omega, by omega⟩
  have hi : i < l.length := by omega
  match r, hr with
  | 0, _ =>
    have e := (flatT_get l i hi).1
    have c := (h.cells i hi).1
    rw [Nat.add_zero] at hj ⊢
    rw [e] at hj
    cases hj
    exact c
  | 1, _ =>
    have e := (flatT_get l i hi).2.1
    have c := (h.cells i hi).2.1
    skip
    rw [e] at hj
    cases hj
    exact c
  | 2, _ =>
    have e := (flatT_get l i hi).2.2.1
    have c := (h.cells i hi).2.2.1
    skip
    rw [e] at hj
    cases hj
    exact c
  | 3, _ =>
    have e := (flatT_get l i hi).2.2.2.1
    have c := (h.cells i hi).2.2.2.1
    skip
    rw [e] at hj
    cases hj
    exact c
  | 4, _ =>
    have e := (flatT_get l i hi).2.2.2.2
    have c := (h.cells i hi).2.2.2.2
    skip
    rw [e] at hj
    cases hj
    exact c
  | r + 5, hr => exact absurd hr (by omega)
theorem cellsCg {w : World} {g : Nat} {l : List Cgr} (h : ReadCg w g l) : ∀ (j : Nat) (u : Value), (flatCg l)[j]? = some u → w.cell? ((⟨g, 0, none⟩ : Addr).add j) = some u := by
  intro j u hj
  rw [addO, Nat.zero_add]
  have hjl := (List.getElem?_eq_some_iff.1 hj).1
  rw [flatCg_len] at hjl
  obtain ⟨i, r, hr, rfl⟩ : ∃ i r, r < 10 ∧ j = i * 10 + r := ⟨j / 10, j % 10, by omega, by omega⟩
  have hi : i < l.length := by omega
  match r, hr with
  | 0, _ =>
    have e := (flatCg_get l i hi).1
    have c := (h.cells i hi).1
    rw [Nat.add_zero] at hj ⊢
    rw [e] at hj
    cases hj
    exact c
  | 1, _ =>
    have e := (flatCg_get l i hi).2.1
    have c := (h.cells i hi).2.1
    skip
    rw [e] at hj
    cases hj
    exact c
  | 2, _ =>
    have e := (flatCg_get l i hi).2.2.1
    have c := (h.cells i hi).2.2.1
    skip
    rw [e] at hj
    cases hj
    exact c
  | 3, _ =>
    have e := (flatCg_get l i hi).2.2.2.1
    have c := (h.cells i hi).2.2.2.1
    skip
    rw [e] at hj
    cases hj
    exact c
  | 4, _ =>
    have e := (flatCg_get l i hi).2.2.2.2.1
    have c := (h.cells i hi).2.2.2.2.1
    skip
    rw [e] at hj
    cases hj
    exact c
  | 5, _ =>
    have e := (flatCg_get l i hi).2.2.2.2.2.1
    have c := (h.cells i hi).2.2.2.2.2.1
    skip
    rw [e] at hj
    cases hj
    exact c
  | 6, _ =>
    have e := (flatCg_get l i hi).2.2.2.2.2.2.1
    have c := (h.cells i hi).2.2.2.2.2.2.1
    skip
    rw [e] at hj
    cases hj
    exact c
  | 7, _ =>
    have e := (flatCg_get l i hi).2.2.2.2.2.2.2.1
    have c := (h.cells i hi).2.2.2.2.2.2.2.1
    skip
    rw [e] at hj
    cases hj
    exact c
  | 8, _ =>
    have e := (flatCg_get l i hi).2.2.2.2.2.2.2.2.1
    have c := (h.cells i hi).2.2.2.2.2.2.2.2.1
    skip
    rw [e] at hj
    cases hj
    exact c
  | 9, _ =>
    have e := (flatCg_get l i hi).2.2.2.2.2.2.2.2.2
    have c := (h.cells i hi).2.2.2.2.2.2.2.2.2
    skip
    rw [e] at hj
    cases hj
    exact c
  | r + 10, hr => exact absurd hr (by omega)
theorem oneTm (l : List Trm) : ∀ u ∈ flatT l, u.oneCell' = true := by
  intro u hu
  unfold flatT at hu
  obtain ⟨t, _, ht⟩ := List.mem_flatMap.1 hu
  simp [rowT] at ht
  rcases ht with rfl | rfl | rfl | rfl | rfl <;> rfl
theorem oneCg (l : List Cgr) : ∀ u ∈ flatCg l, u.oneCell' = true := by
  intro u hu
  unfold flatCg at hu
  obtain ⟨t, _, ht⟩ := List.mem_flatMap.1 hu
  simp [rowCg] at ht
  rcases ht with rfl | rfl | rfl | rfl | rfl | rfl | rfl | rfl | rfl | rfl <;> rfl
/-- An empty row that is made in a new block. -/
theorem made_row (w : World) (T : TypeId) (size lo : Nat) (h : lo ≤ w.heap.size) : (w.alloc (.cells #[] T)).ownsRow lo T size (.slice (some ⟨w.heap.size, 0, none⟩) 0 0) 0 [] :=
  World.ownsRow_made (size := size) (e := T) w #[] 0 h (by unfold maxLen; omega) (by simp)

set_option maxRecDepth 4000 in
set_option maxHeartbeats 8000000 in
theorem l09Reads_x (g c b1 : Nat) (l : List Rdg) (w : World) (hm : MadeRd w b1 g l) (hl : l.length ≤ 1000) (hk : ∀ x ∈ l, x.f.length ≤ 1000 ∧ ∀ y ∈ x.f, y.length ≤ 1000) :
    Calls Tryz.prog 45 #[.slice (some ⟨g, 0, none⟩) l.length c] w fun e w' => (∃ p c, e = .returned (.slice p l.length c) ∧ RowRH w' w.heap.size w'.heap.size (.slice p l.length c) l) ∧ Below w.heap.size w w' := by
  have HM : Hid (MadeRd _ _ _ _) := hm
  have HK : Hid _ := hk
  clear hm hk
  go_enter Tryz.func45, Tryz.ntmps45
  go_wp2_with fail
  have HO0 : Hid (RowRH (w.alloc (.cells #[] 80)) w.heap.size (w.alloc (.cells #[] 80)).heap.size (.slice (some ⟨w.heap.size, 0, none⟩) 0 0) []) := RowH.made _ (made_row w _ _ _ (Nat.le_refl _)) (fun g hg => by
    obtain rfl : w.heap.size = g := by simpa [Value.ownBlock] using hg
    simp)
  have hb0 : Below w.heap.size w (w.alloc (.cells #[] 80)) := (Below.refl _ _).alloc (Nat.le_refl _) _
  generalize w.alloc (.cells #[] 80) = W0 at HO0 hb0 ⊢
  go_loopw [3, 4] (fun u i wr => ∃ (k : Nat) (pv : Option Addr) (cv : Nat), k ≤ l.length ∧ i = .int .i64 k ∧ u = .slice pv k cv ∧ RowRH wr w.heap.size wr.heap.size (.slice pv k cv) (l.take k) ∧ Below w.heap.size w wr) (fun _ i _ => l.length - (intOf i).toNat)
  case atStart => exact ⟨0, _, _, Nat.zero_le _, rfl, rfl, HO0.out, hb0⟩
  case round =>
    obtain ⟨k, pv, cv, hk, rfl, rfl, hO, hbel⟩ := hrel
    have HO : Hid (RowRH _ _ _ _ _) := hO
    have hz := hbel.size
    clear hO HO0
    by_cases hlt : k < l.length
    · have hlt2 : (k : Int) < (l.length : Int) := by omega
      have R1 := HM.out.next hbel
      obtain ⟨x0, gi, x1, hV⟩ := R1.cells k hlt
      have hg1 := R1.lt
      have hks := HK.out l[k] (List.getElem_mem _)
      have htk : l.take (k + 1) = l.take k ++ [l[k]] := List.take_succ_eq_append_getElem hlt
      have htl : (l.take k).length = k := by rw [List.length_take]; omega
      obtain ⟨en, hen⟩ : ∃ en, en = l[k] := ⟨_, rfl⟩
      rw [← hen] at x0 x1 hks htk hV
      have HTK : Hid _ := htk
      have HTL : Hid _ := htl
      have HKS : Hid _ := hks
      have HV : Hid (MadeC _ _ _ _) := hV
      have hbA : Below wr.heap.size wr (wr.alloc (.cells #[] 109)) := (Below.refl _ _).alloc (Nat.le_refl _) _
      have HA0 : Hid (RowCH (wr.alloc (.cells #[] 109)) wr.heap.size (wr.alloc (.cells #[] 109)).heap.size (.slice (some ⟨wr.heap.size, 0, none⟩) 0 0) []) := RowH.made _ (made_row wr _ _ _ (Nat.le_refl _)) (fun g hg => by
        obtain rfl : wr.heap.size = g := by simpa [Value.ownBlock] using hg
        simp)
      have X0 : Hid (_ = _) := x0
      have X1 : Hid (_ = _) := x1
      have HG1 : Hid (g < wr.heap.size) := hg1
      clear hen htk htl hks R1 hV x0 x1 hg1
      go_wp2_with fail
      obtain ⟨wo, hwo⟩ : ∃ wo, wo = wr := ⟨_, rfl⟩
      have HWO : Hid (wo = wr) := hwo
      clear hwo
      go_loopw [5, 6] (fun u i wq => ∃ (m : Nat) (pa : Option Addr) (ca : Nat), m ≤ en.f.length ∧ i = .int .i64 m ∧ u = .slice pa m ca ∧ RowCH wq wo.heap.size wq.heap.size (.slice pa m ca) (en.f.take m) ∧ Below wo.heap.size wo wq) (fun _ i _ => en.f.length - (intOf i).toNat)
      case atStart => exact ⟨0, _, _, Nat.zero_le _, rfl, rfl, by rw [HWO.out]; exact HA0.out, by rw [HWO.out]; exact hbA⟩
      case round =>
        obtain ⟨m, pa, ca, hm, rfl, rfl, hO2, hbq⟩ := hrel
        have HOQ : Hid (RowCH _ _ _ _ _) := hO2
        have HV1 := HV.out
        have hx0 := X0.out
        have hx1 := X1.out
        have hg1 := HG1.out
        rw [← HWO.out] at HV1 hx0 hx1 hg1
        have y0 := (hbq.cell hg1).trans hx0
        have y1 := (hbq.cell hg1).trans hx1
        have hgq := Nat.lt_of_lt_of_le hg1 hbq.size
        clear hO2 HA0
        by_cases hlm : m < en.f.length
        · have hlm2 : (m : Int) < (en.f.length : Int) := by omega
          obtain ⟨gt, ct, z0, _, hT⟩ := HV1.cells m hlm
          have hlv := HV1.lt
          have z1 := (hbq.cell hlv).trans z0
          have hlq := Nat.lt_of_lt_of_le hlv hbq.size
          have hTq := hT.next hbq
          have hkm := HKS.out.2 en.f[m] (List.getElem_mem _)
          have htk2 : en.f.take (m + 1) = en.f.take m ++ [en.f[m]] := List.take_succ_eq_append_getElem hlm
          have htl2 : (en.f.take m).length = m := by rw [List.length_take]; omega
          have hfl := HKS.out.1
          obtain ⟨ts, hts⟩ : ∃ ts, ts = en.f[m] := ⟨_, rfl⟩
          rw [← hts] at z1 hTq hkm htk2
          have HTK2 : Hid _ := htk2
          have HTL2 : Hid _ := htl2
          have HTQ : Hid (ReadT wr gt ts) := hTq
          have hbB : Below wr.heap.size wr (wr.alloc (.cells #[] 144)) := (Below.refl _ _).alloc (Nat.le_refl _) _
          have hsB : (wr.alloc (.cells #[] 144)).heap.size = wr.heap.size + 1 := by simp
          have HCT : Hid (∀ (j : Nat) (u : Value), (flatT ts)[j]? = some u → (wr.alloc (.cells #[] 144)).cell? ((⟨gt, 0, none⟩ : Addr).add j) = some u) := cellsTm (hTq.next hbB)
          have HMR : Hid (World.ownsRow _ _ _ _ _ _ _) := made_row wr 144 5 wr.heap.size (Nat.le_refl _)
          have HSB : Hid (_ = _) := hsB
          have HBB : Hid (Below _ _ _) := hbB
          have HZW : Hid (wo.heap.size ≤ wr.heap.size) := hbq.size
          clear hts htk2 htl2 hT hTq z0 hx0 hx1 HV1 y0 hg1 hlv hsB hbB
          go_wp2_with (at_builtin; first
            | (refine wpList_apxTm rfl (.tmp 27) (.tmp 37) rfl wr.heap.size 0 _ [] rfl HMR.out ⟨gt, 0, none⟩ ts.length ct (flatT ts) rfl (flatT_len _) HCT.out (oneTm _) (by omega) (by omega) (by simp) ?_
               intro v2 w2 o2 g2 at2
               have hlt2' := o2.lt
               have hb2 : Below wr.heap.size wr w2 := HBB.out.grown g2 (by have := HSB.out; omega) (fun b hb => (HMR.out.lt b hb).1)
               have hz2 := hb2.size
               have HT2 : Hid (RowTH w2 wr.heap.size w2.heap.size v2 ts) := rowH_flat rowT (fun _ _ _ => rfl) (fun _ => rfl) (by have := o2; rw [Nat.zero_add, List.nil_append] at this; exact this) (fun g hg => (hlt2' g hg).2) hz2
               obtain ⟨p2, c2, rfl⟩ := HT2.out.slice
               obtain ⟨xs, ho6, hsn⟩ := (HOQ.out.next frC hb2).snoc frC
               rw [HTL2.out] at ho6
               have HSN : Hid _ := hsn
               have HOW : Hid (World.ownsRow _ _ _ _ _ _ _) := ho6
               have HB2 : Hid (Below _ _ _) := hb2
               clear o2 g2 at2 hlt2' hb2 hsn ho6)
            | (refine wpList_apxCl rfl (.tmp 26) (.tmp 40) rfl wo.heap.size m _ xs rfl (HOW.out.alloc _) ⟨w2.heap.size, 0, none⟩ 1 1 [.slice p2 ts.length c2] rfl rfl (new_cells _ #[.slice p2 ts.length c2] _) (by intro u hu; simp at hu; subst hu; rfl) (by omega) (by omega) (by have := HZW.out; simp; omega) ?_
               intro v7 w7 o7 g7 at7))
          have hal7 : (w2.alloc (.cells #[.slice p2 ts.length c2] 109)).heap.size = w2.heap.size + 1 := by simp
          have hlt7 := o7.lt
          have hzw := HZW.out
          obtain ⟨gv, cw, hvv, _, _, _, _⟩ := rowFm o7 (by omega)
          subst hvv
          have HR8 : Hid (RowCH w7 wo.heap.size w7.heap.size (.slice (some ⟨gv, 0, none⟩) (m + 1) cw) (en.f.take (m + 1))) := by
            show RowCH _ _ _ _ _
            rw [HTK2.out]
            refine HSN.out w7 wr.heap.size w2.heap.size w7.heap.size [.slice p2 ts.length c2] ts _ (Nat.le_refl _) (by omega) (by omega) (by have := g7.size; omega) (Nat.le_refl _) ⟨_, rfl, HT2.out⟩ rfl (by rw [HTL2.out]; exact o7) ?_ ?_ ?_
            · intro j hj hne
              exact (g7.block j (by omega) hne).trans (Below.heap_alloc _ _ _ hj)
            · rcases at7 with h | h
              · exact .inl h
              · exact .inr ⟨_, h, by omega⟩
            · intro g hg
              exact (hlt7 g hg).2
          have HB8 : Hid (Below wo.heap.size wo w7) := (hbq.trans (HB2.out.mono hzw)).trans (Below.grown ((Below.refl _ w2).alloc (by omega) (.cells #[.slice p2 ts.length c2] 109)) g7 (by simp; omega) (fun b hb => (HOW.out.lt b hb).1))
          clear o7 g7 at7 hlt7 hal7 HSN HOW HT2 HB2 HMR HCT HBB HSB HOQ
          go_wp2_with fail
          go_roundw
          case rel => exact ⟨m + 1, _, _, by omega, by go_num, rfl, HR8.out, HB8.out⟩
          case measure => simp [intOf]; omega
        · obtain rfl : m = en.f.length := by omega
          have hlm2 : ¬ (en.f.length : Int) < (en.f.length : Int) := by omega
          have hOf : RowCH wr wo.heap.size wr.heap.size (.slice pa en.f.length ca) en.f := by have := HOQ.out; rw [List.take_length] at this; exact this
          have HOf : Hid (RowCH _ _ _ _ _) := hOf
          have HOr : RowRH wo w.heap.size wo.heap.size (.slice pv k cv) (l.take k) := by rw [HWO.out]; exact HO.out
          obtain ⟨xs, ho6, hsn⟩ := (HOr.next frR hbq).snoc frR
          rw [HTL.out] at ho6
          have hzo : w.heap.size ≤ wo.heap.size := HOr.form.elim (fun _ => by rw [HWO.out]; exact hz) (fun _ => by rw [HWO.out]; exact hz)
          have HSN : Hid _ := hsn
          have HOW : Hid (World.ownsRow _ _ _ _ _ _ _) := ho6
          have HBQ : Hid (Below _ _ _) := hbq
          have hzq := hbq.size
          clear hOf HOr hsn ho6 HOQ hbq hx0 hx1 HV1
          go_wp2_with (at_builtin; refine wpList_apxRd rfl (.tmp 42) (.tmp 51) rfl w.heap.size k _ xs rfl (HOW.out.alloc _) ⟨wr.heap.size, 0, none⟩ 1 1 [.string en.coll, .slice pa en.f.length ca] rfl rfl (new_cells _ #[.string en.coll, .slice pa en.f.length ca] _) (by intro u hu; simp at hu; rcases hu with rfl | rfl <;> rfl) (by omega) (by omega) (by simp; omega) ?_; intro v7 w7 o7 g7 at7)
          have hal7 : (wr.alloc (.cells #[.string en.coll, .slice pa en.f.length ca] 80)).heap.size = wr.heap.size + 1 := by simp
          have hlt7 := o7.lt
          obtain ⟨gv, cw, hvv, _, _, _, _⟩ := rowFm o7 (by omega)
          subst hvv
          have HR8 : Hid (RowRH w7 w.heap.size w7.heap.size (.slice (some ⟨gv, 0, none⟩) (k + 1) cw) (l.take (k + 1))) := by
            show RowRH _ _ _ _ _
            rw [HTK.out]
            refine HSN.out w7 wo.heap.size wr.heap.size w7.heap.size [.string en.coll, .slice pa en.f.length ca] en _ (Nat.le_refl _) hzo hzq (by have := g7.size; omega) (Nat.le_refl _) ⟨_, rfl, HOf.out⟩ rfl (by rw [HTL.out]; exact o7) ?_ ?_ ?_
            · intro j hj hne
              exact (g7.block j (by omega) hne).trans (Below.heap_alloc _ _ _ hj)
            · rcases at7 with h | h
              · exact .inl h
              · exact .inr ⟨_, h, by omega⟩
            · intro g hg
              exact (hlt7 g hg).2
          have hbw : Below w.heap.size w wo := by rw [HWO.out]; exact hbel
          have HB8 : Hid (Below w.heap.size w w7) := (hbw.trans (HBQ.out.mono hzo)).trans (Below.grown ((Below.refl _ wr).alloc (by omega) (.cells #[.string en.coll, .slice pa en.f.length ca] 80)) g7 (by simp; omega) (fun b hb => (HOW.out.lt b hb).1))
          clear o7 g7 at7 hlt7 hal7 HSN HOW HOf HBQ hbw y0 y1
          go_wp2_with fail
          go_roundw
          case rel => exact ⟨k + 1, _, _, by omega, by go_num, rfl, HR8.out, HB8.out⟩
          case measure => simp [intOf]; omega
    · obtain rfl : k = l.length := by omega
      have hOf : RowRH wr w.heap.size wr.heap.size (.slice pv l.length cv) l := by have := HO.out; rw [List.take_length] at this; exact this
      have HOf : Hid (RowRH _ _ _ _ _) := hOf
      have HB : Hid (Below _ _ _) := hbel
      clear hOf HO hbel
      go_wp2_with fail
      go_ret
      exact ⟨⟨_, _, rfl, HOf.out⟩, HB.out⟩

end Go.Proofs.YtcggkeleaepebaaGreatDoor.Hx

/- Those behind a time, and a clean list of committed ones: the program's answer. -/
namespace Go.Proofs.YtcggkeleaepebaaGreatDoor.Hx
open Go.RowKit Go.ChangeShapes Go.WideShapes Go.ChangeAt Go.Joins Tr Co Rea Ce
set_option linter.unusedVariables false

/-- Those whose time is behind one. -/
def behB (t : Int) : List Dn → List Dn
  | [] => []
  | x :: l => if x.at_ ≤ t then behB t l else x :: l
theorem behB_mem (t : Int) : ∀ (l : List Dn) (d : Dn), d ∈ behB t l → d ∈ l
  | [], _, h => h
  | x :: l, d, h => by
    unfold behB at h
    by_cases hx : x.at_ ≤ t
    · rw [if_pos hx] at h; exact List.mem_cons_of_mem _ (behB_mem t l d h)
    · rw [if_neg hx] at h; exact h
theorem behB_len (t : Int) : ∀ l : List Dn, (behB t l).length ≤ l.length
  | [] => Nat.le_refl _
  | x :: l => by
    unfold behB
    by_cases hx : x.at_ ≤ t
    · rw [if_pos hx, List.length_cons]; exact Nat.le_succ_of_le (behB_len t l)
    · rw [if_neg hx]; exact Nat.le_refl _
theorem readT_in {w : World} {g : Nat} {l : List Trm} (h : ReadT w g l) : InT w (some ⟨g, 0, none⟩) l :=
  .inr ⟨g, 0, rfl, h.lt, fun i hi => by rw [Nat.zero_add]; exact h.cells i hi⟩
theorem madeC_in {w : World} {b g : Nat} {f : List (List Trm)} (h : MadeC w b g f) : InCl w (some ⟨g, 0, none⟩) f :=
  .inr ⟨g, 0, rfl, h.lt, fun i hi => by
    obtain ⟨gi, cap, h1, _, h3⟩ := h.cells i hi
    rw [Nat.zero_add]
    exact ⟨_, cap, h1, readT_in h3⟩⟩
theorem madeRd_in {w : World} {b g : Nat} {l : List Rdg} (h : MadeRd w b g l) : InRd w (some ⟨g, 0, none⟩) l :=
  .inr ⟨g, 0, rfl, h.lt, fun i hi => by
    obtain ⟨x0, gi, h1, h3⟩ := h.cells i hi
    rw [Nat.zero_add]
    exact ⟨x0, _, _, h1, madeC_in h3⟩⟩
theorem cutTailD (b off n ca : Nat) (h : 1 ≤ n) (W : World) : (Instr.slice 29 (.slice (some ⟨b, off, none⟩) n ca) (some (.int .i64 1)) none none).run Tryz.prog W = .ok (.slice (some ⟨b, if ca = 1 then off else off + 6, none⟩) (n - 1) (ca - 1)) W := by
  have he : Tryz.prog.elem 29 = 36 := by kernel_rfl
  refine (run_slice_l (P := Tryz.prog) (w := W) 29 (some ⟨b, off, none⟩) n ca (by kernel_rfl) .i64 1 (by omega) (by omega)).trans ?_
  rw [he, Tryz.sizeOf36]
  simp only [sliced, Result.andThen]
  split <;> rename_i hh <;> simp [Addr.add] at hh ⊢ <;> simp [hh]
/-- The cells of one that was committed. -/
def CellD (w : World) (b o : Nat) (x : Dn) : Prop := ∃ p cp q cq, (w.cell? ⟨b, o, none⟩ = some (.int .i64 x.sn) ∧ w.cell? ⟨b, o + 1, none⟩ = some (.int .i64 x.at_) ∧ w.cell? ⟨b, o + 2, none⟩ = some (.slice p x.rs.length cp) ∧ w.cell? ⟨b, o + 3, none⟩ = some (.slice q x.cs.length cq) ∧ w.cell? ⟨b, o + 4, none⟩ = some (.bool x.di) ∧ w.cell? ⟨b, o + 5, none⟩ = some (.bool x.do_)) ∧ InRd w p x.rs ∧ InCg w q x.cs
/-- A window onto committed ones. -/
def WinD (w : World) (v : Value) (l : List Dn) : Prop := ∃ b off c, v = .slice (some ⟨b, off, none⟩) l.length c ∧ l.length ≤ c ∧ b < w.heap.size ∧ ∀ i (h : i < l.length), CellD w b (off + i * 6) l[i]
theorem CellD.next {w w' : World} {b o : Nat} {x : Dn} (h : CellD w b o x) (hb : b < w.heap.size) (k : Below w.heap.size w w') : CellD w' b o x := by
  obtain ⟨p, cp, q, cq, ⟨x0, x1, x2, x3, x4, x5⟩, y, z⟩ := h
  exact ⟨p, cp, q, cq, ⟨(k.cell hb).trans x0, (k.cell hb).trans x1, (k.cell hb).trans x2, (k.cell hb).trans x3, (k.cell hb).trans x4, (k.cell hb).trans x5⟩, y.step k, z.step k⟩
theorem WinD.next {w w' : World} {v : Value} {l : List Dn} (h : WinD w v l) (k : Below w.heap.size w w') : WinD w' v l := by
  obtain ⟨b, off, c, hv, hl, hb, hc⟩ := h
  exact ⟨b, off, c, hv, hl, Nat.lt_of_lt_of_le hb k.size, fun i hi => (hc i hi).next hb k⟩
theorem WinD.inDn {w : World} {v : Value} {l : List Dn} (h : WinD w v l) : ∃ a c, v = .slice a l.length c ∧ InDn w a l := by
  obtain ⟨b, off, c, hv, hl, hb, hc⟩ := h
  exact ⟨_, c, hv, .inr ⟨b, off, rfl, hb, hc⟩⟩
theorem MadeDn.win {w : World} {b1 g c : Nat} {l : List Dn} (h : MadeDn w b1 g l) (hc : l.length ≤ c) : WinD w (.slice (some ⟨g, 0, none⟩) l.length c) l :=
  ⟨g, 0, c, rfl, hc, h.lt, fun i hi => by
    obtain ⟨gr, gc, x, y, z, _⟩ := h.cells i hi
    rw [Nat.zero_add]
    exact ⟨_, _, _, _, x, madeRd_in y, z.inCg⟩⟩
def lenVD : Value → Nat
  | .slice _ n _ => n
  | _ => 0

set_option maxRecDepth 4000 in
set_option maxHeartbeats 4000000 in
theorem behind_any (v : Value) (l : List Dn) (t : Int) (w : World) (h : WinD w v l) (hlen : l.length ≤ 1000) :
    Calls Tryz.prog 38 #[v, .int .i64 t] w fun e w' => (∃ v', e = .returned v' ∧ WinD w' v' (behB t l)) ∧ Below w.heap.size w w' := by
  have HW : Hid (WinD w v l) := h
  obtain ⟨R, hR⟩ : ∃ R, R = behB t l := ⟨_, rfl⟩
  rw [← hR]
  have HR : Hid (R = behB t l) := hR
  clear h hR
  go_enter Tryz.func38, Tryz.ntmps38
  go_wp2_with fail
  go_loopw [0] (fun v wr => ∃ r : List Dn, r.length ≤ 1000 ∧ WinD wr v r ∧ R = behB t r ∧ Below w.heap.size w wr) (fun v _ => lenVD v)
  case atStart => exact ⟨l, hlen, HW.out, HR.out, Below.refl _ _⟩
  case round =>
    obtain ⟨r, hrl, hw, hr, hbel⟩ := hrel
    have HWR : Hid (WinD _ _ _) := hw
    obtain ⟨b, off, c, rfl, hlc, hbl, hc⟩ := hw
    clear HW HR hlen
    cases r with
    | nil =>
      have HWN : Hid (WinD wr (.slice (some ⟨b, off, none⟩) 0 c) R) := by rw [show R = [] from hr]; exact HWR.out
      rw [List.length_nil]
      clear hr HWR hc hlc hrl
      go_wp2_with fail
      go_ret
      exact ⟨⟨_, rfl, HWN.out⟩, hbel⟩
    | cons x r' =>
      obtain ⟨p, cp, q, cq, ⟨_, x1, _, _, _, _⟩, _, _⟩ := hc 0 (by simp)
      have x1' : wr.cell? ⟨b, off + 1, none⟩ = some (.int .i64 x.at_) := by simpa using x1
      have HCC : Hid (∀ i (h : i < (x :: r').length), CellD wr b (off + i * 6) (x :: r')[i]) := hc
      rw [List.length_cons] at hlc hrl HWR ⊢
      have h0 : (0 : Int) < (r'.length : Int) + 1 := by omega
      have h0' : (0 : Int) < ((r'.length + 1 : Nat) : Int) := by omega
      clear x1 hc
      by_cases ht : x.at_ ≤ t
      · have HRT : Hid (R = behB t r') := by show R = _; rw [hr, behB, if_pos ht]
        obtain ⟨off2, ho2⟩ : ∃ y, y = if c = 1 then off else off + 6 := ⟨_, rfl⟩
        have hct := cutTailD b off (r'.length + 1) c (by omega)
        rw [← ho2, Nat.add_sub_cancel] at hct
        have HWN : Hid (WinD wr (.slice (some ⟨b, off2, none⟩) r'.length (c - 1)) r') := by
          refine ⟨b, off2, c - 1, rfl, by omega, hbl, fun i hi => ?_⟩
          rw [ho2, if_neg (by omega)]
          have := HCC.out (i + 1) (by rw [List.length_cons]; omega)
          rw [List.getElem_cons_succ] at this
          rw [show off + 6 + i * 6 = off + (i + 1) * 6 by omega]
          exact this
        clear ho2 HCC HWR hr
        go_wp2_with fail
        go_roundw
        case rel => exact ⟨r', by omega, HWN.out, HRT.out, hbel⟩
        case measure => simp [lenVD]
      · have HWN : Hid (WinD wr (.slice (some ⟨b, off, none⟩) (r'.length + 1) c) R) := by
          rw [show R = x :: r' by rw [hr, behB, if_neg ht]]; exact HWR.out
        clear hr HWR HCC
        go_wp2_with fail
        go_ret
        exact ⟨⟨_, rfl, HWN.out⟩, hbel⟩

/-- What CleanDone tells. -/
def clnL (l : List Dn) (t : Int) : List Dn := if donesB l = true then behB t l else []
def clnC (l : List Dn) : Int := if 4096 < l.length then 2 else if donesB l = true then 0 else 1
def ClR (l : List Dn) (t : Int) (w : World) (e : Ending) (w' : World) : Prop := (∃ v, e = .returned (.tuple #[v, .int .i64 (clnC l)]) ∧ RowDH w' w.heap.size w'.heap.size v (clnL l t)) ∧ Below w.heap.size w w'
/-- Right ones are small enough to be copied. -/
theorem dn_own (x : Dn) (h : dnB x = true) (hs : szDn x) : x.rs.length ≤ 1000 ∧ (∀ y ∈ x.rs, y.coll.size ≤ 1048576 ∧ y.f.length ≤ 1000 ∧ ∀ z ∈ y.f, z.length ≤ 1000 ∧ ∀ t ∈ z, szT t) ∧ x.cs.length ≤ 1000 ∧ ∀ y ∈ x.cs, szCg y := by
  unfold dnB doneB listsB at h
  simp only [Bool.and_eq_true, decide_eq_true_eq] at h
  obtain ⟨_, _, h1, h2, h3, h4⟩ := h
  refine ⟨by omega, fun y hy => ?_, by omega, hs.s1⟩
  have hr := List.all_eq_true.1 h1 y hy
  unfold okR readB filtB at hr
  simp only [Bool.and_eq_true, decide_eq_true_eq] at hr
  obtain ⟨_, hf, hcl⟩ := hr
  have hz := hs.r1 y hy
  refine ⟨hz.s0, by omega, fun z hzm => ⟨?_, (hz.f1 z hzm).2⟩⟩
  have hq := List.all_eq_true.1 hcl z hzm
  unfold clauseB at hq
  simp only [Bool.and_eq_true, decide_eq_true_eq] at hq
  omega

set_option maxRecDepth 4000 in
set_option maxHeartbeats 4000000 in
theorem implClean_any (g c b1 : Nat) (l : List Dn) (t : Int) (w : World) (h1 : MadeDn w b1 g l) (hc : l.length ≤ c) (hlen : l.length ≤ 1048576) (hs : ∀ v ∈ l, szDn v) :
    Calls Tryz.prog 17 #[.slice (some ⟨g, 0, none⟩) l.length c, .int .i64 t] w fun e w' => ClR l t w e w' := by
  have HC0 : Hid (Calls _ _ _ _ _) := doneListOK_any g c b1 l w h1 hlen hs
  have HW : Hid (WinD w _ l) := MadeDn.win h1 hc
  have HS : Hid (∀ v ∈ l, szDn v) := hs
  clear h1 hs
  unfold ClR
  by_cases t0 : 4096 < l.length
  · have t1 : (4096 : Int) < (l.length : Int) := by omega
    have e1 : clnC l = 2 := by unfold clnC; rw [if_pos t0]
    have e2 : clnL l t = [] := by
      unfold clnL
      rw [if_neg]
      intro h
      have := (dones_parts l h).1
      omega
    rw [e1, e2]
    clear HC0
    go_enter Tryz.func17, Tryz.ntmps17
    go_wp2_with fail
    go_ret2
    exact ⟨⟨_, rfl, RowH.nil _ _ _ _ _ _⟩, Below.refl _ _⟩
  have t1 : ¬ (4096 : Int) < (l.length : Int) := by omega
  cases hD : donesB l
  · have e1 : clnC l = 1 := by unfold clnC; rw [if_neg t0, hD]; rfl
    have e2 : clnL l t = [] := by unfold clnL; rw [hD]; rfl
    rw [e1, e2]
    rw [hD] at HC0
    clear hD e1 e2
    go_enter Tryz.func17, Tryz.ntmps17
    go_wp2_with fail
    refine HC0.out.mono ?_
    rintro e w1 ⟨rfl, hb⟩
    go_wp2_with fail
    go_ret2
    exact ⟨⟨_, rfl, RowH.nil _ _ _ _ _ _⟩, hb⟩
  have e1 : clnC l = 0 := by unfold clnC; rw [if_neg t0, hD]; rfl
  have e2 : clnL l t = behB t l := by unfold clnL; rw [hD, if_pos rfl]
  rw [e1, e2]
  obtain ⟨hl30, hdn⟩ := dones_parts l hD
  have HK : Hid (∀ e ∈ behB t l, e.rs.length ≤ 1000 ∧ (∀ y ∈ e.rs, y.coll.size ≤ 1048576 ∧ y.f.length ≤ 1000 ∧ ∀ z ∈ y.f, z.length ≤ 1000 ∧ ∀ t ∈ z, szT t) ∧ e.cs.length ≤ 1000 ∧ ∀ y ∈ e.cs, szCg y) := fun e he => dn_own e (hdn e (behB_mem t l e he)) (HS.out e (behB_mem t l e he))
  have HL : Hid ((behB t l).length ≤ 1000) := by have := behB_len t l; show _ ≤ _; omega
  rw [hD] at HC0
  obtain ⟨R, hR⟩ : ∃ R, R = behB t l := ⟨_, rfl⟩
  have HB0 : ∀ W : World, Below w.heap.size w W → Calls _ _ _ W _ := fun W hW => behind_any _ l t W (HW.out.next hW) (by omega)
  rw [← hR] at HB0 HK HL ⊢
  have HB : Hid _ := HB0
  clear hR hD e1 e2 hdn HB0
  go_enter Tryz.func17, Tryz.ntmps17
  go_wp2_with fail
  refine HC0.out.mono ?_
  rintro e w1 ⟨rfl, hb⟩
  have hz1 := hb.size
  have HB1 : Hid (Calls _ _ _ _ _) := HB.out w1 hb
  have HBB : Hid (Below _ _ _) := hb
  clear HC0 HB hb
  go_wp2_with fail
  refine HB1.out.mono ?_
  rintro e w2 ⟨⟨v, rfl, hw⟩, hb2⟩
  obtain ⟨a, cv, rfl, hin⟩ := hw.inDn
  have hz2 := hb2.size
  have HO : Hid (Calls _ _ _ _ _) := ownLDn_any a cv R w2 hin HL.out HK.out
  have HB2 : Hid (Below w.heap.size w w2) := HBB.out.trans (hb2.mono hz1)
  clear hw hin hb2 HB1 HBB
  go_wp2_with fail
  refine HO.out.mono ?_
  rintro e w3 ⟨⟨p, c3, rfl, hr⟩, hb3⟩
  have HR3 : Hid (RowDH _ _ _ _ _) := hr
  have hb4 : Below w.heap.size w w3 := HB2.out.trans (hb3.mono (by omega))
  clear hr hb3 HO HB2
  go_wp2_with fail
  go_ret2
  exact ⟨⟨_, rfl, HR3.out.wide (by omega) (Nat.le_refl _)⟩, hb4⟩

end Go.Proofs.YtcggkeleaepebaaGreatDoor.Hx

/- The specification's copies of committed ones; a clean list of them. -/
namespace Go.Proofs.YtcggkeleaepebaaGreatDoor.Hx
open Go.RowKit Go.ChangeShapes Go.WideShapes Go.ChangeAt Go.Joins Tr Co Rea Ce
set_option linter.unusedVariables false

/-- One that was committed whose reads and changes lie in an earlier world. -/
def ElL (W : World) (b1 : Nat) : ElP Dn := fun _ _ _ cs en => ∃ gr gc, cs = [.int .i64 en.sn, .int .i64 en.at_, .slice (some ⟨gr, 0, none⟩) en.rs.length en.rs.length, .slice (some ⟨gc, 0, none⟩) en.cs.length en.cs.length, .bool en.di, .bool en.do_] ∧ MadeRd W b1 gr en.rs ∧ ReadCg W gc en.cs
theorem frL (W : World) (b1 : Nat) : Fr (ElL W b1) := fun _ _ _ _ _ _ h _ => h
abbrev RowLH (W : World) (b1 : Nat) := RowH (ElL W b1) 36 6

set_option maxRecDepth 4000 in
set_option maxHeartbeats 8000000 in
theorem l09Own_x (W0 : World) (b1 lo hi : Nat) (v : Value) (l : List Dn) (w : World) (h0 : Below W0.heap.size W0 w) (hm : RowLH W0 b1 w lo hi v l) (hl : l.length ≤ 1000) (hk : ∀ x ∈ l, x.rs.length ≤ 1000 ∧ (∀ y ∈ x.rs, y.f.length ≤ 1000 ∧ ∀ z ∈ y.f, z.length ≤ 1000) ∧ x.cs.length ≤ 1000) :
    Calls Tryz.prog 23 #[v] w fun e w' => (∃ p c, e = .returned (.slice p l.length c) ∧ RowDH w' w.heap.size w'.heap.size (.slice p l.length c) l) ∧ Below w.heap.size w w' := by
  obtain ⟨p0, c0, rfl⟩ := hm.slice
  have HM : Hid (RowLH W0 b1 w lo hi _ l) := hm
  have HK : Hid _ := hk
  have H0 : Hid (Below _ _ _) := h0
  clear hm hk h0
  go_enter Tryz.func23, Tryz.ntmps23
  go_wp2_with fail
  have HO0 : Hid (RowDH (w.alloc (.cells #[] 36)) w.heap.size (w.alloc (.cells #[] 36)).heap.size (.slice (some ⟨w.heap.size, 0, none⟩) 0 0) []) := RowH.made _ (made_row w _ _ _ (Nat.le_refl _)) (fun g hg => by
    obtain rfl : w.heap.size = g := by simpa [Value.ownBlock] using hg
    simp)
  have hb0 : Below w.heap.size w (w.alloc (.cells #[] 36)) := (Below.refl _ _).alloc (Nat.le_refl _) _
  generalize w.alloc (.cells #[] 36) = Wm at HO0 hb0 ⊢
  go_loopw [3, 4] (fun u i wr => ∃ (k : Nat) (pv : Option Addr) (cv : Nat), k ≤ l.length ∧ i = .int .i64 k ∧ u = .slice pv k cv ∧ RowDH wr w.heap.size wr.heap.size (.slice pv k cv) (l.take k) ∧ Below w.heap.size w wr) (fun _ i _ => l.length - (intOf i).toNat)
  case atStart => exact ⟨0, _, _, Nat.zero_le _, rfl, rfl, HO0.out, hb0⟩
  case round =>
    obtain ⟨k, pv, cv, hk, rfl, rfl, hO, hbel⟩ := hrel
    have HO : Hid (RowDH _ _ _ _ _) := hO
    have hz := hbel.size
    clear hO HO0
    by_cases hlt : k < l.length
    · have hlt2 : (k : Int) < (l.length : Int) := by omega
      obtain ⟨g, ca, cb, cs, O⟩ := (HM.out.next (frL W0 b1) hbel).one (frL W0 b1) k hlt
      obtain ⟨gr, gc, hcs, hR, hG⟩ := O.el
      subst hcs
      obtain rfl : p0 = some ⟨g, 0, none⟩ := by
        rcases HM.out.form with ⟨_, h⟩ | ⟨g', c', h, _⟩
        · rw [h] at hlt; simp at hlt
        · have := O.blk
          rw [h] at this
          obtain rfl : g' = g := by simpa [Value.ownBlock] using this
          injection h
      have x0 := O.there 0 (by decide)
      have x1 := O.there 1 (by decide)
      have x2 := O.there 2 (by decide)
      have x3 := O.there 3 (by decide)
      have x4 := O.there 4 (by decide)
      have x5 := O.there 5 (by decide)
      have hg1 := O.dom
      have hks := HK.out l[k] (List.getElem_mem _)
      have htk : l.take (k + 1) = l.take k ++ [l[k]] := List.take_succ_eq_append_getElem hlt
      have htl : (l.take k).length = k := by rw [List.length_take]; omega
      obtain ⟨en, hen⟩ : ∃ en, en = l[k] := ⟨_, rfl⟩
      rw [← hen] at x0 x1 x2 x3 x4 x5 hks htk hR hG
      replace x0 : wr.cell? ⟨g, k * 6, none⟩ = some (.int .i64 en.sn) := x0
      replace x1 : wr.cell? ⟨g, k * 6 + 1, none⟩ = some (.int .i64 en.at_) := x1
      replace x2 : wr.cell? ⟨g, k * 6 + 2, none⟩ = some (.slice (some ⟨gr, 0, none⟩) en.rs.length en.rs.length) := x2
      replace x3 : wr.cell? ⟨g, k * 6 + 3, none⟩ = some (.slice (some ⟨gc, 0, none⟩) en.cs.length en.cs.length) := x3
      replace x4 : wr.cell? ⟨g, k * 6 + 4, none⟩ = some (.bool en.di) := x4
      replace x5 : wr.cell? ⟨g, k * 6 + 5, none⟩ = some (.bool en.do_) := x5
      have HTK : Hid _ := htk
      have HTL : Hid _ := htl
      have HKS : Hid _ := hks
      have hbA : Below wr.heap.size wr (wr.alloc (.cells #[.int .i64 en.sn, .int .i64 en.at_, .slice (some ⟨gr, 0, none⟩) en.rs.length en.rs.length, .slice (some ⟨gc, 0, none⟩) en.cs.length en.cs.length, .bool en.di, .bool en.do_] 36)) := (Below.refl _ _).alloc (Nat.le_refl _) _
      have HWA : Hid (Below W0.heap.size W0 (wr.alloc (.cells #[.int .i64 en.sn, .int .i64 en.at_, .slice (some ⟨gr, 0, none⟩) en.rs.length en.rs.length, .slice (some ⟨gc, 0, none⟩) en.cs.length en.cs.length, .bool en.di, .bool en.do_] 36))) := (H0.out.trans (hbel.mono H0.out.size)).trans (hbA.mono (by have := H0.out.size; omega))
      have HOA : Hid (RowDH (wr.alloc (.cells #[.int .i64 en.sn, .int .i64 en.at_, .slice (some ⟨gr, 0, none⟩) en.rs.length en.rs.length, .slice (some ⟨gc, 0, none⟩) en.cs.length en.cs.length, .bool en.di, .bool en.do_] 36)) w.heap.size wr.heap.size (.slice pv k cv) (l.take k)) := HO.out.next frD hbA
      have HBA : Hid (Below w.heap.size w (wr.alloc (.cells #[.int .i64 en.sn, .int .i64 en.at_, .slice (some ⟨gr, 0, none⟩) en.rs.length en.rs.length, .slice (some ⟨gc, 0, none⟩) en.cs.length en.cs.length, .bool en.di, .bool en.do_] 36))) := hbel.trans (hbA.mono hz)
      have HBX : Hid ((wr.alloc (.cells #[.int .i64 en.sn, .int .i64 en.at_, .slice (some ⟨gr, 0, none⟩) en.rs.length en.rs.length, .slice (some ⟨gc, 0, none⟩) en.cs.length en.cs.length, .bool en.di, .bool en.do_] 36)).heap[wr.heap.size]? = some (.cells #[.int .i64 en.sn, .int .i64 en.at_, .slice (some ⟨gr, 0, none⟩) en.rs.length en.rs.length, .slice (some ⟨gc, 0, none⟩) en.cs.length en.cs.length, .bool en.di, .bool en.do_] 36)) := heap_alloc_new _ _
      have HSA : Hid ((wr.alloc (.cells #[.int .i64 en.sn, .int .i64 en.at_, .slice (some ⟨gr, 0, none⟩) en.rs.length en.rs.length, .slice (some ⟨gc, 0, none⟩) en.cs.length en.cs.length, .bool en.di, .bool en.do_] 36)).heap.size = wr.heap.size + 1) := by show _ = _; simp
      have HRD : Hid (MadeRd _ _ _ _) := hR
      have HGC : Hid (ReadCg _ _ _) := hG
      clear hen htk htl hks hbA HO O hR hG
      go_wp2_with fail
      generalize wr.alloc (.cells #[.int .i64 en.sn, .int .i64 en.at_, .slice (some ⟨gr, 0, none⟩) en.rs.length en.rs.length, .slice (some ⟨gc, 0, none⟩) en.cs.length en.cs.length, .bool en.di, .bool en.do_] 36) = WA at HOA HBA HWA HBX HSA ⊢
      clear x0 x1 x2 x3 x4 x5 hg1
      refine (l09Reads_x gr en.rs.length b1 en.rs WA (HRD.out.next HWA.out) HKS.out.1 HKS.out.2.1).mono ?_
      rintro e w5 ⟨⟨p5, c5, rfl, hR5⟩, hb5⟩
      have hz5 := hb5.size
      have hsa := HSA.out
      have hbx5 : w5.heap[wr.heap.size]? = some (.cells #[.int .i64 en.sn, .int .i64 en.at_, .slice (some ⟨gr, 0, none⟩) en.rs.length en.rs.length, .slice (some ⟨gc, 0, none⟩) en.cs.length en.cs.length, .bool en.di, .bool en.do_] 36) := (hb5.block _ (by omega)).trans HBX.out
      have q0 : w5.cell? ⟨wr.heap.size, 0, none⟩ = some (.int .i64 en.sn) := by simp [World.cell?, hbx5]
      have q1 : w5.cell? ⟨wr.heap.size, 1, none⟩ = some (.int .i64 en.at_) := by simp [World.cell?, hbx5]
      have q2 : w5.cell? ⟨wr.heap.size, 2, none⟩ = some (.slice (some ⟨gr, 0, none⟩) en.rs.length en.rs.length) := by simp [World.cell?, hbx5]
      have q3 : w5.cell? ⟨wr.heap.size, 3, none⟩ = some (.slice (some ⟨gc, 0, none⟩) en.cs.length en.cs.length) := by simp [World.cell?, hbx5]
      have q4 : w5.cell? ⟨wr.heap.size, 4, none⟩ = some (.bool en.di) := by simp [World.cell?, hbx5]
      have q5 : w5.cell? ⟨wr.heap.size, 5, none⟩ = some (.bool en.do_) := by simp [World.cell?, hbx5]
      have f2 : w5.frozen? ⟨wr.heap.size, 2, none⟩ = false := by simp [World.frozen?, hbx5]
      have f3 : w5.frozen? ⟨wr.heap.size, 3, none⟩ = false := by simp [World.frozen?, hbx5]
      have hl5 : wr.heap.size < w5.heap.size := by omega
      have HR5 : Hid (RowRH w5 WA.heap.size w5.heap.size (.slice p5 en.rs.length c5) en.rs) := hR5
      have HB5 : Hid (Below WA.heap.size WA w5) := hb5
      have HS5 : Hid ((w5.setCell ⟨wr.heap.size, 2, none⟩ (.slice p5 en.rs.length c5)).heap.size = w5.heap.size) := by show _ = _; simp [World.setCell]
      have HSX : Hid (((w5.setCell ⟨wr.heap.size, 2, none⟩ (.slice p5 en.rs.length c5)).alloc (.cells #[] 86)).heap.size = w5.heap.size + 1) := by show _ = _; simp [World.setCell]
      have HX5 : Hid ((w5.setCell ⟨wr.heap.size, 2, none⟩ (.slice p5 en.rs.length c5)).heap[wr.heap.size]? = some (.cells #[.int .i64 en.sn, .int .i64 en.at_, .slice p5 en.rs.length c5, .slice (some ⟨gc, 0, none⟩) en.cs.length en.cs.length, .bool en.di, .bool en.do_] 36)) := by
        show _ = _
        simp [World.setCell, Array.getElem?_modify, hbx5]
      have HMR : Hid (((w5.setCell ⟨wr.heap.size, 2, none⟩ (.slice p5 en.rs.length c5)).alloc (.cells #[] 86)).ownsRow w5.heap.size 86 10 (.slice (some ⟨w5.heap.size, 0, none⟩) 0 0) 0 []) := by
        have h := made_row (w5.setCell ⟨wr.heap.size, 2, none⟩ (.slice p5 en.rs.length c5)) 86 10 w5.heap.size (by rw [HS5.out]; exact Nat.le_refl _)
        rw [HS5.out] at h
        exact h
      have hw5 : Below W0.heap.size W0 w5 := HWA.out.trans (hb5.mono HWA.out.size)
      have hgl0 := HGC.out.lt
      have hwz := H0.out.size
      have HCT : Hid (∀ (j : Nat) (u : Value), (flatCg en.cs)[j]? = some u → ((w5.setCell ⟨wr.heap.size, 2, none⟩ (.slice p5 en.rs.length c5)).alloc (.cells #[] 86)).cell? ((⟨gc, 0, none⟩ : Addr).add j) = some u) := cellsCg (HGC.out.step ((hw5.setCell (p := ⟨wr.heap.size, 2, none⟩) (by show _ ≤ wr.heap.size; omega) _).alloc (by rw [HS5.out]; omega) _) hgl0)
      have HD5 : Hid (RowDH (w5.setCell ⟨wr.heap.size, 2, none⟩ (.slice p5 en.rs.length c5)) w.heap.size wr.heap.size (.slice pv k cv) (l.take k)) := RowH.off frD (HOA.out.next frD hb5) _ (.inr (Nat.le_refl _))
      have HRX : Hid (RowRH (w5.setCell ⟨wr.heap.size, 2, none⟩ (.slice p5 en.rs.length c5)) WA.heap.size w5.heap.size (.slice p5 en.rs.length c5) en.rs) := RowH.off frR HR5.out _ (.inl (by omega))
      have HBW : Hid (Below w.heap.size w (w5.setCell ⟨wr.heap.size, 2, none⟩ (.slice p5 en.rs.length c5))) := (HBA.out.trans (hb5.mono HBA.out.size)).setCell (p := ⟨wr.heap.size, 2, none⟩) hz _
      have hcs := HKS.out.2.2
      have hwa : wr.heap.size < WA.heap.size := by omega
      clear hR5 hb5 hsa hbx5 hw5 hgl0 hwz
      go_wp2_with (at_builtin; first
        | (refine wpList_apxCg rfl (.tmp 21) (.tmp 23) rfl w5.heap.size 0 _ [] rfl HMR.out ⟨gc, 0, none⟩ en.cs.length en.cs.length (flatCg en.cs) rfl (flatCg_len _) HCT.out (oneCg _) (by omega) (by omega) (by have := HSX.out; omega) ?_
           intro v6 w6 o6 g6 at6
           have hlt6 := o6.lt
           have hsx := HSX.out
           have hz6 : w5.heap.size ≤ w6.heap.size := by have := g6.size; omega
           have HG6 : Hid (RowGH w6 w5.heap.size w6.heap.size v6 en.cs) := rowH_flat rowCg (fun _ _ _ => rfl) (fun _ => rfl) (by have := o6; rw [Nat.zero_add, List.nil_append] at this; exact this) (fun g hg => (hlt6 g hg).2) hz6
           obtain ⟨p6, c6, rfl⟩ := HG6.out.slice
           have hk6 : ∀ j, j < w5.heap.size → w6.heap[j]? = (w5.setCell ⟨wr.heap.size, 2, none⟩ (.slice p5 en.rs.length c5)).heap[j]? := fun j hj => (g6.block j (by omega) (fun e => by have : j = w5.heap.size := Option.some.inj e; omega)).trans (Below.heap_alloc _ _ _ (by rw [HS5.out]; exact hj))
           have hbx6 := (hk6 _ hl5).trans HX5.out
           have r0 : w6.cell? ⟨wr.heap.size, 0, none⟩ = some (.int .i64 en.sn) := by simp [World.cell?, hbx6]
           have r1 : w6.cell? ⟨wr.heap.size, 1, none⟩ = some (.int .i64 en.at_) := by simp [World.cell?, hbx6]
           have r2 : w6.cell? ⟨wr.heap.size, 2, none⟩ = some (.slice p5 en.rs.length c5) := by simp [World.cell?, hbx6]
           have r3 : w6.cell? ⟨wr.heap.size, 3, none⟩ = some (.slice (some ⟨gc, 0, none⟩) en.cs.length en.cs.length) := by simp [World.cell?, hbx6]
           have r4 : w6.cell? ⟨wr.heap.size, 4, none⟩ = some (.bool en.di) := by simp [World.cell?, hbx6]
           have r5 : w6.cell? ⟨wr.heap.size, 5, none⟩ = some (.bool en.do_) := by simp [World.cell?, hbx6]
           have j3 : w6.frozen? ⟨wr.heap.size, 3, none⟩ = false := by simp [World.frozen?, hbx6]
           have hl6 : wr.heap.size < w6.heap.size := by omega
           have HS6 : Hid ((w6.setCell ⟨wr.heap.size, 3, none⟩ (.slice p6 en.cs.length c6)).heap.size = w6.heap.size) := (by show _ = _; simp [World.setCell])
           have hE : ElD (w6.setCell ⟨wr.heap.size, 3, none⟩ (.slice p6 en.cs.length c6)) WA.heap.size w6.heap.size [.int .i64 en.sn, .int .i64 en.at_, .slice p5 en.rs.length c5, .slice p6 en.cs.length c6, .bool en.di, .bool en.do_] en := ⟨_, _, WA.heap.size, w5.heap.size, w5.heap.size, w6.heap.size, rfl, ⟨Nat.le_refl _, hz6, hz5, Nat.le_refl _, .inl (Nat.le_refl _)⟩, RowH.off frR (HRX.out.same frR (fun j h1 h2 h3 => hk6 j h2)) _ (.inl hwa), RowH.off frG HG6.out _ (.inl hl5)⟩
           have hD6 : RowDH (w6.setCell ⟨wr.heap.size, 3, none⟩ (.slice p6 en.cs.length c6)) w.heap.size wr.heap.size (.slice pv k cv) (l.take k) := RowH.off frD (HD5.out.same frD (fun j h1 h2 h3 => hk6 j (by omega))) _ (.inr (Nat.le_refl _))
           obtain ⟨xs, ho6, hsn⟩ := hD6.snoc frD
           rw [HTL.out] at ho6
           have HB6 : Hid (Below w.heap.size w (w6.setCell ⟨wr.heap.size, 3, none⟩ (.slice p6 en.cs.length c6))) := ((show Below w.heap.size w w6 from (HBW.out.alloc (by rw [HS5.out]; omega) _).grown g6 (by omega) (fun b hb => by have : w5.heap.size = b := Option.some.inj hb; omega))).setCell (p := ⟨wr.heap.size, 3, none⟩) hz _
           have HEL : Hid (ElD _ _ _ _ _) := hE
           have HSN : Hid _ := hsn
           have HOW : Hid (World.ownsRow _ _ _ _ _ _ _) := ho6
           have HNC : Hid (∀ (j : Nat) (u : Value), [.int .i64 en.sn, .int .i64 en.at_, .slice p5 en.rs.length c5, .slice p6 en.cs.length c6, .bool en.di, .bool en.do_][j]? = some u → ((w6.setCell ⟨wr.heap.size, 3, none⟩ (.slice p6 en.cs.length c6)).alloc (.cells #[.int .i64 en.sn, .int .i64 en.at_, .slice p5 en.rs.length c5, .slice p6 en.cs.length c6, .bool en.di, .bool en.do_] 36)).cell? ((⟨w6.heap.size, 0, none⟩ : Addr).add j) = some u) := (by
             have h := new_cells (w6.setCell ⟨wr.heap.size, 3, none⟩ (.slice p6 en.cs.length c6)) #[.int .i64 en.sn, .int .i64 en.at_, .slice p5 en.rs.length c5, .slice p6 en.cs.length c6, .bool en.di, .bool en.do_] 36
             rw [HS6.out] at h
             exact h)
           clear o6 g6 at6 hlt6 hsx hk6 hbx6 hE hD6 hsn ho6 HG6)
        | (refine wpList_apxDn rfl (.tmp 26) (.tmp 28) rfl w.heap.size k _ xs rfl (HOW.out.alloc _) ⟨w6.heap.size, 0, none⟩ 1 1 [.int .i64 en.sn, .int .i64 en.at_, .slice p5 en.rs.length c5, .slice p6 en.cs.length c6, .bool en.di, .bool en.do_] rfl rfl HNC.out (by intro u hu; simp at hu; rcases hu with rfl | rfl | rfl | rfl | rfl | rfl <;> rfl) (by omega) (by omega) (by simp; omega) ?_
           intro v7 w7 o7 g7 at7))
      have hal7 : ((w6.setCell ⟨wr.heap.size, 3, none⟩ (.slice p6 en.cs.length c6)).alloc (.cells #[.int .i64 en.sn, .int .i64 en.at_, .slice p5 en.rs.length c5, .slice p6 en.cs.length c6, .bool en.di, .bool en.do_] 36)).heap.size = w6.heap.size + 1 := by simp
      have hlt7 := o7.lt
      obtain ⟨gv, cw, hvv, _, _, _, _⟩ := rowFm o7 (by omega)
      subst hvv
      have HR8 : Hid (RowDH w7 w.heap.size w7.heap.size (.slice (some ⟨gv, 0, none⟩) (k + 1) cw) (l.take (k + 1))) := by
        show RowDH _ _ _ _ _
        rw [HTK.out]
        refine HSN.out w7 WA.heap.size w6.heap.size w7.heap.size [.int .i64 en.sn, .int .i64 en.at_, .slice p5 en.rs.length c5, .slice p6 en.cs.length c6, .bool en.di, .bool en.do_] en _ (by omega) (by omega) (by omega) (by have := g7.size; omega) (by rw [HS6.out]; exact Nat.le_refl _) HEL.out rfl (by rw [HTL.out]; exact o7) ?_ ?_ ?_
        · intro j hj hne
          rw [HS6.out] at hj
          exact (g7.block j (by omega) hne).trans (Below.heap_alloc _ _ _ (by rw [HS6.out]; exact hj))
        · rcases at7 with h | h
          · exact .inl h
          · exact .inr ⟨_, h, by rw [HS6.out]; omega⟩
        · intro g hg
          exact (hlt7 g hg).2
      have HB8 : Hid (Below w.heap.size w w7) := HB6.out.trans (Below.grown ((Below.refl _ (w6.setCell ⟨wr.heap.size, 3, none⟩ (.slice p6 en.cs.length c6))).alloc (by rw [HS6.out]; omega) (.cells #[.int .i64 en.sn, .int .i64 en.at_, .slice p5 en.rs.length c5, .slice p6 en.cs.length c6, .bool en.di, .bool en.do_] 36)) g7 (by omega) (fun b hb => (HOW.out.lt b hb).1))
      clear o7 g7 at7 hlt7 hal7 HSN HOW HEL HNC HS6 HB6 r0 r1 r2 r3 r4 r5 j3
      go_wp2_with fail
      go_roundw
      case rel => exact ⟨k + 1, _, _, by omega, by go_num, rfl, HR8.out, HB8.out⟩
      case measure => simp [intOf]; omega
    · obtain rfl : k = l.length := by omega
      have hOf : RowDH wr w.heap.size wr.heap.size (.slice pv l.length cv) l := by have := HO.out; rw [List.take_length] at this; exact this
      have HOf : Hid (RowDH _ _ _ _ _) := hOf
      have HB : Hid (Below _ _ _) := hbel
      clear hOf HO hbel
      go_wp2_with fail
      go_ret
      exact ⟨⟨_, _, rfl, HOf.out⟩, HB.out⟩

end Go.Proofs.YtcggkeleaepebaaGreatDoor.Hx

/- A clean list of committed ones: the specification's answer. -/
namespace Go.Proofs.YtcggkeleaepebaaGreatDoor.Hx
open Go.RowKit Go.ChangeShapes Go.WideShapes Go.ChangeAt Go.Joins Tr Co Rea Ce
set_option linter.unusedVariables false

def fil (t : Int) (l : List Dn) : List Dn := l.filter fun d => decide (t < d.at_)
theorem fil_next (t : Int) (l : List Dn) (k : Nat) (h : k < l.length) : fil t (l.take (k + 1)) = fil t (l.take k) ++ (if t < l[k].at_ then [l[k]] else []) := by
  unfold fil
  rw [List.take_succ_eq_append_getElem h, List.filter_append]
  congr 1
  by_cases h : t < l[k].at_ <;> simp [h]
theorem fil_len (t : Int) (l : List Dn) : (fil t l).length ≤ l.length := List.length_filter_le _ _
theorem rise_all : ∀ (z : Int) (l : List Dn), riseB z l = true → ∀ d ∈ l, z < d.at_
  | _, [], _, d, hd => by simp at hd
  | z, x :: l, h, d, hd => by
    unfold riseB at h
    simp only [Bool.and_eq_true, decide_eq_true_eq] at h
    rcases List.mem_cons.1 hd with rfl | hd
    · exact h.1
    · have := rise_all x.at_ l h.2.2.2 d hd; omega
theorem fil_beh (t : Int) : ∀ (z : Int) (l : List Dn), riseB z l = true → fil t l = behB t l
  | _, [], _ => rfl
  | z, x :: l, h => by
    unfold riseB at h
    simp only [Bool.and_eq_true, decide_eq_true_eq] at h
    unfold behB fil
    by_cases hx : x.at_ ≤ t
    · rw [if_pos hx, List.filter_cons_of_neg (by simp; omega)]
      exact fil_beh t x.at_ l h.2.2.2
    · rw [if_neg hx, List.filter_eq_self.2]
      intro d hd
      rcases List.mem_cons.1 hd with rfl | hd
      · simp; omega
      · have := rise_all x.at_ l h.2.2.2 d hd
        simp; omega

set_option maxRecDepth 4000 in
set_option maxHeartbeats 8000000 in
theorem l09Clean_x (g c b1 : Nat) (l : List Dn) (t : Int) (w : World) (hm : MadeDn w b1 g l) (hl : l.length ≤ 1000) :
    Calls Tryz.prog 37 #[.slice (some ⟨g, 0, none⟩) l.length c, .int .i64 t] w fun e w' => (∃ p c, e = .returned (.slice p (fil t l).length c) ∧ RowLH w b1 w' w.heap.size w'.heap.size (.slice p (fil t l).length c) (fil t l)) ∧ Below w.heap.size w w' := by
  have HM : Hid (MadeDn _ _ _ _) := hm
  clear hm
  go_enter Tryz.func37, Tryz.ntmps37
  go_wp2_with fail
  have HO0 : Hid (RowLH w b1 (w.alloc (.cells #[] 36)) w.heap.size (w.alloc (.cells #[] 36)).heap.size (.slice (some ⟨w.heap.size, 0, none⟩) 0 0) []) := RowH.made _ (made_row w _ _ _ (Nat.le_refl _)) (fun g hg => by
    obtain rfl : w.heap.size = g := by simpa [Value.ownBlock] using hg
    simp)
  have hb0 : Below w.heap.size w (w.alloc (.cells #[] 36)) := (Below.refl _ _).alloc (Nat.le_refl _) _
  generalize w.alloc (.cells #[] 36) = Wm at HO0 hb0 ⊢
  go_loopw [5, 6] (fun u i wr => ∃ (k n : Nat) (F : List Dn) (pv : Option Addr) (cv : Nat), k ≤ l.length ∧ n ≤ k ∧ i = .int .i64 k ∧ u = .slice pv n cv ∧ F = fil t (l.take k) ∧ F.length = n ∧ RowLH w b1 wr w.heap.size wr.heap.size (.slice pv n cv) F ∧ Below w.heap.size w wr) (fun _ i _ => l.length - (intOf i).toNat)
  case atStart => exact ⟨0, 0, [], _, _, Nat.zero_le _, Nat.le_refl _, rfl, rfl, rfl, rfl, HO0.out, hb0⟩
  case round =>
    obtain ⟨k, n, F, pv, cv, hk, hnk, rfl, rfl, hF, hFn, hO, hbel⟩ := hrel
    have HO : Hid (RowLH _ _ _ _ _ _ _) := hO
    have HF : Hid (F = _) := hF
    have HFN : Hid (F.length = n) := hFn
    have hz := hbel.size
    clear hO HO0 hF hFn
    by_cases hlt : k < l.length
    · have hlt2 : (k : Int) < (l.length : Int) := by omega
      have R1 := HM.out.next hbel
      obtain ⟨gr, gc, ⟨x0, x1, x2, x3, x4, x5⟩, _, _, _⟩ := R1.cells k hlt
      obtain ⟨gr2, gc2, ⟨_, _, y2, y3, _, _⟩, hR, hG, _⟩ := HM.out.cells k hlt
      have e2 := (hbel.cell HM.out.lt).trans y2
      have e3 := (hbel.cell HM.out.lt).trans y3
      rw [x2] at e2
      rw [x3] at e3
      have er : gr = gr2 := by simpa using e2
      have ec : gc = gc2 := by simpa using e3
      rw [← er] at hR
      rw [← ec] at hG
      have hg1 := R1.lt
      have hnx := fil_next t l k hlt
      obtain ⟨en, hen⟩ : ∃ en, en = l[k] := ⟨_, rfl⟩
      rw [← hen] at x0 x1 x2 x3 x4 x5 hnx hR hG
      have HNX : Hid _ := hnx
      have HEL : Hid (∀ W a b, ElL w b1 W a b [.int .i64 en.sn, .int .i64 en.at_, .slice (some ⟨gr, 0, none⟩) en.rs.length en.rs.length, .slice (some ⟨gc, 0, none⟩) en.cs.length en.cs.length, .bool en.di, .bool en.do_] en) := fun _ _ _ => ⟨gr, gc, rfl, hR, hG⟩
      clear hen hnx R1 y2 y3 e2 e3 er ec hR hG
      by_cases ht : t < en.at_
      · obtain ⟨xs, ho6, hsn⟩ := HO.out.snoc (frL w b1)
        rw [HFN.out] at ho6
        have HSN : Hid _ := hsn
        have HOW : Hid (World.ownsRow _ _ _ _ _ _ _) := ho6
        clear hsn ho6 HO
        go_wp2_with (at_builtin; refine wpList_apxDn rfl (.tmp 21) (.tmp 26) rfl w.heap.size n _ xs rfl (HOW.out.alloc _) ⟨wr.heap.size, 0, none⟩ 1 1 [.int .i64 en.sn, .int .i64 en.at_, .slice (some ⟨gr, 0, none⟩) en.rs.length en.rs.length, .slice (some ⟨gc, 0, none⟩) en.cs.length en.cs.length, .bool en.di, .bool en.do_] rfl rfl (new_cells _ #[.int .i64 en.sn, .int .i64 en.at_, .slice (some ⟨gr, 0, none⟩) en.rs.length en.rs.length, .slice (some ⟨gc, 0, none⟩) en.cs.length en.cs.length, .bool en.di, .bool en.do_] _) (by intro u hu; simp at hu; rcases hu with rfl | rfl | rfl | rfl | rfl | rfl <;> rfl) (by omega) (by omega) (by simp; omega) ?_; intro v7 w7 o7 g7 at7)
        have hal7 : (wr.alloc (.cells #[.int .i64 en.sn, .int .i64 en.at_, .slice (some ⟨gr, 0, none⟩) en.rs.length en.rs.length, .slice (some ⟨gc, 0, none⟩) en.cs.length en.cs.length, .bool en.di, .bool en.do_] 36)).heap.size = wr.heap.size + 1 := by simp
        have hlt7 := o7.lt
        obtain ⟨gv, cw, hvv, _, _, _, _⟩ := rowFm o7 (by omega)
        subst hvv
        have HR8 : Hid (RowLH w b1 w7 w.heap.size w7.heap.size (.slice (some ⟨gv, 0, none⟩) (n + 1) cw) (F ++ [en])) := HSN.out w7 wr.heap.size wr.heap.size w7.heap.size [.int .i64 en.sn, .int .i64 en.at_, .slice (some ⟨gr, 0, none⟩) en.rs.length en.rs.length, .slice (some ⟨gc, 0, none⟩) en.cs.length en.cs.length, .bool en.di, .bool en.do_] en _ (by omega) (by omega) (by omega) (by have := g7.size; omega) (Nat.le_refl _) (HEL.out _ _ _) rfl (by rw [HFN.out]; exact o7) (fun j hj hne => (g7.block j (by omega) hne).trans (Below.heap_alloc _ _ _ hj)) (by
          rcases at7 with h | h
          · exact .inl h
          · exact .inr ⟨_, h, by omega⟩) (fun g hg => (hlt7 g hg).2)
        have HB8 : Hid (Below w.heap.size w w7) := hbel.trans (Below.grown ((Below.refl _ wr).alloc (by omega) (.cells #[.int .i64 en.sn, .int .i64 en.at_, .slice (some ⟨gr, 0, none⟩) en.rs.length en.rs.length, .slice (some ⟨gc, 0, none⟩) en.cs.length en.cs.length, .bool en.di, .bool en.do_] 36)) g7 (by simp; omega) (fun b hb => (HOW.out.lt b hb).1))
        clear o7 g7 at7 hlt7 hal7 HSN HOW HEL
        go_wp2_with fail
        go_roundw
        case rel => exact ⟨k + 1, n + 1, F ++ [en], _, _, by omega, by omega, by go_num, rfl, by rw [HNX.out, if_pos ht, HF.out], by rw [List.length_append, List.length_singleton, HFN.out], HR8.out, HB8.out⟩
        case measure => simp [intOf]; omega
      · have ht2 : en.at_ ≤ t := by omega
        clear HEL
        go_wp2_with fail
        go_roundw
        case rel => exact ⟨k + 1, n, F, _, _, by omega, by omega, by go_num, rfl, by rw [HNX.out, if_neg ht, HF.out, List.append_nil], HFN.out, HO.out, hbel⟩
        case measure => simp [intOf]; omega
    · obtain rfl : k = l.length := by omega
      have hFf : F = fil t l := by rw [HF.out, List.take_length]
      have hn : n = (fil t l).length := by rw [← HFN.out, hFf]
      have HOf : Hid (RowLH w b1 wr w.heap.size wr.heap.size (.slice pv n cv) (fil t l)) := by rw [← hFf]; exact HO.out
      have HNN : Hid (n = _) := hn
      clear HO hFf hn HF HFN
      go_wp2_with fail
      go_ret
      exact ⟨⟨pv, cv, by rw [← HNN.out]; rfl, by rw [← HNN.out]; exact HOf.out⟩, hbel⟩

set_option maxRecDepth 4000 in
set_option maxHeartbeats 4000000 in
theorem specClean_any (g c b1 : Nat) (l : List Dn) (t : Int) (w : World) (h1 : MadeDn w b1 g l) (hlen : l.length ≤ 1048576) (hs : ∀ v ∈ l, szDn v) :
    Calls Tryz.prog 16 #[.slice (some ⟨g, 0, none⟩) l.length c, .int .i64 t] w fun e w' => ClR l t w e w' := by
  have HC0 : Hid (Calls _ _ _ _ _) := l09Dones_any g c b1 l w h1 hlen hs
  have HM : Hid (MadeDn _ _ _ _) := h1
  have HS : Hid (∀ v ∈ l, szDn v) := hs
  clear h1 hs
  unfold ClR
  by_cases t0 : 4096 < l.length
  · have t1 : (4096 : Int) < (l.length : Int) := by omega
    have e1 : clnC l = 2 := by unfold clnC; rw [if_pos t0]
    have e2 : clnL l t = [] := by
      unfold clnL
      rw [if_neg]
      intro h
      have := (dones_parts l h).1
      omega
    rw [e1, e2]
    clear HC0
    go_enter Tryz.func16, Tryz.ntmps16
    go_wp2_with fail
    refine bodyPost_ret (v := .tuple #[.slice (some ⟨w.heap.size, 0, none⟩) 0 0, .int .i64 2]) (by simp [results, Tryz.results16, go_sem]) rfl ⟨⟨_, rfl, RowH.made _ (made_row w _ _ _ (Nat.le_refl _)) (fun g hg => by
      obtain rfl : w.heap.size = g := by simpa [Value.ownBlock] using hg
      simp)⟩, by (repeat (first | (with_reducible exact Below.refl _ _) | (with_reducible assumption) | (with_reducible apply below_drewN) | (with_reducible apply Below.drew) | ((with_reducible refine Below.setCell ?_ ?_ _); rotate_left; focus (first | (simp; done) | (simp; omega) | omega)) | ((with_reducible refine Below.alloc ?_ ?_ _); rotate_left; focus (first | (simp; done) | (simp; omega) | omega))))⟩
  have t1 : ¬ (4096 : Int) < (l.length : Int) := by omega
  cases hD : donesB l
  · have e1 : clnC l = 1 := by unfold clnC; rw [if_neg t0, hD]; rfl
    have e2 : clnL l t = [] := by unfold clnL; rw [hD]; rfl
    rw [e1, e2]
    rw [hD] at HC0
    clear hD e1 e2
    go_enter Tryz.func16, Tryz.ntmps16
    go_wp2_with fail
    refine HC0.out.mono ?_
    rintro e w1 ⟨rfl, hb⟩
    go_wp2_with fail
    refine bodyPost_ret (v := .tuple #[.slice (some ⟨w1.heap.size, 0, none⟩) 0 0, .int .i64 1]) (by simp [results, Tryz.results16, go_sem]) rfl ⟨⟨_, rfl, RowH.made _ (made_row w1 _ _ _ hb.size) (fun g hg => by
      obtain rfl : w1.heap.size = g := by simpa [Value.ownBlock] using hg
      simp)⟩, hb.alloc hb.size _⟩
  have e1 : clnC l = 0 := by unfold clnC; rw [if_neg t0, hD]; rfl
  have hrise : riseB 0 l = true := by
    unfold donesB at hD
    simp only [Bool.and_eq_true] at hD
    exact hD.1
  have e2 : clnL l t = fil t l := by unfold clnL; rw [hD, if_pos rfl, fil_beh t 0 l hrise]
  rw [e1, e2]
  obtain ⟨hl30, hdn⟩ := dones_parts l hD
  have HK : Hid (∀ x ∈ fil t l, x.rs.length ≤ 1000 ∧ (∀ y ∈ x.rs, y.f.length ≤ 1000 ∧ ∀ z ∈ y.f, z.length ≤ 1000) ∧ x.cs.length ≤ 1000) := fun x hx => by
    have hm := (List.mem_filter.1 hx).1
    obtain ⟨q1, q2, q3, _⟩ := dn_own x (hdn x hm) (HS.out x hm)
    exact ⟨q1, fun y hy => ⟨(q2 y hy).2.1, fun z hz => ((q2 y hy).2.2 z hz).1⟩, q3⟩
  have HL : Hid ((fil t l).length ≤ 1000) := by have := fil_len t l; show _ ≤ _; omega
  have HC1 : Hid (∀ W : World, Below w.heap.size w W → Calls _ _ _ W _) := fun W hW => l09Clean_x g c b1 l t W (HM.out.next hW) (by omega)
  rw [hD] at HC0
  generalize fil t l = R at HK HL HC1 ⊢
  clear hD e1 e2 hdn hrise
  go_enter Tryz.func16, Tryz.ntmps16
  go_wp2_with fail
  refine HC0.out.mono ?_
  rintro e w1 ⟨rfl, hb⟩
  have hz1 := hb.size
  have HB1 : Hid (Calls _ _ _ _ _) := HC1.out w1 hb
  have HBB : Hid (Below _ _ _) := hb
  clear HC0 HC1 hb
  go_wp2_with fail
  refine HB1.out.mono ?_
  rintro e w2 ⟨⟨p2, c2, rfl, hr⟩, hb2⟩
  have hz2 := hb2.size
  have HO : Hid (Calls _ _ _ _ _) := l09Own_x w1 b1 _ _ _ R w2 hb2 hr HL.out HK.out
  have HB2 : Hid (Below w.heap.size w w2) := HBB.out.trans (hb2.mono hz1)
  clear hr hb2 HB1 HBB
  go_wp2_with fail
  refine HO.out.mono ?_
  rintro e w3 ⟨⟨p, c3, rfl, hr⟩, hb3⟩
  have HR3 : Hid (RowDH _ _ _ _ _) := hr
  have hb4 : Below w.heap.size w w3 := HB2.out.trans (hb3.mono (by omega))
  clear hr hb3 HO HB2
  go_wp2_with fail
  go_ret2
  exact ⟨⟨_, rfl, HR3.out.wide (by omega) (Nat.le_refl _)⟩, hb4⟩

end Go.Proofs.YtcggkeleaepebaaGreatDoor.Hx

/- The law's own walk of CleanDone. -/
namespace Go.Proofs.YtcggkeleaepebaaGreatDoor.ClnDonef
open Go.RowKit Tr Co Rea Ce Hx
set_option linter.unusedVariables false

theorem mkD_le' (l : List Dn) (r : Int) (h0 : 0 ≤ r) (h1 : r + (cntD l : Int) ≤ 1048576) : Ty.mkD l ≤ 10485760 := by
  have := Ty.mkD_le l
  omega
theorem mkD_beh (t : Int) : ∀ l : List Dn, sumN szDnn (behB t l) ≤ sumN szDnn l
  | [] => Nat.le_refl _
  | x :: l => by
    unfold behB
    by_cases h : x.at_ ≤ t
    · rw [if_pos h, sumN_cons]; exact Nat.le_trans (mkD_beh t l) (Nat.le_add_left _ _)
    · rw [if_neg h]; exact Nat.le_refl _
theorem mkD_cln (t : Int) (l : List Dn) : sumN szDnn (clnL l t) ≤ Ty.mkD l := by
  unfold clnL
  cases donesB l
  · simp [sumN]
  · rw [if_pos rfl]; exact mkD_beh t l
theorem cln_mem (t : Int) (l : List Dn) (d : Dn) (h : d ∈ clnL l t) : d ∈ l := by
  unfold clnL at h
  cases hb : donesB l
  · rw [hb] at h; simp at h
  · rw [hb, if_pos rfl] at h; exact behB_mem t l d h
theorem cln_len (t : Int) (l : List Dn) : (clnL l t).length ≤ l.length := by
  unfold clnL
  cases donesB l
  · simp
  · rw [if_pos rfl]; exact behB_len t l
theorem below_chg {lo hi B : Nat} {w w' : World} (h : Chg lo hi w w') (hB : B ≤ lo) (hs : B ≤ w.heap.size) : Below B w w' := h.below hB hs
set_option maxRecDepth 8000 in
set_option maxHeartbeats 8000000 in
theorem walk (a : Option Addr) (cap : Nat) (l : List Dn) (hl : l.length ≤ maxLen) (hm : ∀ v ∈ l, maxDn v) (t : Int) (ht : (Lit.int .i64 t).wf = true) (w : World) (hin : InDn w a l) :
    Calls Tryz.prog 4 #[.slice a l.length cap, .int .i64 t] w fun e w' => e = .returned (.bool true) ∧ Below w.heap.size w w' := by
  have HZ : Hid (Calls _ _ _ _ _) := szDoneS_tot a cap l 1048576 w hin hl hm (by omega) (by omega)
  go_enter Tryz.func4, Tryz.ntmps4
  go_wp2_with fail
  refine HZ.out.mono ?_
  rintro e w1 ⟨⟨r, rfl, hr⟩, hb1⟩
  clear HZ
  rcases hr with hneg | ⟨hr0, hr1, hr2, hr3⟩
  · go_wp2_with fail
    go_ret
    exact ⟨rfl, hb1⟩
  have hnn : ¬ r < 0 := by omega
  have hmk := mkD_le' l r hr0 hr1
  have HTO : Hid (∀ W : World, Below w.heap.size w W → Calls _ _ _ W _) := fun W hW => Ty.toDoneS_any a cap l W (hin.step hW) hr2 hr3
  have HEQ : Hid (∀ (g1 g2 b1 b2 : Nat) (W : World), Ce.MadeDn W b1 g1 l → Ce.MadeDn W b2 g2 l → Calls _ _ _ W _) := fun g1 g2 b1 b2 W x y => eqDoneS_same g1 g2 l.length l.length b1 b2 l W x y hr2 hr3
  have HS0 := fun (g b : Nat) (W : World) (hW : Ce.MadeDn W b g l) => specClean_any g l.length b l t W hW hr2 hr3
  have HI0 := fun (g b : Nat) (W : World) (hW : Ce.MadeDn W b g l) => implClean_any g l.length b l t W hW (Nat.le_refl _) hr2 hr3
  have hmc := mkD_cln t l
  have hlc := cln_len t l
  have HEH0 := fun (q1 q2 : Option Addr) (c1 c2 : Nat) (W : World) (x : RowDn W q1 (clnL l t)) (y : RowDn W q2 (clnL l t)) => eqDoneS_h q1 q2 c1 c2 (clnL l t) W x y (by omega) (fun v hv => hr3 v (cln_mem t l v hv))
  have HYL0 : ∀ d ∈ clnL l t, d.rs.length ≤ 1048576 ∧ d.cs.length ≤ 1048576 ∧ ∀ x ∈ d.rs, x.f.length ≤ 1048576 ∧ ∀ y ∈ x.f, y.length ≤ 1048576 := fun d hd => ⟨(hr3 d (cln_mem t l d hd)).r0, (hr3 d (cln_mem t l d hd)).s0, fun x hx => ⟨((hr3 d (cln_mem t l d hd)).r1 x hx).f0, ((hr3 d (cln_mem t l d hd)).r1 x hx).len⟩⟩
  obtain ⟨E, hEe⟩ : ∃ E, E = clnL l t := ⟨_, rfl⟩
  obtain ⟨C, hCe⟩ : ∃ C, C = clnC l := ⟨_, rfl⟩
  unfold ClR at HS0 HI0
  rw [← hEe] at HS0 HI0 HEH0 HYL0 hmc hlc
  rw [← hCe] at HS0 HI0
  have HS : Hid (∀ (g b : Nat) (W : World), Ce.MadeDn W b g l → Calls Tryz.prog 16 #[.slice (some ⟨g, 0, none⟩) l.length l.length, .int .i64 t] W fun e w' => (∃ v, e = .returned (.tuple #[v, .int .i64 C]) ∧ RowDH w' W.heap.size w'.heap.size v E) ∧ Below W.heap.size W w') := HS0
  have HI : Hid (∀ (g b : Nat) (W : World), Ce.MadeDn W b g l → Calls Tryz.prog 17 #[.slice (some ⟨g, 0, none⟩) l.length l.length, .int .i64 t] W fun e w' => (∃ v, e = .returned (.tuple #[v, .int .i64 C]) ∧ RowDH w' W.heap.size w'.heap.size v E) ∧ Below W.heap.size W w') := HI0
  have HEH : Hid (∀ (q1 q2 : Option Addr) (c1 c2 : Nat) (W : World), RowDn W q1 E → RowDn W q2 E → Calls _ _ _ W _) := HEH0
  have HYL : Hid _ := HYL0
  have HSZ : Hid (l.length ≤ 1048576 ∧ Ty.mkD l ≤ 10485760 ∧ ∀ d ∈ l, d.rs.length ≤ 1048576 ∧ d.cs.length ≤ 1048576 ∧ ∀ x ∈ d.rs, x.f.length ≤ 1048576 ∧ ∀ y ∈ x.f, y.length ≤ 1048576) := ⟨hr2, hmk, fun d hd => ⟨(hr3 d hd).r0, (hr3 d hd).s0, fun x hx => ⟨((hr3 d hd).r1 x hx).f0, ((hr3 d hd).r1 x hx).len⟩⟩⟩
  have HEN : Hid (E.length ≤ 1048576 ∧ 1 + sumN szDnn E ≤ 17592186044416) := ⟨by omega, by omega⟩
  have HB1 : Hid (Below w.heap.size w w1) := hb1
  have z1 := hb1.size
  clear HS0 HI0 HEH0 HYL0 hEe hCe hin hr1 hr3 hm hmk hb1 hmc hlc
  go_wp2_with fail
  refine (HTO.out _ HB1.out).mono ?_
  rintro e w2 ⟨⟨g2, rfl, O2⟩, hb⟩
  have z2 := hb.size
  have HB2 : Hid (Below w.heap.size w w2) := HB1.out.trans (hb.mono z1)
  have HO2 : Hid (Ty.MadeDn _ _ _ _) := O2
  clear hb O2 HB1
  go_wp2_with fail
  refine (HS.out g2 _ _ HO2.out.old).mono ?_
  rintro e w3 ⟨⟨v3, rfl, P3⟩, hb⟩
  have z3 := hb.size
  have HB3 : Hid (Below w.heap.size w w3) := HB2.out.trans (hb.mono (Nat.le_trans z1 z2))
  obtain ⟨p3, c3, rfl⟩ := P3.slice
  have HP3 : Hid (RowDH w3 w2.heap.size w3.heap.size (.slice p3 E.length c3) E) := P3
  clear hb P3 HO2 HB2
  go_wp2_with fail
  refine (HTO.out _ HB3.out).mono ?_
  rintro e w4 ⟨⟨g4, rfl, O4⟩, hb⟩
  have z4 := hb.size
  have HB34 : Hid (Below w3.heap.size w3 w4) := hb
  have HO4 : Hid (Ty.MadeDn _ _ _ _) := O4
  clear hb O4
  go_wp2_with fail
  refine (HI.out g4 _ _ HO4.out.old).mono ?_
  rintro e w5 ⟨⟨v5, rfl, P5⟩, hb⟩
  have z5 := hb.size
  have HB45 : Hid (Below w4.heap.size w4 w5) := hb
  have HB35 : Hid (Below w3.heap.size w3 w5) := HB34.out.trans (hb.mono z4)
  obtain ⟨p5, c5, rfl⟩ := P5.slice
  have HP5 : Hid (RowDH w5 w4.heap.size w5.heap.size (.slice p5 E.length c5) E) := P5
  have HR3 : Hid (∀ W : World, Below w3.heap.size w3 W → RowDn W p3 E) := fun W hW => by
    obtain ⟨p, c, he, hr⟩ := rowDn_of (HP3.out.next frD hW)
    injection he with h1
    rw [h1]; exact hr
  have HR5 : Hid (∀ W : World, RowDH W w4.heap.size w5.heap.size (.slice p5 E.length c5) E → RowDn W p5 E) := fun W hW => by
    obtain ⟨p, c, he, hr⟩ := rowDn_of hW
    injection he with h1
    rw [h1]; exact hr
  have HQ5 : Hid (Calls _ _ _ _ _) := HEH.out p5 p3 c5 c3 w5 (HR5.out _ P5) (HR3.out _ HB35.out)
  clear hb P5
  go_wp2_with fail
  refine HQ5.out.mono ?_
  rintro e w6 ⟨rfl, hb⟩
  have z6 := hb.size
  have HB56 : Hid (Below w5.heap.size w5 w6) := hb
  have HB36 : Hid (Below w3.heap.size w3 w6) := HB35.out.trans (hb.mono (by omega))
  clear hb HQ5
  go_wp2_with fail
  refine (HTO.out _ (HB3.out.trans (HB36.out.mono (by omega)))).mono ?_
  rintro e w7 ⟨⟨g7, rfl, O7⟩, hb⟩
  have z7 := hb.size
  have HB57 : Hid (Below w5.heap.size w5 w7) := HB56.out.trans (hb.mono z6)
  have HB47 : Hid (Below w4.heap.size w4 w7) := HB45.out.trans (HB57.out.mono z5)
  have HO7 : Hid (Ce.MadeDn _ _ _ _) := O7.old
  clear hb O7 HB56
  go_wp2_with fail
  refine (HEQ.out g4 g7 _ _ _ (HO4.out.next HB47.out).old HO7.out).mono ?_
  rintro e w8 ⟨rfl, hb⟩
  have z8 := hb.size
  have HB58 : Hid (Below w5.heap.size w5 w8) := HB57.out.trans (hb.mono (by omega))
  have HB48 : Hid (Below w4.heap.size w4 w8) := HB47.out.trans (hb.mono (by omega))
  have HB38 : Hid (Below w3.heap.size w3 w8) := HB34.out.trans (HB48.out.mono z4)
  have HM8 : Hid (Calls _ _ _ _ _) := Ty.markDoneS_any w3.heap.size w4.heap.size g4 l.length l 1 w8 (HO4.out.sh.mk' (Ty.Mk.of_below HB48.out)) (by omega) (by have := HSZ.out.2.1; omega) HSZ.out.1 HSZ.out.2.2
  clear hb HB57 HB47 HO7 HEQ HB36 HB45 HB34 HB35
  go_wp2_with fail
  refine HM8.out.mono ?_
  rintro e w9 ⟨rfl, hm9⟩
  have hk9 : ¬ (((1 + Ty.mkD l : Nat) : Int) < 0) := by omega
  have z9 := hm9.chg.size
  have M5 : RowDH w9 w4.heap.size w5.heap.size (.slice p5 E.length c5) E := (HP5.out.next frD HB58.out).same frD (fun k h1 h2 h3 => hm9.chg.block k h3 (.inr h1))
  have HB39 : Hid (Below w3.heap.size w3 w9) := HB38.out.trans (hm9.chg.below (Nat.le_refl _) (by omega))
  have HQ9 : Hid (Calls _ _ _ _ _) := HEH.out p5 p3 c5 c3 w9 (HR5.out _ M5) (HR3.out _ HB39.out)
  have HM5 : Hid (RowDH w9 w4.heap.size w5.heap.size (.slice p5 E.length c5) E) := M5
  clear hm9 M5 HM8 HB58 HB48 HB38 HO4 HP5
  go_wp2_with fail
  refine HQ9.out.mono ?_
  rintro e w10 ⟨rfl, hb⟩
  have z10 := hb.size
  have HB310 : Hid (Below w3.heap.size w3 w10) := HB39.out.trans (hb.mono (by omega))
  have HK5 : Hid (Calls _ _ _ _ _) := markDoneS_h w4.heap.size w5.heap.size _ E 1 1 w10 rfl (HM5.out.next frD hb) (Nat.le_refl _) HEN.out.2 HEN.out.1 HYL.out
  clear hb HM5 HQ9 HB39
  go_wp2_with fail
  refine HK5.out.mono ?_
  rintro e w11 ⟨rfl, K5, hc11⟩
  have z11 := hc11.size
  have HB311 : Hid (Below w3.heap.size w3 w11) := HB310.out.trans (hc11.below (by omega) (by omega))
  have HH : Hid (Calls _ _ _ _ _) := heldDoneS_h w4.heap.size w5.heap.size _ E 1 1 w11 rfl K5 (Nat.le_refl _) HEN.out.2 HEN.out.1 HYL.out
  have HK5' : Hid (RowDH w11 w4.heap.size w5.heap.size (.slice p5 E.length c5) (mkL szDnn mkDnn 1 E)) := K5
  obtain ⟨N, hN⟩ : ∃ N : Nat, N = 1 + sumN szDnn E := ⟨_, rfl⟩
  rw [← hN] at HH ⊢
  have HNN : Hid (N = _) := hN
  have hk11 : ¬ ((N : Int) < 0) := by omega
  clear hc11 K5 HK5 HB310 hN
  go_wp2_with fail
  refine HH.out.mono ?_
  rintro e w12 ⟨rfl, hb⟩
  have z12 := hb.size
  have HB312 : Hid (Below w3.heap.size w3 w12) := HB311.out.trans (hb.mono (by omega))
  have HB12 : Hid (Below w.heap.size w w12) := HB3.out.trans (HB312.out.mono (by omega))
  have HR12 : Hid (RowDH w12 w4.heap.size w5.heap.size (.slice p5 E.length c5) (mkL szDnn mkDnn 1 E)) := HK5'.out.next frD hb
  clear hb HH HK5' HB311
  go_wp2_with fail
  refine (HTO.out _ HB12.out).mono ?_
  rintro e w13 ⟨⟨g13, rfl, O13⟩, hb⟩
  have z13 := hb.size
  have HB1213 : Hid (Below w12.heap.size w12 w13) := hb
  have HO13 : Hid (Ce.MadeDn _ _ _ _) := O13.old
  clear hb O13
  go_wp2_with fail
  refine (HI.out g13 _ _ HO13.out).mono ?_
  rintro e w14 ⟨⟨v14, rfl, P14⟩, hb⟩
  have z14 := hb.size
  have HB1214 : Hid (Below w12.heap.size w12 w14) := HB1213.out.trans (hb.mono z13)
  obtain ⟨p14, c14, rfl⟩ := P14.slice
  have HQ : Hid (Calls _ _ _ _ _) := HEH.out p14 p3 c14 c3 w14 (by
    obtain ⟨p, c, he, hr⟩ := rowDn_of P14
    injection he with h1
    rw [h1]; exact hr) (HR3.out _ (HB312.out.trans (HB1214.out.mono (by omega))))
  clear hb P14 HB1213 HO13
  go_wp2_with fail
  refine HQ.out.mono ?_
  rintro e w15 ⟨rfl, hb⟩
  have z15 := hb.size
  have hB15 : Below w12.heap.size w12 w15 := HB1214.out.trans (hb.mono (by omega))
  have HB15 : Hid (Below w.heap.size w w15) := HB12.out.trans (hB15.mono (by omega))
  have HQ2 : Hid (Calls _ _ _ _ _) := heldDoneS_h w4.heap.size w5.heap.size _ E 1 1 w15 rfl (HR12.out.next frD hB15) (Nat.le_refl _) HEN.out.2 HEN.out.1 HYL.out
  rw [← HNN.out] at HQ2
  clear hb hB15 HQ HB1214 HR12
  go_wp2_with fail
  refine HQ2.out.mono ?_
  rintro e w16 ⟨rfl, hb⟩
  have HB16 : Hid (Below w.heap.size w w16) := HB15.out.trans (hb.mono (by omega))
  clear hb HQ2 HB15 HB12
  go_wp2_with fail
  go_ret
  exact ⟨rfl, HB16.out⟩

end Go.Proofs.YtcggkeleaepebaaGreatDoor.ClnDonef
