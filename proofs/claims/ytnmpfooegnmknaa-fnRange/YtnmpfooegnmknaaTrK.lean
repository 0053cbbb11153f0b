/- What the program's tests of entries and of trees answer. -/
import Derived.Test.YtnmpfooegnmknaaTrJ
namespace Go.Proofs.Ytnmpfooegnmknaa.Tr
open Go.RowKit
set_option linter.unusedVariables false

/-- Block lb of W, made behind w, holds an entry that may be written; all that lay in w lies in W as it did. -/
structure Var (w W : World) (lb : Nat) (e : Ent) : Prop where
  bel : Below w.heap.size w W
  ge : w.heap.size ≤ lb
  lt : lb < W.heap.size
  c0 : W.cell? ⟨lb, 0, none⟩ = some (.string e.key)
  c1 : W.cell? ⟨lb, 1, none⟩ = some (.int .i64 e.id)
  z0 : W.frozen? ⟨lb, 0, none⟩ = false
  z1 : W.frozen? ⟨lb, 1, none⟩ = false
theorem Var.step {w W W' : World} {lb : Nat} {e : Ent} (h : Var w W lb e) (hb : Below W.heap.size W W') : Var w W' lb e :=
  ⟨h.bel.trans (hb.mono h.bel.size), h.ge, Nat.lt_of_lt_of_le h.lt hb.size, (hb.cell h.lt).trans h.c0, (hb.cell h.lt).trans h.c1, (hb.frozen h.lt).trans h.z0, (hb.frozen h.lt).trans h.z1⟩
theorem Var.set {w W : World} {lb : Nat} {e : Ent} (h : Var w W lb e) (k : ByteArray) (i : Int) : Var w ((W.setCell ⟨lb, 0, none⟩ (.string k)).setCell ⟨lb, 1, none⟩ (.int .i64 i)) lb ⟨k, i⟩ := by
  have h0 := h.c0; have h1 := h.c1; have h2 := h.z0; have h3 := h.z1
  exact ⟨(h.bel.setCell h.ge _).setCell h.ge _, h.ge, by simpa [World.setCell] using h.lt, by simp [go_sem, *], by simp [go_sem, *], by simp [go_sem, *], by simp [go_sem, *]⟩
theorem Var.start {w W : World} (hb : Below w.heap.size w W) (k : ByteArray) (i : Int) (T : TypeId) : Var w (W.alloc (.cells #[.string k, .int .i64 i] T)) W.heap.size ⟨k, i⟩ :=
  ⟨hb.alloc hb.size _, hb.size, by simp, by simp [go_sem], by simp [go_sem], by simp [go_sem], by simp [go_sem]⟩

theorem chain_step (last : Ent) (l : List Ent) (j : Nat) (h : j < l.length) (X : Ent → Bool) : (chainB last (l.drop j) && X (lastE last (l.drop j))) = ((entB l[j] && lessE last l[j]) && (chainB l[j] (l.drop (j + 1)) && X (lastE l[j] (l.drop (j + 1))))) := by
  rw [drop_cons l j h, chainB_cons, lastE_cons, Bool.and_assoc]

set_option maxRecDepth 4000 in
set_option maxHeartbeats 2000000 in
theorem entriesFit_any (p : Option Addr) (cap : Nat) (f : List Pg) (w : World) (hr : RowP w p f) (hl : f.length ≤ 1048576) (hs : ∀ l ∈ f, szP l) :
    Calls Try.prog 62 #[.slice p f.length cap] w fun e w' => e = .returned (.bool (entsB e0 f)) ∧ Below w.heap.size w w' := by
  have HR : Hid (RowP _ _ _) := hr
  have HS : Hid _ := hs
  clear hr hs
  obtain ⟨R, hR⟩ : ∃ R, R = entsB e0 f := ⟨_, rfl⟩
  rw [← hR]
  have HRR : Hid _ := hR
  clear hR
  go_enter Try.func62, Try.ntmps62
  go_wp2_with fail
  refine (aheadOf_any em w).mono ?_
  rintro e w1 ⟨rfl, hb⟩
  have V0 := Var.start hb em (-1) 40
  have hz1 := hb.size
  go_wp2_with fail
  generalize w1.alloc (.cells #[.string em, .int .i64 (-1)] 40) = W1 at V0 ⊢
  obtain ⟨lb, hlb⟩ : ∃ lb, lb = w1.heap.size := ⟨_, rfl⟩
  rw [← hlb] at V0 ⊢
  clear hlb hb hz1
  go_loopw [11] (fun i wr => ∃ (k : Nat) (last : Ent), k ≤ f.length ∧ i = .int .i64 k ∧ R = entsB last (f.drop k) ∧ Var w wr lb last) (fun i _ => f.length - (intOf i).toNat)
  case atStart => exact ⟨0, e0, Nat.zero_le _, rfl, HRR.out, V0⟩
  case round =>
    obtain ⟨k, last, hk, rfl, hall, V⟩ := hrel
    have HA : Hid _ := hall
    clear hall V0
    by_cases hlt : k < f.length
    · rcases HR.out with h0 | ⟨g, rfl, R1⟩
      · subst h0; simp at hlt
      obtain ⟨x0', pa, ca, x1', t1⟩ := R1.cells k hlt
      have x0 := (V.bel.cell R1.lt).trans x0'
      have x1 := (V.bel.cell R1.lt).trans x1'
      have hlt2 : (k : Int) < (f.length : Int) := by omega
      have hsz := HS.out f[k] (List.getElem_mem _)
      obtain ⟨hsz1, hsz2⟩ := hsz
      have HZ : Hid _ := hsz2
      have HN : Hid (R = (chainB last f[k].es && entsB (lastE last f[k].es) (f.drop (k + 1)))) := HA.out.trans (by rw [drop_cons f k hlt, entsB_cons])
      have V2 := V.step ((Below.refl _ _).alloc (Nat.le_refl _) (.cells #[.int .i64 f[k].num, .slice pa f[k].es.length ca] 86))
      have HT : Hid (InE _ _ _) := t1
      clear R1 t1 hsz2 V x0' x1'
      go_wp2_with fail
      generalize wr.alloc (.cells #[.int .i64 f[k].num, .slice pa f[k].es.length ca] 86) = W2 at V2 ⊢
      go_loopw [18] (fun i wq => ∃ (j : Nat) (lst : Ent), j ≤ f[k].es.length ∧ i = .int .i64 j ∧ R = (chainB lst (f[k].es.drop j) && entsB (lastE lst (f[k].es.drop j)) (f.drop (k + 1))) ∧ Var w wq lb lst) (fun i _ => f[k].es.length - (intOf i).toNat)
      case atStart => exact ⟨0, last, Nat.zero_le _, rfl, HN.out, V2⟩
      case round =>
        obtain ⟨j, lst, hj, rfl, hall, V⟩ := hrel
        have HJ : Hid _ := hall
        clear hall V2 HN
        by_cases hjl : j < f[k].es.length
        · rcases HT.out.step V.bel with h0 | ⟨b, off, rfl, hbl, hc⟩
          · omega
          obtain ⟨y0, y1⟩ := hc j hjl
          have hjl2 : (j : Int) < (f[k].es.length : Int) := by omega
          have hks := HZ.out f[k].es[j] (List.getElem_mem _)
          have hst := HJ.out.trans (chain_step lst f[k].es j hjl (fun e => entsB e (f.drop (k + 1))))
          obtain ⟨en, hen⟩ : ∃ en, en = f[k].es[j] := ⟨_, rfl⟩
          rw [← hen] at y0 y1 hks hst
          clear hen
          have hbA : Below wr.heap.size wr (wr.alloc (.cells #[.string en.key, .int .i64 en.id] 40)) := (Below.refl _ _).alloc (Nat.le_refl _) _
          have V3 := V.step hbA
          have e0' : (wr.alloc (.cells #[.string en.key, .int .i64 en.id] 40)).cell? ⟨wr.heap.size, 0, none⟩ = some (.string en.key) := by simp [go_sem]
          have e1' : (wr.alloc (.cells #[.string en.key, .int .i64 en.id] 40)).cell? ⟨wr.heap.size, 1, none⟩ = some (.int .i64 en.id) := by simp [go_sem]
          have el' : wr.heap.size < (wr.alloc (.cells #[.string en.key, .int .i64 en.id] 40)).heap.size := by simp
          have hlbne : lb < wr.heap.size := V.lt
          have HOK0 := entryOK_any en.key en.id (wr.alloc (.cells #[.string en.key, .int .i64 en.id] 40)) hks
          clear hc V hbA
          cases hE : entB en
          · rw [show entB ⟨en.key, en.id⟩ = false from hE] at HOK0
            rw [hE, Bool.false_and, Bool.false_and] at hst
            have HOK : Hid (Calls _ _ _ _ _) := HOK0
            have HF : Hid (R = false) := hst
            clear HOK0 hst hE
            go_wp2_with fail
            refine HOK.out.mono ?_
            rintro e w3 ⟨rfl, hb3⟩
            have V4 := V3.step hb3
            clear hb3
            go_wp2_with fail
            go_ret
            exact ⟨by rw [HF.out]; rfl, V4.bel⟩
          · rw [show entB ⟨en.key, en.id⟩ = true from hE] at HOK0
            rw [hE, Bool.true_and] at hst
            have HOK : Hid (Calls _ _ _ _ _) := HOK0
            have hcm := cmpE_le en lst
            obtain ⟨cm, hcm0⟩ : ∃ cm, cm = cmpE en lst := ⟨_, rfl⟩
            have HCM : Hid (∀ W : World, Calls Try.prog 103 #[.agg #[.string en.key, .int .i64 en.id], .agg #[.string lst.key, .int .i64 lst.id]] W fun e w' => e = .returned (.int .i64 cm) ∧ Below W.heap.size W w') := fun W => by rw [hcm0]; exact compareEntries_any en lst W
            rw [← hcm0] at hcm
            clear HOK0 hE hcm0
            cases hL : lessE lst en
            · rw [hL, Bool.false_and] at hst
              rw [hL] at hcm
              have hcm' : cm ≤ 0 := by simpa using hcm
              have HF : Hid (R = false) := hst
              clear hst hcm
              go_wp2_with fail
              refine HOK.out.mono ?_
              rintro e w3 ⟨rfl, hb3⟩
              have V4 := V3.step hb3
              have q0 := (hb3.cell el').trans e0'
              have q1 := (hb3.cell el').trans e1'
              have v0 := V4.c0
              have v1 := V4.c1
              clear hb3 V3
              go_wp2_with fail
              refine (HCM.out _).mono ?_
              rintro e w4 ⟨rfl, hb4⟩
              have V5 := V4.step hb4
              clear hb4
              go_wp2_with fail
              go_ret
              exact ⟨by rw [HF.out]; rfl, V5.bel⟩
            · rw [hL, Bool.true_and] at hst
              rw [hL] at hcm
              have hcm' : ¬ cm ≤ 0 := by simpa using hcm
              have HN2 : Hid (R = _) := hst
              clear hst hcm
              go_wp2_with fail
              refine HOK.out.mono ?_
              rintro e w3 ⟨rfl, hb3⟩
              have V4 := V3.step hb3
              have q0 := (hb3.cell el').trans e0'
              have q1 := (hb3.cell el').trans e1'
              have v0 := V4.c0
              have v1 := V4.c1
              have el4 : wr.heap.size < w3.heap.size := Nat.lt_of_lt_of_le el' hb3.size
              clear hb3 V3
              go_wp2_with fail
              refine (HCM.out _).mono ?_
              rintro e w4 ⟨rfl, hb4⟩
              have V5 := V4.step hb4
              have r0 := (hb4.cell el4).trans q0
              have r1 := (hb4.cell el4).trans q1
              have s0 := V5.c0
              have s1 := V5.c1
              have z0 := V5.z0
              have z1 := V5.z1
              have HV6 : Hid (Var _ _ _ _) := V5.set en.key en.id
              clear hb4 V4
              go_wp2_with fail
              go_roundw
              case rel => exact ⟨j + 1, en, by omega, by go_num, HN2.out, HV6.out⟩
              case measure => simp [intOf]; omega
        · have hjl2 : ¬ (j : Int) < (f[k].es.length : Int) := by omega
          have HN3 : Hid (R = entsB lst (f.drop (k + 1))) := HJ.out.trans (by rw [List.drop_of_length_le (by omega)]; exact Bool.true_and _)
          go_wp2_with fail
          go_roundw
          case rel => exact ⟨k + 1, lst, by omega, by go_num, HN3.out, V⟩
          case measure => simp [intOf]; omega
    · have hlt2 : ¬ (k : Int) < (f.length : Int) := by omega
      have HT : Hid (R = true) := HA.out.trans (by rw [List.drop_of_length_le (by omega)]; rfl)
      go_wp2_with fail
      go_ret
      exact ⟨by rw [HT.out]; rfl, V.bel⟩

theorem head_true {ps : List Pg} {next : Int} (h : headB ps next = true) : 1 ≤ ps.length ∧ ps.length ≤ 60 ∧ 2 ≤ next ∧ next ≤ 100000 := by
  unfold headB at h; simp at h; omega
set_option maxRecDepth 4000 in
set_option maxHeartbeats 2000000 in
theorem treeOK_any (p : Option Addr) (cap : Nat) (f : List Pg) (next : Int) (w : World) (hr : RowP w p f) (hl : f.length ≤ 1048576) (hcap : f.length ≤ cap) (hs : ∀ l ∈ f, szP l) :
    Calls Try.prog 23 #[.agg #[.slice p f.length cap, .int .i64 next]] w fun e w' => e = .returned (.bool (treeB f next)) ∧ Below w.heap.size w w' := by
  have hb0 : Below w.heap.size w (w.alloc (.cells #[.slice p f.length cap, .int .i64 next] 37)) := (Below.refl _ _).alloc (Nat.le_refl _) _
  have HR : Hid (RowP _ _ _) := hr
  have HS : Hid _ := hs
  clear hr hs
  have c0 : (w.alloc (.cells #[.slice p f.length cap, .int .i64 next] 37)).cell? ⟨w.heap.size, 0, none⟩ = some (.slice p f.length cap) := by simp [go_sem]
  have c1 : (w.alloc (.cells #[.slice p f.length cap, .int .i64 next] 37)).cell? ⟨w.heap.size, 1, none⟩ = some (.int .i64 next) := by simp [go_sem]
  have l0 : w.heap.size < (w.alloc (.cells #[.slice p f.length cap, .int .i64 next] 37)).heap.size := by simp
  cases hH : headB f next
  · have e : treeB f next = false := by unfold treeB; rw [hH, Bool.false_and]
    rw [e]
    clear e
    by_cases h1 : 1 ≤ f.length
    · have h1' : ¬ (f.length : Int) < 1 := by omega
      by_cases h2 : f.length ≤ 60
      · have h2' : ¬ 60 < (f.length : Int) := by omega
        by_cases h3 : 2 ≤ next
        · have h3' : ¬ next < 2 := by omega
          have h4' : 100000 < next := by
            rcases Int.lt_or_le 100000 next with h | h
            · exact h
            · unfold headB at hH; simp [h1, h2, h3, h] at hH
          clear h1 h2 h3 hH
          go_enter Try.func23, Try.ntmps23
          go_wp2_with fail
          go_ret
          exact ⟨rfl, hb0⟩
        · have h3' : next < 2 := by omega
          clear h1 h2 h3 hH
          go_enter Try.func23, Try.ntmps23
          go_wp2_with fail
          go_ret
          exact ⟨rfl, hb0⟩
      · have h2' : 60 < (f.length : Int) := by omega
        clear h1 h2 hH
        go_enter Try.func23, Try.ntmps23
        go_wp2_with fail
        go_ret
        exact ⟨rfl, hb0⟩
    · have h1' : (f.length : Int) < 1 := by omega
      clear h1 hH
      go_enter Try.func23, Try.ntmps23
      go_wp2_with fail
      go_ret
      exact ⟨rfl, hb0⟩
  · have e : treeB f next = (sizesB f.length f && (numsB next [] f && entsB e0 f)) := by unfold treeB; rw [hH, Bool.true_and]
    rw [e]
    clear e
    obtain ⟨h1, h2, h3, h4⟩ := head_true hH
    have h1' : ¬ (f.length : Int) < 1 := by omega
    have h2' : ¬ 60 < (f.length : Int) := by omega
    have h3' : ¬ next < 2 := by omega
    have h4' : ¬ 100000 < next := by omega
    have HSZ : Hid (∀ W : World, Below w.heap.size w W → Calls _ _ _ W _) := fun W hW => sizesFit_any p cap f W (HR.out.next hW) hl (fun l hm => (HS.out l hm).1)
    have HNF : Hid (∀ W : World, Below w.heap.size w W → Calls _ _ _ W _) := fun W hW => numbersFit_any p cap f next W (HR.out.next hW) hl hcap
    have HEF : Hid (∀ W : World, Below w.heap.size w W → Calls _ _ _ W _) := fun W hW => entriesFit_any p cap f W (HR.out.next hW) hl HS.out
    obtain ⟨R1, hR1⟩ : ∃ R, R = sizesB f.length f := ⟨_, rfl⟩
    obtain ⟨R2, hR2⟩ : ∃ R, R = numsB next [] f := ⟨_, rfl⟩
    obtain ⟨R3, hR3⟩ : ∃ R, R = entsB e0 f := ⟨_, rfl⟩
    rw [← hR1, ← hR2, ← hR3]
    have HQ1 : Hid _ := hR1
    have HQ2 : Hid _ := hR2
    have HQ3 : Hid _ := hR3
    clear hR1 hR2 hR3 h1 h2 h3 h4 hH
    go_enter Try.func23, Try.ntmps23
    go_wp2_with fail
    refine (HSZ.out _ hb0).mono ?_
    rintro e w1 ⟨rfl, hb1⟩
    rw [← HQ1.out]
    have B1 := hb0.trans (hb1.mono hb0.size)
    have k0 := (hb1.cell l0).trans c0
    have k1 := (hb1.cell l0).trans c1
    have l1 : w.heap.size < w1.heap.size := Nat.lt_of_lt_of_le l0 hb1.size
    clear hb1 c0 c1 l0 hb0
    cases R1
    · go_wp2_with fail
      go_ret
      exact ⟨rfl, B1⟩
    · go_wp2_with fail
      refine (HNF.out _ B1).mono ?_
      rintro e w2 ⟨rfl, hb2⟩
      rw [← HQ2.out]
      have B2 := B1.trans (hb2.mono B1.size)
      have m0 := (hb2.cell l1).trans k0
      have l2 : w.heap.size < w2.heap.size := Nat.lt_of_lt_of_le l1 hb2.size
      clear hb2 k0 k1 l1 B1
      cases R2
      · go_wp2_with fail
        go_ret
        exact ⟨rfl, B2⟩
      · go_wp2_with fail
        refine (HEF.out _ B2).mono ?_
        rintro e w3 ⟨rfl, hb3⟩
        rw [← HQ3.out]
        have B3 := B2.trans (hb3.mono B2.size)
        clear hb3
        go_wp2_with fail
        go_ret
        exact ⟨rfl, B3⟩

end Go.Proofs.Ytnmpfooegnmknaa.Tr
