/- What the program's text of a filter is (whole). -/
import Derived.Test.YtkeghknceccdmaaGreatDoorFtxS
namespace Go.Proofs.YtkeghknceccdmaaGreatDoor
open Go.RowKit
set_option linter.unusedVariables false

/-- The text of a filter's first clauses, as bytes. -/
def fiT (f : List (List Trm)) (q : Nat) : List UInt8 := (joinB (⟨#[32, 111, 114, 32]⟩ : ByteArray) ((f.map textCl).take q)).data.toList
theorem fiT_zero (f : List (List Trm)) : fiT f 0 = [] := by unfold fiT; rw [List.take_zero]; rfl
theorem fiT_all (f : List (List Trm)) : fiT f f.length = (textFi f).data.toList := by unfold fiT textFi; rw [List.take_of_length_le (by simp)]
theorem fiT_first (f : List (List Trm)) (hlt : 0 < f.length) (l : List Trm) (hl : l = f[0]) : fiT f (0 + 1) = fiT f 0 ++ (textCl l).data.toList := by
  rw [fiT_zero]
  unfold fiT
  rw [joinB_take0 _ _ (by simpa using hlt), app_data]
  simp only [List.getElem_map]
  rw [← hl]
  try simp [em]
theorem fiT_next (f : List (List Trm)) (q : Nat) (hlt : q < f.length) (hq : 0 < q) (l : List Trm) (hl : l = f[q]) : fiT f (q + 1) = (fiT f q ++ ([32, 111, 114, 32] : List UInt8)) ++ (textCl l).data.toList := by
  unfold fiT
  rw [joinB_take _ _ q (by simpa using hlt) hq, app_data, app_data]
  simp only [List.getElem_map]
  rw [← hl]
theorem fiT_len (f : List (List Trm)) (h : filtB f = true) (q : Nat) : (fiT f q).length ≤ 80550 := by
  unfold fiT; rw [toList_length]; exact textFi_len f h q
theorem grow_more0 {B : Nat} {w : World} {v : Value} {a b c : List UInt8} (hc : c = a ++ b) (h : w.ownsRow B 5 1 v (a.length + b.length) (Lib.byteCells a ++ Lib.byteCells b)) : w.ownsRow B 5 1 v c.length (Lib.byteCells c) := by
  subst hc
  rw [List.length_append, show Lib.byteCells (a ++ b) = Lib.byteCells a ++ Lib.byteCells b by simp [Lib.byteCells]]; exact h
theorem mkB_fi (f : List (List Trm)) : mkB (textFi f).data.toList = textFi f := mkB_of _

set_option maxRecDepth 8000 in
set_option maxHeartbeats 8000000 in
theorem implFT_any (g cap : Nat) (f : List (List Trm)) (w : World) (hr : ReadC w g f) (hl : f.length ≤ 1048576) (hs : ∀ l ∈ f, szC l) (B0 : Nat) (hB0 : B0 ≤ w.heap.size) (htab : Tab B0 w) (hwd : Wds B0 w) :
    Calls Tryz.prog 24 #[.agg #[.slice (some ⟨g, 0, none⟩) f.length cap]] w fun e w' => e = .returned (.tuple #[.string (ftP f).1, .int .i64 (ftP f).2]) ∧ Below w.heap.size w w' := by
  have hb0 : Below w.heap.size w (w.alloc (.cells #[.slice (some ⟨g, 0, none⟩) f.length cap] 53)) := (Below.refl _ _).alloc (Nat.le_refl _) _
  have c0 : (w.alloc (.cells #[.slice (some ⟨g, 0, none⟩) f.length cap] 53)).cell? ⟨w.heap.size, 0, none⟩ = some (.slice (some ⟨g, 0, none⟩) f.length cap) := by simp [go_sem]
  have hl0 : w.heap.size < (w.alloc (.cells #[.slice (some ⟨g, 0, none⟩) f.length cap] 53)).heap.size := by simp
  have HR : Hid (ReadC _ _ _) := hr.next hb0
  have HC : Hid (Calls _ _ _ _ _) := filterOK_any (some ⟨g, 0, none⟩) cap f (w.alloc (.cells #[.slice (some ⟨g, 0, none⟩) f.length cap] 53)) (.inr ⟨g, rfl, hr.next hb0⟩) hl hs
  have HT0 : Hid (Tab _ _) := htab
  have HW0 : Hid (Wds _ _) := hwd
  obtain ⟨P, hP⟩ : ∃ P, P = filtB f := ⟨_, rfl⟩
  unfold ftP
  rw [← hP] at HC ⊢
  have HP : Hid (_ = _) := hP
  clear hr hs htab hwd hP
  go_enter Tryz.func24, Tryz.ntmps24
  go_wp2_with fail
  generalize w.alloc (.cells #[.slice (some ⟨g, 0, none⟩) f.length cap] 53) = W0 at hb0 c0 hl0 HR HC ⊢
  refine HC.out.mono ?_
  rintro e w1 ⟨rfl, hb⟩
  have c1 := (hb.cell (p := ⟨w.heap.size, 0, none⟩) hl0).trans c0
  have hb1 := hb0.trans (hb.mono hb0.size)
  have HR1 : Hid (ReadC _ _ _) := HR.out.next hb
  have hl1 : w.heap.size < w1.heap.size := Nat.lt_of_lt_of_le hl0 hb.size
  clear hb HC HR c0 hl0
  cases P
  · go_wp2_with fail
    go_ret2
    exact ⟨rfl, hb1⟩
  have hfb := HP.out.symm
  have hf' := hfb
  unfold filtB at hf'; simp at hf'
  have hfl : f.length ≤ 3 := hf'.1.2
  have HF : Hid (∀ l ∈ f, clauseB l = true) := hf'.2
  have HFB : Hid (filtB f = true) := hfb
  obtain ⟨B, hBe⟩ : ∃ B, B = w1.heap.size := ⟨_, rfl⟩
  have hBw : B ≤ w1.heap.size := by omega
  have hBl : w.heap.size < B := by omega
  have HT : Hid (Tab B w1) := by
    show Tab B w1
    rw [hBe]
    exact fun w' hb' => HT0.out w' ((hb1.mono hB0).trans (hb'.mono (by omega)))
  have HW : Hid (Wds B w1) := by
    have h := HW0.out.on (hb1.mono hB0)
    exact ⟨by have := h.lt; omega, h.cell⟩
  have HGB : Hid (∀ q (h : q < f.length), ∃ p cl, w1.cell? ⟨g, q, none⟩ = some (.slice p f[q].length cl) ∧ RowT w1 p f[q] ∧ ∀ b, p = some ⟨b, 0, none⟩ → f[q] ≠ [] → b < B) := fun q h => by
    obtain ⟨p, cl, h1, h2⟩ := HR1.out.cells q h
    refine ⟨p, cl, h1, h2, fun b e hne => ?_⟩
    rcases h2 with h2 | ⟨b', e', R⟩
    · exact absurd h2 hne
    · rw [e] at e'; injection e' with e'; injection e' with e'; have := R.lt; omega
  have hgB : g < B := by have := HR1.out.lt; omega
  clear hf' hfb HR1 HT0 HW0 HP hBe
  go_wp2_with fail
  go_loopw [4, 13] (fun u i wr => ∃ q : Nat, q ≤ f.length ∧ i = .int .i64 q ∧ wr.ownsRow B 5 1 u (fiT f q).length (Lib.byteCells (fiT f q)) ∧ Below B w1 wr) (fun _ i _ => f.length - (intOf i).toNat)
  case atStart => exact ⟨0, Nat.zero_le _, rfl, by rw [fiT_zero]; exact World.ownsRow_nil _ _ _ _, Below.refl _ _⟩
  case round =>
    obtain ⟨q, hq, rfl, o3, b3⟩ := hrel
    have hz3 := b3.size
    have hlq := fiT_len f HFB.out q
    by_cases hlt : q < f.length
    · obtain ⟨p, cl, x0', hT, hpb⟩ := HGB.out q hlt
      have x0 := (b3.cell (p := ⟨g, q, none⟩) hgB).trans x0'
      have hgl : g < wr.heap.size := by omega
      obtain ⟨l, hl⟩ : ∃ l, l = f[q] := ⟨_, rfl⟩
      have hcl : clauseB l = true := by rw [hl]; exact HF.out _ (List.getElem_mem _)
      have hcl' := hcl
      unfold clauseB at hcl'; simp at hcl'
      have hll : l.length ≤ 4 := hcl'.1
      have hcz := textCl_size l hcl
      rw [← hl] at x0 hT hpb
      have HCL : Hid (clauseB l = true) := hcl
      have HTR : Hid (∀ W : World, Below B w1 W → l ≠ [] → RowT W p l) := fun W hW hne => by
        rcases hT with h | ⟨b', e', R⟩
        · exact .inl h
        · exact .inr ⟨b', e', R.step hW (hpb b' e' hne)⟩
      have HPB : Hid (∀ b, p = some ⟨b, 0, none⟩ → l ≠ [] → b < B) := hpb
      have HAL : Hid (Below B w1 (wr.alloc (.cells #[.slice p l.length cl] 109))) := b3.alloc (by omega) _
      have HO4 : Hid (World.ownsRow _ _ _ _ _ _ _) := o3.alloc (.cells #[.slice p l.length cl] 109)
      have hqi : (q : Int) < (f.length : Int) := by omega
      have HAC : Hid (∀ (W : World) (sv : Value) (n : Nat) (xs : List Value), W.ownsRow B 5 1 sv n xs → B ≤ W.heap.size → n ≤ 100000 → Below B w1 W → Calls Tryz.prog 71 #[sv, .agg #[.slice p l.length cl]] W fun e w' => GrewT B n xs (textCl l).data.toList W e w') := fun W sv n xs ho hB hn hW => by
        by_cases hne : l = []
        · exact appClause_any l HCL.out p cl B n sv xs W ho hB hn (.inl hne) (Lib.TabBelow.on HT.out hW) (HW.out.on hW) (fun b e h => absurd hne h)
        · exact appClause_any l HCL.out p cl B n sv xs W ho hB hn (HTR.out W hW hne) (Lib.TabBelow.on HT.out hW) (HW.out.on hW) HPB.out
      clear hT hpb hcl hcl' x0' HTR HPB
      by_cases hq0 : q = 0
      · subst hq0
        have hnq : ¬ (0 : Int) < 0 := by omega
        have HCAT : Hid (fiT f (0 + 1) = fiT f 0 ++ (textCl l).data.toList) := fiT_first f hlt l hl
        clear hl o3 b3
        go_wp2_with fail
        refine (HAC.out _ _ _ _ HO4.out (by simp; omega) (by omega) HAL.out).mono ?_
        rintro e w7 ⟨v7, rfl, o7, b7, k7⟩
        have HO7 : Hid (World.ownsRow _ _ _ _ _ _ _) := grow_more0 HCAT.out o7
        have hb7 : Below B w1 w7 := HAL.out.trans b7
        clear o7 k7 b7
        go_wp2_with fail
        go_roundw
        case rel => exact ⟨0 + 1, by omega, by go_num, HO7.out, hb7⟩
        case measure => simp [intOf]; omega
      · have hq1 : 0 < q := by omega
        have hqj : (0 : Int) < (q : Int) := by omega
        have HCAT : Hid (fiT f (q + 1) = (fiT f q ++ ([32, 111, 114, 32] : List UInt8)) ++ (textCl l).data.toList) := fiT_next f q hlt hq1 l hl
        clear hl o3 b3
        go_wp2_with (at_builtin; refine app_str rfl (.tmp 20) (.const (.string ⟨#[32, 111, 114, 32]⟩)) rfl B _ _ _ ⟨#[32, 111, 114, 32]⟩ rfl rfl HO4.out (by simp; omega) (by omega) (by decide) ?_; intro v1 w5 o5 b5 k5; refine Hid.out ?_)
        refine Lib.hid ?_
        have p5 : w5.ownsRow B 5 1 v1 (fiT f q ++ ([32, 111, 114, 32] : List UInt8)).length (Lib.byteCells (fiT f q ++ ([32, 111, 114, 32] : List UInt8))) := grow_more0 rfl o5
        have HO5 : Hid (World.ownsRow _ _ _ _ _ _ _) := p5
        have HB5 : Hid (Below B w1 w5) := HAL.out.trans b5
        have y0 := kept_new k5 (by decide) 0
        simp only [List.getElem?_toArray, List.getElem?_cons_zero] at y0
        have z5 := b5.size
        simp at z5
        have hl5 : (fiT f q ++ ([32, 111, 114, 32] : List UInt8)).length ≤ 90000 := by rw [List.length_append]; simp only [List.length_cons, List.length_nil]; omega
        clear o5 p5 k5 b5
        go_wp2_with fail
        refine (HAC.out _ _ _ _ HO5.out (by omega) (by omega) HB5.out).mono ?_
        rintro e w7 ⟨v7, rfl, o7, b7, k7⟩
        have HO7 : Hid (World.ownsRow _ _ _ _ _ _ _) := grow_more0 HCAT.out o7
        have hb7 : Below B w1 w7 := HB5.out.trans b7
        clear o7 k7 b7
        go_wp2_with fail
        go_roundw
        case rel => exact ⟨q + 1, by omega, by go_num, HO7.out, hb7⟩
        case measure => simp [intOf]; omega
    · obtain rfl : q = f.length := by omega
      have hni : ¬ ((f.length : Int) < (f.length : Int)) := by omega
      rw [fiT_all] at o3
      have hcv := convT wr u4 (textFi f).data.toList _ o3
      rw [mkB_fi] at hcv
      have hbw : Below w.heap.size w wr := hb1.trans (b3.mono (by omega))
      clear o3
      go_wp2_with fail
      go_ret2
      exact ⟨rfl, hbw⟩

end Go.Proofs.YtkeghknceccdmaaGreatDoor
