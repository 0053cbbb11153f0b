/- What the specification's text of a filter is (whole). -/
import Derived.Test.YtkeghknceccdmaaGreatDoorFtxI
import Derived.Test.YtkeghknceccdmaaGreatDoorTextU
import Derived.Test.YtkeghknceccdmaaGreatDoorFiltS
import Derived.Test.YtkeghknceccdmaaGreatDoorLasF
import Derived.Deep.Cut
namespace Go.Proofs.YtkeghknceccdmaaGreatDoor
open Go.RowKit
set_option linter.unusedVariables false

theorem l03Words_at (w : World) : Calls Tryz.prog 137 #[] w fun e w' => (∃ gw, e = .returned (.slice (some ⟨gw, 0, none⟩) 11 11) ∧ gw < w'.heap.size ∧ ∀ k, k < 11 → w'.cell? ⟨gw, k, none⟩ = some (.string (words.getD k em))) ∧ Below w.heap.size w w' := by
  refine (l03Words_any w).mono ?_
  rintro e w' ⟨rfl, R, hb⟩
  refine ⟨⟨_, rfl, R.lt, fun k hk => ?_⟩, hb⟩
  have h := R.cells k hk
  rw [Nat.zero_add] at h
  rw [h, List.getD_eq_getElem?_getD, List.getElem?_eq_getElem hk]
  rfl
theorem keepX {W w0 : World} {b : Nat} {a0 a1 a2 a3 a4 : Value} (m : b < W.heap.size) (x0 : W.cell? ⟨b, 0, none⟩ = some a0) (x1 : W.cell? ⟨b, 1, none⟩ = some a1) (x2 : W.cell? ⟨b, 2, none⟩ = some a2) (x3 : W.cell? ⟨b, 3, none⟩ = some a3) (x4 : W.cell? ⟨b, 4, none⟩ = some a4) (hb : Below W.heap.size W w0) :
    w0.cell? ⟨b, 0, none⟩ = some a0 ∧ w0.cell? ⟨b, 1, none⟩ = some a1 ∧ w0.cell? ⟨b, 2, none⟩ = some a2 ∧ w0.cell? ⟨b, 3, none⟩ = some a3 ∧ w0.cell? ⟨b, 4, none⟩ = some a4 :=
  ⟨(hb.cell m).trans x0, (hb.cell m).trans x1, (hb.cell m).trans x2, (hb.cell m).trans x3, (hb.cell m).trans x4⟩

theorem keepG {W w0 : World} {b : Nat} {row : Option Nat} {a0 a1 a2 a3 a4 : Value} (hr : ∀ g, row = some g → g < b) (m : b < W.heap.size) (x0 : W.cell? ⟨b, 0, none⟩ = some a0) (x1 : W.cell? ⟨b, 1, none⟩ = some a1) (x2 : W.cell? ⟨b, 2, none⟩ = some a2) (x3 : W.cell? ⟨b, 3, none⟩ = some a3) (x4 : W.cell? ⟨b, 4, none⟩ = some a4) (hg : W.grownBy w0 row) :
    w0.cell? ⟨b, 0, none⟩ = some a0 ∧ w0.cell? ⟨b, 1, none⟩ = some a1 ∧ w0.cell? ⟨b, 2, none⟩ = some a2 ∧ w0.cell? ⟨b, 3, none⟩ = some a3 ∧ w0.cell? ⟨b, 4, none⟩ = some a4 := by
  have hb : w0.heap[b]? = W.heap[b]? := hg.block b m (fun e => by have := hr b e.symm; omega)
  exact ⟨(World.cell?_of_block (a := ⟨b, 0, none⟩) hb).trans x0, (World.cell?_of_block (a := ⟨b, 1, none⟩) hb).trans x1, (World.cell?_of_block (a := ⟨b, 2, none⟩) hb).trans x2, (World.cell?_of_block (a := ⟨b, 3, none⟩) hb).trans x3, (World.cell?_of_block (a := ⟨b, 4, none⟩) hb).trans x4⟩

set_option maxRecDepth 8000 in
set_option maxHeartbeats 8000000 in
theorem l03Text_any (g cap : Nat) (f : List (List Trm)) (w : World) (hr : ReadC w g f) (hf : filtB f = true) :
    Calls Tryz.prog 68 #[.agg #[.slice (some ⟨g, 0, none⟩) f.length cap]] w fun e w' => e = .returned (.string (textFi f)) ∧ Below w.heap.size w w' := by
  obtain ⟨i0, hi0, hz0, hz1, hz2⟩ := info_parts infoS
  have hf' := hf
  unfold filtB at hf'; simp at hf'
  have hfl : f.length ≤ 3 := hf'.1.2
  have HF : Hid (∀ l ∈ f, clauseB l = true) := hf'.2
  have HJ : Hid (∀ k, (joinB (⟨#[32, 111, 114, 32]⟩ : ByteArray) ((f.map textCl).take k)).size ≤ 80550) := textFi_len f hf
  have hb0 : Below w.heap.size w (w.alloc (.cells #[.slice (some ⟨g, 0, none⟩) f.length cap] 53)) := (Below.refl _ _).alloc (Nat.le_refl _) _
  have c0 : (w.alloc (.cells #[.slice (some ⟨g, 0, none⟩) f.length cap] 53)).cell? ⟨w.heap.size, 0, none⟩ = some (.slice (some ⟨g, 0, none⟩) f.length cap) := by simp [go_sem]
  have hs0 : (w.alloc (.cells #[.slice (some ⟨g, 0, none⟩) f.length cap] 53)).heap.size = w.heap.size + 1 := by simp
  have HR : Hid (ReadC _ _ _) := hr.next hb0
  have O1 := World.ownsRow_made (base := w.heap.size + 1) (size := 1) (e := 9) (w.alloc (.cells #[.slice (some ⟨g, 0, none⟩) f.length cap] 53)) #[] 0 (by simp) (by unfold maxLen; omega) rfl
  have hb1 : Below (w.heap.size + 1) (w.alloc (.cells #[.slice (some ⟨g, 0, none⟩) f.length cap] 53)) ((w.alloc (.cells #[.slice (some ⟨g, 0, none⟩) f.length cap] 53)).alloc (.cells #[] 9)) := (Below.refl _ _).alloc (by simp) _
  simp only [heap_size_alloc] at O1
  have HO1 : Hid (World.ownsRow _ _ _ _ _ _ _) := O1
  have HB1 : Hid (Below _ _ _) := hb1
  clear hr hf hf' O1 hb1
  go_enter Tryz.func68, Tryz.ntmps68
  go_wp2_with fail
  generalize w.alloc (.cells #[.slice (some ⟨g, 0, none⟩) f.length cap] 53) = W0 at hb0 c0 hs0 HR HO1 HB1 ⊢
  have HS0 : Hid (_ = _) := hs0
  clear hs0
  go_loopw [3, 4] (fun u i wr => ∃ q : Nat, q ≤ f.length ∧ i = .int .i64 q ∧ wr.ownsRow (w.heap.size + 1) 9 1 u q (strs ((f.map textCl).take q)) ∧ (¬ u = .slice none 0 0) ∧ Below (w.heap.size + 1) W0 wr) (fun _ i _ => f.length - (intOf i).toNat)
  case atStart => exact ⟨0, Nat.zero_le _, rfl, HO1.out, by simp, HB1.out⟩
  case round =>
    obtain ⟨q, hq, rfl, hown, hnn, hbel⟩ := hrel
    have hzs : w.heap.size + 1 ≤ wr.heap.size := by have := hbel.size; have := HS0.out; omega
    have hlw : w.heap.size < wr.heap.size := by omega
    have c1 := (hbel.cell (p := ⟨w.heap.size, 0, none⟩) (Nat.lt_succ_self _)).trans c0
    have HOW : Hid (World.ownsRow _ _ _ _ _ _ _) := hown
    have HN : Hid (¬ _) := hnn
    have HBL : Hid (Below _ _ _) := hbel
    clear hown hnn HO1 HB1
    by_cases hlt : q < f.length
    · have R := HR.out.next (show Below W0.heap.size W0 wr by rw [HS0.out]; exact hbel)
      obtain ⟨p, cl, x0, hT⟩ := R.cells q hlt
      have hgl := R.lt
      obtain ⟨l, hl⟩ : ∃ l, l = f[q] := ⟨_, rfl⟩
      have hcl : clauseB l = true := by rw [hl]; exact HF.out _ (List.getElem_mem _)
      rw [← hl] at x0 hT
      have hcl' := hcl
      unfold clauseB at hcl'; simp at hcl'
      have hll : l.length ≤ 4 := hcl'.1
      have HTK : Hid ((f.map textCl).take (q + 1) = (f.map textCl).take q ++ [textCl l]) := by
        show (f.map textCl).take (q + 1) = (f.map textCl).take q ++ [textCl l]
        rw [List.take_succ_eq_append_getElem (by simpa using hlt)]
        simp only [List.getElem_map, hl]
      have HOK : Hid (∀ t ∈ l, okT t = true) := hcl'.2
      have HTR : Hid (RowT _ _ _) := hT
      have HCL : Hid (clauseB l = true) := hcl
      have hqi : (q : Int) < (f.length : Int) := by omega
      clear R hT hcl hcl' hl
      obtain ⟨Wq, rfl⟩ : ∃ W, W = wr := ⟨_, rfl⟩
      have O2 := World.ownsRow_made (base := Wq.heap.size) (size := 1) (e := 9) Wq #[] 0 (Nat.le_refl _) (by unfold maxLen; omega) rfl
      have HO2 : Hid (World.ownsRow _ _ _ _ _ _ _) := O2
      have HB2 : Hid (Below Wq.heap.size Wq (Wq.alloc (.cells #[] 9))) := (Below.refl _ _).alloc (Nat.le_refl _) _
      clear O2 hbel
      go_wp2_with fail
      go_loopw [5, 6] (fun u j wr => ∃ m : Nat, m ≤ l.length ∧ j = .int .i64 m ∧ wr.ownsRow Wq.heap.size 9 1 u m (strs ((l.map textTm).take m)) ∧ (¬ u = .slice none 0 0) ∧ Below Wq.heap.size Wq wr) (fun _ j _ => l.length - (intOf j).toNat)
      case atStart => exact ⟨0, Nat.zero_le _, rfl, HO2.out, by simp, HB2.out⟩
      case round =>
        obtain ⟨m, hm, rfl, hown, hnn, hbel⟩ := hrel
        have hzr := hbel.size
        have d0 := (hbel.cell (p := ⟨w.heap.size, 0, none⟩) hlw).trans c1
        have d1 := (hbel.cell (p := ⟨g, q, none⟩) hgl).trans x0
        have hlw2 : w.heap.size < wr.heap.size := by omega
        have hgl2 : g < wr.heap.size := by omega
        have HOI : Hid (World.ownsRow _ _ _ _ _ _ _) := hown
        have HNI : Hid (¬ _) := hnn
        have HBI : Hid (Below _ _ _) := hbel
        clear hown hnn HO2 HB2
        by_cases hlm : m < l.length
        · obtain ⟨gt, rfl, RT0⟩ : ∃ gt, p = some ⟨gt, 0, none⟩ ∧ ReadT Wq gt l := by
            rcases HTR.out with h | h
            · rw [h] at hlm; simp at hlm
            · exact h
          have RT := RT0.next hbel
          obtain ⟨y0, y1, y2, y3, y4⟩ := RT.cells m hlm
          have hgt := RT.lt
          obtain ⟨t, ht⟩ : ∃ t, t = l[m] := ⟨_, rfl⟩
          have hok : okT t = true := by rw [ht]; exact HOK.out _ (List.getElem_mem _)
          rw [← ht] at y0 y1 y2 y3 y4
          obtain ⟨hps, htc, hop, _⟩ := tmB_parts t.op t.p t.c hok
          obtain ⟨k, hk⟩ : ∃ k : Nat, t.op = (k : Int) := ⟨t.op.toNat, by omega⟩
          rw [hk] at y0 hop
          have hk11 : k < 11 := by omega
          have hi1 : decide ((k : Int) < 0) = false := decide_eq_false (by omega)
          have hi2 : decide ((11 : Int) ≤ (k : Int)) = false := decide_eq_false (by omega)
          have hk11i : (k : Int) < 11 := by omega
          have hwl := word_len k
          obtain ⟨wd, hwd⟩ : ∃ wd, wd = words.getD k em := ⟨_, rfl⟩
          obtain ⟨tx, htx⟩ : ∃ tx, tx = mkB (textV 5 t.c) := ⟨_, rfl⟩
          have hxl : tx.size ≤ 6700 := by rw [htx, mkB_size]; have h1 := textV_len 5 t.c htc; have h2 := ok_size t.c htc; omega
          have HTK2 : Hid ((l.map textTm).take (m + 1) = (l.map textTm).take m ++ [(t.p ++ (⟨#[32]⟩ : ByteArray) ++ wd ++ (⟨#[32]⟩ : ByteArray) ++ tx)]) := by
            show (l.map textTm).take (m + 1) = (l.map textTm).take m ++ [(t.p ++ (⟨#[32]⟩ : ByteArray) ++ wd ++ (⟨#[32]⟩ : ByteArray) ++ tx)]
            rw [List.take_succ_eq_append_getElem (by simpa using hlm)]
            simp only [List.getElem_map]
            rw [← ht]
            unfold textTm
            rw [hk, Int.toNat_natCast, ← hwd, ← htx]
          have HWD : Hid (_ = _) := hwd
          have HTX : Hid (_ = _) := htx
          rw [← hwd] at hwl
          have HTC : Hid (fits 5 t.c = true) := htc
          have z1 : ¬ 9223372036854775807 < t.p.size + 1 := by omega
          have z2 : ¬ 9223372036854775807 < t.p.size + 1 + wd.size := by omega
          have z3 : ¬ 9223372036854775807 < t.p.size + 1 + wd.size + 1 := by omega
          have z4 : ¬ 9223372036854775807 < t.p.size + 1 + wd.size + 1 + tx.size := by omega
          have hmi : (m : Int) < (l.length : Int) := by omega
          clear RT RT0 hok htc ht hwd htx hk HTR
          have hal : Below wr.heap.size wr (wr.alloc (.cells #[.int .i64 (k : Int), .string t.p, .int .i64 t.c.k, .int .i64 t.c.n, .string t.c.t] 34)) := (Below.refl _ _).alloc (Nat.le_refl _) _
          have e0 : (wr.alloc (.cells #[.int .i64 (k : Int), .string t.p, .int .i64 t.c.k, .int .i64 t.c.n, .string t.c.t] 34)).cell? ⟨wr.heap.size, 0, none⟩ = some (.int .i64 (k : Int)) := by simp [go_sem]
          have e1 : (wr.alloc (.cells #[.int .i64 (k : Int), .string t.p, .int .i64 t.c.k, .int .i64 t.c.n, .string t.c.t] 34)).cell? ⟨wr.heap.size, 1, none⟩ = some (.string t.p) := by simp [go_sem]
          have e2 : (wr.alloc (.cells #[.int .i64 (k : Int), .string t.p, .int .i64 t.c.k, .int .i64 t.c.n, .string t.c.t] 34)).cell? ⟨wr.heap.size, 2, none⟩ = some (.int .i64 t.c.k) := by simp [go_sem]
          have e3 : (wr.alloc (.cells #[.int .i64 (k : Int), .string t.p, .int .i64 t.c.k, .int .i64 t.c.n, .string t.c.t] 34)).cell? ⟨wr.heap.size, 3, none⟩ = some (.int .i64 t.c.n) := by simp [go_sem]
          have e4 : (wr.alloc (.cells #[.int .i64 (k : Int), .string t.p, .int .i64 t.c.k, .int .i64 t.c.n, .string t.c.t] 34)).cell? ⟨wr.heap.size, 4, none⟩ = some (.string t.c.t) := by simp [go_sem]
          have m7 : wr.heap.size < (wr.alloc (.cells #[.int .i64 (k : Int), .string t.p, .int .i64 t.c.k, .int .i64 t.c.n, .string t.c.t] 34)).heap.size := by simp
          have HA7 : Hid (Below Wq.heap.size Wq _) := HBI.out.trans (hal.mono hzr)
          have HO7 : Hid (World.ownsRow _ _ _ _ _ _ _) := owns_below HOI.out hal
          clear hal
          go_wp2_with fail
          generalize wr.alloc (.cells #[.int .i64 (k : Int), .string t.p, .int .i64 t.c.k, .int .i64 t.c.n, .string t.c.t] 34) = W7 at e0 e1 e2 e3 e4 m7 HA7 HO7 ⊢
          clear y0 y1 y2 y3 y4 d0 d1
          have hub : ∀ gg, u5.ownBlock = some gg → gg < wr.heap.size := fun gg hg => (HOI.out.lt gg hg).2
          generalize wr.heap.size = b7 at e0 e1 e2 e3 e4 m7 hub ⊢
          have HUB : Hid (∀ gg, u5.ownBlock = some gg → gg < b7) := hub
          clear hub
          have kp : ∀ w0, Below W7.heap.size W7 w0 → (w0.cell? ⟨b7, 0, none⟩ = some (.int .i64 (k : Int)) ∧ w0.cell? ⟨b7, 1, none⟩ = some (.string t.p) ∧ w0.cell? ⟨b7, 2, none⟩ = some (.int .i64 t.c.k) ∧ w0.cell? ⟨b7, 3, none⟩ = some (.int .i64 t.c.n) ∧ w0.cell? ⟨b7, 4, none⟩ = some (.string t.c.t)) := fun w0 h => keepX m7 e0 e1 e2 e3 e4 h
          clear e0 e1 e2 e3 e4
          refine wp_region_held_drew (S := fun w0 => w0.cell? ⟨b7, 0, none⟩ = some (.int .i64 (k : Int)) ∧ w0.cell? ⟨b7, 1, none⟩ = some (.string t.p) ∧ w0.cell? ⟨b7, 2, none⟩ = some (.int .i64 t.c.k) ∧ w0.cell? ⟨b7, 3, none⟩ = some (.int .i64 t.c.n) ∧ w0.cell? ⟨b7, 4, none⟩ = some (.string t.c.t)) (by kernel_rfl) (kp _ (Below.refl _ _).drew) (fun hHeld => ?_)
          refine take_at (i := 0) (v := ?_) .zero (by kernel_rfl) (by kernel_rfl) (by kernel_rfl) (fun _ _ _ h => h) (Or.inl ⟨by rfl, ?_⟩) (by assumption) ?_
          rotate_left
          focus (intro w' hSw; (try dsimp only at hSw); go_simp; try (with_reducible rfl))
          try simp only [Act.put, List.setIfInBounds_toArray, List.set_cons_zero, List.set_cons_succ]
          refine take_at (i := 1) (v := ?_) (.succ .zero) (by kernel_rfl) (by kernel_rfl) (by kernel_rfl) (fun _ _ _ h => h) (Or.inl ⟨by rfl, ?_⟩) (by assumption) ?_
          rotate_left
          focus (intro w' hSw; (try dsimp only at hSw); go_simp; try (with_reducible rfl))
          try simp only [Act.put, List.setIfInBounds_toArray, List.set_cons_zero, List.set_cons_succ]
          refine take_at (i := 2) (v := ?_) (.succ (.succ .zero)) (by kernel_rfl) (by kernel_rfl) (by kernel_rfl) (fun _ _ _ h => h) (Or.inl ⟨by rfl, ?_⟩) (by assumption) ?_
          rotate_left
          focus (intro w' hSw; (try dsimp only at hSw); go_simp; try (with_reducible rfl))
          try simp only [Act.put, List.setIfInBounds_toArray, List.set_cons_zero, List.set_cons_succ]
          refine take_at (i := 3) (v := ?_) (.succ (.succ (.succ .zero))) (by kernel_rfl) (by kernel_rfl) (by kernel_rfl) (fun _ _ _ h => h) (Or.inl ⟨by rfl, ?_⟩) (by assumption) ?_
          rotate_left
          focus (intro w' hSw; (try dsimp only at hSw); go_simp; try (with_reducible rfl))
          try simp only [Act.put, List.setIfInBounds_toArray, List.set_cons_zero, List.set_cons_succ]
          refine take_at (i := 5) (v := ?_) (.succ (.succ (.succ (.succ (.succ .zero))))) (by kernel_rfl) (by kernel_rfl) (by kernel_rfl) (fun _ _ _ h => h) (Or.inl ⟨by rfl, ?_⟩) (by assumption) ?_
          rotate_left
          focus (intro w' hSw; (try dsimp only at hSw); go_simp; try (with_reducible rfl))
          try simp only [Act.put, List.setIfInBounds_toArray, List.set_cons_zero, List.set_cons_succ]
          refine take_at (i := 6) (v := ?_) (.succ (.succ (.succ (.succ (.succ (.succ .zero)))))) (by kernel_rfl) (by kernel_rfl) (by kernel_rfl) (fun _ _ _ h => h) (Or.inl ⟨by rfl, ?_⟩) (by assumption) ?_
          rotate_left
          focus (intro w' hSw; (try dsimp only at hSw); go_simp; try (with_reducible rfl))
          try simp only [Act.put, List.setIfInBounds_toArray, List.set_cons_zero, List.set_cons_succ]
          refine take_at (i := 11) (v := ?_) (.succ (.succ (.succ (.succ (.succ (.succ (.succ (.succ (.succ (.succ (.succ .zero))))))))))) (by kernel_rfl) (by kernel_rfl) (by kernel_rfl) (fun _ _ _ h => h) (Or.inl ⟨by rfl, ?_⟩) (by assumption) ?_
          rotate_left
          focus (intro w' hSw; (try dsimp only at hSw); go_simp; try (with_reducible rfl))
          try simp only [Act.put, List.setIfInBounds_toArray, List.set_cons_zero, List.set_cons_succ]
          refine take_at (i := 12) (v := ?_) (.succ (.succ (.succ (.succ (.succ (.succ (.succ (.succ (.succ (.succ (.succ (.succ .zero)))))))))))) (by kernel_rfl) (by kernel_rfl) (by kernel_rfl) (fun _ _ _ h => h) (Or.inl ⟨by rfl, ?_⟩) (by assumption) ?_
          rotate_left
          focus (intro w' hSw; (try dsimp only at hSw); go_simp; try (with_reducible rfl))
          try simp only [Act.put, List.setIfInBounds_toArray, List.set_cons_zero, List.set_cons_succ]
          refine wpAnyH_ready (rs := [4]) (by kernel_rfl) (by simp) ?_
          refine (cons_at (i := 4) (.succ (.succ (.succ (.succ .zero)))) (fun K hK => ?_) AllReadyH.nil)
          go_simp
          refine (l03Words_at _).mono ?_
          rintro e w1 ⟨⟨gw, rfl, hgw, hcw⟩, hb⟩
          have hB1 : Below W7.heap.size W7 w1 := (show Below W7.heap.size W7 _ by (repeat (first | (with_reducible exact Below.refl _ _) | (with_reducible assumption) | (with_reducible apply below_drewN) | (with_reducible apply Below.drew) | ((with_reducible refine Below.setCell ?_ ?_ _); rotate_left; focus (first | (simp; done) | (simp; omega) | omega)) | ((with_reducible refine Below.alloc ?_ ?_ _); rotate_left; focus (first | (simp; done) | (simp; omega) | omega))))).trans (hb.mono (by first | (simp; done) | (simp; omega) | omega))
          have hs1 := hB1.size
          have f1 := hcw k hk11
          rw [← HWD.out] at f1
          clear hb hcw
          try go_wp2_with fail
          refine hK.out _ _ ?_ ?_
          focus exact kp _ (by (repeat (first | (with_reducible exact Below.refl _ _) | (with_reducible assumption) | (with_reducible apply below_drewN) | (with_reducible apply Below.drew) | ((with_reducible refine Below.setCell ?_ ?_ _); rotate_left; focus (first | (simp; done) | (simp; omega) | omega)) | ((with_reducible refine Below.alloc ?_ ?_ _); rotate_left; focus (first | (simp; done) | (simp; omega) | omega)))))
          clear hK K hHeld
          intro hHeld
          try simp only [Act.put, List.setIfInBounds_toArray, List.set_cons_zero, List.set_cons_succ]
          refine take_at (i := 7) (v := ?_) (.succ (.succ (.succ (.succ (.succ (.succ (.succ .zero))))))) (by kernel_rfl) (by kernel_rfl) (by kernel_rfl) (fun _ _ _ h => h) (Or.inl ⟨by rfl, ?_⟩) (by assumption) ?_
          rotate_left
          focus (intro w' hSw; (try dsimp only at hSw); go_simp; try (with_reducible rfl))
          try simp only [Act.put, List.setIfInBounds_toArray, List.set_cons_zero, List.set_cons_succ]
          refine wpAnyH_ready (rs := [8, 13]) (by kernel_rfl) (by simp) ?_
          refine (cons_at (i := 8) (.succ (.succ (.succ (.succ (.succ (.succ (.succ (.succ .zero)))))))) (fun K hK => ?_) (cons_at (i := 13) (.succ (.succ (.succ (.succ (.succ (.succ (.succ (.succ (.succ (.succ (.succ (.succ (.succ .zero))))))))))))) (fun K hK => ?_) AllReadyH.nil))
          · go_simp
            refine hK.out _ _ ?_ ?_
            focus exact kp _ (by (repeat (first | (with_reducible exact Below.refl _ _) | (with_reducible assumption) | (with_reducible apply below_drewN) | (with_reducible apply Below.drew) | ((with_reducible refine Below.setCell ?_ ?_ _); rotate_left; focus (first | (simp; done) | (simp; omega) | omega)) | ((with_reducible refine Below.alloc ?_ ?_ _); rotate_left; focus (first | (simp; done) | (simp; omega) | omega)))))
            clear hK K hHeld
            intro hHeld
            try simp only [Act.put, List.setIfInBounds_toArray, List.set_cons_zero, List.set_cons_succ]
            refine take_at (i := 9) (v := ?_) (.succ (.succ (.succ (.succ (.succ (.succ (.succ (.succ (.succ .zero))))))))) (by kernel_rfl) (by kernel_rfl) (by kernel_rfl) (fun _ _ _ h => h) (Or.inl ⟨by rfl, ?_⟩) (by assumption) ?_
            rotate_left
            focus (intro w' hSw; (try dsimp only at hSw); go_simp; try (with_reducible rfl))
            try simp only [Act.put, List.setIfInBounds_toArray, List.set_cons_zero, List.set_cons_succ]
            refine take_at (i := 10) (v := ?_) (.succ (.succ (.succ (.succ (.succ (.succ (.succ (.succ (.succ (.succ .zero)))))))))) (by kernel_rfl) (by kernel_rfl) (by kernel_rfl) (fun _ _ _ h => h) (Or.inl ⟨by rfl, ?_⟩) (by assumption) ?_
            rotate_left
            focus (intro w' hSw; (try dsimp only at hSw); go_simp; try (with_reducible rfl))
            try simp only [Act.put, List.setIfInBounds_toArray, List.set_cons_zero, List.set_cons_succ]
            refine wpAnyH_ready (rs := [13]) (by kernel_rfl) (by simp) ?_
            refine (cons_at (i := 13) (.succ (.succ (.succ (.succ (.succ (.succ (.succ (.succ (.succ (.succ (.succ (.succ (.succ .zero))))))))))))) (fun K hK => ?_) AllReadyH.nil)
            go_simp
            refine (txt_at 5 t.c _ HTC.out).mono ?_
            rintro e w2 ⟨rfl, hb⟩
            rw [← HTX.out]
            have hB2 : Below W7.heap.size W7 w2 := (show Below W7.heap.size W7 _ by (repeat (first | (with_reducible exact Below.refl _ _) | (with_reducible assumption) | (with_reducible apply below_drewN) | (with_reducible apply Below.drew) | ((with_reducible refine Below.setCell ?_ ?_ _); rotate_left; focus (first | (simp; done) | (simp; omega) | omega)) | ((with_reducible refine Below.alloc ?_ ?_ _); rotate_left; focus (first | (simp; done) | (simp; omega) | omega))))).trans (hb.mono (by first | (simp; done) | (simp; omega) | omega))
            have hs2 := hB2.size
            clear hb
            try go_wp2_with fail
            refine hK.out _ _ ?_ ?_
            focus exact kp _ (by (repeat (first | (with_reducible exact Below.refl _ _) | (with_reducible assumption) | (with_reducible apply below_drewN) | (with_reducible apply Below.drew) | ((with_reducible refine Below.setCell ?_ ?_ _); rotate_left; focus (first | (simp; done) | (simp; omega) | omega)) | ((with_reducible refine Below.alloc ?_ ?_ _); rotate_left; focus (first | (simp; done) | (simp; omega) | omega)))))
            clear hK K hHeld
            intro hHeld
            try simp only [Act.put, List.setIfInBounds_toArray, List.set_cons_zero, List.set_cons_succ]
            refine take_at (i := 14) (v := ?_) (.succ (.succ (.succ (.succ (.succ (.succ (.succ (.succ (.succ (.succ (.succ (.succ (.succ (.succ .zero)))))))))))))) (by kernel_rfl) (by kernel_rfl) (by kernel_rfl) (fun _ _ _ h => h) (Or.inl ⟨by rfl, ?_⟩) (by assumption) ?_
            rotate_left
            focus (intro w' hSw; (try dsimp only at hSw); go_simp; try (with_reducible rfl))
            try simp only [Act.put, List.setIfInBounds_toArray, List.set_cons_zero, List.set_cons_succ]
            refine wpAnyH_ready (rs := [15]) (by kernel_rfl) (by simp) ?_
            refine (cons_at (i := 15) (.succ (.succ (.succ (.succ (.succ (.succ (.succ (.succ (.succ (.succ (.succ (.succ (.succ (.succ (.succ .zero))))))))))))))) (fun K hK => ?_) AllReadyH.nil)
            go_simp
            refine hK.out _ _ ?_ ?_
            focus exact kp _ (by (repeat (first | (with_reducible exact Below.refl _ _) | (with_reducible assumption) | (with_reducible apply below_drewN) | (with_reducible apply Below.drew) | ((with_reducible refine Below.setCell ?_ ?_ _); rotate_left; focus (first | (simp; done) | (simp; omega) | omega)) | ((with_reducible refine Below.alloc ?_ ?_ _); rotate_left; focus (first | (simp; done) | (simp; omega) | omega)))))
            clear hK K hHeld
            intro hHeld
            try simp only [Act.put, List.setIfInBounds_toArray, List.set_cons_zero, List.set_cons_succ]
            refine wpAnyH_ready (rs := [16]) (by kernel_rfl) (by simp) ?_
            refine (cons_at (i := 16) (.succ (.succ (.succ (.succ (.succ (.succ (.succ (.succ (.succ (.succ (.succ (.succ (.succ (.succ (.succ (.succ .zero)))))))))))))))) (fun K hK => ?_) AllReadyH.nil)
            refine step_text rfl (.tmp 37) (.tmp 52) rfl Wq.heap.size m u5 (strs ((l.map textTm).take m)) (t.p ++ (⟨#[32]⟩ : ByteArray) ++ wd ++ (⟨#[32]⟩ : ByteArray) ++ tx) w2.heap.size (by simp [Act.eval]) (by simp [Act.eval]) (by simp [go_sem]) ((owns_below HO7.out hB2).alloc _) (by omega) (by have h1 := HA7.out.size; have h2 := hB2.size; simp; omega) ?_
            intro v' w3 hown4 hgrow hnv hat
            have hB3 : Below Wq.heap.size Wq w3 := Below.grown ((HA7.out.trans (hB2.mono HA7.out.size)).alloc (by have h1 := HA7.out.size; have h2 := hB2.size; omega) _) hgrow (by have h1 := HA7.out.size; have h2 := hB2.size; simp; omega) (owns_block HOI.out)
            have hkg := keepG HUB.out (show b7 < (w2.alloc _).heap.size by have h2 := hB2.size; simp; omega) hHeld.1 hHeld.2.1 hHeld.2.2.1 hHeld.2.2.2.1 hHeld.2.2.2.2 hgrow
            have hown5 : w3.ownsRow Wq.heap.size 9 1 v' (m + 1) (strs ((l.map textTm).take (m + 1))) := by rw [HTK2.out, strs_snoc]; exact hown4
            have HO9 : Hid (World.ownsRow _ _ _ _ _ _ _) := hown5
            have HN9 : Hid (¬ _) := hnv
            clear hgrow hat hown4 hown5 hnv
            refine hK.out _ _ ?_ ?_
            focus exact hkg
            clear hK K hHeld
            intro hHeld
            try simp only [Act.put, List.setIfInBounds_toArray, List.set_cons_zero, List.set_cons_succ]
            refine take_at (i := 17) (v := ?_) (.succ (.succ (.succ (.succ (.succ (.succ (.succ (.succ (.succ (.succ (.succ (.succ (.succ (.succ (.succ (.succ (.succ .zero))))))))))))))))) (by kernel_rfl) (by kernel_rfl) (by kernel_rfl) (fun _ _ _ h => h) (Or.inl ⟨by rfl, ?_⟩) (by assumption) ?_
            rotate_left
            focus (intro w' hSw; (try dsimp only at hSw); go_simp; try (with_reducible rfl))
            try simp only [Act.put, List.setIfInBounds_toArray, List.set_cons_zero, List.set_cons_succ]
            refine wpAnyH_done (by kernel_rfl) ?_ _
            go_wp2_with fail
            go_roundw
            case rel => exact ⟨m + 1, by omega, by go_num, HO9.out, HN9.out, hB3⟩
            case measure => simp [intOf]; omega
          · go_simp
            refine (txt_at 5 t.c _ HTC.out).mono ?_
            rintro e w2 ⟨rfl, hb⟩
            rw [← HTX.out]
            have hB2 : Below W7.heap.size W7 w2 := (show Below W7.heap.size W7 _ by (repeat (first | (with_reducible exact Below.refl _ _) | (with_reducible assumption) | (with_reducible apply below_drewN) | (with_reducible apply Below.drew) | ((with_reducible refine Below.setCell ?_ ?_ _); rotate_left; focus (first | (simp; done) | (simp; omega) | omega)) | ((with_reducible refine Below.alloc ?_ ?_ _); rotate_left; focus (first | (simp; done) | (simp; omega) | omega))))).trans (hb.mono (by first | (simp; done) | (simp; omega) | omega))
            have hs2 := hB2.size
            have f2 := (hb.cell (p := ⟨gw, k, none⟩) hgw).trans f1
            have hgw2 := Nat.lt_of_lt_of_le hgw hb.size
            clear hb
            try go_wp2_with fail
            refine hK.out _ _ ?_ ?_
            focus exact kp _ (by (repeat (first | (with_reducible exact Below.refl _ _) | (with_reducible assumption) | (with_reducible apply below_drewN) | (with_reducible apply Below.drew) | ((with_reducible refine Below.setCell ?_ ?_ _); rotate_left; focus (first | (simp; done) | (simp; omega) | omega)) | ((with_reducible refine Below.alloc ?_ ?_ _); rotate_left; focus (first | (simp; done) | (simp; omega) | omega)))))
            clear hK K hHeld
            intro hHeld
            try simp only [Act.put, List.setIfInBounds_toArray, List.set_cons_zero, List.set_cons_succ]
            refine wpAnyH_ready (rs := [8]) (by kernel_rfl) (by simp) ?_
            refine (cons_at (i := 8) (.succ (.succ (.succ (.succ (.succ (.succ (.succ (.succ .zero)))))))) (fun K hK => ?_) AllReadyH.nil)
            go_simp
            refine hK.out _ _ ?_ ?_
            focus exact kp _ (by (repeat (first | (with_reducible exact Below.refl _ _) | (with_reducible assumption) | (with_reducible apply below_drewN) | (with_reducible apply Below.drew) | ((with_reducible refine Below.setCell ?_ ?_ _); rotate_left; focus (first | (simp; done) | (simp; omega) | omega)) | ((with_reducible refine Below.alloc ?_ ?_ _); rotate_left; focus (first | (simp; done) | (simp; omega) | omega)))))
            clear hK K hHeld
            intro hHeld
            try simp only [Act.put, List.setIfInBounds_toArray, List.set_cons_zero, List.set_cons_succ]
            refine take_at (i := 9) (v := ?_) (.succ (.succ (.succ (.succ (.succ (.succ (.succ (.succ (.succ .zero))))))))) (by kernel_rfl) (by kernel_rfl) (by kernel_rfl) (fun _ _ _ h => h) (Or.inl ⟨by rfl, ?_⟩) (by assumption) ?_
            rotate_left
            focus (intro w' hSw; (try dsimp only at hSw); go_simp; try (with_reducible rfl))
            try simp only [Act.put, List.setIfInBounds_toArray, List.set_cons_zero, List.set_cons_succ]
            refine take_at (i := 10) (v := ?_) (.succ (.succ (.succ (.succ (.succ (.succ (.succ (.succ (.succ (.succ .zero)))))))))) (by kernel_rfl) (by kernel_rfl) (by kernel_rfl) (fun _ _ _ h => h) (Or.inl ⟨by rfl, ?_⟩) (by assumption) ?_
            rotate_left
            focus (intro w' hSw; (try dsimp only at hSw); go_simp; try (with_reducible rfl))
            try simp only [Act.put, List.setIfInBounds_toArray, List.set_cons_zero, List.set_cons_succ]
            refine take_at (i := 14) (v := ?_) (.succ (.succ (.succ (.succ (.succ (.succ (.succ (.succ (.succ (.succ (.succ (.succ (.succ (.succ .zero)))))))))))))) (by kernel_rfl) (by kernel_rfl) (by kernel_rfl) (fun _ _ _ h => h) (Or.inl ⟨by rfl, ?_⟩) (by assumption) ?_
            rotate_left
            focus (intro w' hSw; (try dsimp only at hSw); go_simp; try (with_reducible rfl))
            try simp only [Act.put, List.setIfInBounds_toArray, List.set_cons_zero, List.set_cons_succ]
            refine wpAnyH_ready (rs := [15]) (by kernel_rfl) (by simp) ?_
            refine (cons_at (i := 15) (.succ (.succ (.succ (.succ (.succ (.succ (.succ (.succ (.succ (.succ (.succ (.succ (.succ (.succ (.succ .zero))))))))))))))) (fun K hK => ?_) AllReadyH.nil)
            go_simp
            refine hK.out _ _ ?_ ?_
            focus exact kp _ (by (repeat (first | (with_reducible exact Below.refl _ _) | (with_reducible assumption) | (with_reducible apply below_drewN) | (with_reducible apply Below.drew) | ((with_reducible refine Below.setCell ?_ ?_ _); rotate_left; focus (first | (simp; done) | (simp; omega) | omega)) | ((with_reducible refine Below.alloc ?_ ?_ _); rotate_left; focus (first | (simp; done) | (simp; omega) | omega)))))
            clear hK K hHeld
            intro hHeld
            try simp only [Act.put, List.setIfInBounds_toArray, List.set_cons_zero, List.set_cons_succ]
            refine wpAnyH_ready (rs := [16]) (by kernel_rfl) (by simp) ?_
            refine (cons_at (i := 16) (.succ (.succ (.succ (.succ (.succ (.succ (.succ (.succ (.succ (.succ (.succ (.succ (.succ (.succ (.succ (.succ .zero)))))))))))))))) (fun K hK => ?_) AllReadyH.nil)
            refine step_text rfl (.tmp 37) (.tmp 52) rfl Wq.heap.size m u5 (strs ((l.map textTm).take m)) (t.p ++ (⟨#[32]⟩ : ByteArray) ++ wd ++ (⟨#[32]⟩ : ByteArray) ++ tx) w2.heap.size (by simp [Act.eval]) (by simp [Act.eval]) (by simp [go_sem]) ((owns_below HO7.out hB2).alloc _) (by omega) (by have h1 := HA7.out.size; have h2 := hB2.size; simp; omega) ?_
            intro v' w3 hown4 hgrow hnv hat
            have hB3 : Below Wq.heap.size Wq w3 := Below.grown ((HA7.out.trans (hB2.mono HA7.out.size)).alloc (by have h1 := HA7.out.size; have h2 := hB2.size; omega) _) hgrow (by have h1 := HA7.out.size; have h2 := hB2.size; simp; omega) (owns_block HOI.out)
            have hkg := keepG HUB.out (show b7 < (w2.alloc _).heap.size by have h2 := hB2.size; simp; omega) hHeld.1 hHeld.2.1 hHeld.2.2.1 hHeld.2.2.2.1 hHeld.2.2.2.2 hgrow
            have hown5 : w3.ownsRow Wq.heap.size 9 1 v' (m + 1) (strs ((l.map textTm).take (m + 1))) := by rw [HTK2.out, strs_snoc]; exact hown4
            have HO9 : Hid (World.ownsRow _ _ _ _ _ _ _) := hown5
            have HN9 : Hid (¬ _) := hnv
            clear hgrow hat hown4 hown5 hnv
            refine hK.out _ _ ?_ ?_
            focus exact hkg
            clear hK K hHeld
            intro hHeld
            try simp only [Act.put, List.setIfInBounds_toArray, List.set_cons_zero, List.set_cons_succ]
            refine take_at (i := 17) (v := ?_) (.succ (.succ (.succ (.succ (.succ (.succ (.succ (.succ (.succ (.succ (.succ (.succ (.succ (.succ (.succ (.succ (.succ .zero))))))))))))))))) (by kernel_rfl) (by kernel_rfl) (by kernel_rfl) (fun _ _ _ h => h) (Or.inl ⟨by rfl, ?_⟩) (by assumption) ?_
            rotate_left
            focus (intro w' hSw; (try dsimp only at hSw); go_simp; try (with_reducible rfl))
            try simp only [Act.put, List.setIfInBounds_toArray, List.set_cons_zero, List.set_cons_succ]
            refine wpAnyH_done (by kernel_rfl) ?_ _
            go_wp2_with fail
            go_roundw
            case rel => exact ⟨m + 1, by omega, by go_num, HO9.out, HN9.out, hB3⟩
            case measure => simp [intOf]; omega
        · obtain rfl : m = (l.map textTm).length := by rw [List.length_map]; omega
          have HOI2 := HOI.out
          rw [List.take_length] at HOI2
          obtain ⟨g3, cap3, hv⟩ := owns_shape HOI2 HNI.out
          subst hv
          have HRS : Hid (ReadS _ _ _ _) := readS_own HOI2
          have hml : (l.map textTm).length = l.length := List.length_map _
          have hmn : ¬ (((l.map textTm).length : Nat) : Int) < (l.length : Int) := by omega
          have HJM : Hid (∀ k, (joinB (⟨#[32, 97, 110, 100, 32]⟩ : ByteArray) ((l.map textTm).take k)).size ≤ 1000000000) := fun k => Nat.le_trans (textCl_len l HCL.out k) (by omega)
          have HSM : Hid (∀ s ∈ l.map textTm, s.size ≤ 1000000000) := fun s hs => by
            obtain ⟨t, ht, rfl⟩ := List.mem_map.mp hs
            exact Nat.le_trans (textTm_len t (HOK.out t ht)) (by omega)
          have hM4 : (l.map textTm).length ≤ 1000 := by omega
          have HEQ : Hid (joinB (⟨#[32, 97, 110, 100, 32]⟩ : ByteArray) (l.map textTm) = textCl l) := rfl
          obtain ⟨M, hM⟩ : ∃ M, M = l.map textTm := ⟨_, rfl⟩
          rw [← hM] at hmn hM4 HRS HJM HSM HEQ ⊢
          clear hM hml HOI HNI HOI2
          go_wp2_with fail
          refine (joinB_any g3 cap3 _ M _ HRS.out (by decide) hM4 HJM.out HSM.out).mono ?_
          rintro e w2 ⟨rfl, hb⟩
          rw [HEQ.out]
          have hB2 : Below Wq.heap.size Wq w2 := HBI.out.trans (hb.mono hzr)
          have O3 := owns_below HOW.out hB2
          have hz3 := hB2.size
          have hBW : Below (w.heap.size + 1) W0 w2 := HBL.out.trans (hB2.mono hzs)
          clear hb
          go_wp2_with (at_builtin; refine wpList_append_own_at _ rfl (.tmp 54) (.tmp 57) 152 rfl (w.heap.size + 1) 9 i0 (.string ByteArray.empty) 1 16 Tryz.underlying152 hi0 hz0 hz1 hz2 rfl (by decide) _ _ _ rfl (O3.alloc _) ⟨w2.heap.size, 0, none⟩ 1 1 [.string (textCl l)] rfl rfl (cell_one_new _ _ _) (by intro u hu; simp at hu; subst hu; rfl) (by unfold maxLen; omega) (by omega) (by simp; omega) ?_)
          intro v' w3 hown4 hgrow hnv hat
          have hb4 : Below (w.heap.size + 1) W0 w3 := Below.grown (hBW.alloc (by omega) _) hgrow (by simp; omega) (owns_block O3)
          have hown5 : w3.ownsRow (w.heap.size + 1) 9 1 v' (q + 1) (strs ((f.map textCl).take (q + 1))) := by rw [HTK.out, strs_snoc]; exact hown4
          have HO4 : Hid (World.ownsRow _ _ _ _ _ _ _) := hown5
          have HNV : Hid (¬ v' = .slice none 0 0) := fun e => hnv e
          clear hgrow hat hown4 hown5 O3 hnv
          go_wp2_with fail
          go_roundw
          case rel => exact ⟨q + 1, by omega, by go_num, HO4.out, HNV.out, hb4⟩
          case measure => simp [intOf]; omega
    · obtain rfl : q = (f.map textCl).length := by rw [List.length_map]; omega
      have HOI2 := HOW.out
      rw [List.take_length] at HOI2
      obtain ⟨g3, cap3, hv⟩ := owns_shape HOI2 HN.out
      subst hv
      have HRS : Hid (ReadS _ _ _ _) := readS_own HOI2
      have hml : (f.map textCl).length = f.length := List.length_map _
      have hmn : ¬ (((f.map textCl).length : Nat) : Int) < (f.length : Int) := by omega
      have HJM : Hid (∀ k, (joinB (⟨#[32, 111, 114, 32]⟩ : ByteArray) ((f.map textCl).take k)).size ≤ 1000000000) := fun k => Nat.le_trans (HJ.out k) (by omega)
      have HSM : Hid (∀ s ∈ f.map textCl, s.size ≤ 1000000000) := fun s hs => by
        obtain ⟨l, hl, rfl⟩ := List.mem_map.mp hs
        exact Nat.le_trans (textCl_size l (HF.out l hl)) (by omega)
      have hM4 : (f.map textCl).length ≤ 1000 := by omega
      have HEQ : Hid (joinB (⟨#[32, 111, 114, 32]⟩ : ByteArray) (f.map textCl) = textFi f) := rfl
      obtain ⟨M, hM⟩ : ∃ M, M = f.map textCl := ⟨_, rfl⟩
      rw [← hM] at hmn hM4 HRS HJM HSM HEQ ⊢
      clear hM hml HOW HN HOI2
      have hBw : Below w.heap.size w wr := hb0.trans (hbel.mono (by omega))
      go_wp2_with fail
      refine (joinB_any g3 cap3 _ M _ HRS.out (by decide) hM4 HJM.out HSM.out).mono ?_
      rintro e w2 ⟨rfl, hb⟩
      rw [HEQ.out]
      have hb2 := hBw.trans (hb.mono hBw.size)
      clear hb
      go_wp2_with fail
      go_ret
      exact ⟨rfl, hb2⟩

/-- What the text of a filter is, with its code. -/
def ftP (f : List (List Trm)) : ByteArray × Int := if filtB f = true then (textFi f, 0) else (em, 1)
set_option maxRecDepth 4000 in
set_option maxHeartbeats 1000000 in
theorem specFT_any (g cap : Nat) (f : List (List Trm)) (w : World) (hr : ReadC w g f) (hl : f.length ≤ 1048576) (hs : ∀ l ∈ f, szC l) :
    Calls Tryz.prog 22 #[.agg #[.slice (some ⟨g, 0, none⟩) f.length cap]] w fun e w' => e = .returned (.tuple #[.string (ftP f).1, .int .i64 (ftP f).2]) ∧ Below w.heap.size w w' := by
  have hb0 : Below w.heap.size w (w.alloc (.cells #[.slice (some ⟨g, 0, none⟩) f.length cap] 53)) := (Below.refl _ _).alloc (Nat.le_refl _) _
  have c0 : (w.alloc (.cells #[.slice (some ⟨g, 0, none⟩) f.length cap] 53)).cell? ⟨w.heap.size, 0, none⟩ = some (.slice (some ⟨g, 0, none⟩) f.length cap) := by simp [go_sem]
  have hl0 : w.heap.size < (w.alloc (.cells #[.slice (some ⟨g, 0, none⟩) f.length cap] 53)).heap.size := by simp
  have HR : Hid (ReadC _ _ _) := hr.next hb0
  have HC : Hid (Calls _ _ _ _ _) := specFilt_any (some ⟨g, 0, none⟩) cap f (w.alloc (.cells #[.slice (some ⟨g, 0, none⟩) f.length cap] 53)) (.inr ⟨g, rfl, hr.next hb0⟩) hl hs
  have HT : Hid (filtB f = true → ∀ W : World, ReadC W g f → Calls Tryz.prog 68 #[.agg #[.slice (some ⟨g, 0, none⟩) f.length cap]] W fun e w' => e = .returned (.string (textFi f)) ∧ Below W.heap.size W w') := fun h W hW => l03Text_any g cap f W hW h
  obtain ⟨P, hP⟩ : ∃ P, P = filtB f := ⟨_, rfl⟩
  unfold ftP
  rw [← hP] at HC HT ⊢
  clear hr hs hP
  go_enter Tryz.func22, Tryz.ntmps22
  go_wp2_with fail
  generalize w.alloc (.cells #[.slice (some ⟨g, 0, none⟩) f.length cap] 53) = W0 at hb0 c0 hl0 HR HC ⊢
  refine HC.out.mono ?_
  rintro e w1 ⟨rfl, hb⟩
  have c1 := (hb.cell (p := ⟨w.heap.size, 0, none⟩) hl0).trans c0
  have hb1 := hb0.trans (hb.mono hb0.size)
  have HR1 : Hid (ReadC _ _ _) := HR.out.next hb
  have hl1 : w.heap.size < w1.heap.size := Nat.lt_of_lt_of_le hl0 hb.size
  clear hb HC HR
  cases P
  · go_wp2_with fail
    go_ret2
    exact ⟨rfl, hb1⟩
  · go_wp2_with fail
    refine (HT.out (by first | trivial | rfl) _ HR1.out).mono ?_
    rintro e w2 ⟨rfl, hb⟩
    have hb2 := hb1.trans (hb.mono hb1.size)
    clear hb
    go_wp2_with fail
    go_ret2
    exact ⟨rfl, hb2⟩

end Go.Proofs.YtkeghknceccdmaaGreatDoor
