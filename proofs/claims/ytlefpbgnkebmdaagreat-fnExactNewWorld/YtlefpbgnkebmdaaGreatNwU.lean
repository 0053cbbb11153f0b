/- A new world: what the specification answers of pasts, and in all. -/
import Derived.Test.YtlefpbgnkebmdaaGreatNwT
namespace Go.Proofs.YtlefpbgnkebmdaaGreat.Nw
open Go.RowKit Tr Co Ns
set_option linter.unusedVariables false

theorem addrz (g j : Nat) : (⟨g, 0, none⟩ : Addr).add j = ⟨g, j, none⟩ := by unfold Addr.add; split <;> simp_all
theorem zp_row (n i : Nat) (h : i < (List.replicate n zp0).length) : rowZ ((List.replicate n zp0)[i]) = [.int .i64 0, .int .i64 0, .slice none 0 0, .slice none 0 0, .bool false, .bool false, .slice none 0 0] := by rw [List.getElem_replicate]; rfl
set_option maxRecDepth 4000 in
set_option maxHeartbeats 4000000 in
theorem l13Pasts_zero (p : Option Addr) (c n : Nat) (w : World) (hin : InZ w p (List.replicate n zp0)) (hn : n ≤ 100) :
    Calls Tryz.prog 21 #[.slice p n c] w fun e w' => (∃ p' c' l, e = .returned (.slice p' n c') ∧ l.length = n ∧ (∀ x ∈ l, ZP.zero x) ∧ OwnZ w' w.heap.size (.slice p' n c') l) ∧ Below w.heap.size w w' := by
  have HIN : Hid (InZ _ _ _) := hin
  have O0 : OwnZ (w.alloc (.cells #[] 44)) w.heap.size (.slice (some ⟨w.heap.size, 0, none⟩) 0 0) [] := World.ownsRow_made (size := 7) (e := 44) w #[] 0 (base := w.heap.size) (Nat.le_refl _) (by unfold maxLen; omega) rfl
  have B0 : Below w.heap.size w (w.alloc (.cells #[] 44)) := (Below.refl _ _).alloc (Nat.le_refl _) _
  clear hin
  go_enter Tryz.func21, Tryz.ntmps21
  go_wp2_with fail
  generalize w.alloc (.cells #[] 44) = W0 at O0 B0 ⊢
  go_loopw [3, 4] (fun u i wr => ∃ (k : Nat) (pv : Option Addr) (cv : Nat) (l : List ZP), k ≤ n ∧ i = .int .i64 k ∧ u = .slice pv k cv ∧ l.length = k ∧ (∀ x ∈ l, ZP.zero x) ∧ OwnZ wr w.heap.size (.slice pv k cv) l ∧ Below w.heap.size w wr) (fun _ i _ => n - (intOf i).toNat)
  case atStart => exact ⟨0, _, 0, [], Nat.zero_le _, rfl, rfl, rfl, fun x h => by simp at h, O0, B0⟩
  case round =>
    obtain ⟨k, pv, cv, l, hk, rfl, rfl, hnl, hzl, hO, hbel⟩ := hrel
    have HO : Hid (OwnZ _ _ _ _) := hO
    have HZL : Hid (∀ x ∈ l, ZP.zero x) := hzl
    have HB : Hid (Below _ _ _) := hbel
    have hz := hbel.size
    clear hO O0 B0 hzl
    by_cases hlt : k < n
    · have hlt2 : (k : Int) < (n : Int) := by omega
      rcases HIN.out.step hbel with h0 | ⟨g, rfl, e1, hc⟩
      · rw [List.length_replicate] at h0; omega
      have hc' := hc k (by rw [List.length_replicate]; exact hlt)
      rw [zp_row] at hc'
      have a0 : ∀ W : World, Below wr.heap.size wr W → W.cell? ⟨g, k * 7, none⟩ = some (.int .i64 0) := fun W hW => (hW.cell e1).trans (hc' 0 _ rfl)
      have a1 : ∀ W : World, Below wr.heap.size wr W → W.cell? ⟨g, k * 7 + 1, none⟩ = some (.int .i64 0) := fun W hW => (hW.cell e1).trans (hc' 1 _ rfl)
      have a2 : ∀ W : World, Below wr.heap.size wr W → W.cell? ⟨g, k * 7 + 2, none⟩ = some (.slice none 0 0) := fun W hW => (hW.cell e1).trans (hc' 2 _ rfl)
      have a3 : ∀ W : World, Below wr.heap.size wr W → W.cell? ⟨g, k * 7 + 3, none⟩ = some (.slice none 0 0) := fun W hW => (hW.cell e1).trans (hc' 3 _ rfl)
      have a4 : ∀ W : World, Below wr.heap.size wr W → W.cell? ⟨g, k * 7 + 4, none⟩ = some (.bool false) := fun W hW => (hW.cell e1).trans (hc' 4 _ rfl)
      have a5 : ∀ W : World, Below wr.heap.size wr W → W.cell? ⟨g, k * 7 + 5, none⟩ = some (.bool false) := fun W hW => (hW.cell e1).trans (hc' 5 _ rfl)
      have a6 : ∀ W : World, Below wr.heap.size wr W → W.cell? ⟨g, k * 7 + 6, none⟩ = some (.slice none 0 0) := fun W hW => (hW.cell e1).trans (hc' 6 _ rfl)
      have hbS : Below wr.heap.size wr (wr.alloc (.cells #[] 93)) := (Below.refl _ _).alloc (Nat.le_refl _) _
      have hzS : (wr.alloc (.cells #[] 93)).heap.size = wr.heap.size + 1 := by simp
      have b0 := a0 _ hbS
      have b1 := a1 _ hbS
      have b2 := a2 _ hbS
      have b3 := a3 _ hbS
      have b4 := a4 _ hbS
      have b5 := a5 _ hbS
      have b6 := a6 _ hbS
      have hgS : g < (wr.alloc (.cells #[] 93)).heap.size := by omega
      have OS : Hid (OwnZ (wr.alloc (.cells #[] 93)) _ _ _) := owns_below HO.out hbS
      have BS : Hid (Below w.heap.size w (wr.alloc (.cells #[] 93))) := HB.out.trans (hbS.mono hz)
      have b6' := a6 wr (Below.refl _ _)
      clear hc hc' a0 a1 a2 a3 a4 a5 a6 hbel HO HB hbS
      go_wp2_with fail
      generalize wr.alloc (.cells #[] 93) = S at b0 b1 b2 b3 b4 b5 b6 hgS OS BS hzS ⊢
      refine wp_loop_rounds 1 ?_
      rw [rounds_succ]
      have hOne : OneD (S.alloc (.cells #[.int .i64 0, .int .i64 0, .slice none 0 0, .slice none 0 0, .bool false, .bool false] 41)) S.heap.size none none 0 0 := ⟨by simp, fun j u hj => by rw [← addrz S.heap.size j]; exact six_new S none none 0 0 41 j u hj⟩
      rw [hzS] at hOne
      have HOne : Hid (OneD _ _ _ _ _ _) := hOne
      have OS1 : Hid (OwnZ _ _ _ _) := World.ownsRow.alloc OS.out (.cells #[.int .i64 0, .int .i64 0, .slice none 0 0, .slice none 0 0, .bool false, .bool false] 41)
      have BS1 : Hid (Below w.heap.size w _) := BS.out.alloc BS.out.size (.cells #[.int .i64 0, .int .i64 0, .slice none 0 0, .slice none 0 0, .bool false, .bool false] 41)
      clear hOne OS
      go_wp2_with fail
      refine (l09Own_one (wr.heap.size + 1) 1 _ HOne.out).mono ?_
      rintro e w6 ⟨⟨g', c', pr, pc, cr, cc, rfl, hD⟩, hb6⟩
      have O6 : Hid (OwnZ _ _ _ _) := owns_below OS1.out hb6
      have B6 : Hid (Below w.heap.size w w6) := BS1.out.trans (hb6.mono BS1.out.size)
      obtain ⟨hg', hD'⟩ := hD
      have d0 : w6.cell? ⟨g', 0, none⟩ = some (.int .i64 0) := hD' 0 _ rfl
      have d1 : w6.cell? ⟨g', 1, none⟩ = some (.int .i64 0) := hD' 1 _ rfl
      have d2 : w6.cell? ⟨g', 2, none⟩ = some (.slice pr 0 cr) := hD' 2 _ rfl
      have d3 : w6.cell? ⟨g', 3, none⟩ = some (.slice pc 0 cc) := hD' 3 _ rfl
      have d4 : w6.cell? ⟨g', 4, none⟩ = some (.bool false) := hD' 4 _ rfl
      have d5 : w6.cell? ⟨g', 5, none⟩ = some (.bool false) := hD' 5 _ rfl
      have hz6 := B6.out.size
      have OK6 : Hid (w6.ownsRow w.heap.size 44 7 (.slice pv k cv) k (flatZ l)) := by have h := O6.out; unfold OwnZ at h; rw [hnl] at h; exact h
      clear hD' hb6 HOne OS1 BS1 b0 b1 b2 b3 b4 b5 b6 b6' O6
      go_wp2_with (at_builtin; refine wpList_apqZ rfl (.tmp 49) (.tmp 61) rfl w.heap.size k (.slice pv k cv) (flatZ l) rfl (OK6.out.alloc _) ⟨w6.heap.size, 0, none⟩ 1 1 [.int .i64 0, .int .i64 0, .slice pr 0 cr, .slice pc 0 cc, .bool false, .bool false, .slice (some ⟨wr.heap.size, 0, none⟩) 0 0] rfl rfl (sevenZ_new _ _ _ _ _ _ _ _) (sevenZ_one _ _ _ _ _ _) (by omega) (by omega) (by simp; omega) ?_; intro v7 w7 o7 g7 at7; obtain ⟨gv, cw, hvv, hgv, hgl⟩ := Ns.rowAt o7 (by omega); subst hvv)
      have hO8 : OwnZ w7 w.heap.size (.slice (some ⟨gv, 0, none⟩) (k + 1) cw) (l ++ [⟨0, 0, pr, cr, pc, cc, false, false, some ⟨wr.heap.size, 0, none⟩, 0⟩]) := by
        unfold OwnZ
        rw [flatZ_snoc, List.length_append, hnl]
        exact o7
      have HO8 : Hid (OwnZ _ _ _ _) := hO8
      have HB8 : Hid (Below w.heap.size w w7) := (B6.out.alloc (by omega) (.cells #[.int .i64 0, .int .i64 0, .slice pr 0 cr, .slice pc 0 cc, .bool false, .bool false, .slice (some ⟨wr.heap.size, 0, none⟩) 0 0] 44)).grown g7 (by simp; omega) (fun b hb => by have := (OK6.out.lt b hb).1; omega)
      have HZ8 : Hid (∀ x ∈ l ++ [(⟨0, 0, pr, cr, pc, cc, false, false, some ⟨wr.heap.size, 0, none⟩, 0⟩ : ZP)], ZP.zero x) := fun x hx => by
        rcases List.mem_append.1 hx with h | h
        · exact HZL.out x h
        · simp at h; subst h; exact ⟨rfl, rfl, rfl, rfl⟩
      clear o7 g7 at7 hO8 OK6 B6 HZL
      go_wp2_with fail
      go_roundw
      case rel => exact ⟨k + 1, _, _, _, by omega, by go_num, rfl, by rw [List.length_append, hnl]; rfl, HZ8.out, HO8.out, HB8.out⟩
      case measure => simp [intOf]; omega
    · obtain rfl : k = n := by omega
      clear hbel
      go_wp2_with fail
      go_ret
      exact ⟨⟨_, _, l, rfl, hnl, HZL.out, HO.out⟩, HB.out⟩

end Go.Proofs.YtlefpbgnkebmdaaGreat.Nw
