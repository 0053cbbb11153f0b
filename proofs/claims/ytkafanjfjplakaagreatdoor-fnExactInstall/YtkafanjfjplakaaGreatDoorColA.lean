/- Marks on rows of versions and of parts: what the laws' helpers answer, and which memory they change. -/
import Derived.Test.YtkafanjfjplakaaGreatDoorColK
namespace Go.Proofs.YtkafanjfjplakaaGreatDoor.Co
open Go.RowKit Tr
set_option linter.unusedVariables false

theorem markText_at (n : Nat) (z : Int) (hz : z = (n : Int)) (h1 : 1 ≤ n) (h2 : n ≤ 17592186044416) (w : World) :
    Calls Tryz.prog 114 #[.int .i64 z] w fun e w' => e = .returned (.string (Tr.mt n)) ∧ Below w.heap.size w w' := by
  subst hz; exact Tr.markText_any n h1 h2 w
/-- Whether a mark's number makes true. -/
def boolM (n : Int) : Bool := n % 3 == 0
/-- The version that marks a place, from number n on. -/
def markVr (n : Nat) : Ver := ⟨(n : Int), boolM ((n : Int) + 1), ⟨(n : Int) + 1 + 1, (n : Int) + 1 + 1 + 1, Tr.mt (n + 4)⟩⟩
def marksVr : Nat → Nat → List Ver
  | _, 0 => []
  | q, n + 1 => markVr q :: marksVr (q + 5) n
theorem marksVr_len : ∀ (n q : Nat), (marksVr q n).length = n
  | 0, _ => rfl
  | n + 1, q => by rw [marksVr, List.length_cons, marksVr_len n]
theorem marksVr_snoc : ∀ (k q : Nat), marksVr q (k + 1) = marksVr q k ++ [markVr (q + 5 * k)]
  | 0, q => rfl
  | k + 1, q => by
    rw [marksVr, marksVr_snoc k (q + 5), marksVr, List.cons_append, show q + 5 + 5 * k = q + 5 * (k + 1) by omega]
theorem marksVr_get : ∀ (n q i : Nat) (h : i < (marksVr q n).length), (marksVr q n)[i] = markVr (q + 5 * i)
  | 0, q, i, h => by simp [marksVr] at h
  | n + 1, q, 0, h => by simp [marksVr]
  | n + 1, q, i + 1, h => by
    have := marksVr_get n (q + 5) i (by rw [marksVr_len] at *; omega)
    simp only [marksVr, List.getElem_cons_succ]
    rw [this]
    congr 1
    omega
def markMixVr (q : Nat) (l : List Ver) (k : Nat) : List Ver := marksVr q k ++ l.drop k
theorem markMixVr_len (q : Nat) (l : List Ver) (k : Nat) (h : k ≤ l.length) : (markMixVr q l k).length = l.length := by unfold markMixVr; rw [List.length_append, marksVr_len, List.length_drop]; omega
theorem markMixVr_zero (q : Nat) (l : List Ver) : markMixVr q l 0 = l := by unfold markMixVr marksVr; simp
theorem markMixVr_full (q : Nat) (l : List Ver) : markMixVr q l l.length = marksVr q l.length := by unfold markMixVr; simp
theorem markMixVr_set (q : Nat) (l : List Ver) (k : Nat) (h : k < l.length) : (markMixVr q l k).set k (markVr (q + 5 * k)) = markMixVr q l (k + 1) := by
  unfold markMixVr
  rw [List.set_append_right _ _ (by rw [marksVr_len]; omega), marksVr_len, Nat.sub_self, marksVr_snoc, List.append_assoc]
  congr 1
  rw [List.drop_eq_getElem_cons h]; rfl

set_option maxRecDepth 4000 in
set_option maxHeartbeats 2000000 in
theorem markVersionS_any (base : Nat) (v : Value) (l : List Ver) (q : Nat) (w : World) (hown : OwnVr w base v l) (h1 : 1 ≤ q) (h2 : q + 5 * l.length ≤ 17592186044416) (hl : l.length ≤ 1048576) :
    Calls Tryz.prog 113 #[v, .int .i64 q] w fun e w' => e = .returned (.int .i64 ((q + 5 * l.length : Nat) : Int)) ∧ OwnVr w' base v (marksVr q l.length) ∧ w.grownBy w' v.ownBlock := by
  rcases hown.form with ⟨rfl, rfl⟩ | ⟨g, c, rfl, hgb, hgl⟩
  · have HO0 : Hid (OwnVr _ _ _ _) := hown
    clear hown
    go_enter Tryz.func113, Tryz.ntmps113
    go_wp2_with fail
    refine wp_loop_rounds 1 ?_
    rw [rounds_succ]
    go_wp2_with fail
    go_ret
    exact ⟨rfl, HO0.out, grown_refl _ _⟩
  · have HO0 : Hid (OwnVr _ _ _ _) := hown
    clear hown
    go_enter Tryz.func113, Tryz.ntmps113
    go_wp2_with fail
    go_loopw [1, 5] (fun x i wr => ∃ (k E : Nat), k ≤ l.length ∧ i = .int .i64 k ∧ x = .int .i64 (E : Int) ∧ E = q + 5 * k ∧ wr.ownsRow base 96 5 (.slice (some ⟨g, 0, none⟩) l.length c) l.length (flatVr (markMixVr q l k)) ∧ w.grownBy wr (some g)) (fun _ i _ => l.length - (intOf i).toNat)
    case atStart => exact ⟨0, q, Nat.zero_le _, rfl, rfl, by omega, by rw [markMixVr_zero]; exact HO0.out, grown_refl _ _⟩
    case round =>
      obtain ⟨k, E, hk, rfl, rfl, hE, hown, hgr⟩ := hrel
      have HB : Hid (World.grownBy _ _ _) := hgr
      have hz := hgr.size
      clear hgr HO0
      by_cases hlt : k < l.length
      · have hlt2 : (k : Int) < (l.length : Int) := by omega
        have hm := markMixVr_len q l k hk
        have hglr : g < wr.heap.size := (hown.lt g rfl).2
        obtain ⟨z0, y0⟩ := own_there hown (k * 5) (by omega)
        obtain ⟨z1, y1⟩ := own_there hown (k * 5 + 1) (by omega)
        obtain ⟨z2, y2⟩ := own_there hown (k * 5 + 2) (by omega)
        obtain ⟨z3, y3⟩ := own_there hown (k * 5 + 3) (by omega)
        have hf := fun o => World.ownsRow.frozenAt hown o
        have f0 := hf (k * 5); have f1 := hf (k * 5 + 1); have f2 := hf (k * 5 + 2); have f3 := hf (k * 5 + 3)
        obtain ⟨B, hB⟩ : ∃ B : Bool, B = boolM ((E : Int) + 1) := ⟨_, rfl⟩
        have hB' : (((E : Int) + 1) % 3 == 0) = B := by rw [hB]; rfl
        have hT' : Int.tmod ((E : Int) + 1) 3 = ((E : Int) + 1) % 3 := Int.tmod_eq_emod_of_nonneg (by omega)
        have hst4 := (World.ownsRow.stored (World.ownsRow.stored (World.ownsRow.stored (World.ownsRow.stored hown (k * 5) (.int .i64 (E : Int))).1 (k * 5 + 1) (.bool B)).1 (k * 5 + 2) (.int .i64 ((E : Int) + 1 + 1))).1 (k * 5 + 3) (.int .i64 ((E : Int) + 1 + 1 + 1))).1
        have he : (((((flatVr (markMixVr q l k)).set (k * 5) (.int .i64 (E : Int))).set (k * 5 + 1) (.bool B)).set (k * 5 + 2) (.int .i64 ((E : Int) + 1 + 1))).set (k * 5 + 3) (.int .i64 ((E : Int) + 1 + 1 + 1))).set (k * 5 + 4) (.string (Tr.mt (E + 4))) = flatVr (markMixVr q l (k + 1)) := by
          rw [← markMixVr_set q l k hlt, hB, ← hE]; exact flatVr_set (markMixVr q l k) k (markVr E) (by omega)
        have HE : Hid _ := he
        have HS4 : Hid (World.ownsRow _ _ _ _ _ _ _) := hst4
        have HEQ : Hid (E = q + 5 * k) := hE
        have hEb : E ≤ 17592186044411 := by omega
        have hE1 : 1 ≤ E := by omega
        clear hown hst4 he hB hE hf
        go_wp2_with fail
        refine (markText_at (E + 4) _ (by omega) (by omega) (by omega) _).mono ?_
        rintro e w2 ⟨rfl, hb2⟩
        have hown2 := owns_below HS4.out hb2
        obtain ⟨z4, y4⟩ := own_there hown2 (k * 5 + 4) (by omega)
        have f4 := World.ownsRow.frozenAt hown2 (k * 5 + 4)
        have hst := (World.ownsRow.stored hown2 (k * 5 + 4) (.string (Tr.mt (E + 4)))).1
        rw [HE.out] at hst
        have HS : Hid (World.ownsRow _ _ _ _ _ _ _) := hst
        have HB2 : Hid (World.grownBy _ _ _) := grown_trans (grown_trans (grown_trans (grown_trans (grown_trans HB.out grown_set) grown_set) grown_set) grown_set) (grown_below hb2)
        have hz2 := hb2.size
        clear hst hown2 hb2 hm HS4 y0 y1 y2 y3 f0 f1 f2 f3
        go_wp2_with fail
        go_roundw
        case rel => exact ⟨k + 1, E + 5, by omega, by go_num, by go_num, by have := HEQ.out; omega, HS.out, grown_trans HB2.out grown_set⟩
        case measure => simp [intOf]; omega
      · obtain rfl : k = l.length := by omega
        rw [markMixVr_full] at hown
        have HO : Hid (World.ownsRow _ _ _ _ _ _ _) := hown
        clear hown
        subst hE
        go_wp2_with fail
        go_ret
        exact ⟨rfl, by unfold OwnVr; rw [marksVr_len]; exact HO.out, HB.out⟩

end Go.Proofs.YtkafanjfjplakaaGreatDoor.Co
