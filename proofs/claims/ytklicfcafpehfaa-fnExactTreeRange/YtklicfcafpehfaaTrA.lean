/- Rows of numbers: what the laws' helpers on them answer. -/
import Derived.Test.YtklicfcafpehfaaTrR
import Derived.Test.YtklicfcafpehfaaTrG
namespace Go.Proofs.Ytklicfcafpehfaa.Tr
open Go.RowKit
set_option linter.unusedVariables false

/-- A row of numbers at a block's head, a nil one too. -/
def InN (w : World) (a : Option Addr) (l : List Int) : Prop := l.length = 0 ∨ ∃ g, a = some ⟨g, 0, none⟩ ∧ g < w.heap.size ∧ ∀ i (h : i < l.length), w.cell? ⟨g, i, none⟩ = some (.int .i64 l[i])
theorem InN.step {w w' : World} {a : Option Addr} {l : List Int} (h : InN w a l) (hb : Below w.heap.size w w') : InN w' a l := by
  rcases h with h | ⟨g, ha, hlt, hc⟩
  · exact .inl h
  · exact .inr ⟨g, ha, Nat.lt_of_lt_of_le hlt hb.size, fun i hi => (hb.cell hlt).trans (hc i hi)⟩
theorem intsV_get (l : List Int) (i : Nat) (h : i < l.length) : (intsV l)[i]? = some (.int .i64 l[i]) := by unfold intsV; simp [List.getElem?_eq_getElem h]
theorem intsV_set (l : List Int) (i : Nat) (z : Int) : (intsV l).set i (.int .i64 z) = intsV (l.set i z) := by unfold intsV; rw [List.map_set]
theorem OwnI.form {w : World} {base : Nat} {v : Value} {l : List Int} (h : OwnI w base v l) : (v = .slice none 0 0 ∧ l = []) ∨ ∃ g cap, v = .slice (some ⟨g, 0, none⟩) l.length cap ∧ base ≤ g ∧ g < w.heap.size := by
  have hlt := World.ownsRow.lt h
  obtain ⟨h1, h2⟩ := h
  rcases h2 with ⟨h2, h3⟩ | ⟨g, cap, cur, hv, hg, hh, r⟩
  · exact .inl ⟨h2, List.length_eq_zero_iff.1 h3⟩
  · exact .inr ⟨g, cap, hv, hg, (hlt g (by rw [hv]; rfl)).2⟩
theorem OwnI.inN {w : World} {base : Nat} {v : Value} {l : List Int} (h : OwnI w base v l) : ∃ p cap, v = .slice p l.length cap ∧ InN w p l := by
  rcases h.form with ⟨rfl, rfl⟩ | ⟨g, cap, rfl, _, hg⟩
  · exact ⟨none, 0, rfl, .inl rfl⟩
  · exact ⟨_, cap, rfl, .inr ⟨g, rfl, hg, fun i hi => owns_cell h i _ (intsV_get l i hi)⟩⟩

set_option maxRecDepth 4000 in
set_option maxHeartbeats 1000000 in
theorem eqIntS_same (p1 p2 : Option Addr) (c1 c2 : Nat) (l : List Int) (w : World) (h1 : InN w p1 l) (h2 : InN w p2 l) (hlen : l.length ≤ 1048576) :
    Calls Try.prog 63 #[.slice p1 l.length c1, .slice p2 l.length c2] w fun e w' => e = .returned (.bool true) ∧ Below w.heap.size w w' := by
  have H1 : Hid (InN _ _ _) := h1
  have H2 : Hid (InN _ _ _) := h2
  clear h1 h2
  go_enter Try.func63, Try.ntmps63
  go_wp2_with fail
  go_loopw [5] (fun i wr => ∃ k : Nat, k ≤ l.length ∧ i = .int .i64 k ∧ Below w.heap.size w wr) (fun i _ => l.length - (intOf i).toNat)
  case atStart => exact ⟨0, Nat.zero_le _, rfl, Below.refl _ _⟩
  case round =>
    obtain ⟨k, hk, rfl, hbel⟩ := hrel
    by_cases hlt : k < l.length
    · rcases H1.out.step hbel with h0 | ⟨g1, rfl, l1, x1⟩
      · omega
      rcases H2.out.step hbel with h0 | ⟨g2, rfl, l2, x2⟩
      · omega
      have hk1 : (k : Int) < (l.length : Int) := by omega
      have q0 : ∀ u : Under wr, u.x.cell? ⟨g1, k, none⟩ = some (.int .i64 l[k]) := fun u => (u.h.cell l1).trans (x1 k hlt)
      have r0 : ∀ u : Under wr, u.x.cell? ⟨g2, k, none⟩ = some (.int .i64 l[k]) := fun u => (u.h.cell l2).trans (x2 k hlt)
      have hnu : Nonempty (Under wr) := ⟨⟨wr, Below.refl _ _⟩⟩
      clear x1 x2
      go_wp2_with fail
      refine wp_region_under (by kernel_rfl) (by kernel_rfl) ?_
      repeat (go_big_quiet_step (fail))
      refine wpQuiet_nil ?_
      rintro _ ⟨u, rfl⟩
      go_wp2_with fail
      go_roundw
      case rel => exact ⟨k + 1, by omega, by go_num, hbel.trans (u.h.mono hbel.size)⟩
      case measure => simp [intOf]; omega
    · have hlt2 : ¬ (k : Int) < (l.length : Int) := by omega
      go_wp2_with fail
      go_ret
      exact ⟨rfl, hbel⟩

def marksN (q n : Nat) : List Int := (List.range n).map fun i : Nat => (q : Int) + (i : Int)
theorem marksN_len (q n : Nat) : (marksN q n).length = n := by unfold marksN; simp
def markMixN (q : Nat) (l : List Int) (k : Nat) : List Int := marksN q k ++ l.drop k
theorem markMixN_len (q : Nat) (l : List Int) (k : Nat) (h : k ≤ l.length) : (markMixN q l k).length = l.length := by unfold markMixN; rw [List.length_append, marksN_len, List.length_drop]; omega
theorem markMixN_zero (q : Nat) (l : List Int) : markMixN q l 0 = l := by unfold markMixN marksN; simp
theorem markMixN_full (q : Nat) (l : List Int) : markMixN q l l.length = marksN q l.length := by unfold markMixN; simp
theorem markMixN_set (q : Nat) (l : List Int) (k : Nat) (h : k < l.length) : (markMixN q l k).set k ((q : Int) + (k : Int)) = markMixN q l (k + 1) := by
  unfold markMixN
  rw [List.set_append_right _ _ (by rw [marksN_len]; omega), marksN_len, Nat.sub_self]
  have e : marksN q (k + 1) = marksN q k ++ [(q : Int) + (k : Int)] := by unfold marksN; rw [List.range_succ, List.map_append]; rfl
  rw [e, List.append_assoc]
  congr 1
  rw [List.drop_eq_getElem_cons h]; rfl
set_option maxRecDepth 4000 in
set_option maxHeartbeats 2000000 in
theorem markIntS_any (base : Nat) (v : Value) (l : List Int) (q : Nat) (w : World) (hown : OwnI w base v l) (hq : q ≤ 1048576) (hl : l.length ≤ 1048576) :
    Calls Try.prog 65 #[v, .int .i64 q] w fun e w' => e = .returned (.int .i64 ((q + l.length : Nat) : Int)) ∧ OwnI w' base v (marksN q l.length) ∧ w.grownBy w' v.ownBlock := by
  rcases hown.form with ⟨rfl, rfl⟩ | ⟨g, c, rfl, hgb, hgl⟩
  · have HO0 : Hid (OwnI _ _ _ _) := hown
    clear hown
    go_enter Try.func65, Try.ntmps65
    go_wp2_with fail
    refine wp_loop_rounds 1 ?_
    rw [rounds_succ]
    go_wp2_with fail
    go_ret
    exact ⟨rfl, HO0.out, grown_refl _ _⟩
  · have HO0 : Hid (OwnI _ _ _ _) := hown
    clear hown
    go_enter Try.func65, Try.ntmps65
    go_wp2_with fail
    go_loopw [1, 5] (fun x i wr => ∃ k : Nat, k ≤ l.length ∧ i = .int .i64 k ∧ x = .int .i64 ((q + k : Nat) : Int) ∧ wr.ownsRow base 3 1 (.slice (some ⟨g, 0, none⟩) l.length c) l.length (intsV (markMixN q l k)) ∧ w.grownBy wr (some g)) (fun _ i _ => l.length - (intOf i).toNat)
    case atStart => exact ⟨0, Nat.zero_le _, rfl, rfl, by rw [markMixN_zero]; exact HO0.out, grown_refl _ _⟩
    case round =>
      obtain ⟨k, hk, rfl, rfl, hown, hgr⟩ := hrel
      have HB : Hid (World.grownBy _ _ _) := hgr
      clear hgr HO0
      by_cases hlt : k < l.length
      · have hlt2 : (k : Int) < (l.length : Int) := by omega
        obtain ⟨z0, y0⟩ := own_there hown k (by omega)
        have f0 := World.ownsRow.frozenAt hown k
        have hst := (World.ownsRow.stored hown k (.int .i64 ((q : Int) + (k : Int)))).1
        rw [intsV_set, markMixN_set q l k hlt] at hst
        have HS : Hid (World.ownsRow _ _ _ _ _ _ _) := hst
        have hglr : g < wr.heap.size := (hown.lt g rfl).2
        clear hst hown
        go_wp2_with fail
        go_roundw
        case rel => exact ⟨k + 1, by omega, by go_num, by go_num, HS.out, grown_trans HB.out grown_set⟩
        case measure => simp [intOf]; omega
      · obtain rfl : k = l.length := by omega
        rw [markMixN_full] at hown
        have HO : Hid (World.ownsRow _ _ _ _ _ _ _) := hown
        clear hown
        go_wp2_with fail
        go_ret
        exact ⟨rfl, by unfold OwnI; rw [marksN_len]; exact HO.out, HB.out⟩
set_option maxRecDepth 4000 in
set_option maxHeartbeats 2000000 in
theorem heldIntS_any (a : Option Addr) (c n : Nat) (q : Nat) (w : World) (hr : InN w a (marksN q n)) (hq : q ≤ 1048576) (hl : n ≤ 1048576) :
    Calls Try.prog 67 #[.slice a n c, .int .i64 q] w fun e w' => e = .returned (.int .i64 ((q + n : Nat) : Int)) ∧ Below w.heap.size w w' := by
  have HR : Hid (InN _ _ _) := hr
  clear hr
  go_enter Try.func67, Try.ntmps67
  go_wp2_with fail
  go_loopw [1, 5] (fun x i wr => ∃ k : Nat, k ≤ n ∧ i = .int .i64 k ∧ x = .int .i64 ((q + k : Nat) : Int) ∧ Below w.heap.size w wr) (fun _ i _ => n - (intOf i).toNat)
  case atStart => exact ⟨0, Nat.zero_le _, rfl, rfl, Below.refl _ _⟩
  case round =>
    obtain ⟨k, hk, rfl, rfl, hbel⟩ := hrel
    by_cases hlt : k < n
    · rcases HR.out.step hbel with h0 | ⟨g, rfl, l1, x⟩
      · rw [marksN_len] at h0; omega
      have x0 := x k (by rw [marksN_len]; exact hlt)
      rw [show (marksN q n)[k]'(by rw [marksN_len]; exact hlt) = (q : Int) + (k : Int) by simp [marksN]] at x0
      have hk1 : (k : Int) < (n : Int) := by omega
      clear x
      go_wp2_with fail
      go_roundw
      case rel => exact ⟨k + 1, by omega, by go_num, by go_num, hbel⟩
      case measure => simp [intOf]; omega
    · obtain rfl : k = n := by omega
      go_wp2_with fail
      go_ret
      exact ⟨rfl, hbel⟩

end Go.Proofs.Ytklicfcafpehfaa.Tr
