/- What the laws' own helpers on bytes answer: alike rows, marks, and that marks are held. -/
import Derived.Test.YtfjahgnennnncagEncV
namespace Go.Proofs.Ytfjahgnennnncag
open Go.RowKit
set_option linter.unusedVariables false

set_option maxHeartbeats 1000000 in
theorem eqByteS_read (g1 c1 g2 c2 : Nat) (zs : List Int) (w : World) (h1 : ReadE w g1 zs) (h2 : ReadE w g2 zs) (hlen : zs.length ≤ 1048576) :
    Calls Try.prog 14 #[.slice (some ⟨g1, 0, none⟩) zs.length c1, .slice (some ⟨g2, 0, none⟩) zs.length c2] w fun e w' => e = .returned (.bool true) ∧ Below w.heap.size w w' := by
  have H1 : Hid (ReadE _ _ _) := h1
  have H2 : Hid (ReadE _ _ _) := h2
  clear h1 h2
  go_enter Try.func14, Try.ntmps14
  go_wp2_with fail
  go_loopw [5] (fun i wr => ∃ k : Nat, k ≤ zs.length ∧ i = .int .i64 k ∧ ∃ q, wr = w.drewN q) (fun i _ => zs.length - (intOf i).toNat)
  case atStart => exact ⟨0, Nat.zero_le _, rfl, 0, rfl⟩
  case round =>
    obtain ⟨k, hk, rfl, q, rfl⟩ := hrel
    by_cases hlt : k < zs.length
    · have x1 := H1.out.2 k hlt
      have x2 := H2.out.2 k hlt
      have hk1 : (k : Int) < (zs.length : Int) := by omega
      go_wp2_with fail
      go_quiet (fail)
      go_wp2_with fail
      go_roundw
      case rel => exact ⟨k + 1, by omega, by go_num, _, rfl⟩
      case measure => simp [intOf]; omega
    · go_wp2_with fail
      go_ret
      exact ⟨rfl, below_drewN (Below.refl _ _) _⟩
set_option maxHeartbeats 1000000 in
theorem eqByteS_nil (a : Option Addr) (c : Nat) (w : World) :
    Calls Try.prog 14 #[.slice none 0 0, .slice a 0 c] w fun e w' => e = .returned (.bool true) ∧ Below w.heap.size w w' := by
  go_enter Try.func14, Try.ntmps14
  go_wp2_with fail
  refine wp_loop_rounds 1 ?_
  rw [rounds_succ]
  go_wp2_with fail
  go_ret
  exact ⟨rfl, Below.refl _ _⟩
set_option maxHeartbeats 1000000 in
theorem markByteS_nil (w : World) : Calls Try.prog 15 #[.slice none 0 0, .int .i64 1] w fun e w' => e = .returned (.int .i64 1) ∧ Below w.heap.size w w' := by
  go_enter Try.func15, Try.ntmps15
  go_wp2_with fail
  refine wp_loop_rounds 1 ?_
  rw [rounds_succ]
  go_wp2_with fail
  go_ret
  exact ⟨rfl, Below.refl _ _⟩
set_option maxHeartbeats 1000000 in
theorem heldByteS_nil (w : World) : Calls Try.prog 16 #[.slice none 0 0, .int .i64 1] w fun e w' => e = .returned (.int .i64 1) ∧ Below w.heap.size w w' := by
  go_enter Try.func16, Try.ntmps16
  go_wp2_with fail
  refine wp_loop_rounds 1 ?_
  rw [rounds_succ]
  go_wp2_with fail
  go_ret
  exact ⟨rfl, Below.refl _ _⟩

def mk1 (i : Nat) : Int := (1 + (i : Int)) % 256
/-- The first k bytes marked, the others as they were. -/
def marked (zs : List Int) (k : Nat) : List Int := (List.range k).map mk1 ++ zs.drop k
theorem marked_len (zs : List Int) (k : Nat) (h : k ≤ zs.length) : (marked zs k).length = zs.length := by unfold marked; simp; omega
theorem marked_set (zs : List Int) (k : Nat) (h : k < zs.length) : (rowE (marked zs k)).set k (.int .u8 (mk1 k)) = rowE (marked zs (k + 1)) := by
  unfold marked
  rw [rowE_append, rowE_append, List.set_append_right _ _ (by simp [rowE]), List.range_succ, List.map_append, rowE_append, List.append_assoc]
  congr 1
  have hl : (rowE ((List.range k).map mk1)).length = k := by simp [rowE]
  rw [hl, Nat.sub_self, List.drop_eq_getElem_cons h]
  rfl
theorem marked_get (zs : List Int) (i : Nat) (h : i < zs.length) : (marked zs zs.length).getD i 0 = mk1 i := by
  unfold marked; simp [List.getD_eq_getElem?_getD, h]

set_option maxRecDepth 4000 in
set_option maxHeartbeats 1000000 in
theorem markByteS_any (g c base : Nat) (zs : List Int) (w : World) (hown : OwnE w base (.slice (some ⟨g, 0, none⟩) zs.length c) zs) (hlen : zs.length ≤ 1048576) :
    Calls Try.prog 15 #[.slice (some ⟨g, 0, none⟩) zs.length c, .int .i64 1] w fun e w' => e = .returned (.int .i64 (1 + zs.length)) ∧ OwnE w' base (.slice (some ⟨g, 0, none⟩) (marked zs zs.length).length c) (marked zs zs.length) ∧ w.grownBy w' (some g) := by
  have HO : Hid (OwnE _ _ _ _) := hown
  clear hown
  go_enter Try.func15, Try.ntmps15
  go_wp2_with fail
  go_loopw [1, 5] (fun m i wr => ∃ k : Nat, k ≤ zs.length ∧ i = .int .i64 k ∧ m = .int .i64 (1 + (k : Int)) ∧ wr.ownsRow base 5 1 (.slice (some ⟨g, 0, none⟩) zs.length c) zs.length (rowE (marked zs k)) ∧ w.grownBy wr (some g)) (fun _ i _ => zs.length - (intOf i).toNat)
  case atStart => exact ⟨0, Nat.zero_le _, rfl, by go_num, by rw [show marked zs 0 = zs by simp [marked]]; exact HO.out, World.grownBy.refl _ _⟩
  case round =>
    obtain ⟨k, hk, rfl, rfl, hown, hgr⟩ := hrel
    by_cases hlt : k < zs.length
    · have c2 : ∃ u, wr.cell? ⟨g, k, none⟩ = some u := by
        have := World.ownsRow.cellAt hown k (by omega)
        rw [this]
        exact ⟨_, List.getElem?_eq_getElem (by have := hown.1; omega)⟩
      obtain ⟨u, c2⟩ := c2
      have f2 := World.ownsRow.frozenAt hown k
      have hst := World.ownsRow.stored hown k (.int .u8 (mk1 k))
      rw [marked_set zs k hlt] at hst
      have HS : Hid _ := hst.1
      have HG : Hid _ := hgr.trans hst.2
      clear hst hown hgr
      go_wp2_with fail
      go_roundw
      case rel => exact ⟨k + 1, by omega, by go_num, by go_num, HS.out, HG.out⟩
      case measure => simp [intOf]; omega
    · obtain rfl : k = zs.length := by omega
      have HS : Hid (World.ownsRow _ _ _ _ _ _ _) := hown
      clear hown
      go_wp2_with fail
      go_ret
      refine ⟨rfl, ?_, hgr⟩
      unfold OwnE
      rw [marked_len zs zs.length (Nat.le_refl _)]
      exact HS.out

set_option maxHeartbeats 1000000 in
theorem heldByteS_any (g c n : Nat) (w : World) (hc : ∀ i, i < n → w.cell? ⟨g, i, none⟩ = some (.int .u8 (mk1 i))) (hlen : n ≤ 1048576) :
    Calls Try.prog 16 #[.slice (some ⟨g, 0, none⟩) n c, .int .i64 1] w fun e w' => e = .returned (.int .i64 (1 + n)) ∧ Below w.heap.size w w' := by
  have HC : Hid _ := hc
  clear hc
  go_enter Try.func16, Try.ntmps16
  go_wp2_with fail
  go_loop [1, 5] (fun m i => ∃ k : Nat, k ≤ n ∧ i = .int .i64 k ∧ m = .int .i64 (1 + (k : Int))) (fun _ i => n - (intOf i).toNat)
  case atStart => exact ⟨0, Nat.zero_le _, rfl, by go_num⟩
  case round =>
    obtain ⟨k, hk, rfl, rfl⟩ := hrel
    by_cases hlt : k < n
    · have x1 := HC.out k hlt
      unfold mk1 at x1
      go_wp2_with fail
      go_round
      case rel => exact ⟨k + 1, by omega, by go_num, by go_num⟩
      case measure => simp [intOf]; omega
    · obtain rfl : k = n := by omega
      go_wp2_with fail
      go_ret
      exact ⟨rfl, Below.refl _ _⟩

end Go.Proofs.Ytfjahgnennnncag
