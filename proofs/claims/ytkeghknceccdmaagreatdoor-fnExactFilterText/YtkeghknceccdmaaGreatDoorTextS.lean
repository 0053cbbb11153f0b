/- What the specification's digits and joined texts are, for every number and list. -/
import Derived.Test.YtkeghknceccdmaaGreatDoorTextM
import Derived.Test.YtkeghknceccdmaaGreatDoorMarks
import Derived.Test.YtkeghknceccdmaaGreatDoorSplitS
import Derived.Deep.RegionWith
namespace Go.Proofs.YtkeghknceccdmaaGreatDoor
open Go.RowKit
set_option linter.unusedVariables false

theorem convC (W : World) (g : Nat) (z : Int) (h : W.cell? ⟨g, 0, none⟩ = some (.int .u8 z)) : (convert 22 9 (.slice (some ⟨g, 0, none⟩) 1 1)).run Tryz.prog W = .ok (.string (txt [z])) W :=
  run_convert_bytes_arg _ 22 5 Tryz.underlying22 Tryz.underlying5 g 0 1 1 [z] rfl (fun i hi => by
    have : i = 0 := by omega
    subst this
    simpa using h) 9 Tryz.underlying9
theorem dig_one (n : Nat) (h : n < 10) : txt [48 + (n : Int)] = mkB [UInt8.ofNat (48 + n)] := by
  have hh : n = 0 ∨ n = 1 ∨ n = 2 ∨ n = 3 ∨ n = 4 ∨ n = 5 ∨ n = 6 ∨ n = 7 ∨ n = 8 ∨ n = 9 := by omega
  rcases hh with rfl | rfl | rfl | rfl | rfl | rfl | rfl | rfl | rfl | rfl <;> rfl
theorem dec_len (n : Nat) (h : n ≤ 10000000000000) : (Lib.decDigits n).length ≤ 21 := by
  have := Lib.itoa_length_le (n : Int) (by omega) (by omega)
  unfold Lib.itoa at this
  rw [if_neg (by omega)] at this
  simpa using this
theorem dec_small (n : Nat) (h : n < 10) : Lib.decDigits n = [UInt8.ofNat (48 + n)] := by rw [Lib.decDigits, dif_pos h]
theorem dec_big (n : Nat) (h : ¬ n < 10) : Lib.decDigits n = Lib.decDigits (n / 10) ++ [UInt8.ofNat (48 + n % 10)] := by rw [Lib.decDigits, dif_neg h]

set_option maxRecDepth 4000 in
set_option maxHeartbeats 1000000 in
theorem digits_nat (n : Nat) : n ≤ 10000000000000 → ∀ w : World, Calls Tryz.prog 209 #[.int .i64 n] w fun e w' => e = .returned (.string (mkB (Lib.decDigits n))) ∧ Below w.heap.size w w' := by
  induction n using Nat.strongRecOn with
  | _ n ih =>
    intro hn w
    have e1 : ((n : Int) == -9223372036854775808) = false := beq_eq_false_iff_ne.mpr (by omega)
    have e2 : ¬ (n : Int) < 0 := by omega
    by_cases h10 : n < 10
    · have e3 : (n : Int) < 10 := by omega
      have hc := conv1 w (48 + (n : Int))
      rw [dec_small n h10, ← dig_one n h10]
      clear ih
      go_enter Tryz.func209, Tryz.ntmps209
      go_wp2_with fail
      go_ret
      exact ⟨rfl, (Below.refl _ _).alloc (Nat.le_refl _) _⟩
    · have e3 : ¬ (n : Int) < 10 := by omega
      have IH := ih (n / 10) (by omega) (by omega)
      have hm : Int.tmod (n : Int) 10 = (n : Int) % 10 := Int.tmod_eq_emod_of_nonneg (by omega)
      have hq : Int.tdiv (n : Int) 10 = (n : Int) / 10 := Int.tdiv_eq_ediv_of_nonneg (by omega)
      have hl := dec_len (n / 10) (by omega)
      have hsz : (mkB (Lib.decDigits (n / 10))).size ≤ 21 := by rw [mkB_size]; exact hl
      have hsz2 : (txt [48 + (n : Int) % 10]).size = 1 := txt_size _
      have hR : mkB (Lib.decDigits n) = mkB (Lib.decDigits (n / 10)) ++ txt [48 + (n : Int) % 10] := by
        rw [dec_big n h10, show (48 : Int) + (n : Int) % 10 = 48 + ((n % 10 : Nat) : Int) by omega, dig_one (n % 10) (by omega), mkB_app]
      rw [hR]
      have IH2 : ∀ W : World, Calls Tryz.prog 209 #[.int .i64 ((n : Int) / 10)] W fun e w' => e = .returned (.string (mkB (Lib.decDigits (n / 10)))) ∧ Below W.heap.size W w' := fun W => by
        have := IH W
        rwa [show ((n / 10 : Nat) : Int) = (n : Int) / 10 by omega] at this
      have HIH : Hid _ := IH2
      have hcg : ∀ (W : World) (g : Nat), W.cell? ⟨g, 0, none⟩ = some (.int .u8 (48 + (n : Int) % 10)) → _ := fun W g h => convC W g (48 + (n : Int) % 10) h
      have hw1 : IntKind.i64.wrap ((n : Int) / 10) = (n : Int) / 10 := by rw [IntKind.wrap_i64]; omega
      have hw2 : IntKind.i64.wrap (48 + (n : Int) % 10) = 48 + (n : Int) % 10 := by rw [IntKind.wrap_i64]; omega
      have hw3 : IntKind.u8.wrap (48 + (n : Int) % 10) = 48 + (n : Int) % 10 := by simp only [IntKind.wrap, IntKind.bits, IntKind.signed]; simp; omega
      clear ih IH IH2 hl hR
      go_enter Tryz.func209, Tryz.ntmps209
      go_wp2_with fail
      go_region_with (go_at_call 209; refine (HIH.out _).mono ?_; rintro e w1 ⟨rfl, hb⟩; obtain ⟨hcc, hff⟩ := bcell hb; have hz := hb.size; simp at hz)
      all_goals
        have hbw : Below w.heap.size w w1 := by first | exact (Below.refl _ _).drew.trans (hb.mono (by simp)) | exact ((Below.refl _ _).alloc (Nat.le_refl _) _).drew.trans (hb.mono (by simp))
        have hzz := hbw.size
        go_wp2_with fail
        go_ret
        exact ⟨rfl, by (repeat (first | (with_reducible exact Below.refl _ _) | (with_reducible assumption) | (with_reducible apply below_drewN) | (with_reducible apply Below.drew) | ((with_reducible refine Below.setCell ?_ ?_ _); rotate_left; focus (first | (simp; done) | (simp; omega) | omega)) | ((with_reducible refine Below.alloc ?_ ?_ _); rotate_left; focus (first | (simp; done) | (simp; omega) | omega))))⟩
set_option maxRecDepth 4000 in
set_option maxHeartbeats 1000000 in
theorem digits_int (z : Int) (h0 : -1000000000000 ≤ z) (h1 : z ≤ 1000000000000) (w : World) : Calls Tryz.prog 209 #[.int .i64 z] w fun e w' => e = .returned (.string (mkB (Lib.itoa z))) ∧ Below w.heap.size w w' := by
  by_cases hneg : z < 0
  · have e1 : (z == -9223372036854775808) = false := beq_eq_false_iff_ne.mpr (by omega)
    obtain ⟨m, rfl⟩ : ∃ m : Nat, z = -(m : Int) := ⟨z.natAbs, by omega⟩
    have hl := dec_len m (by omega)
    have hsz : (mkB (Lib.decDigits m)).size ≤ 21 := by rw [mkB_size]; exact hl
    have hR : mkB (Lib.itoa (-(m : Int))) = (⟨#[45]⟩ : ByteArray) ++ mkB (Lib.decDigits m) := by
      unfold Lib.itoa
      rw [if_pos hneg, show (-(m : Int)).natAbs = m by omega]
      exact (mkB_app [45] (Lib.decDigits m)).symm
    rw [hR]
    have HD : Hid _ := digits_nat m (by omega)
    clear hR hl
    go_enter Tryz.func209, Tryz.ntmps209
    go_wp2_with (go_at_call 209; refine (HD.out _).mono ?_; rintro e w1 ⟨rfl, hb⟩)
    go_ret
    exact ⟨rfl, hb⟩
  · obtain ⟨m, rfl⟩ : ∃ m : Nat, z = (m : Int) := ⟨z.toNat, by omega⟩
    have e : Lib.itoa (m : Int) = Lib.decDigits m := by unfold Lib.itoa; rw [if_neg hneg]; simp
    rw [e]
    exact digits_nat m (by omega) w

/-- The bytes of texts. -/
def datas (l : List ByteArray) : List (List UInt8) := l.map (fun s => s.data.toList)
theorem datas_take (l : List ByteArray) (k : Nat) : datas (l.take k) = (datas l).take k := by unfold datas; rw [List.map_take]
set_option maxRecDepth 4000 in
set_option maxHeartbeats 1000000 in
theorem join_any (g cap : Nat) (l : List ByteArray) (w : World) (hr : ReadS w g 0 l) (hl : l.length ≤ 1000) (hj : ∀ k, (joinL (datas (l.take k))).length ≤ 6600) (hs : ∀ s ∈ l, s.size ≤ 7100) :
    Calls Tryz.prog 139 #[.slice (some ⟨g, 0, none⟩) l.length cap, .string ⟨#[44]⟩] w fun e w' => e = .returned (.string (mkB (joinL (datas l)))) ∧ Below w.heap.size w w' := by
  have HR : Hid _ := hr
  have HJ : Hid _ := hj
  have HS : Hid _ := hs
  clear hr hj hs
  go_enter Tryz.func139, Tryz.ntmps139
  go_wp2_with fail
  go_loopw [5, 6] (fun u i wr => ∃ q : Nat, q ≤ l.length ∧ i = .int .i64 q ∧ u = .string (mkB (joinL (datas (l.take q)))) ∧ Below w.heap.size w wr) (fun _ i _ => l.length - (intOf i).toNat)
  case atStart => exact ⟨0, Nat.zero_le _, rfl, rfl, Below.refl _ _⟩
  case round =>
    obtain ⟨q, hq, rfl, rfl, hbel⟩ := hrel
    have hjq := HJ.out q
    have hsz : (mkB (joinL (datas (l.take q)))).size ≤ 6600 := by rw [mkB_size]; exact hjq
    clear hjq
    by_cases hlt : q < l.length
    · have x0 := (HR.out.next hbel).cells q hlt
      rw [Nat.zero_add] at x0
      have hsq := HS.out l[q] (List.getElem_mem _)
      have hmk : mkB l[q].data.toList = l[q] := mkB_of _
      by_cases hq0 : q = 0
      · subst hq0
        have hnq : ¬ (0 : Int) < 0 := by omega
        have hcat : mkB (joinL (datas (l.take (0 + 1)))) = mkB (joinL (datas (l.take 0))) ++ l[0] := by
          unfold datas
          rw [Nat.zero_add, joinL_take0 _ _ hlt, hmk]
          apply ba_ext
          simp [joinL, mkB]
        obtain ⟨A, hA⟩ : ∃ A, A = mkB (joinL (datas (l.take 0))) := ⟨_, rfl⟩
        rw [← hA] at hcat hsz ⊢
        have HC : Hid (_ = _) := hcat
        clear hcat hmk hA
        go_wp2_with fail
        go_roundw
        case rel => exact ⟨0 + 1, by omega, by go_num, by rw [HC.out], hbel⟩
        case measure => simp [intOf]; omega
      · have hq1 : 0 < q := by omega
        have hcat : mkB (joinL (datas (l.take (q + 1)))) = mkB (joinL (datas (l.take q))) ++ (⟨#[44]⟩ : ByteArray) ++ l[q] := by
          unfold datas
          rw [joinL_take _ _ _ hlt hq1]
          conv => rhs; rw [← hmk]
          rw [show (⟨#[44]⟩ : ByteArray) = mkB [44] from rfl, mkB_app, mkB_app, List.append_assoc]
          rfl
        have hsz3 : (mkB (joinL (datas (l.take q))) ++ (⟨#[44]⟩ : ByteArray)).size ≤ 6601 := by
          rw [ByteArray.size_append]; show _ + 1 ≤ _; omega
        have HC : Hid (_ = _) := hcat
        clear hcat hmk hq0
        go_wp2_with fail
        go_roundw
        case rel => exact ⟨q + 1, by omega, by go_num, by rw [HC.out], hbel⟩
        case measure => simp [intOf]; omega
    · have e : l.take q = l := List.take_of_length_le (by omega)
      rw [e]
      go_wp2_with fail
      go_ret
      exact ⟨rfl, hbel⟩

end Go.Proofs.YtkeghknceccdmaaGreatDoor
