/- What begins with a text: the program's answer. -/
import Derived.Test.YtkeghknceccdmaaGreatDoorBegM
import Derived.Test.YtkeghknceccdmaaGreatDoorKeyV
import Derived.Test.YtkeghknceccdmaaGreatDoorRowV
namespace Go.Proofs.YtkeghknceccdmaaGreatDoor
open Go.RowKit
set_option linter.unusedVariables false

theorem back_row (W : World) (g cap m : Nat) (t : ByteArray) (hm : m < t.size) (hl : t[m] < 255) (hc : ∀ j (h : j < m), W.cell? ⟨g, j, none⟩ = some (.int .u8 (t[j].toNat : Nat))) (hv : W.cell? ⟨g, m, none⟩ = some (.int .u8 ((t[m].toNat : Int) + 1))) :
    (convert 22 9 (.slice (some ⟨g, 0, none⟩) (m + 1) cap)).run Tryz.prog W = .ok (.string (mkB (t.data.toList.take m ++ [t[m] + 1]))) W := by
  have hlen : (t.data.toList.take m ++ [t[m] + 1]).length = m + 1 := by
    rw [List.length_append, List.length_take, toList_length]; simp only [List.length_cons, List.length_nil]; omega
  have := run_convert_bytes_back (P := Tryz.prog) W 22 9 5 ⟨g, 0, none⟩ cap (t.data.toList.take m ++ [t[m] + 1]) Tryz.underlying22 Tryz.underlying5 Tryz.underlying9 (fun j hj => by
    rw [hlen] at hj
    have ea : (⟨g, 0, none⟩ : Addr).add j = ⟨g, j, none⟩ := by
      by_cases h0 : j = 0
      · subst h0; simp [Addr.add]
      · simp [Addr.add, h0]
    rw [ea]
    by_cases hjm : j < m
    · rw [hc j hjm]
      congr 2
      rw [List.getElem_append_left (by rw [List.length_take, toList_length]; omega), List.getElem_take, get_data t j (by omega)]
    · obtain rfl : j = m := by omega
      rw [hv]
      congr 2
      rw [List.getElem_append_right (by rw [List.length_take, toList_length]; omega), ← succ_byte _ hl]
      simp)
  rw [hlen] at this
  exact this

set_option maxRecDepth 4000 in
set_option maxHeartbeats 2000000 in
theorem beginning_any (t : ByteArray) (w : World) (ht : t.size ≤ 100000) :
    Calls Tryz.prog 61 #[.string t] w fun e w' => e = .returned (.agg #[.string t, .string (mkB (behN t.data.toList t.size).1), .bool (!(behN t.data.toList t.size).2)]) ∧ Below w.heap.size w w' := by
  obtain ⟨P, hP⟩ : ∃ P, P = behN t.data.toList t.size := ⟨_, rfl⟩
  rw [← hP]
  have HP : Hid (_ = _) := hP
  have Y0 := Res3.start w (.string em) (.string em) (.bool false) 24
  have hcv := conv_row (w.alloc (.cells #[.string em, .string em, .bool false] 24)) t
  have hrow := rowOf (w.alloc (.cells #[.string em, .string em, .bool false] 24)) t
  have hcap := grownCap_ge (w.alloc (.cells #[.string em, .string em, .bool false] 24)) t.size 0 5
  obtain ⟨cap, hcp⟩ : ∃ cap, cap = grownCap (w.alloc (.cells #[.string em, .string em, .bool false] 24)) t.size 0 5 := ⟨_, rfl⟩
  obtain ⟨V, hV⟩ : ∃ V, V = Lib.bytesWorld (w.alloc (.cells #[.string em, .string em, .bool false] 24)) 5 t := ⟨_, rfl⟩
  rw [← hcp] at hcv hcap
  rw [← hV] at hcv hrow
  have Y := Y0.step hrow.bel
  have hcells := hrow.cells
  have hfree := hrow.free
  have hsz := hrow.size
  have hlt := Y.lt
  rw [heap_size_alloc] at hcv hcells hfree hsz
  have HC : Hid _ := hcells
  have HF : Hid _ := hfree
  clear hP hcp hV Y0 hrow hcells hfree
  go_enter Tryz.func61, Tryz.ntmps61
  go_wp2_with fail
  go_loopw [4] (fun i wr => ∃ n : Nat, n ≤ t.size ∧ i = .int .i64 ((n : Int) - 1) ∧ P = behN t.data.toList n ∧ wr = V) (fun i _ => (intOf i + 1).toNat)
  case atStart => exact ⟨t.size, Nat.le_refl _, rfl, HP.out, rfl⟩
  case round =>
    obtain ⟨n, hn, rfl, hb, rfl⟩ := hrel
    have c0 := Y.c0
    have c1 := Y.c1
    have c2 := Y.c2
    have z0 := Y.z0
    have z1 := Y.z1
    have z2 := Y.z2
    have hbw := Y.bel
    cases n with
    | zero =>
      obtain rfl : P = ([], false) := hb
      have hneg : ¬ (0 : Int) ≤ ((0 : Nat) : Int) - 1 := by omega
      clear HP HC HF
      go_wp2_with fail
      refine bodyPost_ret (v := .agg #[.string t, .string em, .bool true]) (by simp [results, Tryz.results61, go_sem, *]) rfl ⟨rfl, ?_⟩
      (repeat (first | (with_reducible exact Below.refl _ _) | (with_reducible assumption) | (with_reducible apply below_drewN) | (with_reducible apply Below.drew) | ((with_reducible refine Below.setCell ?_ ?_ _); rotate_left; focus (first | (simp; done) | (simp; omega) | omega)) | ((with_reducible refine Below.alloc ?_ ?_ _); rotate_left; focus (first | (simp; done) | (simp; omega) | omega))))
    | succ m =>
      have hm : m < t.size := hn
      have hc : ((m + 1 : Nat) : Int) - 1 = (m : Int) := by omega
      rw [hc]
      have hpos : (0 : Int) ≤ (m : Int) := by omega
      have hml : (m : Int) < (t.size : Int) := by omega
      have hmc : (m : Int) + 1 ≤ (cap : Int) := by omega
      have x0 := HC.out m hm
      have f0 := HF.out m hm
      clear hc
      by_cases hlow : t[m] < 255
      · have hlow' := (low_nat t[m]).mp hlow
        rw [behN_low t m hm hlow] at hb
        have hw3 : IntKind.u8.wrap ((t[m].toNat : Int) + 1) = (t[m].toNat : Int) + 1 := by simp only [IntKind.wrap, IntKind.bits, IntKind.signed]; simp; omega
        have hback := back_row (wr.setCell ⟨w.heap.size + 1, m, none⟩ (.int .u8 ((t[m].toNat : Int) + 1))) (w.heap.size + 1) cap m t hm hlow (fun j hj => by
          have hne : m ≠ j := by omega
          have := HC.out j (by omega)
          rw [← this]
          apply World.cell?_setCell_other
          intro e; injection e with e1 e2; omega) (by simp [go_sem, x0])
        subst hb
        clear HP HC HF hlow
        go_wp2_with fail
        refine bodyPost_ret (v := .agg #[.string t, .string (mkB (t.data.toList.take m ++ [t[m] + 1])), .bool false]) (by simp [results, Tryz.results61, go_sem, *]) rfl ⟨rfl, ?_⟩
        (repeat (first | (with_reducible exact Below.refl _ _) | (with_reducible assumption) | (with_reducible apply below_drewN) | (with_reducible apply Below.drew) | ((with_reducible refine Below.setCell ?_ ?_ _); rotate_left; focus (first | (simp; done) | (simp; omega) | omega)) | ((with_reducible refine Below.alloc ?_ ?_ _); rotate_left; focus (first | (simp; done) | (simp; omega) | omega))))
      · have hlow' : ¬ ((t[m].toNat : Nat) : Int) < 255 := fun h => hlow ((low_nat t[m]).mpr h)
        rw [behN_high t m hm hlow] at hb
        have HB : Hid (_ = _) := hb
        clear hb HP HC HF hlow
        go_wp2_with fail
        go_roundw
        case rel => exact ⟨m, by omega, by go_num, HB.out, trivial⟩
        case measure => simp [intOf]

end Go.Proofs.YtkeghknceccdmaaGreatDoor
