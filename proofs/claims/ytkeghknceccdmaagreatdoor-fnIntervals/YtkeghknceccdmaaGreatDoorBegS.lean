/- What begins with a text: the specification's answer. -/
import Derived.Test.YtkeghknceccdmaaGreatDoorBegM
import Derived.Test.YtkeghknceccdmaaGreatDoorKeyS
import Derived.Test.YtkeghknceccdmaaGreatDoorRowV
namespace Go.Proofs.YtkeghknceccdmaaGreatDoor
open Go.RowKit
set_option linter.unusedVariables false

set_option maxRecDepth 4000 in
set_option maxHeartbeats 1000000 in
theorem l04Behind_any (t : ByteArray) (w : World) (ht : t.size ≤ 100000) :
    Calls Tryz.prog 207 #[.string t] w fun e w' => e = .returned (.tuple #[.string (mkB (behN t.data.toList t.size).1), .bool (behN t.data.toList t.size).2]) ∧ Below w.heap.size w w' := by
  obtain ⟨P, hP⟩ : ∃ P, P = behN t.data.toList t.size := ⟨_, rfl⟩
  rw [← hP]
  have HP : Hid (_ = _) := hP
  clear hP
  go_enter Tryz.func207, Tryz.ntmps207
  go_wp2_with fail
  go_loopw [4] (fun i wr => ∃ n : Nat, n ≤ t.size ∧ i = .int .i64 n ∧ P = behN t.data.toList n ∧ Below w.heap.size w wr) (fun i _ => (intOf i).toNat)
  case atStart => exact ⟨t.size, Nat.le_refl _, rfl, HP.out, Below.refl _ _⟩
  case round =>
    obtain ⟨n, hn, rfl, hb, hbel⟩ := hrel
    have hz := hbel.size
    cases n with
    | zero =>
      obtain rfl : P = ([], false) := hb
      clear HP
      go_wp2_with fail
      go_ret2
      exact ⟨rfl, hbel⟩
    | succ m =>
      have hm : m < t.size := hn
      have hc : ((m + 1 : Nat) : Int) = (m : Int) + 1 := by omega
      rw [hc]
      have hpos : (0 : Int) < (m : Int) + 1 := by omega
      have hml : (m : Int) < (t.size : Int) := by omega
      have hml2 : (m : Int) ≤ (t.size : Int) := by omega
      clear hc
      by_cases hlow : t[m] < 255
      · have hlow' := (low_nat t[m]).mp hlow
        rw [behN_low t m hm hlow] at hb
        have hw3 : IntKind.u8.wrap ((t[m].toNat : Int) + 1) = (t[m].toNat : Int) + 1 := by simp only [IntKind.wrap, IntKind.bits, IntKind.signed]; simp; omega
        have hcg : ∀ (W : World) (g : Nat), W.cell? ⟨g, 0, none⟩ = some (.int .u8 ((t[m].toNat : Int) + 1)) → _ := fun W g h => convK W g ((t[m].toNat : Int) + 1) h
        have hR : mkB (t.data.toList.take m ++ [t[m] + 1]) = t.extract 0 m ++ txt [(t[m].toNat : Int) + 1] := by rw [ext_take, txt_succ _ hlow, mkB_app]
        have hs1 : (t.extract 0 m).size = m := by simp; omega
        have hs2 : (txt [(t[m].toNat : Int) + 1]).size = 1 := txt_size _
        obtain ⟨A, hA⟩ : ∃ A, A = txt [(t[m].toNat : Int) + 1] := ⟨_, rfl⟩
        rw [← hA] at hR hs2
        simp only [← hA] at hcg
        have HR : Hid (_ = _) := hR
        subst hb
        clear hR hA HP hlow
        go_wp2_with fail
        go_region
        all_goals
          go_wp2_with fail
          go_ret2
          exact ⟨congrArg (fun s => Ending.returned (Value.tuple #[.string s, .bool true])) HR.out.symm, by (repeat (first | (with_reducible exact Below.refl _ _) | (with_reducible assumption) | (with_reducible apply below_drewN) | (with_reducible apply Below.drew) | ((with_reducible refine Below.setCell ?_ ?_ _); rotate_left; focus (first | (simp; done) | (simp; omega) | omega)) | ((with_reducible refine Below.alloc ?_ ?_ _); rotate_left; focus (first | (simp; done) | (simp; omega) | omega))))⟩
      · have hlow' : ¬ ((t[m].toNat : Nat) : Int) < 255 := fun h => hlow ((low_nat t[m]).mpr h)
        rw [behN_high t m hm hlow] at hb
        have HB : Hid (_ = _) := hb
        clear hb HP hlow
        go_wp2_with fail
        go_roundw
        case rel => exact ⟨m, by omega, by go_num, HB.out, hbel⟩
        case measure => simp [intOf]

set_option maxRecDepth 4000 in
set_option maxHeartbeats 1000000 in
theorem l04Begin_any (l : List UInt8) (w : World) (hl : l.length ≤ 100000) :
    Calls Tryz.prog 133 #[.string (mkB l)] w fun e w' => e = .returned (.agg #[.string (mkB l), .string (beginI l).hi, .bool (beginI l).op]) ∧ Below w.heap.size w w' := by
  have HC0 := fun W : World => l04Behind_any (mkB l) W (by rw [mkB_size]; exact hl)
  rw [mkB_data, mkB_size] at HC0
  unfold beginI
  simp only
  obtain ⟨⟨p1, p2⟩, hP⟩ : ∃ P, P = behN l l.length := ⟨_, rfl⟩
  rw [← hP] at HC0 ⊢
  have HC : Hid (∀ W : World, Calls _ _ _ W _) := HC0
  have Y0 := Res3.start w (.string em) (.string em) (.bool false) 24
  obtain ⟨A, hA⟩ : ∃ A, A = mkB l := ⟨_, rfl⟩
  rw [← hA] at HC ⊢
  clear HC0 hP hA
  go_enter Tryz.func133, Tryz.ntmps133
  go_wp2_with fail
  refine (HC.out _).mono ?_
  rintro e w1 ⟨rfl, hb⟩
  have Y := Y0.step hb
  have g0 := Y.c0
  have g1 := Y.c1
  have g2 := Y.c2
  have z0 := Y.z0
  have z1 := Y.z1
  have z2 := Y.z2
  have hlt := Y.lt
  have hbw := Y.bel
  clear hb Y Y0
  go_wp2_with fail
  refine bodyPost_ret (v := .agg #[.string A, .string (mkB p1), .bool (!p2)]) (by simp [results, Tryz.results133, go_sem, *]) rfl ⟨rfl, ?_⟩
  (repeat (first | (with_reducible exact Below.refl _ _) | (with_reducible assumption) | (with_reducible apply below_drewN) | (with_reducible apply Below.drew) | ((with_reducible refine Below.setCell ?_ ?_ _); rotate_left; focus (first | (simp; done) | (simp; omega) | omega)) | ((with_reducible refine Below.alloc ?_ ?_ _); rotate_left; focus (first | (simp; done) | (simp; omega) | omega))))
set_option maxHeartbeats 1000000 in
theorem l04Turned_any (l : List UInt8) (desc : Bool) (w : World) (hl : l.length ≤ 100000) :
    Calls Tryz.prog 134 #[.string (mkB l), .bool desc] w fun e w' => e = .returned (.string (mkB (dirK desc l))) ∧ Below w.heap.size w w' := by
  have hT := fun W : World => l04Turn_any (mkB l) W (by rw [mkB_size]; exact hl)
  rw [mkB_data] at hT
  have HT : Hid (∀ W : World, Calls _ _ _ W _) := hT
  clear hT
  cases desc
  · show Calls _ _ _ _ fun e w' => e = .returned (.string (mkB l)) ∧ Below w.heap.size w w'
    go_enter Tryz.func134, Tryz.ntmps134
    go_wp2_with fail
    go_ret
    exact ⟨rfl, Below.refl _ _⟩
  · show Calls _ _ _ _ fun e w' => e = .returned (.string (mkB (turnL l))) ∧ Below w.heap.size w w'
    go_enter Tryz.func134, Tryz.ntmps134
    go_wp2_with (go_at_call 115; refine (HT.out _).mono ?_; rintro e w2 ⟨rfl, hb⟩)
    go_ret
    exact ⟨rfl, hb⟩

end Go.Proofs.YtkeghknceccdmaaGreatDoor
