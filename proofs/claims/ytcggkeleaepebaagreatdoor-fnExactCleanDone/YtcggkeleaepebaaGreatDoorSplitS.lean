/- What the specification's parting of a text at its points answers. -/
import Derived.Test.YtcggkeleaepebaaGreatDoorSplitW
namespace Go.Proofs.YtcggkeleaepebaaGreatDoor
open Go.RowKit
set_option linter.unusedVariables false

def strs (l : List ByteArray) : List Value := l.map Value.string
theorem strs_snoc (l : List ByteArray) (x : ByteArray) : strs (l ++ [x]) = strs l ++ [.string x] := by unfold strs; simp
theorem readS_own {w : World} {base g cap : Nat} {l : List ByteArray} (h : w.ownsRow base 9 1 (.slice (some ⟨g, 0, none⟩) l.length cap) l.length (strs l)) : ReadS w g 0 l :=
  ⟨(h.lt g rfl).2, fun i hi => by rw [Nat.zero_add]; exact owns_cell h _ _ (by unfold strs; simp [List.getElem?_eq_getElem hi])⟩

set_option maxRecDepth 8000 in
set_option maxHeartbeats 2000000 in
theorem l00Cut_any (s : ByteArray) (w : World) (hs : s.size ≤ 1048576) :
    Calls Tryz.prog 146 #[.string s, .int .u8 46] w fun e w' => (∃ g cap, e = .returned (.slice (some ⟨g, 0, none⟩) (pieces s).length cap) ∧ w.heap.size ≤ g ∧ ReadS w' g 0 (pieces s)) ∧ Below w.heap.size w w' := by
  obtain ⟨i0, hi, hz0, hz1, hz2⟩ := info_parts infoS
  go_enter Tryz.func146, Tryz.ntmps146
  go_wp2_with fail
  go_loopw [5, 6, 7] (fun v f i wr => ∃ (done : List ByteArray) (a k : Nat), k ≤ s.size ∧ a ≤ k ∧ f = .int .i64 a ∧ i = .int .i64 k ∧ pieces s = done ++ pieces (s.extract a s.size) ∧ (∀ j (hj : j < s.size), a ≤ j → j < k → s[j] ≠ 46) ∧ done.length ≤ k ∧ wr.ownsRow w.heap.size 9 1 v done.length (strs done) ∧ v ≠ .slice none 0 0 ∧ Below w.heap.size w wr) (fun _ _ i _ => s.size - (intOf i).toNat)
  case atStart => exact ⟨[], 0, 0, Nat.zero_le _, Nat.le_refl _, rfl, rfl, by rw [ByteArray.extract_zero_size]; rfl, fun j hj h1 h2 => absurd h2 (by omega), Nat.le_refl _, World.ownsRow_made w #[] 0 (Nat.le_refl _) (by unfold maxLen; omega) rfl, by simp, (Below.refl _ _).alloc (Nat.le_refl _) _⟩
  case round =>
    obtain ⟨done, a, k, hk, hak, rfl, rfl, hp, hno, hdk, hown, hnn, hbel⟩ := hrel
    have HP : Hid _ := hp
    have HO : Hid _ := hno
    have HN : Hid _ := hnn
    have hsz0 := hbel.size
    have hak2 : (a : Int) ≤ (k : Int) := by omega
    clear hp hno hnn
    by_cases hlt : k < s.size
    · by_cases hc : s[k] = 46
      · have e46 : ((s[k].toNat : Int) == 46) = true := by rw [hc]; rfl
        have hpc := pieces_from s a k hak hlt hc HO.out
        have HQ : Hid _ := hpc
        clear hpc hc
        go_wp2_with (at_builtin; refine wpList_append_own _ rfl (.tmp 20) (.tmp 25) 173 rfl w.heap.size 9 i0 (.string ByteArray.empty) 1 16 Tryz.underlying173 hi hz0 hz1 hz2 rfl (by decide) _ _ _ rfl (hown.alloc _) ⟨wr.heap.size, 0, none⟩ 1 1 [.string (s.extract a k)] rfl rfl ?c1 ?c2 ?c3 ?c4 ?c5 ?_)
        case c1 =>
          intro j u hj
          match j, hj with
          | 0, hj => simp at hj; subst hj; simp [Addr.add, go_sem]
          | j + 1, hj => simp at hj
        case c2 => intro u hu; simp at hu; subst hu; rfl
        case c3 => unfold maxLen; omega
        case c4 => omega
        case c5 => simp; omega
        intro v' w2 hown2 hgrow hnv
        have HV : Hid _ := hnv
        clear hnv
        have hb2 : Below w.heap.size w w2 := Below.grown (hbel.alloc (by omega) _) hgrow (by simp; omega) (owns_block hown)
        clear hgrow hown hbel
        go_wp2_with fail
        go_roundw
        case rel => exact ⟨done ++ [s.extract a k], k + 1, k + 1, by omega, by omega, by go_num, by go_num, by rw [HP.out, HQ.out]; simp, fun j hj h1 h2 => absurd h2 (by omega), by simp; omega, by rw [strs_snoc, List.length_append]; exact hown2, HV.out, hb2⟩
        case measure => simp [intOf]; omega
      · have e46 : ((s[k].toNat : Int) == 46) = false := beq_eq_false_iff_ne.mpr (fun e => hc (UInt8.toNat_inj.mp (by show s[k].toNat = 46; omega)))
        have HC : Hid _ := hc
        clear hc
        go_wp2_with fail
        go_roundw
        case rel => exact ⟨done, a, k + 1, by omega, by omega, rfl, by go_num, HP.out, fun j hj h1 h2 => by
          by_cases hjk : j = k
          · subst hjk; exact HC.out
          · exact HO.out j hj h1 (by omega), by omega, hown, HN.out, hbel⟩
        case measure => simp [intOf]; omega
    · have hk2 : k = s.size := by omega
      have hpr := pieces_rest s a (fun j hj h => HO.out j hj h (by omega))
      have has : (a : Int) ≤ (s.size : Int) := by omega
      have HQ : Hid _ := hpr
      clear hpr
      go_wp2_with (at_builtin; refine wpList_append_own _ rfl (.tmp 29) (.tmp 33) 173 rfl w.heap.size 9 i0 (.string ByteArray.empty) 1 16 Tryz.underlying173 hi hz0 hz1 hz2 rfl (by decide) _ _ _ rfl (hown.alloc _) ⟨wr.heap.size, 0, none⟩ 1 1 [.string (s.extract a s.size)] rfl rfl ?c1 ?c2 ?c3 ?c4 ?c5 ?_)
      case c1 =>
        intro j u hj
        match j, hj with
        | 0, hj => simp at hj; subst hj; simp [Addr.add, go_sem]
        | j + 1, hj => simp at hj
      case c2 => intro u hu; simp at hu; subst hu; rfl
      case c3 => unfold maxLen; omega
      case c4 => omega
      case c5 => simp; omega
      intro v' w2 hown2 hgrow hnv
      have hb2 : Below w.heap.size w w2 := Below.grown (hbel.alloc (by omega) _) hgrow (by simp; omega) (owns_block hown)
      have hpp : done ++ [s.extract a s.size] = pieces s := by rw [HP.out, HQ.out]
      have hown3 : w2.ownsRow w.heap.size 9 1 v' (pieces s).length (strs (pieces s)) := by
        rw [← hpp, strs_snoc, List.length_append]; exact hown2
      obtain ⟨g, cap, hv⟩ := owns_shape hown3 hnv
      subst hv
      have hgl := (hown3.lt g rfl).1
      have HO3 : Hid _ := readS_own hown3
      clear hgrow hown hbel hown2 hown3 hpp hnv
      go_wp2_with fail
      go_ret
      exact ⟨⟨g, cap, rfl, hgl, HO3.out⟩, hb2⟩

end Go.Proofs.YtcggkeleaepebaaGreatDoor
