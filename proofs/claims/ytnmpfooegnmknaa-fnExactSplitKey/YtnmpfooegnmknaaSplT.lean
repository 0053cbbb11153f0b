/- What the specification's parting of a text into keys answers. -/
import Derived.Test.YtnmpfooegnmknaaSplC
import Derived.Test.YtnmpfooegnmknaaSplS
import Derived.Test.YtnmpfooegnmknaaTrC
import Derived.Test.YtnmpfooegnmknaaStrM
import Derived.Test.YtnmpfooegnmknaaTrS
namespace Go.Proofs.Ytnmpfooegnmknaa.Tr
open Go.RowKit
set_option linter.unusedVariables false

theorem ne_list2 (s : ByteArray) (h : 0 < s.size) : ¬ s.toList = [] ∧ s.toList.isEmpty = false := by
  have h1 : s.toList.length = s.size := by rw [ByteArray.toList_eq, toList_length]
  have h2 : ¬ s.toList = [] := fun e => by rw [e] at h1; simp at h1; omega
  exact ⟨h2, by rw [← Bool.not_eq_true, List.isEmpty_iff]; exact h2⟩
/-- What both answer: the keys, and the code. -/
def splL (s : ByteArray) (n : Int) : List ByteArray := if 65536 < s.size then [] else if 0 ≤ n ∧ n ≤ 8 then (splB s n.toNat).getD [] else []
def splC (s : ByteArray) (n : Int) : Int := if 65536 < s.size then 2 else if 0 ≤ n ∧ n ≤ 8 then (if (splB s n.toNat).isSome then 0 else 3) else 4
structure SplR (s : ByteArray) (n : Int) (w : World) (e : Ending) (w' : World) : Prop where
  out : ∃ v, e = .returned (.tuple #[v, .int .i64 (splC s n)]) ∧ OwnS w' w.heap.size v (splL s n)
  bel : Below w.heap.size w w'
theorem SplR.long {s : ByteArray} {n : Int} {w w' : World} {v : Value} (h : 65536 < s.size) (ho : OwnS w' w.heap.size v []) (hb : Below w.heap.size w w') : SplR s n w (.returned (.tuple #[v, .int .i64 2])) w' :=
  ⟨⟨v, by unfold splC; rw [if_pos h], by unfold splL; rw [if_pos h]; exact ho⟩, hb⟩
theorem SplR.range {s : ByteArray} {n : Int} {w w' : World} {v : Value} (h : ¬ 65536 < s.size) (hn : ¬ (0 ≤ n ∧ n ≤ 8)) (ho : OwnS w' w.heap.size v []) (hb : Below w.heap.size w w') : SplR s n w (.returned (.tuple #[v, .int .i64 4])) w' :=
  ⟨⟨v, by unfold splC; rw [if_neg h, if_neg hn], by unfold splL; rw [if_neg h, if_neg hn]; exact ho⟩, hb⟩
theorem SplR.form {s : ByteArray} {n : Int} {w w' : World} {v : Value} (h : ¬ 65536 < s.size) (hn : 0 ≤ n ∧ n ≤ 8) (hk : splB s n.toNat = none) (ho : OwnS w' w.heap.size v []) (hb : Below w.heap.size w w') : SplR s n w (.returned (.tuple #[v, .int .i64 3])) w' :=
  ⟨⟨v, by unfold splC; rw [if_neg h, if_pos hn, hk]; rfl, by unfold splL; rw [if_neg h, if_pos hn, hk]; exact ho⟩, hb⟩
theorem SplR.good {s : ByteArray} {n : Int} {w w' : World} {v : Value} {l : List ByteArray} (h : ¬ 65536 < s.size) (hn : 0 ≤ n ∧ n ≤ 8) (hk : splB s n.toNat = some l) (ho : OwnS w' w.heap.size v l) (hb : Below w.heap.size w w') : SplR s n w (.returned (.tuple #[v, .int .i64 0])) w' :=
  ⟨⟨v, by unfold splC; rw [if_neg h, if_pos hn, hk]; rfl, by unfold splL; rw [if_neg h, if_pos hn, hk]; exact ho⟩, hb⟩

/-- k of N keys are read: those before, and what is left. -/
def Mid (s : ByteArray) (N k : Nat) (done : List ByteArray) (rest : ByteArray) : Prop :=
  done.length = k ∧ k ≤ N ∧ rest.size ≤ s.size ∧ splitK s.size N s = (splitK s.size (N - k) rest).map fun r => (done ++ r.1, r.2)
theorem Mid.start (s : ByteArray) (N : Nat) : Mid s N 0 [] s := ⟨rfl, Nat.zero_le _, Nat.le_refl _, by simp⟩
theorem Mid.bad {s : ByteArray} {N k : Nat} {done : List ByteArray} {rest : ByteArray} (h : Mid s N k done rest) (hk : k < N) (h0 : lenK s.size rest = 0) : splB s N = none := by
  obtain ⟨_, _, _, h4⟩ := h
  unfold splB
  rw [h4, show N - k = (N - k - 1) + 1 by omega, splitK, if_pos h0]; rfl
theorem Mid.next {s : ByteArray} {N k : Nat} {done : List ByteArray} {rest : ByteArray} (h : Mid s N k done rest) (hk : k < N) (L : Nat) (hL : lenK s.size rest = L) (h0 : L ≠ 0) : Mid s N (k + 1) (done ++ [rest.extract 0 L]) (from_ rest L) := by
  obtain ⟨h1, h2, h3, h4⟩ := h
  subst hL
  refine ⟨by simp [h1], by omega, by rw [from_size]; omega, ?_⟩
  rw [h4, show N - k = (N - (k + 1)) + 1 by omega, splitK, if_neg h0, Option.map_map]
  congr 1
  funext r
  simp
theorem Mid.left {s : ByteArray} {N : Nat} {done : List ByteArray} {rest : ByteArray} (h : Mid s N N done rest) (h0 : 0 < rest.size) : splB s N = none := by
  obtain ⟨_, _, _, h4⟩ := h
  unfold splB
  rw [h4, Nat.sub_self, splitK]
  show (if rest.size = 0 then some (done ++ []) else none) = none
  rw [if_neg (by omega)]
theorem Mid.fin {s : ByteArray} {N : Nat} {done : List ByteArray} {rest : ByteArray} (h : Mid s N N done rest) (h0 : rest.size = 0) : splB s N = some done := by
  obtain ⟨_, _, _, h4⟩ := h
  unfold splB
  rw [h4, Nat.sub_self, splitK]
  show (if rest.size = 0 then some (done ++ []) else none) = some done
  rw [if_pos h0, List.append_nil]
theorem own_made (w : World) (base : Nat) (h : base ≤ w.heap.size) : OwnS (w.alloc (.cells #[] 9)) base (.slice (some ⟨w.heap.size, 0, none⟩) 0 0) [] := World.ownsRow_made w #[] 0 h (by unfold maxLen; omega) rfl

set_option maxRecDepth 4000 in
set_option maxHeartbeats 1000000 in
theorem specSplit_any (s : ByteArray) (n : Int) (w : World) (hs : s.size ≤ 1048576) :
    Calls Try.prog 29 #[.string s, .int .i64 n] w fun e w' => SplR s n w e w' := by
  obtain ⟨i0, hi, hz0, hz1, hz2⟩ := info_parts infoStr
  by_cases hl : 65536 < s.size
  · go_enter Try.func29, Try.ntmps29
    go_wp2
    go_ret2
    exact SplR.long hl (own_made _ _ (Nat.le_refl _)) ((Below.refl _ _).alloc (Nat.le_refl _) _)
  by_cases hn : 0 ≤ n ∧ n ≤ 8
  · have ein : (decide (0 ≤ n) && decide (n ≤ 8)) = true := by simp [hn.1, hn.2]
    obtain ⟨N, rfl⟩ : ∃ N : Nat, n = N := ⟨n.toNat, by omega⟩
    have hN8 : N ≤ 8 := by omega
    have hnn : ((N : Int)).toNat = N := by omega
    have HN : Hid _ := hn
    clear hn
    go_enter Try.func29, Try.ntmps29
    go_wp2_with (go_at_call 64; refine (in_any (N : Int) 0 8 _).mono ?_; rintro e w1 ⟨rfl, hw⟩; rw [hw, ein]; clear hw w1)
    go_loopw [0, 6, 7] (fun t o i wr => ∃ (k : Nat) (done : List ByteArray) (rest : ByteArray), t = .string rest ∧ i = .int .i64 k ∧ Mid s N k done rest ∧ OwnS wr w.heap.size o done ∧ Below w.heap.size w wr) (fun _ _ i _ => N - (intOf i).toNat)
    case atStart => exact ⟨0, [], s, rfl, rfl, Mid.start s N, own_made _ _ (Nat.le_refl _), (Below.refl _ _).alloc (Nat.le_refl _) _⟩
    case round =>
      obtain ⟨k, done, rest, rfl, rfl, hM, hown, hbel⟩ := hrel
      have hrow := hown
      unfold OwnS at hrow
      have HM : Hid (Mid _ _ _ _ _) := hM
      have hdl := hM.1
      have hkN := hM.2.1
      have hrs := hM.2.2.1
      have hz := hbel.size
      clear hM
      by_cases hlt : k < N
      · obtain ⟨L, hL⟩ : ∃ L, lenK s.size rest = L := ⟨_, rfl⟩
        have hLr : L ≤ rest.size := by rw [← hL]; exact lenK_le _ _
        have HL : Hid _ := hL
        have HC : Hid (∀ w, Calls Try.prog 65 #[.string rest] w fun e w' => e = .returned (.int .i64 L) ∧ w' = w) := (fun w => by rw [← hL]; exact l04Length_at s.size rest w hrs (by omega))
        clear hL
        by_cases hL0 : L = 0
        · have e0 : ((L : Int) == 0) = true := by rw [hL0]; rfl
          go_wp2_with (go_at_call 65; refine (HC.out _).mono ?_; rintro e w2 ⟨rfl, rfl⟩)
          go_ret2
          exact SplR.form hl HN.out (by rw [hnn]; exact HM.out.bad hlt (by rw [HL.out, hL0])) (own_made _ _ (by omega)) (hbel.alloc (by omega) _)
        · have e0 : ((L : Int) == 0) = false := beq_eq_false_iff_ne.mpr (by omega)
          go_wp2_with (first | (go_at_call 65; refine (HC.out _).mono ?_; rintro e w2 ⟨rfl, rfl⟩) | (at_builtin; refine wpList_append_own _ rfl (.tmp 28) (.tmp 32) 31 rfl w.heap.size 9 i0 (.string ByteArray.empty) 1 16 Try.underlying31 hi hz0 hz1 hz2 rfl (by decide) _ _ _ rfl (hrow.alloc _) ⟨_, 0, none⟩ 1 1 [.string (rest.extract 0 L)] rfl rfl ?c1 ?c2 ?c3 ?c4 ?c5 ?_))
          case c1 =>
            intro j u hj
            match j, hj with
            | 0, hj => simp at hj; subst hj; simp [Addr.add, go_sem]
            | j + 1, hj => simp at hj
          case c2 => intro u hu; simp at hu; subst hu; rfl
          case c3 => unfold maxLen; omega
          case c4 => omega
          case c5 => simp; omega
          intro v' w2 hown2 hgrow hnv
          have hb2 : Below w.heap.size w w2 := Below.grown (hbel.alloc (by omega) _) hgrow (by simp; omega) (fun b hb => (hrow.lt b hb).1)
          have HO2 : Hid (OwnS w2 w.heap.size v' (done ++ [rest.extract 0 L])) := by unfold OwnS; rw [strV_app, List.length_append, hdl]; exact hown2
          clear hgrow hown hrow hbel hown2 hnv
          go_wp2_with fail
          go_roundw
          case rel => exact ⟨k + 1, _, _, rfl, by go_num, HM.out.next hlt L HL.out hL0, HO2.out, hb2⟩
          case measure => simp [intOf]; omega
      · obtain rfl : k = N := by omega
        by_cases h0 : 0 < rest.size
        · obtain ⟨n1, n2⟩ := ne_list2 rest h0
          go_wp2
          go_ret2
          exact SplR.form hl HN.out (by rw [hnn]; exact HM.out.left h0) (own_made _ _ (by omega)) (hbel.alloc (by omega) _)
        · have hr0 : rest.size = 0 := by omega
          have HF : Hid _ := HM.out.fin hr0
          obtain rfl := empty_of rest hr0
          go_wp2
          go_ret2
          exact SplR.good hl HN.out (by rw [hnn]; exact HF.out) hown hbel
  · have ein : (decide (0 ≤ n) && decide (n ≤ 8)) = false := by
      rw [← Bool.not_eq_true]; simp; omega
    go_enter Try.func29, Try.ntmps29
    go_wp2_with (go_at_call 64; refine (in_any n 0 8 _).mono ?_; rintro e w1 ⟨rfl, hw⟩; rw [hw, ein]; clear hw w1)
    go_ret2
    exact SplR.range hl hn (own_made _ _ (Nat.le_refl _)) ((Below.refl _ _).alloc (Nat.le_refl _) _)

end Go.Proofs.Ytnmpfooegnmknaa.Tr
