/- What the library's parting of a text at its points answers, and the program's and the specification's own. -/
import Derived.Test.YtdchhjnmhnehiaaGreatDoorSplitM
import Derived.Test.YtdchhjnmhnehiaaGreatDoorItems
import Derived.Lib.Bytealg
import Derived.Deep.OwnRows
import Derived.Test.YtdchhjnmhnehiaaGreatDoorSpec
import Derived.Test.YtdchhjnmhnehiaaGreatDoorLawVal
import Derived.Test.YtdchhjnmhnehiaaGreatDoorIvlHQ
namespace Go.Proofs.YtdchhjnmhnehiaaGreatDoor
open Go.RowKit
set_option linter.unusedVariables false

set_option maxRecDepth 4000 in
set_option maxHeartbeats 1000000 in
theorem countDot_any (s : ByteArray) (w : World) :
    Calls Tryz.prog 148 #[.string s, .string ⟨#[46]⟩] w fun e w' => e = .returned (.int .i64 (Lib.countByte s.data.toList 46)) ∧ w' = w := by
  go_enter Tryz.func148, Tryz.ntmps148
  go_wp2
  rw [run_callFunc_extern Tryz.func158 (by kernel_rfl) (by kernel_rfl) (by kernel_rfl) (e := Extern.BytealgCount.count) (by kernel_rfl), Lib.run_countString]
  simp only [Result.andThen]
  rw [Oper.upon_value]
  go_wp2
  go_ret
  exact ⟨rfl, rfl⟩
set_option maxRecDepth 4000 in
set_option maxHeartbeats 1000000 in
theorem indexByte_any (s : ByteArray) (w : World) :
    Calls Tryz.prog 162 #[.string s, .int .u8 46] w fun e w' => e = .returned (.int .i64 (Lib.indexByte s.data.toList 46)) ∧ w' = w := by
  go_enter Tryz.func162, Tryz.ntmps162
  go_wp2
  rw [run_callFunc_extern Tryz.func167 (by kernel_rfl) (by kernel_rfl) (by kernel_rfl) (e := Extern.BytealgIndexByte.indexByte) (by kernel_rfl), Lib.run_indexByteString]
  simp only [Result.andThen]
  rw [Oper.upon_value]
  go_wp2
  go_ret
  exact ⟨rfl, rfl⟩
theorem index_one_eq (s : ByteArray) (h : ([46] == s.toList) = true) : Lib.indexByte s.data.toList 46 = 0 := by
  have e : s.data.toList = [46] := by rw [← ByteArray.toList_eq]; exact (beq_iff_eq.1 h).symm
  rw [e]; rfl
set_option maxRecDepth 4000 in
set_option maxHeartbeats 1000000 in
theorem liteIndex_any (s : ByteArray) (w : World) :
    Calls Tryz.prog 159 #[.string s, .string ⟨#[46]⟩] w fun e w' => e = .returned (.int .i64 (Lib.indexByte s.data.toList 46)) ∧ w' = w := by
  go_enter Tryz.func159, Tryz.ntmps159
  go_wp2_with (go_at_call 162; refine (indexByte_any _ _).mono ?_; rintro e w' ⟨rfl, rfl⟩)
  · have h : ([46] == s.toList) = true := by assumption
    go_ret
    refine ⟨?_, rfl⟩
    rw [index_one_eq s h]
    rfl
  · go_ret
    exact ⟨rfl, rfl⟩
set_option maxRecDepth 4000 in
set_option maxHeartbeats 1000000 in
theorem strIndex_any (s : ByteArray) (w : World) :
    Calls Tryz.prog 149 #[.string s, .string ⟨#[46]⟩] w fun e w' => e = .returned (.int .i64 (Lib.indexByte s.data.toList 46)) ∧ w' = w := by
  go_enter Tryz.func149, Tryz.ntmps149
  go_wp2_with (go_at_call 159; refine (liteIndex_any _ _).mono ?_; rintro e w' ⟨rfl, rfl⟩)
  go_ret
  exact ⟨rfl, rfl⟩

theorem pieces_one (s : ByteArray) (h : (pieces s).length = 1) : pieces s = [s] := by
  have hge := Lib.indexByte_ge s.data.toList 46
  by_cases h1 : Lib.indexByte s.data.toList 46 = -1
  · exact pieces_miss s h1
  · obtain ⟨i, hi⟩ : ∃ i : Nat, Lib.indexByte s.data.toList 46 = i := ⟨(Lib.indexByte s.data.toList 46).toNat, by omega⟩
    have e := (pieces_hit s i hi).2
    rw [e, List.length_cons, pieces_len] at h
    omega
theorem pieces_more (s : ByteArray) (h : 1 < (pieces s).length) : ∃ i : Nat, Lib.indexByte s.data.toList 46 = i ∧ i < s.size ∧ pieces s = s.extract 0 i :: pieces (s.extract (i + 1) s.size) := by
  have hge := Lib.indexByte_ge s.data.toList 46
  by_cases h1 : Lib.indexByte s.data.toList 46 = -1
  · rw [pieces_miss s h1] at h; simp at h
  · obtain ⟨i, hi⟩ : ∃ i : Nat, Lib.indexByte s.data.toList 46 = i := ⟨(Lib.indexByte s.data.toList 46).toNat, by omega⟩
    exact ⟨i, hi, pieces_hit s i hi⟩

theorem infoS : (Tryz.prog.info? 9).map (fun i => (i.zero, i.size, i.bytes)) = some (some (.string ByteArray.empty), 1, 16) := by kernel_rfl

set_option maxRecDepth 8000 in
set_option maxHeartbeats 2000000 in
theorem genSplit_any (s : ByteArray) (w : World) (hs : s.size ≤ 1048576) :
    Calls Tryz.prog 128 #[.string s, .string ⟨#[46]⟩, .int .i64 0, .int .i64 (-1)] w fun e w' =>
      e = .returned (.slice (some ⟨w.heap.size, 0, none⟩) (pieces s).length (pieces s).length) ∧ w' = w.alloc (.cells (Lib.cellsOf (pieces s) (pieces s).length) 9) := by
  obtain ⟨N, hN⟩ : ∃ N, N = (pieces s).length := ⟨_, rfl⟩
  have hle := pieces_len_le s
  have hcn : ((Lib.countByte s.data.toList 46 : Nat) : Int) + 1 = (N : Int) := by
    rw [hN, pieces_len]; unfold Lib.countByte; omega
  obtain ⟨C, hC⟩ : ∃ C, C = Lib.countByte s.data.toList 46 := ⟨_, rfl⟩
  rw [← hC] at hcn
  have c := countDot_any s w
  rw [← hC] at c
  rw [← hN] at hle ⊢
  have hN1 : 1 ≤ N := by omega
  have hCb : C ≤ 1048576 := by omega
  have hmin : min (N : Int) ((s.size : Int) + 1) = (N : Int) := by omega
  have hmk := run_make_row' (P := Tryz.prog) 42 9 (.string ByteArray.empty) 16 Tryz.underlying42 infoS rfl .i64 .i64 N (by omega) (by omega)
  have HC : Hid (Calls _ _ _ _ _) := c
  have HN : Hid _ := hN
  clear hC c hN
  go_enter Tryz.func128, Tryz.ntmps128
  go_wp2_with fail
  refine HC.out.mono ?_
  rintro e w' ⟨rfl, hw⟩
  rw [hw]
  clear hw
  go_wp2_with fail
  clear hmk HC hcn hmin hCb
  go_loopw [0, 10] (fun s0 s10 wr => ∃ (done : List ByteArray) (rest : ByteArray), s0 = .string rest ∧ s10 = .int .i64 done.length ∧ done.length ≤ N - 1 ∧ rest.size ≤ s.size ∧
      wr = w.alloc (.cells (Lib.cellsOf done N) 9) ∧ done ++ pieces rest = pieces s) (fun _ i _ => N - (intOf i).toNat)
  case atStart => exact ⟨[], s, rfl, rfl, Nat.zero_le _, Nat.le_refl _, by rw [Lib.cellsOf_nil], rfl⟩
  case round =>
    obtain ⟨done, rest, rfl, rfl, hd, hrs, rfl, hsp⟩ := hrel
    have hnext : (Lib.cellsOf done N)[done.length]? = some (.string ByteArray.empty) := Lib.cellsOf_next (by omega)
    have hlr : (pieces rest).length + done.length = N := by rw [HN.out, ← hsp, List.length_append]; omega
    have HS : Hid _ := hsp
    clear hsp
    by_cases hlt : done.length < N - 1
    · have hltz : ((done.length : Nat) : Int) < (N : Int) - 1 := by omega
      obtain ⟨i, hix, hroom, hpc⟩ := pieces_more rest (by omega)
      have HI : Hid _ := hix
      have HP : Hid _ := hpc
      clear hix hpc
      have c0 : ¬ ((i : Int) < 0) := by omega
      have c2 : ((i : Int)) ≤ ↑rest.size := by omega
      have c4 : ((i : Int) + 1) ≤ ↑rest.size := by omega
      go_wp2_with (first | (go_at_call 149; refine (strIndex_any rest _).mono ?_; rintro e w' ⟨rfl, hw⟩; rw [hw, HI.out]))
      go_roundw
      case rel =>
        refine ⟨done ++ [rest.extract 0 i], rest.extract (i + 1) rest.size, rfl, by simp, by simp; omega, by rw [ByteArray.size_extract]; omega, by rw [← Lib.cellsOf_set (by omega)], ?_⟩
        rw [← HS.out, HP.out]
        simp
      case measure => simp [intOf]; omega
    · have hltz : ¬ (((done.length : Nat) : Int) < (N : Int) - 1) := by omega
      have hone := pieces_one rest (by omega)
      have hfin : (Lib.cellsOf done N).setIfInBounds done.length (.string rest) = Lib.cellsOf (pieces s) N := by
        rw [← HS.out, hone]; exact Lib.cellsOf_set (by omega) rest
      have HF : Hid _ := hfin
      have hdl : done.length + 1 = N := by omega
      clear hone hfin
      go_wp2
      go_ret
      rw [← HF.out]
      exact ⟨by first | (rw [← hdl]; rfl) | (congr 2 <;> omega), rfl⟩
/-- Texts that lie one behind the other from a place of a block on. -/
structure ReadS (w : World) (g off : Nat) (l : List ByteArray) : Prop where
  lt : g < w.heap.size
  cells : ∀ i (h : i < l.length), w.cell? ⟨g, off + i, none⟩ = some (.string l[i])
theorem ReadS.step {w w' : World} {g off base : Nat} {l : List ByteArray} (h : ReadS w g off l) (hb : Below base w w') (hg : g < base) : ReadS w' g off l :=
  ⟨Nat.lt_of_lt_of_le h.lt hb.size, fun i hi => (hb.cell hg).trans (h.cells i hi)⟩
theorem ReadS.next {w w' : World} {g off : Nat} {l : List ByteArray} (h : ReadS w g off l) (hb : Below w.heap.size w w') : ReadS w' g off l := h.step hb h.lt
theorem ReadS.tail {w : World} {g off : Nat} {x : ByteArray} {l : List ByteArray} (h : ReadS w g off (x :: l)) : ReadS w g (off + 1) l :=
  ⟨h.lt, fun i hi => by have := h.cells (i + 1) (by simpa using hi); rw [show off + 1 + i = off + (i + 1) by omega]; simpa using this⟩
theorem readS_alloc (w : World) (l : List ByteArray) (T : TypeId) : ReadS (w.alloc (.cells (Lib.cellsOf l l.length) T)) w.heap.size 0 l := by
  refine ⟨by simp, fun i hi => ?_⟩
  have e : (Lib.cellsOf l l.length)[i]? = some (.string l[i]) := by
    unfold Lib.cellsOf
    rw [List.getElem?_toArray, List.getElem?_append_left (by simpa using hi)]
    simp [List.getElem?_eq_getElem hi]
  rw [Nat.zero_add]
  simp [go_sem, e]

set_option maxRecDepth 4000 in
set_option maxHeartbeats 1000000 in
theorem split_any (s : ByteArray) (w : World) (hs : s.size ≤ 1048576) :
    Calls Tryz.prog 103 #[.string s, .string ⟨#[46]⟩] w fun e w' =>
      e = .returned (.slice (some ⟨w.heap.size, 0, none⟩) (pieces s).length (pieces s).length) ∧ w' = w.alloc (.cells (Lib.cellsOf (pieces s) (pieces s).length) 9) := by
  go_enter Tryz.func103, Tryz.ntmps103
  go_wp2_with (go_at_call 128; refine (genSplit_any s _ hs).mono ?_; rintro e w' ⟨rfl, rfl⟩)
  go_ret
  exact ⟨rfl, rfl⟩
set_option maxRecDepth 4000 in
set_option maxHeartbeats 1000000 in
theorem namesOf_any (s : ByteArray) (w : World) (hs : s.size ≤ 1048576) :
    Calls Tryz.prog 80 #[.string s] w fun e w' => (∃ g cap, e = .returned (.slice (some ⟨g, 0, none⟩) (pieces s).length cap) ∧ w.heap.size ≤ g ∧ ReadS w' g 0 (pieces s)) ∧ Below w.heap.size w w' := by
  go_enter Tryz.func80, Tryz.ntmps80
  go_wp2_with (go_at_call 103; refine (split_any s _ hs).mono ?_; rintro e w' ⟨rfl, rfl⟩)
  go_ret
  exact ⟨⟨_, _, rfl, Nat.le_refl _, readS_alloc _ _ _⟩, (Below.refl _ _).alloc (Nat.le_refl _) _⟩

end Go.Proofs.YtdchhjnmhnehiaaGreatDoor

/- What the specification's parting of a text at its points answers. -/
namespace Go.Proofs.YtdchhjnmhnehiaaGreatDoor
open Go.RowKit
set_option linter.unusedVariables false

def strs (l : List ByteArray) : List Value := l.map Value.string
theorem strs_snoc (l : List ByteArray) (x : ByteArray) : strs (l ++ [x]) = strs l ++ [.string x] := by unfold strs; simp
theorem readS_own {w : World} {base g cap : Nat} {l : List ByteArray} (h : w.ownsRow base 9 1 (.slice (some ⟨g, 0, none⟩) l.length cap) l.length (strs l)) : ReadS w g 0 l :=
  ⟨(h.lt g rfl).2, fun i hi => by rw [Nat.zero_add]; exact owns_cell h _ _ (by unfold strs; simp [List.getElem?_eq_getElem hi])⟩

set_option maxRecDepth 8000 in
set_option maxHeartbeats 2000000 in
theorem l00Cut_any (s : ByteArray) (w : World) (hs : s.size ≤ 1048576) :
    Calls Tryz.prog 56 #[.string s, .int .u8 46] w fun e w' => (∃ g cap, e = .returned (.slice (some ⟨g, 0, none⟩) (pieces s).length cap) ∧ w.heap.size ≤ g ∧ ReadS w' g 0 (pieces s)) ∧ Below w.heap.size w w' := by
  obtain ⟨i0, hi, hz0, hz1, hz2⟩ := info_parts infoS
  go_enter Tryz.func56, Tryz.ntmps56
  go_wp2_with fail
  go_loopw [5, 6, 7] (fun v f i wr => ∃ (done : List ByteArray) (a k : Nat), k ≤ s.size ∧ a ≤ k ∧ f = .int .i64 a ∧ i = .int .i64 k ∧ pieces s = done ++ pieces (s.extract a s.size) ∧ (∀ j (hj : j < s.size), a ≤ j → j < k → s[j] ≠ 46) ∧ done.length ≤ k ∧ wr.ownsRow w.heap.size 9 1 v done.length (strs done) ∧ v ≠ .slice none 0 0 ∧ Below w.heap.size w wr) (fun _ _ i _ => s.size - (intOf i).toNat)
  case atStart => exact ⟨[], 0, 0, Nat.zero_le _, Nat.le_refl _, rfl, rfl, by rw [ByteArray.extract_zero_size]; rfl, fun j hj h1 h2 => absurd h2 (by omega), Nat.le_refl _, World.ownsRow_made w #[] 0 (Nat.le_refl _) (by unfold maxLen; omega) rfl, by simp, (Below.refl _ _).alloc (Nat.le_refl _) _⟩
  case round =>
    obtain ⟨done, a, k, hk, hak, rfl, rfl, hp, hno, hdk, hown, hnn, hbel⟩ := hrel
    have HP : Hid _ := hp
    have HO : Hid _ := hno
    have HN : Hid _ := hnn
    have hsz0 := hbel.size
    have hak2 : (a : Int) ≤ (k : Int) := by omega
    clear hp hno hnn
    by_cases hlt : k < s.size
    · by_cases hc : s[k] = 46
      · have e46 : ((s[k].toNat : Int) == 46) = true := by rw [hc]; rfl
        have hpc := pieces_from s a k hak hlt hc HO.out
        have HQ : Hid _ := hpc
        clear hpc hc
        go_wp2_with (at_builtin; refine wpList_append_own _ rfl (.tmp 20) (.tmp 25) 42 rfl w.heap.size 9 i0 (.string ByteArray.empty) 1 16 Tryz.underlying42 hi hz0 hz1 hz2 rfl (by decide) _ _ _ rfl (hown.alloc _) ⟨wr.heap.size, 0, none⟩ 1 1 [.string (s.extract a k)] rfl rfl ?c1 ?c2 ?c3 ?c4 ?c5 ?_)
        case c1 =>
          intro j u hj
          match j, hj with
          | 0, hj => simp at hj; subst hj; simp [Addr.add, go_sem]
          | j + 1, hj => simp at hj
        case c2 => intro u hu; simp at hu; subst hu; rfl
        case c3 => unfold maxLen; omega
        case c4 => omega
        case c5 => simp; omega
        intro v' w2 hown2 hgrow hnv
        have HV : Hid _ := hnv
        clear hnv
        have hb2 : Below w.heap.size w w2 := Below.grown (hbel.alloc (by omega) _) hgrow (by simp; omega) (owns_block hown)
        clear hgrow hown hbel
        go_wp2_with fail
        go_roundw
        case rel => exact ⟨done ++ [s.extract a k], k + 1, k + 1, by omega, by omega, by go_num, by go_num, by rw [HP.out, HQ.out]; simp, fun j hj h1 h2 => absurd h2 (by omega), by simp; omega, by rw [strs_snoc, List.length_append]; exact hown2, HV.out, hb2⟩
        case measure => simp [intOf]; omega
      · have e46 : ((s[k].toNat : Int) == 46) = false := beq_eq_false_iff_ne.mpr (fun e => hc (UInt8.toNat_inj.mp (by show s[k].toNat = 46; omega)))
        have HC : Hid _ := hc
        clear hc
        go_wp2_with fail
        go_roundw
        case rel => exact ⟨done, a, k + 1, by omega, by omega, rfl, by go_num, HP.out, fun j hj h1 h2 => by
          by_cases hjk : j = k
          · subst hjk; exact HC.out
          · exact HO.out j hj h1 (by omega), by omega, hown, HN.out, hbel⟩
        case measure => simp [intOf]; omega
    · have hk2 : k = s.size := by omega
      have hpr := pieces_rest s a (fun j hj h => HO.out j hj h (by omega))
      have has : (a : Int) ≤ (s.size : Int) := by omega
      have HQ : Hid _ := hpr
      clear hpr
      go_wp2_with (at_builtin; refine wpList_append_own _ rfl (.tmp 29) (.tmp 33) 42 rfl w.heap.size 9 i0 (.string ByteArray.empty) 1 16 Tryz.underlying42 hi hz0 hz1 hz2 rfl (by decide) _ _ _ rfl (hown.alloc _) ⟨wr.heap.size, 0, none⟩ 1 1 [.string (s.extract a s.size)] rfl rfl ?c1 ?c2 ?c3 ?c4 ?c5 ?_)
      case c1 =>
        intro j u hj
        match j, hj with
        | 0, hj => simp at hj; subst hj; simp [Addr.add, go_sem]
        | j + 1, hj => simp at hj
      case c2 => intro u hu; simp at hu; subst hu; rfl
      case c3 => unfold maxLen; omega
      case c4 => omega
      case c5 => simp; omega
      intro v' w2 hown2 hgrow hnv
      have hb2 : Below w.heap.size w w2 := Below.grown (hbel.alloc (by omega) _) hgrow (by simp; omega) (owns_block hown)
      have hpp : done ++ [s.extract a s.size] = pieces s := by rw [HP.out, HQ.out]
      have hown3 : w2.ownsRow w.heap.size 9 1 v' (pieces s).length (strs (pieces s)) := by
        rw [← hpp, strs_snoc, List.length_append]; exact hown2
      obtain ⟨g, cap, hv⟩ := owns_shape hown3 hnv
      subst hv
      have hgl := (hown3.lt g rfl).1
      have HO3 : Hid _ := readS_own hown3
      clear hgrow hown hbel hown2 hown3 hpp hnv
      go_wp2_with fail
      go_ret
      exact ⟨⟨g, cap, rfl, hgl, HO3.out⟩, hb2⟩

end Go.Proofs.YtdchhjnmhnehiaaGreatDoor

/- What the two functions that ask whether a text is a path answer, for every text. -/
namespace Go.Proofs.YtdchhjnmhnehiaaGreatDoor
open Go.RowKit
set_option linter.unusedVariables false

theorem pathB_long (s : ByteArray) (h : 50 < s.size) : pathB s = false := by
  unfold pathB; rw [decide_eq_false (by omega : ¬ s.size ≤ 50)]; simp
theorem pathB_many (s : ByteArray) (h : 4 < (pieces s).length) : pathB s = false := by
  unfold pathB; rw [decide_eq_false (by omega : ¬ (pieces s).length ≤ 4)]; simp
theorem pathB_few (s : ByteArray) (h : ¬ 50 < s.size) (h2 : ¬ 4 < (pieces s).length) : pathB s = (pieces s).all shortB := by
  unfold pathB; rw [decide_eq_true (by omega : s.size ≤ 50), decide_eq_true (by omega : (pieces s).length ≤ 4)]; simp

set_option maxHeartbeats 400000 in
theorem noShort_any (s : ByteArray) (w : World) (hs : s.size ≤ maxLen) :
    Calls Tryz.prog 82 #[.string s] w fun e w' => e = .returned (.bool (!shortB s)) ∧ w' = w := by
  go_enter Tryz.func82, Tryz.ntmps82
  go_wp2_with (go_at_call 63; refine (shortNameOK_any s _ hs).mono ?_; rintro e w1 ⟨rfl, rfl⟩)
  go_ret
  exact ⟨rfl, rfl⟩

theorem takeAll {α : Type} (p : α → Prop) (l : List α) (k : Nat) (h : k < l.length) (h1 : ∀ v ∈ l.take k, p v) (h2 : p l[k]) : ∀ v ∈ l.take (k + 1), p v := by
  intro v hv
  rw [List.take_succ_eq_append_getElem h] at hv
  rcases List.mem_append.mp hv with hv | hv
  · exact h1 v hv
  · simp at hv; subst hv; exact h2
theorem all_bad {α : Type} (p : α → Bool) (l : List α) (k : Nat) (hk : k < l.length) (h : p l[k] = false) : l.all p = false := by
  rw [Bool.eq_false_iff]; intro hh
  rw [List.all_eq_true] at hh
  have := hh l[k] (List.getElem_mem _)
  rw [h] at this; cases this

set_option maxRecDepth 4000 in
set_option maxHeartbeats 1000000 in
theorem indexNoShort_any (g cap : Nat) (l : List ByteArray) (w : World) (hr : ReadS w g 0 l) (hl : l.length ≤ 1048576) (hts : ∀ v ∈ l, v.size ≤ 1048576) :
    Calls Tryz.prog 104 #[.slice (some ⟨g, 0, none⟩) l.length cap, .func (.func 82) #[] #[]] w fun e w' => (∃ i : Int, e = .returned (.int .i64 i) ∧ decide (0 ≤ i) = !(l.all shortB)) ∧ Below w.heap.size w w' := by
  have HR : Hid _ := hr
  have HT : Hid _ := hts
  clear hr hts
  go_enter Tryz.func104, Tryz.ntmps104
  go_wp2_with fail
  go_loopw [8] (fun i wr => ∃ k : Nat, k ≤ l.length ∧ i = .int .i64 k ∧ (∀ v ∈ l.take k, shortB v = true) ∧ Below w.heap.size w wr) (fun i _ => l.length - (intOf i).toNat)
  case atStart => exact ⟨0, Nat.zero_le _, rfl, fun v hv => by simp at hv, Below.refl _ _⟩
  case round =>
    obtain ⟨k, hk, rfl, hall, hbel⟩ := hrel
    have HA : Hid _ := hall
    clear hall
    by_cases hlt : k < l.length
    · have x0 := (HR.out.next hbel).cells k hlt
      rw [Nat.zero_add] at x0
      have hs : l[k].size ≤ maxLen := by have := HT.out l[k] (List.getElem_mem _); unfold maxLen; omega
      cases hok : shortB l[k]
      · have HK : Hid (shortB l[k] = false) := hok
        have hal := all_bad shortB l k hlt hok
        have HL : Hid _ := hal
        clear hok hal
        go_wp2_with fail
        refine (noShort_any _ _ hs).mono ?_
        rintro e w1 ⟨rfl, rfl⟩
        rw [HK.out]
        go_wp2_with fail
        go_ret
        exact ⟨⟨k, rfl, by rw [HL.out]; exact decide_eq_true (by omega)⟩, by (repeat (first | (with_reducible exact Below.refl _ _) | (with_reducible assumption) | (with_reducible apply below_drewN) | (with_reducible apply Below.drew) | ((with_reducible refine Below.setCell ?_ ?_ _); rotate_left; focus (first | (simp; done) | (simp; omega) | omega)) | ((with_reducible refine Below.alloc ?_ ?_ _); rotate_left; focus (first | (simp; done) | (simp; omega) | omega))))⟩
      · have HK : Hid (shortB l[k] = true) := hok
        clear hok
        go_wp2_with fail
        refine (noShort_any _ _ hs).mono ?_
        rintro e w1 ⟨rfl, rfl⟩
        rw [HK.out]
        go_wp2_with fail
        go_roundw
        case rel => exact ⟨k + 1, by omega, by go_num, takeAll _ l k hlt HA.out HK.out, by (repeat (first | (with_reducible exact Below.refl _ _) | (with_reducible assumption) | (with_reducible apply below_drewN) | (with_reducible apply Below.drew) | ((with_reducible refine Below.setCell ?_ ?_ _); rotate_left; focus (first | (simp; done) | (simp; omega) | omega)) | ((with_reducible refine Below.alloc ?_ ?_ _); rotate_left; focus (first | (simp; done) | (simp; omega) | omega))))⟩
        case measure => simp [intOf]; omega
    · have e : l.take k = l := List.take_of_length_le (by omega)
      have hall := HA.out
      rw [e] at hall
      have hal : l.all shortB = true := List.all_eq_true.mpr hall
      have HL : Hid _ := hal
      clear hal hall HA e
      go_wp2_with fail
      go_ret
      exact ⟨⟨-1, rfl, by rw [HL.out]; rfl⟩, hbel⟩
set_option maxHeartbeats 400000 in
theorem anyNoShort_any (g cap : Nat) (l : List ByteArray) (w : World) (hr : ReadS w g 0 l) (hl : l.length ≤ 1048576) (hts : ∀ v ∈ l, v.size ≤ 1048576) :
    Calls Tryz.prog 81 #[.slice (some ⟨g, 0, none⟩) l.length cap, .func (.func 82) #[] #[]] w fun e w' => e = .returned (.bool (!(l.all shortB))) ∧ Below w.heap.size w w' := by
  go_enter Tryz.func81, Tryz.ntmps81
  go_wp2_with fail
  refine (indexNoShort_any g cap l w hr hl hts).mono ?_
  rintro e w1 ⟨⟨i, rfl, hi⟩, hb⟩
  go_wp2_with fail
  go_ret
  rw [← hi]
  exact ⟨rfl, hb⟩

set_option maxRecDepth 4000 in
set_option maxHeartbeats 1000000 in
theorem pathOK_any (s : ByteArray) (w : World) (hs : s.size ≤ 1048576) :
    Calls Tryz.prog 51 #[.string s] w fun e w' => e = .returned (.bool (pathB s)) ∧ Below w.heap.size w w' := by
  by_cases h50 : 50 < s.size
  · rw [pathB_long s h50]
    have hh : (50 : Int) < (s.size : Int) := by omega
    go_enter Tryz.func51, Tryz.ntmps51
    go_wp2_with fail
    go_ret
    exact ⟨rfl, Below.refl _ _⟩
  · have hh : ¬ (50 : Int) < (s.size : Int) := by omega
    have hle := pieces_len_le s
    have hpz := pieces_size s
    obtain ⟨L, hL⟩ : ∃ L, L = pieces s := ⟨_, rfl⟩
    have HP0 := namesOf_any s
    by_cases h4 : 4 < (pieces s).length
    · rw [pathB_many s h4]
      rw [← hL] at hle h4 HP0
      have hh4 : ¬ ((L.length : Nat) : Int) ≤ 4 := by omega
      have hd4 : decide (((L.length : Nat) : Int) ≤ 4) = false := by simp; omega
      have HP : Hid _ := HP0
      clear HP0 hL hpz
      go_enter Tryz.func51, Tryz.ntmps51
      go_wp2_with fail
      refine (HP.out _ hs).mono ?_
      rintro e w1 ⟨⟨g, cap, rfl, hg, R⟩, hb⟩
      clear R
      go_wp2_with fail
      go_ret
      exact ⟨rfl, hb⟩
    · rw [pathB_few s h50 h4]
      rw [← hL] at hle h4 HP0 hpz ⊢
      have hh4 : ((L.length : Nat) : Int) ≤ 4 := by omega
      have hd4 : decide (((L.length : Nat) : Int) ≤ 4) = true := by simp; omega
      have HP : Hid _ := HP0
      have HZ : Hid _ := hpz
      clear HP0 hL hpz
      go_enter Tryz.func51, Tryz.ntmps51
      go_wp2_with fail
      refine (HP.out _ hs).mono ?_
      rintro e w1 ⟨⟨g, cap, rfl, hg, R⟩, hb⟩
      have HR : Hid _ := R
      clear R
      go_wp2_with fail
      refine (anyNoShort_any g cap L _ HR.out (by omega) (fun v hv => by have := HZ.out v hv; omega)).mono ?_
      rintro e w2 ⟨rfl, hb2⟩
      go_wp2_with fail
      go_ret
      exact ⟨ret_bool (by simp), hb.trans (hb2.mono hb.size)⟩

set_option maxRecDepth 4000 in
set_option maxHeartbeats 1000000 in
theorem specPath_any (s : ByteArray) (w : World) (hs : s.size ≤ 1048576) :
    Calls Tryz.prog 30 #[.string s] w fun e w' => e = .returned (.bool (pathB s)) ∧ Below w.heap.size w w' := by
  by_cases hbig : 65536 < s.size
  · rw [pathB_long s (by omega)]
    have hh : (65536 : Int) < (s.size : Int) := by omega
    go_enter Tryz.func30, Tryz.ntmps30
    go_wp2_with fail
    go_ret
    exact ⟨rfl, Below.refl _ _⟩
  have hbg : ¬ (65536 : Int) < (s.size : Int) := by omega
  have hle := pieces_len_le s
  have hpz := pieces_size s
  obtain ⟨L, hL⟩ : ∃ L, L = pieces s := ⟨_, rfl⟩
  have HP0 := l00Cut_any s
  by_cases h4 : 4 < (pieces s).length
  · rw [pathB_many s h4]
    rw [← hL] at hle h4 HP0
    have hh4 : (4 : Int) < ((L.length : Nat) : Int) := by omega
    have hd4 : decide ((4 : Int) < ((L.length : Nat) : Int)) = true := by simp; omega
    have HP : Hid _ := HP0
    clear HP0 hL hpz
    go_enter Tryz.func30, Tryz.ntmps30
    go_wp2_with fail
    refine (HP.out _ hs).mono ?_
    rintro e w1 ⟨⟨g, cap, rfl, hg, R⟩, hb⟩
    clear R
    go_wp2_with fail
    go_ret
    exact ⟨rfl, hb⟩
  by_cases h50 : 50 < s.size
  · rw [pathB_long s h50]
    rw [← hL] at hle h4 HP0
    have hh4 : ¬ (4 : Int) < ((L.length : Nat) : Int) := by omega
    have hd4 : decide ((4 : Int) < ((L.length : Nat) : Int)) = false := by simp; omega
    have hd5 : decide ((50 : Int) < (s.size : Int)) = true := by simp; omega
    have HP : Hid _ := HP0
    clear HP0 hL hpz
    go_enter Tryz.func30, Tryz.ntmps30
    go_wp2_with fail
    refine (HP.out _ hs).mono ?_
    rintro e w1 ⟨⟨g, cap, rfl, hg, R⟩, hb⟩
    clear R
    go_wp2_with fail
    go_ret
    exact ⟨rfl, hb⟩
  rw [pathB_few s h50 h4]
  rw [← hL] at hle h4 HP0 hpz ⊢
  have hh4 : ¬ (4 : Int) < ((L.length : Nat) : Int) := by omega
  have hd4 : decide ((4 : Int) < ((L.length : Nat) : Int)) = false := by simp; omega
  have hd5 : decide ((50 : Int) < (s.size : Int)) = false := by simp; omega
  obtain ⟨P, hP⟩ : ∃ P, P = L.all shortB := ⟨_, rfl⟩
  rw [← hP]
  have HPP : Hid _ := hP
  have HP : Hid _ := HP0
  have HZ : Hid _ := hpz
  clear HP0 hL hpz hP
  go_enter Tryz.func30, Tryz.ntmps30
  go_wp2_with fail
  refine (HP.out _ hs).mono ?_
  rintro e w1 ⟨⟨g, cap, rfl, hg, R⟩, hb⟩
  have HR : Hid _ := R
  clear R
  go_wp2_with fail
  go_loopw [4] (fun i wr => ∃ k : Nat, k ≤ L.length ∧ i = .int .i64 k ∧ (∀ v ∈ L.take k, shortB v = true) ∧ Below w1.heap.size w1 wr) (fun i _ => L.length - (intOf i).toNat)
  case atStart => exact ⟨0, Nat.zero_le _, rfl, fun v hv => by simp at hv, Below.refl _ _⟩
  case round =>
    obtain ⟨k, hk, rfl, hall, hbel⟩ := hrel
    have HA : Hid _ := hall
    clear hall
    by_cases hlt : k < L.length
    · have x0 := (HR.out.next hbel).cells k hlt
      rw [Nat.zero_add] at x0
      have hsl : L[k].size ≤ maxLen := by have := HZ.out L[k] (List.getElem_mem _); unfold maxLen; omega
      cases hok : shortB L[k]
      · have HK : Hid (shortB L[k] = false) := hok
        have hal := all_bad shortB L k hlt hok
        have hp := HPP.out
        rw [hal] at hp
        subst hp
        clear hok hal HPP
        go_wp2_with fail
        refine (l01Name_any _ _ hsl).mono ?_
        rintro e w2 ⟨rfl, rfl⟩
        rw [HK.out]
        go_wp2_with fail
        go_ret
        exact ⟨rfl, hb.trans ((show Below w1.heap.size w1 _ by (repeat (first | (with_reducible exact Below.refl _ _) | (with_reducible assumption) | (with_reducible apply below_drewN) | (with_reducible apply Below.drew) | ((with_reducible refine Below.setCell ?_ ?_ _); rotate_left; focus (first | (simp; done) | (simp; omega) | omega)) | ((with_reducible refine Below.alloc ?_ ?_ _); rotate_left; focus (first | (simp; done) | (simp; omega) | omega))))).mono hb.size)⟩
      · have HK : Hid (shortB L[k] = true) := hok
        clear hok
        go_wp2_with fail
        refine (l01Name_any _ _ hsl).mono ?_
        rintro e w2 ⟨rfl, rfl⟩
        rw [HK.out]
        go_wp2_with fail
        go_roundw
        case rel => exact ⟨k + 1, by omega, by go_num, takeAll _ L k hlt HA.out HK.out, by (repeat (first | (with_reducible exact Below.refl _ _) | (with_reducible assumption) | (with_reducible apply below_drewN) | (with_reducible apply Below.drew) | ((with_reducible refine Below.setCell ?_ ?_ _); rotate_left; focus (first | (simp; done) | (simp; omega) | omega)) | ((with_reducible refine Below.alloc ?_ ?_ _); rotate_left; focus (first | (simp; done) | (simp; omega) | omega))))⟩
        case measure => simp [intOf]; omega
    · have e : L.take k = L := List.take_of_length_le (by omega)
      have hall := HA.out
      rw [e] at hall
      have hal : L.all shortB = true := List.all_eq_true.mpr hall
      have hp := HPP.out
      rw [hal] at hp
      subst hp
      clear hal hall HA e HPP
      go_wp2_with fail
      go_ret
      exact ⟨rfl, hb.trans ((show Below w1.heap.size w1 _ by (repeat (first | (with_reducible exact Below.refl _ _) | (with_reducible assumption) | (with_reducible apply below_drewN) | (with_reducible apply Below.drew) | ((with_reducible refine Below.setCell ?_ ?_ _); rotate_left; focus (first | (simp; done) | (simp; omega) | omega)) | ((with_reducible refine Below.alloc ?_ ?_ _); rotate_left; focus (first | (simp; done) | (simp; omega) | omega))))).mono hb.size)⟩

end Go.Proofs.YtdchhjnmhnehiaaGreatDoor

/- What the two functions that ask whether an operation is right answer, for every operation. -/
namespace Go.Proofs.YtdchhjnmhnehiaaGreatDoor
open Go.RowKit
set_option linter.unusedVariables false

/-- Block number w.heap.size of W holds five cells, and all that lay in w lies in W as it did. -/
structure Box5 (w W : World) (a b c d e : Value) : Prop where
  bel : Below w.heap.size w W
  lt : w.heap.size < W.heap.size
  c0 : W.cell? ⟨w.heap.size, 0, none⟩ = some a
  c1 : W.cell? ⟨w.heap.size, 1, none⟩ = some b
  c2 : W.cell? ⟨w.heap.size, 2, none⟩ = some c
  c3 : W.cell? ⟨w.heap.size, 3, none⟩ = some d
  c4 : W.cell? ⟨w.heap.size, 4, none⟩ = some e
theorem Box5.start (w : World) (a b c d e : Value) (T : TypeId) : Box5 w (w.alloc (.cells #[a, b, c, d, e] T)) a b c d e :=
  ⟨(Below.refl _ _).alloc (Nat.le_refl _) _, by simp, by simp [go_sem], by simp [go_sem], by simp [go_sem], by simp [go_sem], by simp [go_sem]⟩
theorem Box5.step {w W W' : World} {a b c d e : Value} (h : Box5 w W a b c d e) (hb : Below W.heap.size W W') : Box5 w W' a b c d e :=
  ⟨h.bel.trans (hb.mono h.bel.size), Nat.lt_of_lt_of_le h.lt hb.size, (hb.cell h.lt).trans h.c0, (hb.cell h.lt).trans h.c1, (hb.cell h.lt).trans h.c2, (hb.cell h.lt).trans h.c3, (hb.cell h.lt).trans h.c4⟩

/-- Does an operation take such a kind of value. -/
def takesB (op k : Int) : Bool :=
  if op = 1 then true else if op = 4 then true else if op = 5 then true else if op = 2 then decide (k = 0) else if op = 3 then decide (k = 2) else false
/-- Is an operation right. -/
def updB (op : Int) (p : ByteArray) (v : Val) : Bool := !(p.toList == [105, 100]) && (pathB p && (okB v && takesB op v.k))
theorem okB_null (n : Int) (t : ByteArray) (h : okB ⟨0, n, t⟩ = true) : n = 0 ∧ t = em := by
  have e : okB ⟨0, n, t⟩ = decide (n = 0 ∧ t.size = 0) := by
    unfold okB; rw [fits_base 5 _ (by show (0 : Int) ≠ 4; decide) (by show (0 : Int) ≠ 5; decide)]; rfl
  rw [e, decide_eq_true_eq] at h
  exact ⟨h.1, empty_of t h.2⟩

end Go.Proofs.YtdchhjnmhnehiaaGreatDoor

/- What the two functions that ask whether a term is right answer, for every term. -/
namespace Go.Proofs.YtdchhjnmhnehiaaGreatDoor
open Go.RowKit
set_option linter.unusedVariables false

/-- Does a term's operation take such a value. -/
def takesT (op k n : Int) : Bool :=
  if 1 ≤ op ∧ op ≤ 6 then true else if op = 7 then decide (k = 4) else if op = 8 then decide (k = 1) else if op = 9 then decide (k = 2 ∧ 0 ≤ n ∧ n ≤ 5) else if op = 10 then decide (k = 2 ∧ 0 ≤ n) else false
/-- Is a term right. -/
def termB (op : Int) (p : ByteArray) (v : Val) : Bool := pathB p && (okB v && takesT op v.k v.n)

set_option maxRecDepth 4000 in
set_option maxHeartbeats 1000000 in
theorem opTakes_any (op k n : Int) (t : ByteArray) (w : World) :
    Calls Tryz.prog 127 #[.int .i64 op, .agg #[.int .i64 k, .int .i64 n, .string t]] w fun e w' => e = .returned (.bool (takesT op k n)) ∧ Below w.heap.size w w' := by
  have hop : op = 1 ∨ op = 2 ∨ op = 3 ∨ op = 4 ∨ op = 5 ∨ op = 6 ∨ op = 7 ∨ op = 8 ∨ op = 9 ∨ op = 10 ∨ (op < 1 ∨ 10 < op) := by omega
  rcases hop with rfl | rfl | rfl | rfl | rfl | rfl | rfl | rfl | rfl | rfl | hop
  iterate 6
    · go_enter Tryz.func127, Tryz.ntmps127
      go_wp2_with fail
      go_ret
      exact ⟨rfl, by (repeat (first | (with_reducible exact Below.refl _ _) | (with_reducible assumption) | (with_reducible apply below_drewN) | (with_reducible apply Below.drew) | ((with_reducible refine Below.setCell ?_ ?_ _); rotate_left; focus (first | (simp; done) | (simp; omega) | omega)) | ((with_reducible refine Below.alloc ?_ ?_ _); rotate_left; focus (first | (simp; done) | (simp; omega) | omega))))⟩
  · obtain ⟨R, hR⟩ : ∃ R, R = takesT 7 k n := ⟨_, rfl⟩
    rw [← hR]
    have HR : Hid _ := hR
    clear hR
    go_enter Tryz.func127, Tryz.ntmps127
    go_wp2_with fail
    go_ret
    exact ⟨ret_bool (by rw [HR.out]; unfold takesT; rw [Bool.eq_iff_iff]; simp), by (repeat (first | (with_reducible exact Below.refl _ _) | (with_reducible assumption) | (with_reducible apply below_drewN) | (with_reducible apply Below.drew) | ((with_reducible refine Below.setCell ?_ ?_ _); rotate_left; focus (first | (simp; done) | (simp; omega) | omega)) | ((with_reducible refine Below.alloc ?_ ?_ _); rotate_left; focus (first | (simp; done) | (simp; omega) | omega))))⟩
  · obtain ⟨R, hR⟩ : ∃ R, R = takesT 8 k n := ⟨_, rfl⟩
    rw [← hR]
    have HR : Hid _ := hR
    clear hR
    go_enter Tryz.func127, Tryz.ntmps127
    go_wp2_with fail
    go_ret
    exact ⟨ret_bool (by rw [HR.out]; unfold takesT; rw [Bool.eq_iff_iff]; simp), by (repeat (first | (with_reducible exact Below.refl _ _) | (with_reducible assumption) | (with_reducible apply below_drewN) | (with_reducible apply Below.drew) | ((with_reducible refine Below.setCell ?_ ?_ _); rotate_left; focus (first | (simp; done) | (simp; omega) | omega)) | ((with_reducible refine Below.alloc ?_ ?_ _); rotate_left; focus (first | (simp; done) | (simp; omega) | omega))))⟩
  · by_cases hk : k = 2
    · by_cases h0 : 0 ≤ n
      · obtain ⟨R, hR⟩ : ∃ R, R = takesT 9 k n := ⟨_, rfl⟩
        rw [← hR]
        have HR : Hid _ := hR
        clear hR
        subst hk
        have h0' : ¬ n < 0 := by omega
        go_enter Tryz.func127, Tryz.ntmps127
        go_wp2_with fail
        go_ret
        exact ⟨ret_bool (by rw [HR.out]; unfold takesT; rw [Bool.eq_iff_iff]; simp; try omega), by (repeat (first | (with_reducible exact Below.refl _ _) | (with_reducible assumption) | (with_reducible apply below_drewN) | (with_reducible apply Below.drew) | ((with_reducible refine Below.setCell ?_ ?_ _); rotate_left; focus (first | (simp; done) | (simp; omega) | omega)) | ((with_reducible refine Below.alloc ?_ ?_ _); rotate_left; focus (first | (simp; done) | (simp; omega) | omega))))⟩
      · have hz : takesT 9 k n = false := by unfold takesT; simp; omega
        rw [hz]
        subst hk
        clear hz
        go_enter Tryz.func127, Tryz.ntmps127
        go_wp2_with fail
        go_ret
        exact ⟨rfl, by (repeat (first | (with_reducible exact Below.refl _ _) | (with_reducible assumption) | (with_reducible apply below_drewN) | (with_reducible apply Below.drew) | ((with_reducible refine Below.setCell ?_ ?_ _); rotate_left; focus (first | (simp; done) | (simp; omega) | omega)) | ((with_reducible refine Below.alloc ?_ ?_ _); rotate_left; focus (first | (simp; done) | (simp; omega) | omega))))⟩
    · have hz : takesT 9 k n = false := by unfold takesT; simp [hk]
      rw [hz]
      have hk0 : (k == 2) = false := beq_eq_false_iff_ne.mpr hk
      clear hz
      go_enter Tryz.func127, Tryz.ntmps127
      go_wp2_with fail
      go_ret
      exact ⟨rfl, by (repeat (first | (with_reducible exact Below.refl _ _) | (with_reducible assumption) | (with_reducible apply below_drewN) | (with_reducible apply Below.drew) | ((with_reducible refine Below.setCell ?_ ?_ _); rotate_left; focus (first | (simp; done) | (simp; omega) | omega)) | ((with_reducible refine Below.alloc ?_ ?_ _); rotate_left; focus (first | (simp; done) | (simp; omega) | omega))))⟩
  · by_cases hk : k = 2
    · obtain ⟨R, hR⟩ : ∃ R, R = takesT 10 k n := ⟨_, rfl⟩
      rw [← hR]
      have HR : Hid _ := hR
      clear hR
      subst hk
      go_enter Tryz.func127, Tryz.ntmps127
      go_wp2_with fail
      go_ret
      exact ⟨ret_bool (by rw [HR.out]; unfold takesT; rw [Bool.eq_iff_iff]; simp; try omega), by (repeat (first | (with_reducible exact Below.refl _ _) | (with_reducible assumption) | (with_reducible apply below_drewN) | (with_reducible apply Below.drew) | ((with_reducible refine Below.setCell ?_ ?_ _); rotate_left; focus (first | (simp; done) | (simp; omega) | omega)) | ((with_reducible refine Below.alloc ?_ ?_ _); rotate_left; focus (first | (simp; done) | (simp; omega) | omega))))⟩
    · have hz : takesT 10 k n = false := by unfold takesT; simp [hk]
      rw [hz]
      have hk0 : (k == 2) = false := beq_eq_false_iff_ne.mpr hk
      clear hz
      go_enter Tryz.func127, Tryz.ntmps127
      go_wp2_with fail
      go_ret
      exact ⟨rfl, by (repeat (first | (with_reducible exact Below.refl _ _) | (with_reducible assumption) | (with_reducible apply below_drewN) | (with_reducible apply Below.drew) | ((with_reducible refine Below.setCell ?_ ?_ _); rotate_left; focus (first | (simp; done) | (simp; omega) | omega)) | ((with_reducible refine Below.alloc ?_ ?_ _); rotate_left; focus (first | (simp; done) | (simp; omega) | omega))))⟩
  · have hz : takesT op k n = false := by unfold takesT; rw [if_neg (by omega), if_neg (by omega), if_neg (by omega), if_neg (by omega), if_neg (by omega)]
    rw [hz]
    have e1 : (op == 1) = false := beq_eq_false_iff_ne.mpr (by omega)
    have e2 : (op == 2) = false := beq_eq_false_iff_ne.mpr (by omega)
    have e3 : (op == 3) = false := beq_eq_false_iff_ne.mpr (by omega)
    have e4 : (op == 4) = false := beq_eq_false_iff_ne.mpr (by omega)
    have e5 : (op == 5) = false := beq_eq_false_iff_ne.mpr (by omega)
    have e6 : (op == 6) = false := beq_eq_false_iff_ne.mpr (by omega)
    have e7 : (op == 7) = false := beq_eq_false_iff_ne.mpr (by omega)
    have e8 : (op == 8) = false := beq_eq_false_iff_ne.mpr (by omega)
    have e9 : (op == 9) = false := beq_eq_false_iff_ne.mpr (by omega)
    have e10 : (op == 10) = false := beq_eq_false_iff_ne.mpr (by omega)
    clear hz hop
    go_enter Tryz.func127, Tryz.ntmps127
    go_wp2_with fail
    go_ret
    exact ⟨rfl, by (repeat (first | (with_reducible exact Below.refl _ _) | (with_reducible assumption) | (with_reducible apply below_drewN) | (with_reducible apply Below.drew) | ((with_reducible refine Below.setCell ?_ ?_ _); rotate_left; focus (first | (simp; done) | (simp; omega) | omega)) | ((with_reducible refine Below.alloc ?_ ?_ _); rotate_left; focus (first | (simp; done) | (simp; omega) | omega))))⟩

set_option maxRecDepth 4000 in
set_option maxHeartbeats 1000000 in
theorem termOK_any (op : Int) (p : ByteArray) (k n : Int) (t : ByteArray) (w : World) (hp : p.size ≤ 1048576) (ht : t.size ≤ 1048576) :
    Calls Tryz.prog 102 #[.agg #[.int .i64 op, .string p, .int .i64 k, .int .i64 n, .string t]] w fun e w' => e = .returned (.bool (termB op p ⟨k, n, t⟩)) ∧ Below w.heap.size w w' := by
  have X0 := Box5.start w (.int .i64 op) (.string p) (.int .i64 k) (.int .i64 n) (.string t) 85
  unfold termB
  cases hpb : pathB p
  case false =>
    have HPB : Hid _ := hpb
    clear hpb
    go_enter Tryz.func102, Tryz.ntmps102
    go_wp2_with fail
    refine (pathOK_any p _ hp).mono ?_
    rintro e w1 ⟨rfl, hb⟩
    rw [HPB.out]
    have X1 := X0.step hb
    clear hb X0
    go_wp2_with fail
    go_ret
    exact ⟨rfl, X1.bel⟩
  case true =>
  have HPB : Hid _ := hpb
  clear hpb
  cases hok : okB ⟨k, n, t⟩
  case false =>
    have HOK : Hid _ := hok
    clear hok
    go_enter Tryz.func102, Tryz.ntmps102
    go_wp2_with fail
    refine (pathOK_any p _ hp).mono ?_
    rintro e w1 ⟨rfl, hb⟩
    rw [HPB.out]
    have X1 := X0.step hb
    have c2 := X1.c2
    have c3 := X1.c3
    have c4 := X1.c4
    clear hb X0
    go_wp2_with fail
    refine (valueOK_any k n t _ (by unfold maxLen; omega)).mono ?_
    rintro e w2 ⟨rfl, hb⟩
    rw [HOK.out]
    have X2 := X1.step hb
    clear hb X1
    go_wp2_with fail
    go_ret
    exact ⟨rfl, X2.bel⟩
  case true =>
  have HOK : Hid _ := hok
  clear hok
  obtain ⟨R, hR⟩ : ∃ R, R = takesT op k n := ⟨_, rfl⟩
  have HR : Hid _ := hR
  show Calls _ _ _ _ fun e w' => e = .returned (.bool (true && (true && takesT op k n))) ∧ _
  rw [← hR]
  clear hR
  go_enter Tryz.func102, Tryz.ntmps102
  go_wp2_with fail
  refine (pathOK_any p _ hp).mono ?_
  rintro e w1 ⟨rfl, hb⟩
  rw [HPB.out]
  have X1 := X0.step hb
  have c2 := X1.c2
  have c3 := X1.c3
  have c4 := X1.c4
  clear hb X0
  go_wp2_with fail
  refine (valueOK_any k n t _ (by unfold maxLen; omega)).mono ?_
  rintro e w2 ⟨rfl, hb⟩
  rw [HOK.out]
  have X2 := X1.step hb
  have d0 := X2.c0
  have d2 := X2.c2
  have d3 := X2.c3
  have d4 := X2.c4
  clear hb X1 c2 c3 c4
  go_wp2_with fail
  refine (opTakes_any op k n t _).mono ?_
  rintro e w3 ⟨rfl, hb⟩
  rw [← HR.out]
  have X3 := X2.step hb
  clear hb X2
  go_wp2_with fail
  go_ret
  exact ⟨ret_bool (by simp), X3.bel⟩

set_option maxRecDepth 4000 in
set_option maxHeartbeats 2000000 in
theorem specTerm_any (op : Int) (p : ByteArray) (k n : Int) (t : ByteArray) (w : World) (hp : p.size ≤ 1048576) (ht : t.size ≤ 1048576) :
    Calls Tryz.prog 55 #[.agg #[.int .i64 op, .string p, .int .i64 k, .int .i64 n, .string t]] w fun e w' => e = .returned (.bool (termB op p ⟨k, n, t⟩)) ∧ Below w.heap.size w w' := by
  have X0 := Box5.start w (.int .i64 op) (.string p) (.int .i64 k) (.int .i64 n) (.string t) 85
  by_cases hbig : 65536 < p.size
  · have hz : termB op p ⟨k, n, t⟩ = false := by unfold termB; rw [pathB_long p (by omega)]; simp
    rw [hz]
    have hb : (65536 : Int) < (p.size : Int) := by omega
    go_enter Tryz.func55, Tryz.ntmps55
    go_wp2_with fail
    go_ret
    exact ⟨rfl, X0.bel⟩
  have hsm : ¬ (65536 : Int) < (p.size : Int) := by omega
  cases hpb : pathB p
  · have hz : termB op p ⟨k, n, t⟩ = false := by unfold termB; rw [hpb]; simp
    rw [hz]
    have HPB : Hid _ := hpb
    clear hpb hz
    go_enter Tryz.func55, Tryz.ntmps55
    go_wp2_with fail
    refine (specPath_any p _ hp).mono ?_
    rintro e w2 ⟨rfl, hb⟩
    rw [HPB.out]
    have X1 := X0.step hb
    clear hb X0
    go_wp2_with fail
    go_ret
    exact ⟨rfl, X1.bel⟩
  have HPB : Hid _ := hpb
  cases hok : okB ⟨k, n, t⟩
  · have hz : termB op p ⟨k, n, t⟩ = false := by unfold termB; rw [hok]; simp
    rw [hz]
    have HOK : Hid _ := hok
    clear hpb hz hok
    go_enter Tryz.func55, Tryz.ntmps55
    go_wp2_with fail
    refine (specPath_any p _ hp).mono ?_
    rintro e w2 ⟨rfl, hb⟩
    rw [HPB.out]
    have X1 := X0.step hb
    have c2 := X1.c2
    have c3 := X1.c3
    have c4 := X1.c4
    clear hb X0
    go_wp2_with fail
    refine (specValueOK_any k n t _ ht).mono ?_
    rintro e w3 ⟨rfl, hb⟩
    rw [HOK.out]
    have X2 := X1.step hb
    clear hb X1
    go_wp2_with fail
    go_ret
    exact ⟨rfl, X2.bel⟩
  have hz : termB op p ⟨k, n, t⟩ = takesT op k n := by unfold termB; rw [hpb, hok]; simp
  rw [hz]
  have HOK : Hid _ := hok
  obtain ⟨R, hR⟩ : ∃ R, R = takesT op k n := ⟨_, rfl⟩
  rw [← hR]
  have HR : Hid _ := hR
  clear hpb hz hok hR
  go_enter Tryz.func55, Tryz.ntmps55
  go_wp2_with fail
  refine (specPath_any p _ hp).mono ?_
  rintro e w2 ⟨rfl, hb⟩
  rw [HPB.out]
  have X1 := X0.step hb
  have c2 := X1.c2
  have c3 := X1.c3
  have c4 := X1.c4
  clear hb X0
  go_wp2_with fail
  refine (specValueOK_any k n t _ ht).mono ?_
  rintro e w3 ⟨rfl, hb⟩
  rw [HOK.out]
  have X2 := X1.step hb
  have d0 := X2.c0
  have d2 := X2.c2
  have d3 := X2.c3
  have hz2 := X2.bel.size
  clear hb X1 c2 c3 c4
  have hop : op = 1 ∨ op = 2 ∨ op = 3 ∨ op = 4 ∨ op = 5 ∨ op = 6 ∨ op = 7 ∨ op = 8 ∨ op = 9 ∨ op = 10 ∨ (op < 1 ∨ 10 < op) := by omega
  rcases hop with rfl | rfl | rfl | rfl | rfl | rfl | rfl | rfl | rfl | rfl | hop
  iterate 6
    · go_wp2_with fail
      go_ret
      exact ⟨ret_bool (by rw [HR.out]; rfl), X2.bel⟩
  iterate 2
    · go_wp2_with fail
      go_ret
      exact ⟨ret_bool (by rw [HR.out]; unfold takesT; rw [Bool.eq_iff_iff]; simp), X2.bel⟩
  · by_cases hk : k = 2
    · subst hk
      go_wp2_with fail
      refine (l01In_any n 0 5 _).mono ?_
      rintro e w4 ⟨rfl, rfl⟩
      have hRd : R = decide (0 ≤ n ∧ n ≤ 5) := by rw [HR.out]; unfold takesT; simp
      rw [← hRd]
      clear hRd
      go_wp2_with fail
      go_ret
      exact ⟨rfl, X2.bel⟩
    · have hk0 : (k == 2) = false := beq_eq_false_iff_ne.mpr hk
      have hRf : R = false := by rw [HR.out]; unfold takesT; simp [hk]
      clear HR
      subst hRf
      go_wp2_with fail
      go_ret
      exact ⟨rfl, X2.bel⟩
  · by_cases hk : k = 2
    · subst hk
      go_wp2_with fail
      go_ret
      exact ⟨ret_bool (by rw [HR.out]; unfold takesT; rw [Bool.eq_iff_iff]; simp; try omega), X2.bel⟩
    · have hk0 : (k == 2) = false := beq_eq_false_iff_ne.mpr hk
      have hRf : R = false := by rw [HR.out]; unfold takesT; simp [hk]
      clear HR
      subst hRf
      go_wp2_with fail
      go_ret
      exact ⟨rfl, X2.bel⟩
  · have hRf : R = false := by rw [HR.out]; unfold takesT; rw [if_neg (by omega), if_neg (by omega), if_neg (by omega), if_neg (by omega), if_neg (by omega)]
    have e1 : (op == 1) = false := beq_eq_false_iff_ne.mpr (by omega)
    have e2 : (op == 2) = false := beq_eq_false_iff_ne.mpr (by omega)
    have e3 : (op == 3) = false := beq_eq_false_iff_ne.mpr (by omega)
    have e4 : (op == 4) = false := beq_eq_false_iff_ne.mpr (by omega)
    have e5 : (op == 5) = false := beq_eq_false_iff_ne.mpr (by omega)
    have e6 : (op == 6) = false := beq_eq_false_iff_ne.mpr (by omega)
    have e7 : (op == 7) = false := beq_eq_false_iff_ne.mpr (by omega)
    have e8 : (op == 8) = false := beq_eq_false_iff_ne.mpr (by omega)
    have e9 : (op == 9) = false := beq_eq_false_iff_ne.mpr (by omega)
    have e10 : (op == 10) = false := beq_eq_false_iff_ne.mpr (by omega)
    clear HR hop
    subst hRf
    go_wp2_with fail
    go_ret
    exact ⟨rfl, X2.bel⟩

end Go.Proofs.YtdchhjnmhnehiaaGreatDoor

/- The interval of a term, said plainly. -/
namespace Go.Proofs.YtdchhjnmhnehiaaGreatDoor
open Go.RowKit
set_option linter.unusedVariables false

/-- What begins with a kind's first byte; what begins with a value's key. -/
def kindI (k : Int) (desc : Bool) : Ivl := beginI (dirK desc [kb k])
def oneI (v : Val) (desc : Bool) : Ivl := beginI (dirK desc (keyV 5 v))
/-- The part of a kind's interval that lies on one side of a value. -/
def ordT (op : Int) (v : Val) (desc : Bool) : Ivl :=
  if (decide (op = 5 ∨ op = 6)) != desc then ⟨if op = 4 ∨ op = 6 then (oneI v desc).lo else (oneI v desc).hi, (kindI v.k desc).hi, false⟩
  else ⟨(kindI v.k desc).lo, if op = 4 ∨ op = 6 then (oneI v desc).hi else (oneI v desc).lo, false⟩
def tintI (op : Int) (v : Val) (desc : Bool) : Ivl :=
  if op = 1 then oneI v desc else if op = 9 then kindI v.n desc else if 3 ≤ op ∧ op ≤ 6 then ordT op v desc else ⟨em, em, true⟩
def tintP (op : Int) (p : ByteArray) (v : Val) (desc : Bool) : Ivl × Int := if termB op p v = true then (tintI op v desc, 0) else (⟨em, em, false⟩, 1)
theorem tintP_ok (op : Int) (p : ByteArray) (v : Val) (desc : Bool) (h : termB op p v = true) : tintP op p v desc = (tintI op v desc, 0) := by unfold tintP; rw [if_pos h]
theorem tintP_bad (op : Int) (p : ByteArray) (v : Val) (desc : Bool) (h : termB op p v = false) : tintP op p v desc = (⟨em, em, false⟩, 1) := by unfold tintP; rw [h]; rfl

theorem beh_head (c : UInt8) (r : List UInt8) (hc : c < 255) : ∀ n : Nat, (behN (c :: r) (n + 1)).2 = true ∧ ((behN (c :: r) (n + 1)).1 = [c + 1] ∨ ∃ s, (behN (c :: r) (n + 1)).1 = c :: s)
  | 0 => by
    have e : behN (c :: r) 1 = ([c + 1], true) := by rw [behN]; simp [hc]
    rw [e]; exact ⟨rfl, .inl rfl⟩
  | n + 1 => by
    rw [behN]
    split
    · exact ⟨rfl, .inr ⟨_, rfl⟩⟩
    · exact beh_head c r hc n
theorem fits_kind (v : Val) (h : okB v = true) : 0 ≤ v.k ∧ v.k ≤ 5 := by
  by_cases h4 : v.k = 4
  · omega
  · by_cases h5 : v.k = 5
    · omega
    · unfold okB at h
      rw [fits_base 5 v h4 h5] at h
      unfold base at h
      split at h
      · omega
      · split at h
        · omega
        · split at h
          · omega
          · split at h
            · omega
            · cases h
theorem kb_lit (k : Int) (h0 : 0 ≤ k) (h5 : k ≤ 5) : (kb k).toNat = (k + 1).toNat := by
  unfold kb; rw [UInt8.toNat_ofNat']; omega
theorem key_head (v : Val) : ∃ r, keyV 5 v = kb v.k :: r := by
  rw [keyV]
  split
  · rename_i h; rw [h]; exact ⟨_, rfl⟩
  · split
    · rename_i h; rw [h]; exact ⟨_, rfl⟩
    · exact ⟨_, rfl⟩
theorem dir_head (desc : Bool) (k : Int) (h0 : 0 ≤ k) (h5 : k ≤ 5) (r : List UInt8) : ∃ c r', c < 255 ∧ dirK desc [kb k] = [c] ∧ dirK desc (kb k :: r) = c :: r' := by
  have hk := kb_lit k h0 h5
  cases desc
  · exact ⟨kb k, r, by rw [UInt8.lt_iff_toNat_lt, hk]; show (k + 1).toNat < 255; omega, rfl, rfl⟩
  · refine ⟨255 - kb k, turnL r, ?_, rfl, rfl⟩
    rw [UInt8.lt_iff_toNat_lt]
    have := turn_nat (kb k)
    rw [hk] at this
    show _ < 255
    omega
theorem kind_begin (k : Int) (desc : Bool) (h0 : 0 ≤ k) (h5 : k ≤ 5) : ∃ c, c < 255 ∧ kindI k desc = ⟨mkB [c], mkB [c + 1], false⟩ := by
  obtain ⟨c, _, hc, e, _⟩ := dir_head desc k h0 h5 []
  refine ⟨c, hc, ?_⟩
  unfold kindI beginI
  rw [e]
  have e2 : behN [c] 1 = ([c + 1], true) := by rw [behN]; simp [hc]
  show (⟨mkB [c], mkB (behN [c] 1).1, !(behN [c] 1).2⟩ : Ivl) = _
  rw [e2]; rfl
/-- A right value's key and its kind's first byte: what a term's interval needs of them. -/
theorem one_begin (v : Val) (desc : Bool) (h : okB v = true) : ∃ c r s, c < 255 ∧ kindI v.k desc = ⟨mkB [c], mkB [c + 1], false⟩ ∧ oneI v desc = ⟨mkB (c :: r), mkB s, false⟩ ∧ (s = [c + 1] ∨ ∃ s', s = c :: s') := by
  obtain ⟨h0, h5⟩ := fits_kind v h
  obtain ⟨r0, hr⟩ := key_head v
  obtain ⟨c, r, hc, e1, e2⟩ := dir_head desc v.k h0 h5 r0
  have e3 : behN [c] 1 = ([c + 1], true) := by rw [behN]; simp [hc]
  have hh := beh_head c r hc r.length
  refine ⟨c, r, (behN (c :: r) (r.length + 1)).1, hc, ?_, ?_, hh.2⟩
  · unfold kindI beginI
    rw [e1]
    show (⟨mkB [c], mkB (behN [c] 1).1, !(behN [c] 1).2⟩ : Ivl) = _
    rw [e3]; rfl
  · unfold oneI beginI
    rw [hr, e2]
    show (⟨mkB (c :: r), mkB (behN (c :: r) (r.length + 1)).1, !(behN (c :: r) (r.length + 1)).2⟩ : Ivl) = _
    rw [hh.1]; rfl
theorem max_em (x : List UInt8) : Lib.maxS (mkB x) em = mkB x := by
  unfold Lib.maxS
  rw [if_neg]
  show ¬ ((mkB x).data.toList < [])
  exact List.not_lt_nil _
theorem up_not (c : UInt8) (hc : c < 255) (s : List UInt8) (hs : s = [c + 1] ∨ ∃ s', s = c :: s') : Lib.minS (mkB [c + 1]) (mkB s) = mkB s := by
  unfold Lib.minS
  rw [mkB_data, mkB_data]
  split
  · rename_i h
    rcases hs with rfl | ⟨s', rfl⟩
    · rfl
    · exfalso
      have hn : (((c + 1 : UInt8).toNat : Nat) : Int) = (c.toNat : Int) + 1 := succ_byte c hc
      rcases h with h | h
      · rw [List.cons_lt_cons_iff] at h
        rcases h with h | ⟨h, _⟩
        · rw [UInt8.lt_iff_toNat_lt] at h; omega
        · rw [h] at hn; omega
      · injection h with h _
        rw [h] at hn; omega
  · rfl
theorem num_kb (k : Int) (h0 : 0 ≤ k) (h5 : k ≤ 5) : txt (numB (k + 1) 1) = mkB [kb k] := by
  have hh : k = 0 ∨ k = 1 ∨ k = 2 ∨ k = 3 ∨ k = 4 ∨ k = 5 := by omega
  rcases hh with rfl | rfl | rfl | rfl | rfl | rfl <;> rfl
theorem own_one (w : World) (z : UInt8) (base : Nat) (hb : base ≤ w.heap.size) : (w.alloc (.cells #[.int .u8 (z.toNat : Nat)] 5)).ownsRow base 5 1 (.slice (some ⟨w.heap.size, 0, none⟩) 1 1) 1 (Lib.byteCells [z]) :=
  ⟨rfl, .inr ⟨w.heap.size, 1, #[.int .u8 (z.toNat : Nat)], rfl, hb, heap_alloc_new w _, Nat.le_refl _, by unfold maxLen; omega, rfl, rfl⟩⟩

end Go.Proofs.YtdchhjnmhnehiaaGreatDoor

/- What the laws' own small helpers on terms answer. -/
namespace Go.Proofs.YtdchhjnmhnehiaaGreatDoor
open Go.RowKit
set_option linter.unusedVariables false

end Go.Proofs.YtdchhjnmhnehiaaGreatDoor
