/- What the library's parting of a text at its points answers, and the program's and the specification's own. -/
import Derived.Test.YtcggkeleaepebaaGreatDoorSplitM
import Derived.Test.YtcggkeleaepebaaGreatDoorItems
import Derived.Lib.Bytealg
import Derived.Deep.OwnRows
namespace Go.Proofs.YtcggkeleaepebaaGreatDoor
open Go.RowKit
set_option linter.unusedVariables false

set_option maxRecDepth 4000 in
set_option maxHeartbeats 1000000 in
theorem countDot_any (s : ByteArray) (w : World) :
    Calls Tryz.prog 217 #[.string s, .string ⟨#[46]⟩] w fun e w' => e = .returned (.int .i64 (Lib.countByte s.data.toList 46)) ∧ w' = w := by
  go_enter Tryz.func217, Tryz.ntmps217
  go_wp2
  rw [run_callFunc_extern Tryz.func224 (by kernel_rfl) (by kernel_rfl) (by kernel_rfl) (e := Extern.BytealgCount.count) (by kernel_rfl), Lib.run_countString]
  simp only [Result.andThen]
  rw [Oper.upon_value]
  go_wp2
  go_ret
  exact ⟨rfl, rfl⟩
set_option maxRecDepth 4000 in
set_option maxHeartbeats 1000000 in
theorem indexByte_any (s : ByteArray) (w : World) :
    Calls Tryz.prog 227 #[.string s, .int .u8 46] w fun e w' => e = .returned (.int .i64 (Lib.indexByte s.data.toList 46)) ∧ w' = w := by
  go_enter Tryz.func227, Tryz.ntmps227
  go_wp2
  rw [run_callFunc_extern Tryz.func231 (by kernel_rfl) (by kernel_rfl) (by kernel_rfl) (e := Extern.BytealgIndexByte.indexByte) (by kernel_rfl), Lib.run_indexByteString]
  simp only [Result.andThen]
  rw [Oper.upon_value]
  go_wp2
  go_ret
  exact ⟨rfl, rfl⟩
theorem index_one_eq (s : ByteArray) (h : ([46] == s.toList) = true) : Lib.indexByte s.data.toList 46 = 0 := by
  have e : s.data.toList = [46] := by rw [← ByteArray.toList_eq]; exact (beq_iff_eq.1 h).symm
  rw [e]; rfl
set_option maxRecDepth 4000 in
set_option maxHeartbeats 1000000 in
theorem liteIndex_any (s : ByteArray) (w : World) :
    Calls Tryz.prog 225 #[.string s, .string ⟨#[46]⟩] w fun e w' => e = .returned (.int .i64 (Lib.indexByte s.data.toList 46)) ∧ w' = w := by
  go_enter Tryz.func225, Tryz.ntmps225
  go_wp2_with (go_at_call 227; refine (indexByte_any _ _).mono ?_; rintro e w' ⟨rfl, rfl⟩)
  · have h : ([46] == s.toList) = true := by assumption
    go_ret
    refine ⟨?_, rfl⟩
    rw [index_one_eq s h]
    rfl
  · go_ret
    exact ⟨rfl, rfl⟩
set_option maxRecDepth 4000 in
set_option maxHeartbeats 1000000 in
theorem strIndex_any (s : ByteArray) (w : World) :
    Calls Tryz.prog 218 #[.string s, .string ⟨#[46]⟩] w fun e w' => e = .returned (.int .i64 (Lib.indexByte s.data.toList 46)) ∧ w' = w := by
  go_enter Tryz.func218, Tryz.ntmps218
  go_wp2_with (go_at_call 225; refine (liteIndex_any _ _).mono ?_; rintro e w' ⟨rfl, rfl⟩)
  go_ret
  exact ⟨rfl, rfl⟩

theorem pieces_one (s : ByteArray) (h : (pieces s).length = 1) : pieces s = [s] := by
  have hge := Lib.indexByte_ge s.data.toList 46
  by_cases h1 : Lib.indexByte s.data.toList 46 = -1
  · exact pieces_miss s h1
  · obtain ⟨i, hi⟩ : ∃ i : Nat, Lib.indexByte s.data.toList 46 = i := ⟨(Lib.indexByte s.data.toList 46).toNat, by omega⟩
    have e := (pieces_hit s i hi).2
    rw [e, List.length_cons, pieces_len] at h
    omega
theorem pieces_more (s : ByteArray) (h : 1 < (pieces s).length) : ∃ i : Nat, Lib.indexByte s.data.toList 46 = i ∧ i < s.size ∧ pieces s = s.extract 0 i :: pieces (s.extract (i + 1) s.size) := by
  have hge := Lib.indexByte_ge s.data.toList 46
  by_cases h1 : Lib.indexByte s.data.toList 46 = -1
  · rw [pieces_miss s h1] at h; simp at h
  · obtain ⟨i, hi⟩ : ∃ i : Nat, Lib.indexByte s.data.toList 46 = i := ⟨(Lib.indexByte s.data.toList 46).toNat, by omega⟩
    exact ⟨i, hi, pieces_hit s i hi⟩

theorem infoS : (Tryz.prog.info? 9).map (fun i => (i.zero, i.size, i.bytes)) = some (some (.string ByteArray.empty), 1, 16) := by kernel_rfl

set_option maxRecDepth 8000 in
set_option maxHeartbeats 2000000 in
theorem genSplit_any (s : ByteArray) (w : World) (hs : s.size ≤ 1048576) :
    Calls Tryz.prog 206 #[.string s, .string ⟨#[46]⟩, .int .i64 0, .int .i64 (-1)] w fun e w' =>
      e = .returned (.slice (some ⟨w.heap.size, 0, none⟩) (pieces s).length (pieces s).length) ∧ w' = w.alloc (.cells (Lib.cellsOf (pieces s) (pieces s).length) 9) := by
  obtain ⟨N, hN⟩ : ∃ N, N = (pieces s).length := ⟨_, rfl⟩
  have hle := pieces_len_le s
  have hcn : ((Lib.countByte s.data.toList 46 : Nat) : Int) + 1 = (N : Int) := by
    rw [hN, pieces_len]; unfold Lib.countByte; omega
  obtain ⟨C, hC⟩ : ∃ C, C = Lib.countByte s.data.toList 46 := ⟨_, rfl⟩
  rw [← hC] at hcn
  have c := countDot_any s w
  rw [← hC] at c
  rw [← hN] at hle ⊢
  have hN1 : 1 ≤ N := by omega
  have hCb : C ≤ 1048576 := by omega
  have hmin : min (N : Int) ((s.size : Int) + 1) = (N : Int) := by omega
  have hmk := run_make_row' (P := Tryz.prog) 173 9 (.string ByteArray.empty) 16 Tryz.underlying173 infoS rfl .i64 .i64 N (by omega) (by omega)
  have HC : Hid (Calls _ _ _ _ _) := c
  have HN : Hid _ := hN
  clear hC c hN
  go_enter Tryz.func206, Tryz.ntmps206
  go_wp2_with fail
  refine HC.out.mono ?_
  rintro e w' ⟨rfl, hw⟩
  rw [hw]
  clear hw
  go_wp2_with fail
  clear hmk HC hcn hmin hCb
  go_loopw [0, 10] (fun s0 s10 wr => ∃ (done : List ByteArray) (rest : ByteArray), s0 = .string rest ∧ s10 = .int .i64 done.length ∧ done.length ≤ N - 1 ∧ rest.size ≤ s.size ∧
      wr = w.alloc (.cells (Lib.cellsOf done N) 9) ∧ done ++ pieces rest = pieces s) (fun _ i _ => N - (intOf i).toNat)
  case atStart => exact ⟨[], s, rfl, rfl, Nat.zero_le _, Nat.le_refl _, by rw [Lib.cellsOf_nil], rfl⟩
  case round =>
    obtain ⟨done, rest, rfl, rfl, hd, hrs, rfl, hsp⟩ := hrel
    have hnext : (Lib.cellsOf done N)[done.length]? = some (.string ByteArray.empty) := Lib.cellsOf_next (by omega)
    have hlr : (pieces rest).length + done.length = N := by rw [HN.out, ← hsp, List.length_append]; omega
    have HS : Hid _ := hsp
    clear hsp
    by_cases hlt : done.length < N - 1
    · have hltz : ((done.length : Nat) : Int) < (N : Int) - 1 := by omega
      obtain ⟨i, hix, hroom, hpc⟩ := pieces_more rest (by omega)
      have HI : Hid _ := hix
      have HP : Hid _ := hpc
      clear hix hpc
      have c0 : ¬ ((i : Int) < 0) := by omega
      have c2 : ((i : Int)) ≤ ↑rest.size := by omega
      have c4 : ((i : Int) + 1) ≤ ↑rest.size := by omega
      go_wp2_with (first | (go_at_call 218; refine (strIndex_any rest _).mono ?_; rintro e w' ⟨rfl, hw⟩; rw [hw, HI.out]))
      go_roundw
      case rel =>
        refine ⟨done ++ [rest.extract 0 i], rest.extract (i + 1) rest.size, rfl, by simp, by simp; omega, by rw [ByteArray.size_extract]; omega, by rw [← Lib.cellsOf_set (by omega)], ?_⟩
        rw [← HS.out, HP.out]
        simp
      case measure => simp [intOf]; omega
    · have hltz : ¬ (((done.length : Nat) : Int) < (N : Int) - 1) := by omega
      have hone := pieces_one rest (by omega)
      have hfin : (Lib.cellsOf done N).setIfInBounds done.length (.string rest) = Lib.cellsOf (pieces s) N := by
        rw [← HS.out, hone]; exact Lib.cellsOf_set (by omega) rest
      have HF : Hid _ := hfin
      have hdl : done.length + 1 = N := by omega
      clear hone hfin
      go_wp2
      go_ret
      rw [← HF.out]
      exact ⟨by first | (rw [← hdl]; rfl) | (congr 2 <;> omega), rfl⟩
/-- Texts that lie one behind the other from a place of a block on. -/
structure ReadS (w : World) (g off : Nat) (l : List ByteArray) : Prop where
  lt : g < w.heap.size
  cells : ∀ i (h : i < l.length), w.cell? ⟨g, off + i, none⟩ = some (.string l[i])
theorem ReadS.step {w w' : World} {g off base : Nat} {l : List ByteArray} (h : ReadS w g off l) (hb : Below base w w') (hg : g < base) : ReadS w' g off l :=
  ⟨Nat.lt_of_lt_of_le h.lt hb.size, fun i hi => (hb.cell hg).trans (h.cells i hi)⟩
theorem ReadS.next {w w' : World} {g off : Nat} {l : List ByteArray} (h : ReadS w g off l) (hb : Below w.heap.size w w') : ReadS w' g off l := h.step hb h.lt
theorem ReadS.tail {w : World} {g off : Nat} {x : ByteArray} {l : List ByteArray} (h : ReadS w g off (x :: l)) : ReadS w g (off + 1) l :=
  ⟨h.lt, fun i hi => by have := h.cells (i + 1) (by simpa using hi); rw [show off + 1 + i = off + (i + 1) by omega]; simpa using this⟩
theorem readS_alloc (w : World) (l : List ByteArray) (T : TypeId) : ReadS (w.alloc (.cells (Lib.cellsOf l l.length) T)) w.heap.size 0 l := by
  refine ⟨by simp, fun i hi => ?_⟩
  have e : (Lib.cellsOf l l.length)[i]? = some (.string l[i]) := by
    unfold Lib.cellsOf
    rw [List.getElem?_toArray, List.getElem?_append_left (by simpa using hi)]
    simp [List.getElem?_eq_getElem hi]
  rw [Nat.zero_add]
  simp [go_sem, e]

set_option maxRecDepth 4000 in
set_option maxHeartbeats 1000000 in
theorem split_any (s : ByteArray) (w : World) (hs : s.size ≤ 1048576) :
    Calls Tryz.prog 190 #[.string s, .string ⟨#[46]⟩] w fun e w' =>
      e = .returned (.slice (some ⟨w.heap.size, 0, none⟩) (pieces s).length (pieces s).length) ∧ w' = w.alloc (.cells (Lib.cellsOf (pieces s) (pieces s).length) 9) := by
  go_enter Tryz.func190, Tryz.ntmps190
  go_wp2_with (go_at_call 206; refine (genSplit_any s _ hs).mono ?_; rintro e w' ⟨rfl, rfl⟩)
  go_ret
  exact ⟨rfl, rfl⟩
set_option maxRecDepth 4000 in
set_option maxHeartbeats 1000000 in
theorem namesOf_any (s : ByteArray) (w : World) (hs : s.size ≤ 1048576) :
    Calls Tryz.prog 174 #[.string s] w fun e w' => (∃ g cap, e = .returned (.slice (some ⟨g, 0, none⟩) (pieces s).length cap) ∧ w.heap.size ≤ g ∧ ReadS w' g 0 (pieces s)) ∧ Below w.heap.size w w' := by
  go_enter Tryz.func174, Tryz.ntmps174
  go_wp2_with (go_at_call 190; refine (split_any s _ hs).mono ?_; rintro e w' ⟨rfl, rfl⟩)
  go_ret
  exact ⟨⟨_, _, rfl, Nat.le_refl _, readS_alloc _ _ _⟩, (Below.refl _ _).alloc (Nat.le_refl _) _⟩

end Go.Proofs.YtcggkeleaepebaaGreatDoor
