/- What the library's parting of a text at its points answers, and the program's and the specification's own. -/
import Derived.Test.YtpfbepbmiillbaaGreatDoorRowVR
import Derived.Test.YtpfbepbmiillbaaGreatDoorFitsWQ
import Derived.Lib.Bytealg
import Derived.Deep.OwnRows
import Derived.Test.YtpfbepbmiillbaaGreatDoorChgBQ
import Derived.Test.YtpfbepbmiillbaaGreatDoorFindMR
namespace Go.Proofs.YtpfbepbmiillbaaGreatDoor
open Go.RowKit
set_option linter.unusedVariables false

set_option maxRecDepth 4000 in
set_option maxHeartbeats 1000000 in
theorem countDot_any (s : ByteArray) (w : World) :
    Calls Tryz.prog 253 #[.string s, .string ⟨#[46]⟩] w fun e w' => e = .returned (.int .i64 (Lib.countByte s.data.toList 46)) ∧ w' = w := by
  go_enter Tryz.func253, Tryz.ntmps253
  go_wp2
  rw [run_callFunc_extern Tryz.func260 (by kernel_rfl) (by kernel_rfl) (by kernel_rfl) (e := Extern.BytealgCount.count) (by kernel_rfl), Lib.run_countString]
  simp only [Result.andThen]
  rw [Oper.upon_value]
  go_wp2
  go_ret
  exact ⟨rfl, rfl⟩
set_option maxRecDepth 4000 in
set_option maxHeartbeats 1000000 in
theorem indexByte_any (s : ByteArray) (w : World) :
    Calls Tryz.prog 263 #[.string s, .int .u8 46] w fun e w' => e = .returned (.int .i64 (Lib.indexByte s.data.toList 46)) ∧ w' = w := by
  go_enter Tryz.func263, Tryz.ntmps263
  go_wp2
  rw [run_callFunc_extern Tryz.func267 (by kernel_rfl) (by kernel_rfl) (by kernel_rfl) (e := Extern.BytealgIndexByte.indexByte) (by kernel_rfl), Lib.run_indexByteString]
  simp only [Result.andThen]
  rw [Oper.upon_value]
  go_wp2
  go_ret
  exact ⟨rfl, rfl⟩
theorem index_one_eq (s : ByteArray) (h : ([46] == s.toList) = true) : Lib.indexByte s.data.toList 46 = 0 := by
  have e : s.data.toList = [46] := by rw [← ByteArray.toList_eq]; exact (beq_iff_eq.1 h).symm
  rw [e]; rfl
set_option maxRecDepth 4000 in
set_option maxHeartbeats 1000000 in
theorem liteIndex_any (s : ByteArray) (w : World) :
    Calls Tryz.prog 261 #[.string s, .string ⟨#[46]⟩] w fun e w' => e = .returned (.int .i64 (Lib.indexByte s.data.toList 46)) ∧ w' = w := by
  go_enter Tryz.func261, Tryz.ntmps261
  go_wp2_with (go_at_call 263; refine (indexByte_any _ _).mono ?_; rintro e w' ⟨rfl, rfl⟩)
  · have h : ([46] == s.toList) = true := by assumption
    go_ret
    refine ⟨?_, rfl⟩
    rw [index_one_eq s h]
    rfl
  · go_ret
    exact ⟨rfl, rfl⟩
set_option maxRecDepth 4000 in
set_option maxHeartbeats 1000000 in
theorem strIndex_any (s : ByteArray) (w : World) :
    Calls Tryz.prog 254 #[.string s, .string ⟨#[46]⟩] w fun e w' => e = .returned (.int .i64 (Lib.indexByte s.data.toList 46)) ∧ w' = w := by
  go_enter Tryz.func254, Tryz.ntmps254
  go_wp2_with (go_at_call 261; refine (liteIndex_any _ _).mono ?_; rintro e w' ⟨rfl, rfl⟩)
  go_ret
  exact ⟨rfl, rfl⟩

theorem pieces_one (s : ByteArray) (h : (pieces s).length = 1) : pieces s = [s] := by
  have hge := Lib.indexByte_ge s.data.toList 46
  by_cases h1 : Lib.indexByte s.data.toList 46 = -1
  · exact pieces_miss s h1
  · obtain ⟨i, hi⟩ : ∃ i : Nat, Lib.indexByte s.data.toList 46 = i := ⟨(Lib.indexByte s.data.toList 46).toNat, by omega⟩
    have e := (pieces_hit s i hi).2
    rw [e, List.length_cons, pieces_len] at h
    omega
theorem pieces_more (s : ByteArray) (h : 1 < (pieces s).length) : ∃ i : Nat, Lib.indexByte s.data.toList 46 = i ∧ i < s.size ∧ pieces s = s.extract 0 i :: pieces (s.extract (i + 1) s.size) := by
  have hge := Lib.indexByte_ge s.data.toList 46
  by_cases h1 : Lib.indexByte s.data.toList 46 = -1
  · rw [pieces_miss s h1] at h; simp at h
  · obtain ⟨i, hi⟩ : ∃ i : Nat, Lib.indexByte s.data.toList 46 = i := ⟨(Lib.indexByte s.data.toList 46).toNat, by omega⟩
    exact ⟨i, hi, pieces_hit s i hi⟩

theorem infoS : (Tryz.prog.info? 9).map (fun i => (i.zero, i.size, i.bytes)) = some (some (.string ByteArray.empty), 1, 16) := by kernel_rfl

set_option maxRecDepth 8000 in
set_option maxHeartbeats 2000000 in
theorem genSplit_any (s : ByteArray) (w : World) (hs : s.size ≤ 1048576) :
    Calls Tryz.prog 246 #[.string s, .string ⟨#[46]⟩, .int .i64 0, .int .i64 (-1)] w fun e w' =>
      e = .returned (.slice (some ⟨w.heap.size, 0, none⟩) (pieces s).length (pieces s).length) ∧ w' = w.alloc (.cells (Lib.cellsOf (pieces s) (pieces s).length) 9) := by
  obtain ⟨N, hN⟩ : ∃ N, N = (pieces s).length := ⟨_, rfl⟩
  have hle := pieces_len_le s
  have hcn : ((Lib.countByte s.data.toList 46 : Nat) : Int) + 1 = (N : Int) := by
    rw [hN, pieces_len]; unfold Lib.countByte; omega
  obtain ⟨C, hC⟩ : ∃ C, C = Lib.countByte s.data.toList 46 := ⟨_, rfl⟩
  rw [← hC] at hcn
  have c := countDot_any s w
  rw [← hC] at c
  rw [← hN] at hle ⊢
  have hN1 : 1 ≤ N := by omega
  have hCb : C ≤ 1048576 := by omega
  have hmin : min (N : Int) ((s.size : Int) + 1) = (N : Int) := by omega
  have hmk := run_make_row' (P := Tryz.prog) 234 9 (.string ByteArray.empty) 16 Tryz.underlying234 infoS rfl .i64 .i64 N (by omega) (by omega)
  have HC : Hid (Calls _ _ _ _ _) := c
  have HN : Hid _ := hN
  clear hC c hN
  go_enter Tryz.func246, Tryz.ntmps246
  go_wp2_with fail
  refine HC.out.mono ?_
  rintro e w' ⟨rfl, hw⟩
  rw [hw]
  clear hw
  go_wp2_with fail
  clear hmk HC hcn hmin hCb
  go_loopw [0, 10] (fun s0 s10 wr => ∃ (done : List ByteArray) (rest : ByteArray), s0 = .string rest ∧ s10 = .int .i64 done.length ∧ done.length ≤ N - 1 ∧ rest.size ≤ s.size ∧
      wr = w.alloc (.cells (Lib.cellsOf done N) 9) ∧ done ++ pieces rest = pieces s) (fun _ i _ => N - (intOf i).toNat)
  case atStart => exact ⟨[], s, rfl, rfl, Nat.zero_le _, Nat.le_refl _, by rw [Lib.cellsOf_nil], rfl⟩
  case round =>
    obtain ⟨done, rest, rfl, rfl, hd, hrs, rfl, hsp⟩ := hrel
    have hnext : (Lib.cellsOf done N)[done.length]? = some (.string ByteArray.empty) := Lib.cellsOf_next (by omega)
    have hlr : (pieces rest).length + done.length = N := by rw [HN.out, ← hsp, List.length_append]; omega
    have HS : Hid _ := hsp
    clear hsp
    by_cases hlt : done.length < N - 1
    · have hltz : ((done.length : Nat) : Int) < (N : Int) - 1 := by omega
      obtain ⟨i, hix, hroom, hpc⟩ := pieces_more rest (by omega)
      have HI : Hid _ := hix
      have HP : Hid _ := hpc
      clear hix hpc
      have c0 : ¬ ((i : Int) < 0) := by omega
      have c2 : ((i : Int)) ≤ ↑rest.size := by omega
      have c4 : ((i : Int) + 1) ≤ ↑rest.size := by omega
      go_wp2_with (first | (go_at_call 254; refine (strIndex_any rest _).mono ?_; rintro e w' ⟨rfl, hw⟩; rw [hw, HI.out]))
      go_roundw
      case rel =>
        refine ⟨done ++ [rest.extract 0 i], rest.extract (i + 1) rest.size, rfl, by simp, by simp; omega, by rw [ByteArray.size_extract]; omega, by rw [← Lib.cellsOf_set (by omega)], ?_⟩
        rw [← HS.out, HP.out]
        simp
      case measure => simp [intOf]; omega
    · have hltz : ¬ (((done.length : Nat) : Int) < (N : Int) - 1) := by omega
      have hone := pieces_one rest (by omega)
      have hfin : (Lib.cellsOf done N).setIfInBounds done.length (.string rest) = Lib.cellsOf (pieces s) N := by
        rw [← HS.out, hone]; exact Lib.cellsOf_set (by omega) rest
      have HF : Hid _ := hfin
      have hdl : done.length + 1 = N := by omega
      clear hone hfin
      go_wp2
      go_ret
      rw [← HF.out]
      exact ⟨by first | (rw [← hdl]; rfl) | (congr 2 <;> omega), rfl⟩
/-- Texts that lie one behind the other from a place of a block on. -/
structure ReadS (w : World) (g off : Nat) (l : List ByteArray) : Prop where
  lt : g < w.heap.size
  cells : ∀ i (h : i < l.length), w.cell? ⟨g, off + i, none⟩ = some (.string l[i])
theorem ReadS.step {w w' : World} {g off base : Nat} {l : List ByteArray} (h : ReadS w g off l) (hb : Below base w w') (hg : g < base) : ReadS w' g off l :=
  ⟨Nat.lt_of_lt_of_le h.lt hb.size, fun i hi => (hb.cell hg).trans (h.cells i hi)⟩
theorem ReadS.next {w w' : World} {g off : Nat} {l : List ByteArray} (h : ReadS w g off l) (hb : Below w.heap.size w w') : ReadS w' g off l := h.step hb h.lt
theorem ReadS.tail {w : World} {g off : Nat} {x : ByteArray} {l : List ByteArray} (h : ReadS w g off (x :: l)) : ReadS w g (off + 1) l :=
  ⟨h.lt, fun i hi => by have := h.cells (i + 1) (by simpa using hi); rw [show off + 1 + i = off + (i + 1) by omega]; simpa using this⟩
theorem readS_alloc (w : World) (l : List ByteArray) (T : TypeId) : ReadS (w.alloc (.cells (Lib.cellsOf l l.length) T)) w.heap.size 0 l := by
  refine ⟨by simp, fun i hi => ?_⟩
  have e : (Lib.cellsOf l l.length)[i]? = some (.string l[i]) := by
    unfold Lib.cellsOf
    rw [List.getElem?_toArray, List.getElem?_append_left (by simpa using hi)]
    simp [List.getElem?_eq_getElem hi]
  rw [Nat.zero_add]
  simp [go_sem, e]

set_option maxRecDepth 4000 in
set_option maxHeartbeats 1000000 in
theorem split_any (s : ByteArray) (w : World) (hs : s.size ≤ 1048576) :
    Calls Tryz.prog 235 #[.string s, .string ⟨#[46]⟩] w fun e w' =>
      e = .returned (.slice (some ⟨w.heap.size, 0, none⟩) (pieces s).length (pieces s).length) ∧ w' = w.alloc (.cells (Lib.cellsOf (pieces s) (pieces s).length) 9) := by
  go_enter Tryz.func235, Tryz.ntmps235
  go_wp2_with (go_at_call 246; refine (genSplit_any s _ hs).mono ?_; rintro e w' ⟨rfl, rfl⟩)
  go_ret
  exact ⟨rfl, rfl⟩
set_option maxRecDepth 4000 in
set_option maxHeartbeats 1000000 in
theorem namesOf_any (s : ByteArray) (w : World) (hs : s.size ≤ 1048576) :
    Calls Tryz.prog 221 #[.string s] w fun e w' => (∃ g cap, e = .returned (.slice (some ⟨g, 0, none⟩) (pieces s).length cap) ∧ w.heap.size ≤ g ∧ ReadS w' g 0 (pieces s)) ∧ Below w.heap.size w w' := by
  go_enter Tryz.func221, Tryz.ntmps221
  go_wp2_with (go_at_call 235; refine (split_any s _ hs).mono ?_; rintro e w' ⟨rfl, rfl⟩)
  go_ret
  exact ⟨⟨_, _, rfl, Nat.le_refl _, readS_alloc _ _ _⟩, (Below.refl _ _).alloc (Nat.le_refl _) _⟩

end Go.Proofs.YtpfbepbmiillbaaGreatDoor

/- What the specification's parting of a text at its points answers. -/
namespace Go.Proofs.YtpfbepbmiillbaaGreatDoor
open Go.RowKit
set_option linter.unusedVariables false

def strs (l : List ByteArray) : List Value := l.map Value.string
theorem strs_snoc (l : List ByteArray) (x : ByteArray) : strs (l ++ [x]) = strs l ++ [.string x] := by unfold strs; simp
theorem readS_own {w : World} {base g cap : Nat} {l : List ByteArray} (h : w.ownsRow base 9 1 (.slice (some ⟨g, 0, none⟩) l.length cap) l.length (strs l)) : ReadS w g 0 l :=
  ⟨(h.lt g rfl).2, fun i hi => by rw [Nat.zero_add]; exact owns_cell h _ _ (by unfold strs; simp [List.getElem?_eq_getElem hi])⟩

set_option maxRecDepth 8000 in
set_option maxHeartbeats 2000000 in
theorem l00Cut_any (s : ByteArray) (w : World) (hs : s.size ≤ 1048576) :
    Calls Tryz.prog 166 #[.string s, .int .u8 46] w fun e w' => (∃ g cap, e = .returned (.slice (some ⟨g, 0, none⟩) (pieces s).length cap) ∧ w.heap.size ≤ g ∧ ReadS w' g 0 (pieces s)) ∧ Below w.heap.size w w' := by
  obtain ⟨i0, hi, hz0, hz1, hz2⟩ := info_parts infoS
  go_enter Tryz.func166, Tryz.ntmps166
  go_wp2_with fail
  go_loopw [5, 6, 7] (fun v f i wr => ∃ (done : List ByteArray) (a k : Nat), k ≤ s.size ∧ a ≤ k ∧ f = .int .i64 a ∧ i = .int .i64 k ∧ pieces s = done ++ pieces (s.extract a s.size) ∧ (∀ j (hj : j < s.size), a ≤ j → j < k → s[j] ≠ 46) ∧ done.length ≤ k ∧ wr.ownsRow w.heap.size 9 1 v done.length (strs done) ∧ v ≠ .slice none 0 0 ∧ Below w.heap.size w wr) (fun _ _ i _ => s.size - (intOf i).toNat)
  case atStart => exact ⟨[], 0, 0, Nat.zero_le _, Nat.le_refl _, rfl, rfl, by rw [ByteArray.extract_zero_size]; rfl, fun j hj h1 h2 => absurd h2 (by omega), Nat.le_refl _, World.ownsRow_made w #[] 0 (Nat.le_refl _) (by unfold maxLen; omega) rfl, by simp, (Below.refl _ _).alloc (Nat.le_refl _) _⟩
  case round =>
    obtain ⟨done, a, k, hk, hak, rfl, rfl, hp, hno, hdk, hown, hnn, hbel⟩ := hrel
    have HP : Hid _ := hp
    have HO : Hid _ := hno
    have HN : Hid _ := hnn
    have hsz0 := hbel.size
    have hak2 : (a : Int) ≤ (k : Int) := by omega
    clear hp hno hnn
    by_cases hlt : k < s.size
    · by_cases hc : s[k] = 46
      · have e46 : ((s[k].toNat : Int) == 46) = true := by rw [hc]; rfl
        have hpc := pieces_from s a k hak hlt hc HO.out
        have HQ : Hid _ := hpc
        clear hpc hc
        go_wp2_with (at_builtin; refine wpList_append_own _ rfl (.tmp 20) (.tmp 25) 234 rfl w.heap.size 9 i0 (.string ByteArray.empty) 1 16 Tryz.underlying234 hi hz0 hz1 hz2 rfl (by decide) _ _ _ rfl (hown.alloc _) ⟨wr.heap.size, 0, none⟩ 1 1 [.string (s.extract a k)] rfl rfl ?c1 ?c2 ?c3 ?c4 ?c5 ?_)
        case c1 =>
          intro j u hj
          match j, hj with
          | 0, hj => simp at hj; subst hj; simp [Addr.add, go_sem]
          | j + 1, hj => simp at hj
        case c2 => intro u hu; simp at hu; subst hu; rfl
        case c3 => unfold maxLen; omega
        case c4 => omega
        case c5 => simp; omega
        intro v' w2 hown2 hgrow hnv
        have HV : Hid _ := hnv
        clear hnv
        have hb2 : Below w.heap.size w w2 := Below.grown (hbel.alloc (by omega) _) hgrow (by simp; omega) (owns_block hown)
        clear hgrow hown hbel
        go_wp2_with fail
        go_roundw
        case rel => exact ⟨done ++ [s.extract a k], k + 1, k + 1, by omega, by omega, by go_num, by go_num, by rw [HP.out, HQ.out]; simp, fun j hj h1 h2 => absurd h2 (by omega), by simp; omega, by rw [strs_snoc, List.length_append]; exact hown2, HV.out, hb2⟩
        case measure => simp [intOf]; omega
      · have e46 : ((s[k].toNat : Int) == 46) = false := beq_eq_false_iff_ne.mpr (fun e => hc (UInt8.toNat_inj.mp (by show s[k].toNat = 46; omega)))
        have HC : Hid _ := hc
        clear hc
        go_wp2_with fail
        go_roundw
        case rel => exact ⟨done, a, k + 1, by omega, by omega, rfl, by go_num, HP.out, fun j hj h1 h2 => by
          by_cases hjk : j = k
          · subst hjk; exact HC.out
          · exact HO.out j hj h1 (by omega), by omega, hown, HN.out, hbel⟩
        case measure => simp [intOf]; omega
    · have hk2 : k = s.size := by omega
      have hpr := pieces_rest s a (fun j hj h => HO.out j hj h (by omega))
      have has : (a : Int) ≤ (s.size : Int) := by omega
      have HQ : Hid _ := hpr
      clear hpr
      go_wp2_with (at_builtin; refine wpList_append_own _ rfl (.tmp 29) (.tmp 33) 234 rfl w.heap.size 9 i0 (.string ByteArray.empty) 1 16 Tryz.underlying234 hi hz0 hz1 hz2 rfl (by decide) _ _ _ rfl (hown.alloc _) ⟨wr.heap.size, 0, none⟩ 1 1 [.string (s.extract a s.size)] rfl rfl ?c1 ?c2 ?c3 ?c4 ?c5 ?_)
      case c1 =>
        intro j u hj
        match j, hj with
        | 0, hj => simp at hj; subst hj; simp [Addr.add, go_sem]
        | j + 1, hj => simp at hj
      case c2 => intro u hu; simp at hu; subst hu; rfl
      case c3 => unfold maxLen; omega
      case c4 => omega
      case c5 => simp; omega
      intro v' w2 hown2 hgrow hnv
      have hb2 : Below w.heap.size w w2 := Below.grown (hbel.alloc (by omega) _) hgrow (by simp; omega) (owns_block hown)
      have hpp : done ++ [s.extract a s.size] = pieces s := by rw [HP.out, HQ.out]
      have hown3 : w2.ownsRow w.heap.size 9 1 v' (pieces s).length (strs (pieces s)) := by
        rw [← hpp, strs_snoc, List.length_append]; exact hown2
      obtain ⟨g, cap, hv⟩ := owns_shape hown3 hnv
      subst hv
      have hgl := (hown3.lt g rfl).1
      have HO3 : Hid _ := readS_own hown3
      clear hgrow hown hbel hown2 hown3 hpp hnv
      go_wp2_with fail
      go_ret
      exact ⟨⟨g, cap, rfl, hgl, HO3.out⟩, hb2⟩

end Go.Proofs.YtpfbepbmiillbaaGreatDoor

/- What the two functions that ask whether a text is a path answer, for every text. -/
namespace Go.Proofs.YtpfbepbmiillbaaGreatDoor
open Go.RowKit
set_option linter.unusedVariables false

theorem pathB_long (s : ByteArray) (h : 50 < s.size) : pathB s = false := by
  unfold pathB; rw [decide_eq_false (by omega : ¬ s.size ≤ 50)]; simp
theorem pathB_many (s : ByteArray) (h : 4 < (pieces s).length) : pathB s = false := by
  unfold pathB; rw [decide_eq_false (by omega : ¬ (pieces s).length ≤ 4)]; simp
theorem pathB_few (s : ByteArray) (h : ¬ 50 < s.size) (h2 : ¬ 4 < (pieces s).length) : pathB s = (pieces s).all shortB := by
  unfold pathB; rw [decide_eq_true (by omega : s.size ≤ 50), decide_eq_true (by omega : (pieces s).length ≤ 4)]; simp

set_option maxHeartbeats 400000 in
theorem noShort_any (s : ByteArray) (w : World) (hs : s.size ≤ maxLen) :
    Calls Tryz.prog 223 #[.string s] w fun e w' => e = .returned (.bool (!shortB s)) ∧ w' = w := by
  go_enter Tryz.func223, Tryz.ntmps223
  go_wp2_with (go_at_call 107; refine (shortNameOK_any s _ hs).mono ?_; rintro e w1 ⟨rfl, rfl⟩)
  go_ret
  exact ⟨rfl, rfl⟩

theorem takeAll {α : Type} (p : α → Prop) (l : List α) (k : Nat) (h : k < l.length) (h1 : ∀ v ∈ l.take k, p v) (h2 : p l[k]) : ∀ v ∈ l.take (k + 1), p v := by
  intro v hv
  rw [List.take_succ_eq_append_getElem h] at hv
  rcases List.mem_append.mp hv with hv | hv
  · exact h1 v hv
  · simp at hv; subst hv; exact h2
theorem all_bad {α : Type} (p : α → Bool) (l : List α) (k : Nat) (hk : k < l.length) (h : p l[k] = false) : l.all p = false := by
  rw [Bool.eq_false_iff]; intro hh
  rw [List.all_eq_true] at hh
  have := hh l[k] (List.getElem_mem _)
  rw [h] at this; cases this

set_option maxRecDepth 4000 in
set_option maxHeartbeats 1000000 in
theorem indexNoShort_any (g cap : Nat) (l : List ByteArray) (w : World) (hr : ReadS w g 0 l) (hl : l.length ≤ 1048576) (hts : ∀ v ∈ l, v.size ≤ 1048576) :
    Calls Tryz.prog 236 #[.slice (some ⟨g, 0, none⟩) l.length cap, .func (.func 223) #[] #[]] w fun e w' => (∃ i : Int, e = .returned (.int .i64 i) ∧ decide (0 ≤ i) = !(l.all shortB)) ∧ Below w.heap.size w w' := by
  have HR : Hid _ := hr
  have HT : Hid _ := hts
  clear hr hts
  go_enter Tryz.func236, Tryz.ntmps236
  go_wp2_with fail
  go_loopw [8] (fun i wr => ∃ k : Nat, k ≤ l.length ∧ i = .int .i64 k ∧ (∀ v ∈ l.take k, shortB v = true) ∧ Below w.heap.size w wr) (fun i _ => l.length - (intOf i).toNat)
  case atStart => exact ⟨0, Nat.zero_le _, rfl, fun v hv => by simp at hv, Below.refl _ _⟩
  case round =>
    obtain ⟨k, hk, rfl, hall, hbel⟩ := hrel
    have HA : Hid _ := hall
    clear hall
    by_cases hlt : k < l.length
    · have x0 := (HR.out.next hbel).cells k hlt
      rw [Nat.zero_add] at x0
      have hs : l[k].size ≤ maxLen := by have := HT.out l[k] (List.getElem_mem _); unfold maxLen; omega
      cases hok : shortB l[k]
      · have HK : Hid (shortB l[k] = false) := hok
        have hal := all_bad shortB l k hlt hok
        have HL : Hid _ := hal
        clear hok hal
        go_wp2_with fail
        refine (noShort_any _ _ hs).mono ?_
        rintro e w1 ⟨rfl, rfl⟩
        rw [HK.out]
        go_wp2_with fail
        go_ret
        exact ⟨⟨k, rfl, by rw [HL.out]; exact decide_eq_true (by omega)⟩, by (repeat (first | (with_reducible exact Below.refl _ _) | (with_reducible assumption) | (with_reducible apply below_drewN) | (with_reducible apply Below.drew) | ((with_reducible refine Below.setCell ?_ ?_ _); rotate_left; focus (first | (simp; done) | (simp; omega) | omega)) | ((with_reducible refine Below.alloc ?_ ?_ _); rotate_left; focus (first | (simp; done) | (simp; omega) | omega))))⟩
      · have HK : Hid (shortB l[k] = true) := hok
        clear hok
        go_wp2_with fail
        refine (noShort_any _ _ hs).mono ?_
        rintro e w1 ⟨rfl, rfl⟩
        rw [HK.out]
        go_wp2_with fail
        go_roundw
        case rel => exact ⟨k + 1, by omega, by go_num, takeAll _ l k hlt HA.out HK.out, by (repeat (first | (with_reducible exact Below.refl _ _) | (with_reducible assumption) | (with_reducible apply below_drewN) | (with_reducible apply Below.drew) | ((with_reducible refine Below.setCell ?_ ?_ _); rotate_left; focus (first | (simp; done) | (simp; omega) | omega)) | ((with_reducible refine Below.alloc ?_ ?_ _); rotate_left; focus (first | (simp; done) | (simp; omega) | omega))))⟩
        case measure => simp [intOf]; omega
    · have e : l.take k = l := List.take_of_length_le (by omega)
      have hall := HA.out
      rw [e] at hall
      have hal : l.all shortB = true := List.all_eq_true.mpr hall
      have HL : Hid _ := hal
      clear hal hall HA e
      go_wp2_with fail
      go_ret
      exact ⟨⟨-1, rfl, by rw [HL.out]; rfl⟩, hbel⟩
set_option maxHeartbeats 400000 in
theorem anyNoShort_any (g cap : Nat) (l : List ByteArray) (w : World) (hr : ReadS w g 0 l) (hl : l.length ≤ 1048576) (hts : ∀ v ∈ l, v.size ≤ 1048576) :
    Calls Tryz.prog 222 #[.slice (some ⟨g, 0, none⟩) l.length cap, .func (.func 223) #[] #[]] w fun e w' => e = .returned (.bool (!(l.all shortB))) ∧ Below w.heap.size w w' := by
  go_enter Tryz.func222, Tryz.ntmps222
  go_wp2_with fail
  refine (indexNoShort_any g cap l w hr hl hts).mono ?_
  rintro e w1 ⟨⟨i, rfl, hi⟩, hb⟩
  go_wp2_with fail
  go_ret
  rw [← hi]
  exact ⟨rfl, hb⟩

set_option maxRecDepth 4000 in
set_option maxHeartbeats 1000000 in
theorem pathOK_any (s : ByteArray) (w : World) (hs : s.size ≤ 1048576) :
    Calls Tryz.prog 204 #[.string s] w fun e w' => e = .returned (.bool (pathB s)) ∧ Below w.heap.size w w' := by
  by_cases h50 : 50 < s.size
  · rw [pathB_long s h50]
    have hh : (50 : Int) < (s.size : Int) := by omega
    go_enter Tryz.func204, Tryz.ntmps204
    go_wp2_with fail
    go_ret
    exact ⟨rfl, Below.refl _ _⟩
  · have hh : ¬ (50 : Int) < (s.size : Int) := by omega
    have hle := pieces_len_le s
    have hpz := pieces_size s
    obtain ⟨L, hL⟩ : ∃ L, L = pieces s := ⟨_, rfl⟩
    have HP0 := namesOf_any s
    by_cases h4 : 4 < (pieces s).length
    · rw [pathB_many s h4]
      rw [← hL] at hle h4 HP0
      have hh4 : ¬ ((L.length : Nat) : Int) ≤ 4 := by omega
      have hd4 : decide (((L.length : Nat) : Int) ≤ 4) = false := by simp; omega
      have HP : Hid _ := HP0
      clear HP0 hL hpz
      go_enter Tryz.func204, Tryz.ntmps204
      go_wp2_with fail
      refine (HP.out _ hs).mono ?_
      rintro e w1 ⟨⟨g, cap, rfl, hg, R⟩, hb⟩
      clear R
      go_wp2_with fail
      go_ret
      exact ⟨rfl, hb⟩
    · rw [pathB_few s h50 h4]
      rw [← hL] at hle h4 HP0 hpz ⊢
      have hh4 : ((L.length : Nat) : Int) ≤ 4 := by omega
      have hd4 : decide (((L.length : Nat) : Int) ≤ 4) = true := by simp; omega
      have HP : Hid _ := HP0
      have HZ : Hid _ := hpz
      clear HP0 hL hpz
      go_enter Tryz.func204, Tryz.ntmps204
      go_wp2_with fail
      refine (HP.out _ hs).mono ?_
      rintro e w1 ⟨⟨g, cap, rfl, hg, R⟩, hb⟩
      have HR : Hid _ := R
      clear R
      go_wp2_with fail
      refine (anyNoShort_any g cap L _ HR.out (by omega) (fun v hv => by have := HZ.out v hv; omega)).mono ?_
      rintro e w2 ⟨rfl, hb2⟩
      go_wp2_with fail
      go_ret
      exact ⟨ret_bool (by simp), hb.trans (hb2.mono hb.size)⟩

set_option maxRecDepth 4000 in
set_option maxHeartbeats 1000000 in
theorem specPath_any (s : ByteArray) (w : World) (hs : s.size ≤ 1048576) :
    Calls Tryz.prog 132 #[.string s] w fun e w' => e = .returned (.bool (pathB s)) ∧ Below w.heap.size w w' := by
  by_cases hbig : 65536 < s.size
  · rw [pathB_long s (by omega)]
    have hh : (65536 : Int) < (s.size : Int) := by omega
    go_enter Tryz.func132, Tryz.ntmps132
    go_wp2_with fail
    go_ret
    exact ⟨rfl, Below.refl _ _⟩
  have hbg : ¬ (65536 : Int) < (s.size : Int) := by omega
  have hle := pieces_len_le s
  have hpz := pieces_size s
  obtain ⟨L, hL⟩ : ∃ L, L = pieces s := ⟨_, rfl⟩
  have HP0 := l00Cut_any s
  by_cases h4 : 4 < (pieces s).length
  · rw [pathB_many s h4]
    rw [← hL] at hle h4 HP0
    have hh4 : (4 : Int) < ((L.length : Nat) : Int) := by omega
    have hd4 : decide ((4 : Int) < ((L.length : Nat) : Int)) = true := by simp; omega
    have HP : Hid _ := HP0
    clear HP0 hL hpz
    go_enter Tryz.func132, Tryz.ntmps132
    go_wp2_with fail
    refine (HP.out _ hs).mono ?_
    rintro e w1 ⟨⟨g, cap, rfl, hg, R⟩, hb⟩
    clear R
    go_wp2_with fail
    go_ret
    exact ⟨rfl, hb⟩
  by_cases h50 : 50 < s.size
  · rw [pathB_long s h50]
    rw [← hL] at hle h4 HP0
    have hh4 : ¬ (4 : Int) < ((L.length : Nat) : Int) := by omega
    have hd4 : decide ((4 : Int) < ((L.length : Nat) : Int)) = false := by simp; omega
    have hd5 : decide ((50 : Int) < (s.size : Int)) = true := by simp; omega
    have HP : Hid _ := HP0
    clear HP0 hL hpz
    go_enter Tryz.func132, Tryz.ntmps132
    go_wp2_with fail
    refine (HP.out _ hs).mono ?_
    rintro e w1 ⟨⟨g, cap, rfl, hg, R⟩, hb⟩
    clear R
    go_wp2_with fail
    go_ret
    exact ⟨rfl, hb⟩
  rw [pathB_few s h50 h4]
  rw [← hL] at hle h4 HP0 hpz ⊢
  have hh4 : ¬ (4 : Int) < ((L.length : Nat) : Int) := by omega
  have hd4 : decide ((4 : Int) < ((L.length : Nat) : Int)) = false := by simp; omega
  have hd5 : decide ((50 : Int) < (s.size : Int)) = false := by simp; omega
  obtain ⟨P, hP⟩ : ∃ P, P = L.all shortB := ⟨_, rfl⟩
  rw [← hP]
  have HPP : Hid _ := hP
  have HP : Hid _ := HP0
  have HZ : Hid _ := hpz
  clear HP0 hL hpz hP
  go_enter Tryz.func132, Tryz.ntmps132
  go_wp2_with fail
  refine (HP.out _ hs).mono ?_
  rintro e w1 ⟨⟨g, cap, rfl, hg, R⟩, hb⟩
  have HR : Hid _ := R
  clear R
  go_wp2_with fail
  go_loopw [4] (fun i wr => ∃ k : Nat, k ≤ L.length ∧ i = .int .i64 k ∧ (∀ v ∈ L.take k, shortB v = true) ∧ Below w1.heap.size w1 wr) (fun i _ => L.length - (intOf i).toNat)
  case atStart => exact ⟨0, Nat.zero_le _, rfl, fun v hv => by simp at hv, Below.refl _ _⟩
  case round =>
    obtain ⟨k, hk, rfl, hall, hbel⟩ := hrel
    have HA : Hid _ := hall
    clear hall
    by_cases hlt : k < L.length
    · have x0 := (HR.out.next hbel).cells k hlt
      rw [Nat.zero_add] at x0
      have hsl : L[k].size ≤ maxLen := by have := HZ.out L[k] (List.getElem_mem _); unfold maxLen; omega
      cases hok : shortB L[k]
      · have HK : Hid (shortB L[k] = false) := hok
        have hal := all_bad shortB L k hlt hok
        have hp := HPP.out
        rw [hal] at hp
        subst hp
        clear hok hal HPP
        go_wp2_with fail
        refine (l01Name_any _ _ hsl).mono ?_
        rintro e w2 ⟨rfl, rfl⟩
        rw [HK.out]
        go_wp2_with fail
        go_ret
        exact ⟨rfl, hb.trans ((show Below w1.heap.size w1 _ by (repeat (first | (with_reducible exact Below.refl _ _) | (with_reducible assumption) | (with_reducible apply below_drewN) | (with_reducible apply Below.drew) | ((with_reducible refine Below.setCell ?_ ?_ _); rotate_left; focus (first | (simp; done) | (simp; omega) | omega)) | ((with_reducible refine Below.alloc ?_ ?_ _); rotate_left; focus (first | (simp; done) | (simp; omega) | omega))))).mono hb.size)⟩
      · have HK : Hid (shortB L[k] = true) := hok
        clear hok
        go_wp2_with fail
        refine (l01Name_any _ _ hsl).mono ?_
        rintro e w2 ⟨rfl, rfl⟩
        rw [HK.out]
        go_wp2_with fail
        go_roundw
        case rel => exact ⟨k + 1, by omega, by go_num, takeAll _ L k hlt HA.out HK.out, by (repeat (first | (with_reducible exact Below.refl _ _) | (with_reducible assumption) | (with_reducible apply below_drewN) | (with_reducible apply Below.drew) | ((with_reducible refine Below.setCell ?_ ?_ _); rotate_left; focus (first | (simp; done) | (simp; omega) | omega)) | ((with_reducible refine Below.alloc ?_ ?_ _); rotate_left; focus (first | (simp; done) | (simp; omega) | omega))))⟩
        case measure => simp [intOf]; omega
    · have e : L.take k = L := List.take_of_length_le (by omega)
      have hall := HA.out
      rw [e] at hall
      have hal : L.all shortB = true := List.all_eq_true.mpr hall
      have hp := HPP.out
      rw [hal] at hp
      subst hp
      clear hal hall HA e HPP
      go_wp2_with fail
      go_ret
      exact ⟨rfl, hb.trans ((show Below w1.heap.size w1 _ by (repeat (first | (with_reducible exact Below.refl _ _) | (with_reducible assumption) | (with_reducible apply below_drewN) | (with_reducible apply Below.drew) | ((with_reducible refine Below.setCell ?_ ?_ _); rotate_left; focus (first | (simp; done) | (simp; omega) | omega)) | ((with_reducible refine Below.alloc ?_ ?_ _); rotate_left; focus (first | (simp; done) | (simp; omega) | omega))))).mono hb.size)⟩

end Go.Proofs.YtpfbepbmiillbaaGreatDoor

/- What the two functions that ask whether an operation is right answer, for every operation. -/
namespace Go.Proofs.YtpfbepbmiillbaaGreatDoor
open Go.RowKit
set_option linter.unusedVariables false

/-- Block number w.heap.size of W holds five cells, and all that lay in w lies in W as it did. -/
structure Box5 (w W : World) (a b c d e : Value) : Prop where
  bel : Below w.heap.size w W
  lt : w.heap.size < W.heap.size
  c0 : W.cell? ⟨w.heap.size, 0, none⟩ = some a
  c1 : W.cell? ⟨w.heap.size, 1, none⟩ = some b
  c2 : W.cell? ⟨w.heap.size, 2, none⟩ = some c
  c3 : W.cell? ⟨w.heap.size, 3, none⟩ = some d
  c4 : W.cell? ⟨w.heap.size, 4, none⟩ = some e
theorem Box5.start (w : World) (a b c d e : Value) (T : TypeId) : Box5 w (w.alloc (.cells #[a, b, c, d, e] T)) a b c d e :=
  ⟨(Below.refl _ _).alloc (Nat.le_refl _) _, by simp, by simp [go_sem], by simp [go_sem], by simp [go_sem], by simp [go_sem], by simp [go_sem]⟩
theorem Box5.step {w W W' : World} {a b c d e : Value} (h : Box5 w W a b c d e) (hb : Below W.heap.size W W') : Box5 w W' a b c d e :=
  ⟨h.bel.trans (hb.mono h.bel.size), Nat.lt_of_lt_of_le h.lt hb.size, (hb.cell h.lt).trans h.c0, (hb.cell h.lt).trans h.c1, (hb.cell h.lt).trans h.c2, (hb.cell h.lt).trans h.c3, (hb.cell h.lt).trans h.c4⟩

end Go.Proofs.YtpfbepbmiillbaaGreatDoor
