/- What the library's parting of a text at its points answers, and the program's and the specification's own. -/
import Derived.Test.YtmchpaccdnnilaaSplitM
import Derived.Test.YtmchpaccdnnilaaItems
import Derived.Lib.Bytealg
import Derived.Deep.OwnRows
import Derived.Test.YtmchpaccdnnilaaRowV
import Derived.ProofKit
import Derived.Deep.Strs
import Derived.Test.YtmchpaccdnnilaaAppB
import Derived.Lib.Hide
namespace Go.Proofs.Ytmchpaccdnnilaa
open Go.RowKit
set_option linter.unusedVariables false

set_option maxRecDepth 4000 in
set_option maxHeartbeats 1000000 in
theorem indexByte_any (s : ByteArray) (w : World) :
    Calls Try.prog 112 #[.string s, .int .u8 46] w fun e w' => e = .returned (.int .i64 (Lib.indexByte s.data.toList 46)) ∧ w' = w := by
  go_enter Try.func112, Try.ntmps112
  go_wp2
  rw [run_callFunc_extern Try.func116 (by kernel_rfl) (by kernel_rfl) (by kernel_rfl) (e := Extern.BytealgIndexByte.indexByte) (by kernel_rfl), Lib.run_indexByteString]
  simp only [Result.andThen]
  rw [Oper.upon_value]
  go_wp2
  go_ret
  exact ⟨rfl, rfl⟩
theorem index_one_eq (s : ByteArray) (h : ([46] == s.toList) = true) : Lib.indexByte s.data.toList 46 = 0 := by
  have e : s.data.toList = [46] := by rw [← ByteArray.toList_eq]; exact (beq_iff_eq.1 h).symm
  rw [e]; rfl
set_option maxRecDepth 4000 in
set_option maxHeartbeats 1000000 in
theorem liteIndex_any (s : ByteArray) (w : World) :
    Calls Try.prog 111 #[.string s, .string ⟨#[46]⟩] w fun e w' => e = .returned (.int .i64 (Lib.indexByte s.data.toList 46)) ∧ w' = w := by
  go_enter Try.func111, Try.ntmps111
  go_wp2_with (go_at_call 112; refine (indexByte_any _ _).mono ?_; rintro e w' ⟨rfl, rfl⟩)
  · have h : ([46] == s.toList) = true := by assumption
    go_ret
    refine ⟨?_, rfl⟩
    rw [index_one_eq s h]
    rfl
  · go_ret
    exact ⟨rfl, rfl⟩
theorem pieces_one (s : ByteArray) (h : (pieces s).length = 1) : pieces s = [s] := by
  have hge := Lib.indexByte_ge s.data.toList 46
  by_cases h1 : Lib.indexByte s.data.toList 46 = -1
  · exact pieces_miss s h1
  · obtain ⟨i, hi⟩ : ∃ i : Nat, Lib.indexByte s.data.toList 46 = i := ⟨(Lib.indexByte s.data.toList 46).toNat, by omega⟩
    have e := (pieces_hit s i hi).2
    rw [e, List.length_cons, pieces_len] at h
    omega
theorem pieces_more (s : ByteArray) (h : 1 < (pieces s).length) : ∃ i : Nat, Lib.indexByte s.data.toList 46 = i ∧ i < s.size ∧ pieces s = s.extract 0 i :: pieces (s.extract (i + 1) s.size) := by
  have hge := Lib.indexByte_ge s.data.toList 46
  by_cases h1 : Lib.indexByte s.data.toList 46 = -1
  · rw [pieces_miss s h1] at h; simp at h
  · obtain ⟨i, hi⟩ : ∃ i : Nat, Lib.indexByte s.data.toList 46 = i := ⟨(Lib.indexByte s.data.toList 46).toNat, by omega⟩
    exact ⟨i, hi, pieces_hit s i hi⟩

theorem infoS : (Try.prog.info? 9).map (fun i => (i.zero, i.size, i.bytes)) = some (some (.string ByteArray.empty), 1, 16) := by kernel_rfl

/-- Texts that lie one behind the other from a place of a block on. -/
structure ReadS (w : World) (g off : Nat) (l : List ByteArray) : Prop where
  lt : g < w.heap.size
  cells : ∀ i (h : i < l.length), w.cell? ⟨g, off + i, none⟩ = some (.string l[i])
theorem ReadS.step {w w' : World} {g off base : Nat} {l : List ByteArray} (h : ReadS w g off l) (hb : Below base w w') (hg : g < base) : ReadS w' g off l :=
  ⟨Nat.lt_of_lt_of_le h.lt hb.size, fun i hi => (hb.cell hg).trans (h.cells i hi)⟩
theorem ReadS.next {w w' : World} {g off : Nat} {l : List ByteArray} (h : ReadS w g off l) (hb : Below w.heap.size w w') : ReadS w' g off l := h.step hb h.lt
theorem ReadS.tail {w : World} {g off : Nat} {x : ByteArray} {l : List ByteArray} (h : ReadS w g off (x :: l)) : ReadS w g (off + 1) l :=
  ⟨h.lt, fun i hi => by have := h.cells (i + 1) (by simpa using hi); rw [show off + 1 + i = off + (i + 1) by omega]; simpa using this⟩
theorem readS_alloc (w : World) (l : List ByteArray) (T : TypeId) : ReadS (w.alloc (.cells (Lib.cellsOf l l.length) T)) w.heap.size 0 l := by
  refine ⟨by simp, fun i hi => ?_⟩
  have e : (Lib.cellsOf l l.length)[i]? = some (.string l[i]) := by
    unfold Lib.cellsOf
    rw [List.getElem?_toArray, List.getElem?_append_left (by simpa using hi)]
    simp [List.getElem?_eq_getElem hi]
  rw [Nat.zero_add]
  simp [go_sem, e]

end Go.Proofs.Ytmchpaccdnnilaa

/- What the specification's parting of a text at its points answers. -/
namespace Go.Proofs.Ytmchpaccdnnilaa
open Go.RowKit
set_option linter.unusedVariables false

def strs (l : List ByteArray) : List Value := l.map Value.string
theorem strs_snoc (l : List ByteArray) (x : ByteArray) : strs (l ++ [x]) = strs l ++ [.string x] := by unfold strs; simp
theorem readS_own {w : World} {base g cap : Nat} {l : List ByteArray} (h : w.ownsRow base 9 1 (.slice (some ⟨g, 0, none⟩) l.length cap) l.length (strs l)) : ReadS w g 0 l :=
  ⟨(h.lt g rfl).2, fun i hi => by rw [Nat.zero_add]; exact owns_cell h _ _ (by unfold strs; simp [List.getElem?_eq_getElem hi])⟩

end Go.Proofs.Ytmchpaccdnnilaa

/- What the laws' own helpers on rows of texts answer. -/
namespace Go.Proofs.Ytmchpaccdnnilaa
open Go.RowKit
set_option linter.unusedVariables false

/-- Texts that came in. -/
def InS (w : World) (a : Option Addr) (l : List ByteArray) : Prop := l.length = 0 ∨ ∃ b off, a = some ⟨b, off, none⟩ ∧ b < w.heap.size ∧ ∀ i (h : i < l.length), w.cell? ⟨b, off + i, none⟩ = some (.string l[i])
theorem InS.step {w w' : World} {a : Option Addr} {l : List ByteArray} (h : InS w a l) (hb : Below w.heap.size w w') : InS w' a l := by
  rcases h with h | ⟨b, off, ha, hlt, hc⟩
  · exact .inl h
  · exact .inr ⟨b, off, ha, Nat.lt_of_lt_of_le hlt hb.size, fun i hi => (hb.cell hlt).trans (hc i hi)⟩
theorem ins_of {w : World} {x : Addr} {l c m : Nat} {b0 : Bool} {Sx : Nat → ByteArray} (hl : l ≤ c) (hm : c ≤ maxLen) (hmm : m = if b0 = true then c else l) (hcell : ∀ i, i < m → w.cell? (x.add i) = some (.string (Sx i)) ∧ (Sx i).size ≤ maxLen) :
    ∃ ys : List ByteArray, ys.length = l ∧ ys.length ≤ maxLen ∧ (∀ s ∈ ys, s.size ≤ maxLen) ∧ InS w (some x) ys := by
  have hlm : l ≤ m := by rw [hmm]; split <;> omega
  have hlen : ((List.range l).map Sx).length = l := by simp
  refine ⟨(List.range l).map Sx, hlen, by omega, ?_, ?_⟩
  · intro s hs
    obtain ⟨i, hi, rfl⟩ := List.mem_map.mp hs
    exact (hcell i (by have := List.mem_range.mp hi; omega)).2
  by_cases h0 : l = 0
  · exact .inl (by simp [h0])
  · obtain ⟨b, off, spot⟩ := x
    have hc0 := (hcell 0 (by omega)).1
    have hspot : spot = none := by simpa [Addr.add] using World.cell?_spot hc0
    subst hspot
    have hlt : b < w.heap.size := by
      rcases Nat.lt_or_ge b w.heap.size with h | h
      · exact h
      · simp [World.cell?, Addr.add, Array.getElem?_eq_none h] at hc0
    refine .inr ⟨b, off, rfl, hlt, fun i hi => ?_⟩
    have hi2 : i < l := by omega
    have := (hcell i (by omega)).1
    rw [show ((List.range l).map Sx)[i] = Sx i by simp, ← this]
    by_cases hi0 : i = 0
    · subst hi0; simp [Addr.add]
    · simp [Addr.add, hi0]

theorem take_allS (p : ByteArray → Prop) (l : List ByteArray) (k : Nat) (h : k < l.length) (h1 : ∀ v ∈ l.take k, p v) (h2 : p l[k]) : ∀ v ∈ l.take (k + 1), p v := by
  intro v hv
  rw [List.take_succ_eq_append_getElem h] at hv
  rcases List.mem_append.mp hv with hv | hv
  · exact h1 v hv
  · rw [List.mem_singleton.mp hv]; exact h2

/-- The first k texts, and empty ones behind them. -/
def mixS (l : List ByteArray) (k : Nat) : List ByteArray := l.take k ++ List.replicate (l.length - k) em
theorem mixS_len (l : List ByteArray) (k : Nat) (h : k ≤ l.length) : (mixS l k).length = l.length := by unfold mixS; simp; omega
theorem mixS_full (l : List ByteArray) (k : Nat) (h : l.length ≤ k) : mixS l k = l := by
  unfold mixS; rw [List.take_of_length_le h, Nat.sub_eq_zero_of_le h]; simp
theorem mixS_set (l : List ByteArray) (k : Nat) (h : k < l.length) : (mixS l k).set k l[k] = mixS l (k + 1) := by
  unfold mixS
  have hl : (l.take k).length = k := by simp; omega
  rw [List.take_succ_eq_append_getElem h, List.append_assoc, List.set_append_right _ _ (by omega)]
  congr 1
  rw [hl, Nat.sub_self]
  obtain ⟨m, hm⟩ : ∃ m, l.length - k = m + 1 := ⟨l.length - k - 1, by omega⟩
  rw [hm, List.replicate_succ, show l.length - (k + 1) = m by omega]
  rfl
theorem strs_set (l : List ByteArray) (k : Nat) (s : ByteArray) : (strs l).set k (.string s) = strs (l.set k s) := by unfold strs; rw [List.map_set]
theorem strs_get (l : List ByteArray) (k : Nat) (h : k < l.length) : (strs l)[k]? = some (.string l[k]) := by unfold strs; simp [List.getElem?_eq_getElem h]
theorem made_zeroS (n : Nat) : (madeCells (Value.string em).cells (n * 1)).toList = strs (List.replicate n em) := by
  apply List.ext_getElem?
  intro j
  have hc : (Value.string em).cells = #[.string em] := rfl
  rw [hc]
  by_cases hj : j < n
  · rw [strs_get _ j (by simpa using hj)]
    simp [madeCells, hj, Nat.mod_one]
  · rw [List.getElem?_eq_none (by simp [madeCells]; omega), List.getElem?_eq_none (by simp [strs]; omega)]

end Go.Proofs.Ytmchpaccdnnilaa

/- What the two functions that join keys answer, for every row of texts. -/
namespace Go.Proofs.Ytmchpaccdnnilaa
open Go.RowKit
set_option linter.unusedVariables false

def longB (s : ByteArray) : Bool := decide (1000 < s.size)
/-- Texts one behind the other. -/
def catL (l : List ByteArray) : List UInt8 := l.flatMap fun s => s.data.toList
def joinP (l : List ByteArray) : ByteArray × Int :=
  if 4096 < l.length then (em, 2) else if 8 < l.length then (em, 10) else if l.any longB = true then (em, 10) else (mkB (catL l), 0)
theorem catL_take (l : List ByteArray) (q : Nat) (h : q < l.length) : catL (l.take (q + 1)) = catL (l.take q) ++ l[q].data.toList := by
  unfold catL; rw [List.take_succ_eq_append_getElem h, List.flatMap_append]; simp
theorem catL_len (l : List ByteArray) (h : ∀ s ∈ l, longB s = false) : (catL l).length ≤ 1000 * l.length := by
  unfold catL
  induction l with
  | nil => simp
  | cons s r ih =>
    have h1 := h s (by simp)
    unfold longB at h1
    rw [decide_eq_false_iff_not] at h1
    have h2 := ih (fun u hu => h u (by simp [hu]))
    rw [List.flatMap_cons, List.length_append, toList_length, List.length_cons]
    omega
theorem not_any {l : List ByteArray} (h : l.any longB = false) : ∀ s ∈ l, longB s = false := by
  intro s hs
  cases hb : longB s
  · rfl
  · have : l.any longB = true := List.any_eq_true.mpr ⟨s, hs, hb⟩
    rw [h] at this; cases this

set_option maxHeartbeats 400000 in
theorem isLongPart_any (s : ByteArray) (w : World) (hs : s.size ≤ 1048576) : Calls Try.prog 24 #[.string s] w fun e w' => e = .returned (.bool (longB s)) ∧ w' = w := by
  unfold longB
  by_cases h : 1000 < s.size
  · rw [decide_eq_true h]
    have h' : (1000 : Int) < s.size := by omega
    go_enter Try.func24, Try.ntmps24
    go_wp2_with fail
    go_ret
    exact ⟨rfl, rfl⟩
  · rw [decide_eq_false h]
    have h' : ¬ (1000 : Int) < s.size := by omega
    go_enter Try.func24, Try.ntmps24
    go_wp2_with fail
    go_ret
    exact ⟨rfl, rfl⟩
set_option maxRecDepth 4000 in
set_option maxHeartbeats 1000000 in
theorem indexLong_any (g cap : Nat) (l : List ByteArray) (w : World) (hr : ReadS w g 0 l) (hl : l.length ≤ 1048576) (hts : ∀ v ∈ l, v.size ≤ 1048576) :
    Calls Try.prog 57 #[.slice (some ⟨g, 0, none⟩) l.length cap, .func (.func 24) #[] #[]] w fun e w' => (∃ i : Int, e = .returned (.int .i64 i) ∧ decide (0 ≤ i) = l.any longB) ∧ w' = w := by
  have HR : Hid _ := hr
  have HT : Hid _ := hts
  clear hr hts
  go_enter Try.func57, Try.ntmps57
  go_wp2_with fail
  go_loopw [8] (fun i wr => ∃ k : Nat, k ≤ l.length ∧ i = .int .i64 k ∧ (∀ v ∈ l.take k, longB v = false) ∧ wr = w) (fun i _ => l.length - (intOf i).toNat)
  case atStart => exact ⟨0, Nat.zero_le _, rfl, fun v hv => by simp at hv, rfl⟩
  case round =>
    obtain ⟨k, hk, rfl, hall, rfl⟩ := hrel
    have HA : Hid _ := hall
    clear hall
    by_cases hlt : k < l.length
    · have x0 := HR.out.cells k hlt
      rw [Nat.zero_add] at x0
      have hs := HT.out l[k] (List.getElem_mem _)
      cases hok : longB l[k]
      · have HK : Hid (longB l[k] = false) := hok
        clear hok
        go_wp2_with fail
        refine (isLongPart_any _ _ hs).mono ?_
        rintro e w1 ⟨rfl, rfl⟩
        rw [HK.out]
        go_wp2_with fail
        go_roundw
        case rel => exact ⟨k + 1, by omega, by go_num, take_allS _ l k hlt HA.out HK.out, trivial⟩
        case measure => simp [intOf]; omega
      · have HK : Hid (longB l[k] = true) := hok
        have hal : l.any longB = true := List.any_eq_true.mpr ⟨l[k], List.getElem_mem _, hok⟩
        have HL : Hid _ := hal
        clear hok hal
        go_wp2_with fail
        refine (isLongPart_any _ _ hs).mono ?_
        rintro e w1 ⟨rfl, rfl⟩
        rw [HK.out]
        go_wp2_with fail
        go_ret
        exact ⟨⟨k, rfl, by rw [HL.out]; exact decide_eq_true (by omega)⟩, rfl⟩
    · have e : l.take k = l := List.take_of_length_le (by omega)
      have hall := HA.out
      rw [e] at hall
      have hal : l.any longB = false := by
        rw [Bool.eq_false_iff]; intro hh
        obtain ⟨s, hs, hb⟩ := List.any_eq_true.mp hh
        rw [hall s hs] at hb; cases hb
      have HL : Hid _ := hal
      clear hal hall HA e
      go_wp2_with fail
      go_ret
      exact ⟨⟨-1, rfl, by rw [HL.out]; rfl⟩, rfl⟩
set_option maxHeartbeats 400000 in
theorem anyLong_any (g cap : Nat) (l : List ByteArray) (w : World) (hr : ReadS w g 0 l) (hl : l.length ≤ 1048576) (hts : ∀ v ∈ l, v.size ≤ 1048576) :
    Calls Try.prog 23 #[.slice (some ⟨g, 0, none⟩) l.length cap, .func (.func 24) #[] #[]] w fun e w' => e = .returned (.bool (l.any longB)) ∧ w' = w := by
  go_enter Try.func23, Try.ntmps23
  go_wp2_with fail
  refine (indexLong_any g cap l w hr hl hts).mono ?_
  rintro e w1 ⟨⟨i, rfl, hi⟩, rfl⟩
  go_wp2_with fail
  go_ret
  rw [← hi]
  exact ⟨rfl, rfl⟩

set_option maxRecDepth 4000 in
set_option maxHeartbeats 1000000 in
theorem implJoin_any (g cap : Nat) (l : List ByteArray) (w : World) (hr : ReadS w g 0 l) (hl : l.length ≤ 1048576) (hts : ∀ v ∈ l, v.size ≤ 1048576) :
    Calls Try.prog 9 #[.slice (some ⟨g, 0, none⟩) l.length cap] w fun e w' => e = .returned (.tuple #[.string (joinP l).1, .int .i64 (joinP l).2]) ∧ Below w.heap.size w w' := by
  by_cases h4 : 4096 < l.length
  · have e : joinP l = (em, 2) := by unfold joinP; rw [if_pos h4]
    rw [e]
    have h4' : (4096 : Int) < l.length := by omega
    clear hr hts
    go_enter Try.func9, Try.ntmps9
    go_wp2_with fail
    go_ret2
    exact ⟨rfl, Below.refl _ _⟩
  · have h4' : ¬ (4096 : Int) < l.length := by omega
    by_cases h9 : 8 < l.length
    · have e : joinP l = (em, 10) := by unfold joinP; rw [if_neg h4, if_pos h9]
      rw [e]
      have h9' : (8 : Int) < l.length := by omega
      clear hr hts
      go_enter Try.func9, Try.ntmps9
      go_wp2_with fail
      go_ret2
      exact ⟨rfl, Below.refl _ _⟩
    · have h9' : ¬ (8 : Int) < l.length := by omega
      have HC0 := fun W : World => fun h : ReadS W g 0 l => anyLong_any g cap l W h hl hts
      cases hany : l.any longB
      · have e : joinP l = (mkB (catL l), 0) := by unfold joinP; rw [if_neg h4, if_neg h9, if_neg (by rw [hany]; decide)]
        rw [e]
        rw [hany] at HC0
        have HC : Hid _ := HC0
        have HN : Hid _ := not_any hany
        have HT : Hid _ := hts
        have HR : Hid _ := hr
        clear HC0 hany hts hr e
        go_enter Try.func9, Try.ntmps9
        go_wp2_with (go_at_call 23; refine (HC.out _ HR.out).mono ?_; rintro e w1 ⟨rfl, hw⟩; have hw' := hw.symm; clear hw; subst hw')
        go_loopw [4, 19] (fun u i wr => ∃ q : Nat, q ≤ l.length ∧ i = .int .i64 q ∧ wr.ownsRow w.heap.size 5 1 u (catL (l.take q)).length (Lib.byteCells (catL (l.take q))) ∧ Below w.heap.size w wr) (fun _ i _ => l.length - (intOf i).toNat)
        case atStart => exact ⟨0, Nat.zero_le _, rfl, World.ownsRow_nil _ _ _ _, Below.refl _ _⟩
        case round =>
          obtain ⟨q, hq, rfl, hown, hbel⟩ := hrel
          have hz := hbel.size
          have hlen := catL_len (l.take q) (fun s hs => HN.out s (List.mem_of_mem_take hs))
          rw [List.length_take] at hlen
          by_cases hlt : q < l.length
          · have x0 := (HR.out.next hbel).cells q hlt
            rw [Nat.zero_add] at x0
            have hs := HT.out l[q] (List.getElem_mem _)
            have hsl := HN.out l[q] (List.getElem_mem _)
            unfold longB at hsl
            rw [decide_eq_false_iff_not] at hsl
            have HST : Hid (_ = _) := catL_take l q hlt
            have hgl := (HR.out.next hbel).lt
            go_wp2_with (at_builtin; refine app_str rfl (.tmp 23) (.tmp 24) rfl w.heap.size _ _ _ l[q] rfl rfl hown hz (by omega) (by omega) ?_; intro v1 w1 o1 b1 k1; refine Hid.out ?_)
            refine Lib.hid ?_
            have O1 : w1.ownsRow w.heap.size 5 1 v1 (catL (l.take (q + 1))).length (Lib.byteCells (catL (l.take (q + 1)))) := by
              rw [HST.out]
              have ec : Lib.byteCells (catL (l.take q) ++ l[q].data.toList) = Lib.byteCells (catL (l.take q)) ++ Lib.byteCells l[q].data.toList := by simp [Lib.byteCells]
              rw [ec, List.length_append, toList_length]; exact o1
            have HO1 : Hid (World.ownsRow _ _ _ _ _ _ _) := O1
            have hb1 := hbel.trans b1
            clear o1 k1 O1 b1 hown x0
            go_wp2_with fail
            go_roundw
            case rel => exact ⟨q + 1, by omega, by go_num, HO1.out, hb1⟩
            case measure => simp [intOf]; omega
          · have e : l.take q = l := List.take_of_length_le (by omega)
            rw [e] at hown
            have hcv := convT wr _ (catL l) _ hown
            clear hown e
            go_wp2_with fail
            go_ret2
            exact ⟨rfl, hbel⟩
      · have e : joinP l = (em, 10) := by unfold joinP; rw [if_neg h4, if_neg h9, if_pos hany]
        rw [e]
        rw [hany] at HC0
        have HC : Hid _ := HC0
        have HR : Hid _ := hr
        clear HC0 hany hts hr e
        go_enter Try.func9, Try.ntmps9
        go_wp2_with (go_at_call 23; refine (HC.out _ HR.out).mono ?_; rintro e w1 ⟨rfl, hw⟩; have hw' := hw.symm; clear hw; subst hw')
        go_ret2
        exact ⟨rfl, Below.refl _ _⟩

end Go.Proofs.Ytmchpaccdnnilaa
