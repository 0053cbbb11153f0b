/- What the two functions that join keys answer, for every row of texts. -/
import Derived.Test.YtmchpaccdnnilaaRowS
import Derived.Test.YtmchpaccdnnilaaAppB
import Derived.Lib.Hide
namespace Go.Proofs.Ytmchpaccdnnilaa
open Go.RowKit
set_option linter.unusedVariables false

def longB (s : ByteArray) : Bool := decide (1000 < s.size)
/-- Texts one behind the other. -/
def catL (l : List ByteArray) : List UInt8 := l.flatMap fun s => s.data.toList
def joinP (l : List ByteArray) : ByteArray × Int :=
  if 4096 < l.length then (em, 2) else if 8 < l.length then (em, 10) else if l.any longB = true then (em, 10) else (mkB (catL l), 0)
theorem catL_take (l : List ByteArray) (q : Nat) (h : q < l.length) : catL (l.take (q + 1)) = catL (l.take q) ++ l[q].data.toList := by
  unfold catL; rw [List.take_succ_eq_append_getElem h, List.flatMap_append]; simp
theorem catL_len (l : List ByteArray) (h : ∀ s ∈ l, longB s = false) : (catL l).length ≤ 1000 * l.length := by
  unfold catL
  induction l with
  | nil => simp
  | cons s r ih =>
    have h1 := h s (by simp)
    unfold longB at h1
    rw [decide_eq_false_iff_not] at h1
    have h2 := ih (fun u hu => h u (by simp [hu]))
    rw [List.flatMap_cons, List.length_append, toList_length, List.length_cons]
    omega
theorem not_any {l : List ByteArray} (h : l.any longB = false) : ∀ s ∈ l, longB s = false := by
  intro s hs
  cases hb : longB s
  · rfl
  · have : l.any longB = true := List.any_eq_true.mpr ⟨s, hs, hb⟩
    rw [h] at this; cases this

set_option maxHeartbeats 400000 in
theorem isLongPart_any (s : ByteArray) (w : World) (hs : s.size ≤ 1048576) : Calls Try.prog 24 #[.string s] w fun e w' => e = .returned (.bool (longB s)) ∧ w' = w := by
  unfold longB
  by_cases h : 1000 < s.size
  · rw [decide_eq_true h]
    have h' : (1000 : Int) < s.size := by omega
    go_enter Try.func24, Try.ntmps24
    go_wp2_with fail
    go_ret
    exact ⟨rfl, rfl⟩
  · rw [decide_eq_false h]
    have h' : ¬ (1000 : Int) < s.size := by omega
    go_enter Try.func24, Try.ntmps24
    go_wp2_with fail
    go_ret
    exact ⟨rfl, rfl⟩
set_option maxRecDepth 4000 in
set_option maxHeartbeats 1000000 in
theorem indexLong_any (g cap : Nat) (l : List ByteArray) (w : World) (hr : ReadS w g 0 l) (hl : l.length ≤ 1048576) (hts : ∀ v ∈ l, v.size ≤ 1048576) :
    Calls Try.prog 57 #[.slice (some ⟨g, 0, none⟩) l.length cap, .func (.func 24) #[] #[]] w fun e w' => (∃ i : Int, e = .returned (.int .i64 i) ∧ decide (0 ≤ i) = l.any longB) ∧ w' = w := by
  have HR : Hid _ := hr
  have HT : Hid _ := hts
  clear hr hts
  go_enter Try.func57, Try.ntmps57
  go_wp2_with fail
  go_loopw [8] (fun i wr => ∃ k : Nat, k ≤ l.length ∧ i = .int .i64 k ∧ (∀ v ∈ l.take k, longB v = false) ∧ wr = w) (fun i _ => l.length - (intOf i).toNat)
  case atStart => exact ⟨0, Nat.zero_le _, rfl, fun v hv => by simp at hv, rfl⟩
  case round =>
    obtain ⟨k, hk, rfl, hall, rfl⟩ := hrel
    have HA : Hid _ := hall
    clear hall
    by_cases hlt : k < l.length
    · have x0 := HR.out.cells k hlt
      rw [Nat.zero_add] at x0
      have hs := HT.out l[k] (List.getElem_mem _)
      cases hok : longB l[k]
      · have HK : Hid (longB l[k] = false) := hok
        clear hok
        go_wp2_with fail
        refine (isLongPart_any _ _ hs).mono ?_
        rintro e w1 ⟨rfl, rfl⟩
        rw [HK.out]
        go_wp2_with fail
        go_roundw
        case rel => exact ⟨k + 1, by omega, by go_num, take_allS _ l k hlt HA.out HK.out, trivial⟩
        case measure => simp [intOf]; omega
      · have HK : Hid (longB l[k] = true) := hok
        have hal : l.any longB = true := List.any_eq_true.mpr ⟨l[k], List.getElem_mem _, hok⟩
        have HL : Hid _ := hal
        clear hok hal
        go_wp2_with fail
        refine (isLongPart_any _ _ hs).mono ?_
        rintro e w1 ⟨rfl, rfl⟩
        rw [HK.out]
        go_wp2_with fail
        go_ret
        exact ⟨⟨k, rfl, by rw [HL.out]; exact decide_eq_true (by omega)⟩, rfl⟩
    · have e : l.take k = l := List.take_of_length_le (by omega)
      have hall := HA.out
      rw [e] at hall
      have hal : l.any longB = false := by
        rw [Bool.eq_false_iff]; intro hh
        obtain ⟨s, hs, hb⟩ := List.any_eq_true.mp hh
        rw [hall s hs] at hb; cases hb
      have HL : Hid _ := hal
      clear hal hall HA e
      go_wp2_with fail
      go_ret
      exact ⟨⟨-1, rfl, by rw [HL.out]; rfl⟩, rfl⟩
set_option maxHeartbeats 400000 in
theorem anyLong_any (g cap : Nat) (l : List ByteArray) (w : World) (hr : ReadS w g 0 l) (hl : l.length ≤ 1048576) (hts : ∀ v ∈ l, v.size ≤ 1048576) :
    Calls Try.prog 23 #[.slice (some ⟨g, 0, none⟩) l.length cap, .func (.func 24) #[] #[]] w fun e w' => e = .returned (.bool (l.any longB)) ∧ w' = w := by
  go_enter Try.func23, Try.ntmps23
  go_wp2_with fail
  refine (indexLong_any g cap l w hr hl hts).mono ?_
  rintro e w1 ⟨⟨i, rfl, hi⟩, rfl⟩
  go_wp2_with fail
  go_ret
  rw [← hi]
  exact ⟨rfl, rfl⟩

set_option maxRecDepth 4000 in
set_option maxHeartbeats 1000000 in
theorem implJoin_any (g cap : Nat) (l : List ByteArray) (w : World) (hr : ReadS w g 0 l) (hl : l.length ≤ 1048576) (hts : ∀ v ∈ l, v.size ≤ 1048576) :
    Calls Try.prog 9 #[.slice (some ⟨g, 0, none⟩) l.length cap] w fun e w' => e = .returned (.tuple #[.string (joinP l).1, .int .i64 (joinP l).2]) ∧ Below w.heap.size w w' := by
  by_cases h4 : 4096 < l.length
  · have e : joinP l = (em, 2) := by unfold joinP; rw [if_pos h4]
    rw [e]
    have h4' : (4096 : Int) < l.length := by omega
    clear hr hts
    go_enter Try.func9, Try.ntmps9
    go_wp2_with fail
    go_ret2
    exact ⟨rfl, Below.refl _ _⟩
  · have h4' : ¬ (4096 : Int) < l.length := by omega
    by_cases h9 : 8 < l.length
    · have e : joinP l = (em, 10) := by unfold joinP; rw [if_neg h4, if_pos h9]
      rw [e]
      have h9' : (8 : Int) < l.length := by omega
      clear hr hts
      go_enter Try.func9, Try.ntmps9
      go_wp2_with fail
      go_ret2
      exact ⟨rfl, Below.refl _ _⟩
    · have h9' : ¬ (8 : Int) < l.length := by omega
      have HC0 := fun W : World => fun h : ReadS W g 0 l => anyLong_any g cap l W h hl hts
      cases hany : l.any longB
      · have e : joinP l = (mkB (catL l), 0) := by unfold joinP; rw [if_neg h4, if_neg h9, if_neg (by rw [hany]; decide)]
        rw [e]
        rw [hany] at HC0
        have HC : Hid _ := HC0
        have HN : Hid _ := not_any hany
        have HT : Hid _ := hts
        have HR : Hid _ := hr
        clear HC0 hany hts hr e
        go_enter Try.func9, Try.ntmps9
        go_wp2_with (go_at_call 23; refine (HC.out _ HR.out).mono ?_; rintro e w1 ⟨rfl, hw⟩; have hw' := hw.symm; clear hw; subst hw')
        go_loopw [4, 19] (fun u i wr => ∃ q : Nat, q ≤ l.length ∧ i = .int .i64 q ∧ wr.ownsRow w.heap.size 5 1 u (catL (l.take q)).length (Lib.byteCells (catL (l.take q))) ∧ Below w.heap.size w wr) (fun _ i _ => l.length - (intOf i).toNat)
        case atStart => exact ⟨0, Nat.zero_le _, rfl, World.ownsRow_nil _ _ _ _, Below.refl _ _⟩
        case round =>
          obtain ⟨q, hq, rfl, hown, hbel⟩ := hrel
          have hz := hbel.size
          have hlen := catL_len (l.take q) (fun s hs => HN.out s (List.mem_of_mem_take hs))
          rw [List.length_take] at hlen
          by_cases hlt : q < l.length
          · have x0 := (HR.out.next hbel).cells q hlt
            rw [Nat.zero_add] at x0
            have hs := HT.out l[q] (List.getElem_mem _)
            have hsl := HN.out l[q] (List.getElem_mem _)
            unfold longB at hsl
            rw [decide_eq_false_iff_not] at hsl
            have HST : Hid (_ = _) := catL_take l q hlt
            have hgl := (HR.out.next hbel).lt
            go_wp2_with (at_builtin; refine app_str rfl (.tmp 23) (.tmp 24) rfl w.heap.size _ _ _ l[q] rfl rfl hown hz (by omega) (by omega) ?_; intro v1 w1 o1 b1 k1; refine Hid.out ?_)
            refine Lib.hid ?_
            have O1 : w1.ownsRow w.heap.size 5 1 v1 (catL (l.take (q + 1))).length (Lib.byteCells (catL (l.take (q + 1)))) := by
              rw [HST.out]
              have ec : Lib.byteCells (catL (l.take q) ++ l[q].data.toList) = Lib.byteCells (catL (l.take q)) ++ Lib.byteCells l[q].data.toList := by simp [Lib.byteCells]
              rw [ec, List.length_append, toList_length]; exact o1
            have HO1 : Hid (World.ownsRow _ _ _ _ _ _ _) := O1
            have hb1 := hbel.trans b1
            clear o1 k1 O1 b1 hown x0
            go_wp2_with fail
            go_roundw
            case rel => exact ⟨q + 1, by omega, by go_num, HO1.out, hb1⟩
            case measure => simp [intOf]; omega
          · have e : l.take q = l := List.take_of_length_le (by omega)
            rw [e] at hown
            have hcv := convT wr _ (catL l) _ hown
            clear hown e
            go_wp2_with fail
            go_ret2
            exact ⟨rfl, hbel⟩
      · have e : joinP l = (em, 10) := by unfold joinP; rw [if_neg h4, if_neg h9, if_pos hany]
        rw [e]
        rw [hany] at HC0
        have HC : Hid _ := HC0
        have HR : Hid _ := hr
        clear HC0 hany hts hr e
        go_enter Try.func9, Try.ntmps9
        go_wp2_with (go_at_call 23; refine (HC.out _ HR.out).mono ?_; rintro e w1 ⟨rfl, hw⟩; have hw' := hw.symm; clear hw; subst hw')
        go_ret2
        exact ⟨rfl, Below.refl _ _⟩

end Go.Proofs.Ytmchpaccdnnilaa
