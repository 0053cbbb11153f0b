/- What the program's ListOf answers, for every row of values. -/
import Derived.Test.YtkdigdoomnafbaaListS
import Derived.Test.YtkdigdoomnafbaaDepthI
namespace Go.Proofs.Ytkdigdoomnafbaa
open Go.RowKit
set_option linter.unusedVariables false

set_option maxHeartbeats 400000 in
theorem isWrong_any (k n : Int) (t : ByteArray) (w : World) (hs : t.size ≤ maxLen) :
    Calls Try.prog 62 #[.agg #[.int .i64 k, .int .i64 n, .string t]] w fun e w' => e = .returned (.bool (!okB ⟨k, n, t⟩)) ∧ Below w.heap.size w w' := by
  go_enter Try.func62, Try.ntmps62
  go_wp2_with (go_at_call 18; refine (valueOK_any k n t _ hs).mono ?_; rintro e w1 ⟨rfl, hb⟩)
  go_ret
  exact ⟨rfl, ((Below.refl _ _).alloc (Nat.le_refl _) _).trans (hb.mono (by simp))⟩

set_option maxRecDepth 4000 in
set_option maxHeartbeats 1000000 in
theorem indexWrong_any (g cap : Nat) (l : List Val) (w : World) (hr : ReadV w g l) (hl : l.length ≤ 1048576) (hts : ∀ v ∈ l, v.t.size ≤ 1048576) :
    Calls Try.prog 93 #[.slice (some ⟨g, 0, none⟩) l.length cap, .func (.func 62) #[] #[]] w fun e w' => (∃ i : Int, e = .returned (.int .i64 i) ∧ decide (0 ≤ i) = !(l.all okB)) ∧ Below w.heap.size w w' := by
  have HR : Hid _ := hr
  have HT : Hid _ := hts
  clear hr hts
  go_enter Try.func93, Try.ntmps93
  go_wp2_with fail
  go_loopw [8] (fun i wr => ∃ k : Nat, k ≤ l.length ∧ i = .int .i64 k ∧ (∀ v ∈ l.take k, okB v = true) ∧ Below w.heap.size w wr) (fun i _ => l.length - (intOf i).toNat)
  case atStart => exact ⟨0, Nat.zero_le _, rfl, fun v hv => by simp at hv, Below.refl _ _⟩
  case round =>
    obtain ⟨k, hk, rfl, hall, hbel⟩ := hrel
    have HA : Hid _ := hall
    clear hall
    by_cases hlt : k < l.length
    · obtain ⟨x0, x1, x2⟩ := (HR.out.next hbel).cells k hlt
      have hs : l[k].t.size ≤ maxLen := by have := HT.out l[k] (List.getElem_mem _); unfold maxLen; omega
      cases hok : okB l[k]
      · have HK : Hid (okB ⟨l[k].k, l[k].n, l[k].t⟩ = false) := hok
        have hal : l.all okB = false := by
          rw [Bool.eq_false_iff]; intro hh
          rw [List.all_eq_true] at hh
          have := hh l[k] (List.getElem_mem _)
          rw [hok] at this; cases this
        have HL : Hid _ := hal
        clear hok hal
        go_wp2_with fail
        refine (isWrong_any _ _ _ _ hs).mono ?_
        rintro e w1 ⟨rfl, hb⟩
        rw [HK.out]
        go_wp2_with fail
        go_ret
        exact ⟨⟨k, rfl, by rw [HL.out]; exact decide_eq_true (by omega)⟩, hbel.trans (hb.mono hbel.size)⟩
      · have HK : Hid (okB ⟨l[k].k, l[k].n, l[k].t⟩ = true) := hok
        clear hok
        go_wp2_with fail
        refine (isWrong_any _ _ _ _ hs).mono ?_
        rintro e w1 ⟨rfl, hb⟩
        rw [HK.out]
        go_wp2_with fail
        go_roundw
        case rel => exact ⟨k + 1, by omega, by go_num, take_all _ l k hlt HA.out HK.out, hbel.trans (hb.mono hbel.size)⟩
        case measure => simp [intOf]; omega
    · have e : l.take k = l := List.take_of_length_le (by omega)
      have hall := HA.out
      rw [e] at hall
      have hal : l.all okB = true := List.all_eq_true.mpr hall
      have HL : Hid _ := hal
      clear hal hall HA e
      go_wp2_with fail
      go_ret
      exact ⟨⟨-1, rfl, by rw [HL.out]; rfl⟩, hbel⟩

set_option maxHeartbeats 400000 in
theorem anyWrong_any (g cap : Nat) (l : List Val) (w : World) (hr : ReadV w g l) (hl : l.length ≤ 1048576) (hts : ∀ v ∈ l, v.t.size ≤ 1048576) :
    Calls Try.prog 61 #[.slice (some ⟨g, 0, none⟩) l.length cap, .func (.func 62) #[] #[]] w fun e w' => e = .returned (.bool (!(l.all okB))) ∧ Below w.heap.size w w' := by
  go_enter Try.func61, Try.ntmps61
  go_wp2_with fail
  refine (indexWrong_any g cap l w hr hl hts).mono ?_
  rintro e w1 ⟨⟨i, rfl, hi⟩, hb⟩
  go_wp2_with fail
  go_ret
  rw [← hi]
  exact ⟨rfl, hb⟩

end Go.Proofs.Ytkdigdoomnafbaa
