/- What the two functions that hold a document to a term answer, for every term and every value. -/
import Derived.Test.YtkeghknceccdmaaGreatDoorTermU
import Derived.Test.YtkeghknceccdmaaGreatDoorTermT
import Derived.Test.YtkeghknceccdmaaGreatDoorTermW
import Derived.Test.YtkeghknceccdmaaGreatDoorDocB
namespace Go.Proofs.YtkeghknceccdmaaGreatDoor
open Go.RowKit
set_option linter.unusedVariables false

/-- What holding a document to a term comes to. -/
def matchP (op : Int) (p : ByteArray) (c doc : Val) : Bool × Int := if termB op p c = true ∧ docB doc = true then (termL op p c doc, 0) else (false, 1)
theorem termB_parts (op : Int) (p : ByteArray) (c : Val) (h : termB op p c = true) : p.size ≤ 50 ∧ okB c = true ∧ (1 ≤ op ∧ op ≤ 10) ∧ (op = 7 → c.k = 4) := by
  unfold termB at h
  rw [Bool.and_eq_true, Bool.and_eq_true] at h
  obtain ⟨hp, hc, ht⟩ := h
  refine ⟨?_, hc, ?_, ?_⟩
  · rcases Nat.lt_or_ge 50 p.size with h' | h'
    · rw [pathB_long p h'] at hp; cases hp
    · exact h'
  · unfold takesT at ht
    by_cases h1 : 1 ≤ op ∧ op ≤ 10
    · exact h1
    · rw [if_neg (by omega), if_neg (by omega), if_neg (by omega), if_neg (by omega), if_neg (by omega)] at ht; cases ht
  · intro h7
    subst h7
    unfold takesT at ht
    simpa using ht

set_option maxRecDepth 4000 in
set_option maxHeartbeats 1000000 in
theorem termMatches_any (op : Int) (p : ByteArray) (c doc : Val) (w : World) (hp : p.size ≤ 1048576) (hs : c.t.size ≤ 1048576) (hd : doc.t.size ≤ 1048576) :
    Calls Tryz.prog 18 #[.agg #[.int .i64 op, .string p, .int .i64 c.k, .int .i64 c.n, .string c.t], .agg #[.int .i64 doc.k, .int .i64 doc.n, .string doc.t]] w fun e w' => e = .returned (.tuple #[.bool (matchP op p c doc).1, .int .i64 (matchP op p c doc).2]) ∧ Below w.heap.size w w' := by
  have X0 := B53.start w (.int .i64 op) (.string p) (.int .i64 c.k) (.int .i64 c.n) (.string c.t) (.int .i64 doc.k) (.int .i64 doc.n) (.string doc.t) 34 28
  have HT : Hid (∀ W : World, Calls _ _ _ W _) := fun W => termOK_any op p c.k c.n c.t W hp hs
  have ho : termB op p ⟨c.k, c.n, c.t⟩ = termB op p c := rfl
  rw [ho] at HT
  clear ho
  cases hT : termB op p c
  · have e : matchP op p c doc = (false, 1) := by unfold matchP; rw [if_neg (by rw [hT]; simp)]
    rw [e]
    rw [hT] at HT
    clear e hT
    go_enter Tryz.func18, Tryz.ntmps18
    go_wp2_with fail
    refine (HT.out _).mono ?_
    rintro e w1 ⟨rfl, hb⟩
    have hbw := (X0.step hb).bel
    clear hb
    go_wp2_with fail
    go_ret2
    exact ⟨rfl, hbw⟩
  have HTT : Hid _ := hT
  rw [hT] at HT
  have HD : Hid (∀ W : World, Calls _ _ _ W _) := fun W => documentOK_any doc W hd
  cases hD : docB doc
  · have e : matchP op p c doc = (false, 1) := by unfold matchP; rw [if_neg (by rw [hD]; simp)]
    rw [e]
    rw [hD] at HD
    clear e hT hD
    go_enter Tryz.func18, Tryz.ntmps18
    go_wp2_with fail
    refine (HT.out _).mono ?_
    rintro e w1 ⟨rfl, hb⟩
    have X1 := X0.step hb
    have b0 := X1.d0
    have b1 := X1.d1
    have b2 := X1.d2
    clear hb X0
    go_wp2_with fail
    refine (HD.out _).mono ?_
    rintro e w2 ⟨rfl, hb⟩
    have hbw := (X1.step hb).bel
    clear hb
    go_wp2_with fail
    go_ret2
    exact ⟨rfl, hbw⟩
  have e : matchP op p c doc = (termL op p c doc, 0) := by unfold matchP; rw [if_pos ⟨hT, hD⟩]
  rw [e]
  rw [hD] at HD
  obtain ⟨t1, t2, t3, t4⟩ := termB_parts op p c hT
  have HL : Hid (∀ W : World, Calls _ _ _ W _) := fun W => termLets_any op p c doc W (by omega) t3 t4 t2 (docB_ok doc hD)
  obtain ⟨R, hR⟩ : ∃ R, R = termL op p c doc := ⟨_, rfl⟩
  rw [← hR] at HL ⊢
  clear e hT hD t1 t2 t3 t4 hR
  go_enter Tryz.func18, Tryz.ntmps18
  go_wp2_with fail
  refine (HT.out _).mono ?_
  rintro e w1 ⟨rfl, hb⟩
  have X1 := X0.step hb
  have b0 := X1.d0
  have b1 := X1.d1
  have b2 := X1.d2
  clear hb X0
  go_wp2_with fail
  refine (HD.out _).mono ?_
  rintro e w2 ⟨rfl, hb⟩
  have X2 := X1.step hb
  clear hb X1 b0 b1 b2
  have a0 := X2.c0
  have a1 := X2.c1
  have a2 := X2.c2
  have a3 := X2.c3
  have a4 := X2.c4
  have b0 := X2.d0
  have b1 := X2.d1
  have b2 := X2.d2
  go_wp2_with fail
  refine (HL.out _).mono ?_
  rintro e w3 ⟨rfl, hb⟩
  have hbw := (X2.step hb).bel
  clear hb
  go_wp2_with fail
  go_ret2
  exact ⟨rfl, hbw⟩

end Go.Proofs.YtkeghknceccdmaaGreatDoor
