/- What the program's comparing of numbers, texts and pairs of numbers answers. -/
import Derived.Test.YtmchpaccdnnilaaOrdS
import Derived.Test.YtmchpaccdnnilaaIn
import Derived.Lib.Walk
import Derived.StillTailTactics
import Derived.Deep.RegionWith
namespace Go.Proofs.Ytmchpaccdnnilaa
open Go.RowKit
set_option linter.unusedVariables false

set_option maxRecDepth 4000 in
set_option maxHeartbeats 1000000 in
theorem cmpInt_any (x y : Int) (w : World) : Calls Try.prog 45 #[.int .i64 x, .int .i64 y] w fun e w' => e = .returned (.int .i64 (cI x y)) ∧ w' = w := by
  by_cases h1 : x < y
  · have e : cI x y = -1 := by unfold cI Lib.compareInt; rw [if_pos h1]
    rw [e]
    go_enter Try.func45, Try.ntmps45
    go_wp2
    go_ret
    exact ⟨rfl, rfl⟩
  · by_cases h2 : y < x
    · have e : cI x y = 1 := by unfold cI Lib.compareInt; rw [if_neg h1, if_pos h2]
      rw [e]
      go_enter Try.func45, Try.ntmps45
      go_wp2
      go_ret
      exact ⟨rfl, rfl⟩
    · have e : cI x y = 0 := by unfold cI Lib.compareInt; rw [if_neg h1, if_neg h2]
      rw [e]
      go_enter Try.func45, Try.ntmps45
      go_wp2
      go_ret
      exact ⟨rfl, rfl⟩
set_option maxRecDepth 4000 in
set_option maxHeartbeats 1000000 in
theorem or_first (g c : Nat) (x : Int) (w : World) (h0 : w.cell? ⟨g, 0, none⟩ = some (.int .i64 x)) (hx : x ≠ 0) :
    Calls Try.prog 44 #[.slice (some ⟨g, 0, none⟩) 2 c] w fun e w' => e = .returned (.int .i64 x) ∧ w' = w := by
  have e0 : (x == 0) = false := beq_eq_false_iff_ne.mpr hx
  go_enter Try.func44, Try.ntmps44
  go_wp2_with fail
  refine wp_loop_rounds 1 ?_
  rw [rounds_succ]
  go_wp2_with fail
  go_ret
  exact ⟨rfl, rfl⟩
set_option maxRecDepth 4000 in
set_option maxHeartbeats 1000000 in
theorem or_second (g c : Nat) (y : Int) (w : World) (h0 : w.cell? ⟨g, 0, none⟩ = some (.int .i64 0)) (h1 : w.cell? ⟨g, 1, none⟩ = some (.int .i64 y)) (hy : y ≠ 0) :
    Calls Try.prog 44 #[.slice (some ⟨g, 0, none⟩) 2 c] w fun e w' => e = .returned (.int .i64 y) ∧ w' = w := by
  have e0 : (y == 0) = false := beq_eq_false_iff_ne.mpr hy
  go_enter Try.func44, Try.ntmps44
  go_wp2_with fail
  refine wp_loop_rounds 2 ?_
  rw [rounds_succ]
  go_wp2_with fail
  rw [rounds_succ]
  go_wp2_with fail
  go_ret
  exact ⟨rfl, rfl⟩
set_option maxRecDepth 4000 in
set_option maxHeartbeats 1000000 in
theorem or_none (g c : Nat) (w : World) (h0 : w.cell? ⟨g, 0, none⟩ = some (.int .i64 0)) (h1 : w.cell? ⟨g, 1, none⟩ = some (.int .i64 0)) :
    Calls Try.prog 44 #[.slice (some ⟨g, 0, none⟩) 2 c] w fun e w' => e = .returned (.int .i64 0) ∧ w' = w := by
  go_enter Try.func44, Try.ntmps44
  go_wp2_with fail
  refine wp_loop_rounds 3 ?_
  rw [rounds_succ]
  go_wp2_with fail
  rw [rounds_succ]
  go_wp2_with fail
  rw [rounds_succ]
  go_wp2_with fail
  go_ret
  exact ⟨rfl, rfl⟩
set_option maxRecDepth 100000 in
set_option maxHeartbeats 1000000 in
theorem cmpStr0_any (a b : ByteArray) (w : World) : Calls Try.prog 79 #[.string a, .string b] w fun e w' => e = .returned (.int .i64 (cB a b)) ∧ w' = w := by
  go_enter Try.func79, Try.ntmps79
  go_wp2
  rw [run_callFunc_extern Try.func101 (by kernel_rfl) (by kernel_rfl) (by kernel_rfl) (e := Extern.BytealgCompare.compare) (by kernel_rfl), Lib.run_compareString]
  simp only [Result.andThen]
  rw [Oper.upon_value]
  go_wp2
  go_ret
  exact ⟨rfl, rfl⟩
set_option maxHeartbeats 1000000 in
theorem cmpStr_any (a b : ByteArray) (w : World) : Calls Try.prog 51 #[.string a, .string b] w fun e w' => e = .returned (.int .i64 (cB a b)) ∧ w' = w := by
  go_enter Try.func51, Try.ntmps51
  go_wp2_with (go_at_call 79; refine (cmpStr0_any a b _).mono ?_; rintro e w1 ⟨rfl, rfl⟩)
  go_ret
  exact ⟨rfl, rfl⟩

/-- Two values of three cells in the first two new blocks. -/
structure Two (w W : World) (a b c a' b' c' : Value) : Prop where
  bel : Below w.heap.size w W
  lt : w.heap.size + 1 < W.heap.size
  c0 : W.cell? ⟨w.heap.size, 0, none⟩ = some a
  c1 : W.cell? ⟨w.heap.size, 1, none⟩ = some b
  c2 : W.cell? ⟨w.heap.size, 2, none⟩ = some c
  d0 : W.cell? ⟨w.heap.size + 1, 0, none⟩ = some a'
  d1 : W.cell? ⟨w.heap.size + 1, 1, none⟩ = some b'
  d2 : W.cell? ⟨w.heap.size + 1, 2, none⟩ = some c'
theorem Two.start (w : World) (a b c a' b' c' : Value) (T : TypeId) : Two w ((w.alloc (.cells #[a, b, c] T)).alloc (.cells #[a', b', c'] T)) a b c a' b' c' :=
  ⟨((Below.refl _ _).alloc (Nat.le_refl _) _).alloc (by simp) _, by simp, by simp [go_sem], by simp [go_sem], by simp [go_sem], by simp [go_sem], by simp [go_sem], by simp [go_sem]⟩
theorem Two.step {w W W' : World} {a b c a' b' c' : Value} (h : Two w W a b c a' b' c') (hb : Below W.heap.size W W') : Two w W' a b c a' b' c' :=
  have hl : w.heap.size < W.heap.size := Nat.lt_of_succ_lt h.lt
  ⟨h.bel.trans (hb.mono h.bel.size), Nat.lt_of_lt_of_le h.lt hb.size, (hb.cell hl).trans h.c0, (hb.cell hl).trans h.c1, (hb.cell hl).trans h.c2, (hb.cell h.lt).trans h.d0, (hb.cell h.lt).trans h.d1, (hb.cell h.lt).trans h.d2⟩

set_option maxRecDepth 4000 in
set_option maxHeartbeats 1000000 in
theorem compare_same (k n : Int) (t : ByteArray) (w : World) :
    Calls Try.prog 19 #[.agg #[.int .i64 k, .int .i64 n, .string t], .agg #[.int .i64 k, .int .i64 n, .string t]] w fun e w' => e = .returned (.int .i64 0) ∧ Below w.heap.size w w' := by
  go_enter Try.func19, Try.ntmps19
  go_wp2_with fail
  go_ret
  exact ⟨rfl, by (repeat (first | (with_reducible exact Below.refl _ _) | (with_reducible assumption) | (with_reducible apply below_drewN) | (with_reducible apply Below.drew) | ((with_reducible refine Below.setCell ?_ ?_ _); rotate_left; focus (first | (simp; done) | (simp; omega) | omega)) | ((with_reducible refine Below.alloc ?_ ?_ _); rotate_left; focus (first | (simp; done) | (simp; omega) | omega))))⟩
theorem still_tail_at {P : Program} {id : Nat} {Q : Exit → Act → World → Prop} {a : Act} {w : World} {l : List Oper} (n : Nat) (hm : P.follows .mixedOrders = true) (hB : Region.lexTailB .any l.toArray n = true)
    (h : ∀ V : World, V = w.drew → wpStill P l.toArray V (fun a' => wpList P l.toArray Q (l.drop n) a' V) (l.take n) a) : (Code.region id l.toArray true).wp P Q a w :=
  wp_region_still_tail n hm hB (h _ rfl)
theorem Two.drawn {w V : World} {a b c a' b' c' : Value} {T : TypeId} (h : V = ((w.alloc (.cells #[a, b, c] T)).alloc (.cells #[a', b', c'] T)).drew) : Two w V a b c a' b' c' := by
  subst h
  exact (Two.start w a b c a' b' c' T).step (Below.refl _ _).drew
set_option maxRecDepth 4000 in
set_option maxHeartbeats 1000000 in
theorem compare_k (k n k' n' : Int) (t t' : ByteArray) (w : World) (h : k ≠ k') :
    Calls Try.prog 19 #[.agg #[.int .i64 k, .int .i64 n, .string t], .agg #[.int .i64 k', .int .i64 n', .string t']] w fun e w' => e = .returned (.int .i64 (cI k k')) ∧ Below w.heap.size w w' := by
  have hb : (k == k') = false := beq_eq_false_iff_ne.mpr h
  have hnz : cI k k' ≠ 0 := fun e => h ((cI_zero _ _).mp e)
  have hnb : (cI k k' == 0) = false := beq_eq_false_iff_ne.mpr hnz
  go_enter Try.func19, Try.ntmps19
  go_wp2_with fail
  refine still_tail_at 10 (by kernel_rfl) (by kernel_rfl) ?_
  intro V hV
  have X := Two.drawn hV
  obtain ⟨hbw, hlt, c0, c1, c2, d0, d1, d2⟩ := X
  clear hV
  simp only [List.take_succ_cons, List.take_zero, List.drop_succ_cons, List.drop_zero]
  repeat still_step
  still_call (cmpInt_any k k' _)
  repeat still_step
  still_call (cmpInt_any n n' _)
  refine wpStill_nil ?_
  go_wp2_with (go_at_call 44; refine (or_first _ _ (cI k k') _ (by simp [go_sem]) hnz).mono ?_; rintro e w1 ⟨rfl, rfl⟩)
  go_ret
  exact ⟨rfl, by (repeat (first | (with_reducible exact Below.refl _ _) | (with_reducible assumption) | (with_reducible apply below_drewN) | (with_reducible apply Below.drew) | ((with_reducible refine Below.setCell ?_ ?_ _); rotate_left; focus (first | (simp; done) | (simp; omega) | omega)) | ((with_reducible refine Below.alloc ?_ ?_ _); rotate_left; focus (first | (simp; done) | (simp; omega) | omega))))⟩
set_option maxRecDepth 4000 in
set_option maxHeartbeats 1000000 in
theorem compare_n (k n n' : Int) (t t' : ByteArray) (w : World) (h : n ≠ n') :
    Calls Try.prog 19 #[.agg #[.int .i64 k, .int .i64 n, .string t], .agg #[.int .i64 k, .int .i64 n', .string t']] w fun e w' => e = .returned (.int .i64 (cI n n')) ∧ Below w.heap.size w w' := by
  have hb : (n == n') = false := beq_eq_false_iff_ne.mpr h
  have hnz : cI n n' ≠ 0 := fun e => h ((cI_zero _ _).mp e)
  have hnb : (cI n n' == 0) = false := beq_eq_false_iff_ne.mpr hnz
  have hk0 : cI k k = 0 := (cI_zero _ _).mpr rfl
  have HK : ∀ W : World, Calls Try.prog 45 #[.int .i64 k, .int .i64 k] W fun e w' => e = .returned (.int .i64 0) ∧ w' = W := fun W => by have := cmpInt_any k k W; rw [hk0] at this; exact this
  go_enter Try.func19, Try.ntmps19
  go_wp2_with fail
  refine still_tail_at 10 (by kernel_rfl) (by kernel_rfl) ?_
  intro V hV
  have X := Two.drawn hV
  obtain ⟨hbw, hlt, c0, c1, c2, d0, d1, d2⟩ := X
  clear hV
  simp only [List.take_succ_cons, List.take_zero, List.drop_succ_cons, List.drop_zero]
  repeat still_step
  still_call (HK _)
  repeat still_step
  still_call (cmpInt_any n n' _)
  refine wpStill_nil ?_
  go_wp2_with (go_at_call 44; refine (or_second _ _ (cI n n') _ (by simp [go_sem]) (by simp [go_sem]) hnz).mono ?_; rintro e w1 ⟨rfl, rfl⟩)
  go_ret
  exact ⟨rfl, by (repeat (first | (with_reducible exact Below.refl _ _) | (with_reducible assumption) | (with_reducible apply below_drewN) | (with_reducible apply Below.drew) | ((with_reducible refine Below.setCell ?_ ?_ _); rotate_left; focus (first | (simp; done) | (simp; omega) | omega)) | ((with_reducible refine Below.alloc ?_ ?_ _); rotate_left; focus (first | (simp; done) | (simp; omega) | omega))))⟩
set_option maxRecDepth 4000 in
set_option maxHeartbeats 1000000 in
theorem compare_t (k n : Int) (t t' : ByteArray) (w : World) (h : t ≠ t') (h4 : k ≠ 4) (h5 : k ≠ 5) :
    Calls Try.prog 19 #[.agg #[.int .i64 k, .int .i64 n, .string t], .agg #[.int .i64 k, .int .i64 n, .string t']] w fun e w' => e = .returned (.int .i64 (cB t t')) ∧ Below w.heap.size w w' := by
  have hb := toList_ne h
  have e4 : (k == 4) = false := beq_eq_false_iff_ne.mpr h4
  have e5 : (k == 5) = false := beq_eq_false_iff_ne.mpr h5
  have hk0 : ∀ x : Int, cI x x = 0 := fun x => (cI_zero _ _).mpr rfl
  have HK0 : ∀ (x : Int) (W : World), Calls Try.prog 45 #[.int .i64 x, .int .i64 x] W fun e w' => e = .returned (.int .i64 0) ∧ w' = W := fun x W => by have := cmpInt_any x x W; rw [hk0] at this; exact this
  have HK : Hid _ := HK0
  clear HK0 hk0
  go_enter Try.func19, Try.ntmps19
  go_wp2_with fail
  refine still_tail_at 10 (by kernel_rfl) (by kernel_rfl) ?_
  intro V hV
  have X := Two.drawn hV
  have a0 : ∀ o, (V.alloc o).cell? ⟨w.heap.size, 0, none⟩ = some (.int .i64 k) := fun o => (X.step ((Below.refl _ _).alloc (Nat.le_refl _) o)).c0
  have a2 : ∀ o, (V.alloc o).cell? ⟨w.heap.size, 2, none⟩ = some (.string t) := fun o => (X.step ((Below.refl _ _).alloc (Nat.le_refl _) o)).c2
  have b2 : ∀ o, (V.alloc o).cell? ⟨w.heap.size + 1, 2, none⟩ = some (.string t') := fun o => (X.step ((Below.refl _ _).alloc (Nat.le_refl _) o)).d2
  obtain ⟨hbw, hlt, c0, c1, c2, d0, d1, d2⟩ := X
  clear hV
  simp only [List.take_succ_cons, List.take_zero, List.drop_succ_cons, List.drop_zero]
  repeat still_step
  still_call (HK.out k _)
  repeat still_step
  still_call (HK.out n _)
  refine wpStill_nil ?_
  go_wp2_with (first | (go_at_call 44; refine (or_none _ _ _ (by simp [go_sem]) (by simp [go_sem])).mono ?_; rintro e w1 ⟨rfl, rfl⟩) | (go_at_call 51; refine (cmpStr_any t t' _).mono ?_; rintro e w1 ⟨rfl, rfl⟩))
  go_ret
  exact ⟨rfl, by (repeat (first | (with_reducible exact Below.refl _ _) | (with_reducible assumption) | (with_reducible apply below_drewN) | (with_reducible apply Below.drew) | ((with_reducible refine Below.setCell ?_ ?_ _); rotate_left; focus (first | (simp; done) | (simp; omega) | omega)) | ((with_reducible refine Below.alloc ?_ ?_ _); rotate_left; focus (first | (simp; done) | (simp; omega) | omega))))⟩

end Go.Proofs.Ytmchpaccdnnilaa

/- What the program's comparing of rows of values and of fields answers. -/
namespace Go.Proofs.Ytmchpaccdnnilaa
open Go.RowKit
set_option linter.unusedVariables false

def compareAt (d : Nat) : Prop := ∀ (a b : Val) (w : World), a.t.size ≤ 1048576 → b.t.size ≤ 1048576 → fits d a = true → fits d b = true →
    Calls Try.prog 19 #[.agg #[.int .i64 a.k, .int .i64 a.n, .string a.t], .agg #[.int .i64 b.k, .int .i64 b.n, .string b.t]] w fun e w' => e = .returned (.int .i64 (ordV d a b)) ∧ Below w.heap.size w w'
/-- A row of values, a nil one too. -/
def RowV (w : World) (p : Option Addr) (l : List Val) : Prop := l = [] ∨ ∃ g, p = some ⟨g, 0, none⟩ ∧ ReadV w g l
theorem RowV.next {w w' : World} {p : Option Addr} {l : List Val} (h : RowV w p l) (hb : Below w.heap.size w w') : RowV w' p l := by
  rcases h with h | ⟨g, hp, hr⟩
  · exact .inl h
  · exact .inr ⟨g, hp, hr.next hb⟩
def RowF (w : World) (p : Option Addr) (l : List Fld) : Prop := l = [] ∨ ∃ g, p = some ⟨g, 0, none⟩ ∧ ReadF w g l
theorem RowF.next {w w' : World} {p : Option Addr} {l : List Fld} (h : RowF w p l) (hb : Below w.heap.size w w') : RowF w' p l := by
  rcases h with h | ⟨g, hp, hr⟩
  · exact .inl h
  · exact .inr ⟨g, hp, hr.next hb⟩
theorem itemsIn_row (body : ByteArray) (l : List Val) (w : World) (hs : body.size ≤ 1048576) (hi : items body = some l) :
    Calls Try.prog 47 #[.string body] w fun e w' => (∃ p cap, e = .returned (.slice p l.length cap) ∧ RowV w' p l) ∧ Below w.heap.size w w' := by
  by_cases hl : l = []
  · subst hl
    exact (itemsIn_nil body w hs hi).mono fun e w' ⟨he, hb⟩ => ⟨⟨none, 0, he, .inl rfl⟩, hb⟩
  · exact (itemsIn_cons body l w hs hi hl).mono fun e w' ⟨⟨g, cap, he, ho⟩, hb⟩ => ⟨⟨some ⟨g, 0, none⟩, cap, he, .inr ⟨g, rfl, ReadV.of_own ho⟩⟩, hb⟩
theorem fieldsIn_row (body : ByteArray) (l : List Fld) (w : World) (hs : body.size ≤ 1048576) (hi : fields body = some l) :
    Calls Try.prog 49 #[.string body] w fun e w' => (∃ p cap, e = .returned (.slice p l.length cap) ∧ RowF w' p l) ∧ Below w.heap.size w w' := by
  by_cases hl : l = []
  · subst hl
    exact (fieldsIn_nil body w hs hi).mono fun e w' ⟨he, hb⟩ => ⟨⟨none, 0, he, .inl rfl⟩, hb⟩
  · exact (fieldsIn_cons body l w hs hi hl).mono fun e w' ⟨⟨g, cap, he, ho⟩, hb⟩ => ⟨⟨some ⟨g, 0, none⟩, cap, he, .inr ⟨g, rfl, ReadF.of_own ho⟩⟩, hb⟩

set_option maxRecDepth 4000 in
set_option maxHeartbeats 2000000 in
theorem compareRows (d : Nat) (ih : compareAt d) (p p' : Option Addr) (c c' : Nat) (la lb : List Val) (w : World) (ra : RowV w p la) (rb : RowV w p' lb) (hla : la.length ≤ 1048576) (hlb : lb.length ≤ 1048576)
    (hall : ∀ u ∈ la, fits d u = true ∧ u.t.size ≤ 1048576) (hall' : ∀ u ∈ lb, fits d u = true ∧ u.t.size ≤ 1048576) :
    Calls Try.prog 46 #[.slice p la.length c, .slice p' lb.length c', .func (.func 19) #[] #[]] w fun e w' => e = .returned (.int .i64 (lexG (ordV d) la lb)) ∧ Below w.heap.size w w' := by
  obtain ⟨R, hR⟩ : ∃ R, R = lexG (ordV d) la lb := ⟨_, rfl⟩
  rw [← hR]
  have HR : Hid _ := hR
  have RA : Hid (RowV _ _ _) := ra
  have RB : Hid (RowV _ _ _) := rb
  have HA : Hid _ := hall
  have HA' : Hid _ := hall'
  clear hR ra rb hall hall'
  go_enter Try.func46, Try.ntmps46
  go_wp2_with fail
  go_loopw [13] (fun i wr => ∃ k : Nat, k ≤ la.length ∧ k ≤ lb.length ∧ i = .int .i64 k ∧ R = lexG (ordV d) (la.drop k) (lb.drop k) ∧ Below w.heap.size w wr) (fun i _ => la.length - (intOf i).toNat)
  case atStart => exact ⟨0, Nat.zero_le _, Nat.zero_le _, rfl, HR.out, Below.refl _ _⟩
  case round =>
    obtain ⟨k, hk, hk', rfl, hr, hbel⟩ := hrel
    have HT : Hid _ := hr
    clear hr HR
    have hz := hbel.size
    by_cases hlt : k < la.length
    · rcases RA.out.next hbel with h0 | ⟨g, rfl, R1⟩
      · subst h0; simp at hlt
      · obtain ⟨x0, x1, x2⟩ := R1.cells k hlt
        by_cases hlt' : k < lb.length
        · rcases RB.out.next hbel with h0 | ⟨g', rfl, R2⟩
          · subst h0; simp at hlt'
          · obtain ⟨y0, y1, y2⟩ := R2.cells k hlt'
            have l1 := R1.lt
            have l2 := R2.lt
            have hk2 : (k : Int) < (lb.length : Int) := by omega
            have hq := HA.out la[k] (List.getElem_mem _)
            have hq' := HA'.out lb[k] (List.getElem_mem _)
            have HC0 : ∀ W : World, Calls Try.prog 19 #[.agg #[.int .i64 la[k].k, .int .i64 la[k].n, .string la[k].t], .agg #[.int .i64 lb[k].k, .int .i64 lb[k].n, .string lb[k].t]] W fun e w' => e = .returned (.int .i64 (ordV d la[k] lb[k])) ∧ Below W.heap.size W w' := fun W => ih la[k] lb[k] W hq.2 hq'.2 hq.1 hq'.1
            have hstep := lexG_step (ordV d) la lb k hlt hlt'
            rw [← HT.out] at hstep
            obtain ⟨O, hO⟩ : ∃ O, O = ordV d la[k] lb[k] := ⟨_, rfl⟩
            rw [← hO] at HC0 hstep
            have HC : Hid _ := HC0
            have HS : Hid _ := hstep
            clear hq hq' HC0 hstep hO HT R1 R2
            by_cases hO0 : O = 0
            · have e0 : (O == 0) = true := by simp [hO0]
              go_wp2_with fail
              refine (HC.out _).mono ?_
              rintro e w1 ⟨rfl, hb⟩
              have hb1 : Below w.heap.size w w1 := ((hbel.alloc hz _).alloc (by simp; omega) _).trans (hb.mono (by simp; omega))
              clear hb
              go_wp2_with fail
              go_roundw
              case rel => exact ⟨k + 1, by omega, by omega, by go_num, by rw [HS.out, if_pos hO0], hb1⟩
              case measure => simp [intOf]; omega
            · have e0 : (O == 0) = false := beq_eq_false_iff_ne.mpr hO0
              go_wp2_with fail
              refine (HC.out _).mono ?_
              rintro e w1 ⟨rfl, hb⟩
              have hb1 : Below w.heap.size w w1 := ((hbel.alloc hz _).alloc (by simp; omega) _).trans (hb.mono (by simp; omega))
              clear hb
              go_wp2_with fail
              go_ret
              exact ⟨by rw [HS.out, if_neg hO0]; rfl, hb1⟩
        · have hk2 : ¬ (k : Int) < (lb.length : Int) := by omega
          have hk3 : (lb.length : Int) ≤ (k : Int) := by omega
          have hR1 : R = 1 := by rw [HT.out]; exact lexG_end2 _ la lb k hlt (by omega)
          have hgl := R1.lt
          clear R1
          go_wp2_with fail
          go_ret
          exact ⟨by first | rfl | (rw [hR1]; rfl), by (repeat (first | (with_reducible exact Below.refl _ _) | (with_reducible assumption) | (with_reducible apply below_drewN) | (with_reducible apply Below.drew) | ((with_reducible refine Below.setCell ?_ ?_ _); rotate_left; focus (first | (simp; done) | (simp; omega) | omega)) | ((with_reducible refine Below.alloc ?_ ?_ _); rotate_left; focus (first | (simp; done) | (simp; omega) | omega))))⟩
    · have hR1 := lexG_end1 (ordV d) la lb k (by omega)
      rw [← HT.out] at hR1
      by_cases h2 : k < lb.length
      · rw [if_pos h2] at hR1
        have hgt : (la.length : Int) < (lb.length : Int) := by omega
        go_wp2_with fail
        go_ret
        exact ⟨by first | rfl | (rw [hR1]; rfl), hbel⟩
      · rw [if_neg h2] at hR1
        have hgt : ¬ (la.length : Int) < (lb.length : Int) := by omega
        go_wp2_with fail
        go_ret
        exact ⟨by first | rfl | (rw [hR1]; rfl), hbel⟩

set_option maxRecDepth 4000 in
set_option maxHeartbeats 1000000 in
theorem compareFields_any (d : Nat) (ih : compareAt d) (f g : Fld) (w : World) (hs : f.v.t.size ≤ 1048576) (hs' : g.v.t.size ≤ 1048576) (hf : fits d f.v = true) (hg : fits d g.v = true) :
    Calls Try.prog 50 #[.agg #[.string f.name, .int .i64 f.v.k, .int .i64 f.v.n, .string f.v.t], .agg #[.string g.name, .int .i64 g.v.k, .int .i64 g.v.n, .string g.v.t]] w fun e w' => e = .returned (.int .i64 (cF (ordV d) f g)) ∧ Below w.heap.size w w' := by
  have HC : Hid _ := ih f.v g.v
  by_cases h : cB f.name g.name = 0
  · have e0 : (cB f.name g.name == 0) = true := by simp [h]
    have e : cF (ordV d) f g = ordV d f.v g.v := by unfold cF; rw [if_pos h]
    rw [e]
    have HS : ∀ W : World, Calls Try.prog 51 #[.string f.name, .string g.name] W fun e w' => e = .returned (.int .i64 0) ∧ w' = W := fun W => by have := cmpStr_any f.name g.name W; rw [h] at this; exact this
    have HS1 : Hid _ := HS
    clear HS e0 e h
    go_enter Try.func50, Try.ntmps50
    go_wp2_with (first | (go_at_call 51; refine (HS1.out _).mono ?_; rintro e w1 ⟨rfl, rfl⟩) | (go_at_call 19; refine (HC.out _ hs hs' hf hg).mono ?_; rintro e w2 ⟨rfl, hb⟩))
    go_ret
    exact ⟨rfl, (((Below.refl _ _).alloc (Nat.le_refl _) _).alloc (by simp) _).trans (hb.mono (by simp; omega))⟩
  · have e0 : (cB f.name g.name == 0) = false := beq_eq_false_iff_ne.mpr h
    have e : cF (ordV d) f g = cB f.name g.name := by unfold cF; rw [if_neg h]
    rw [e]
    clear e
    go_enter Try.func50, Try.ntmps50
    go_wp2_with (go_at_call 51; refine (cmpStr_any f.name g.name _).mono ?_; rintro e w1 ⟨rfl, rfl⟩)
    go_ret
    exact ⟨rfl, by (repeat (first | (with_reducible exact Below.refl _ _) | (with_reducible assumption) | (with_reducible apply below_drewN) | (with_reducible apply Below.drew) | ((with_reducible refine Below.setCell ?_ ?_ _); rotate_left; focus (first | (simp; done) | (simp; omega) | omega)) | ((with_reducible refine Below.alloc ?_ ?_ _); rotate_left; focus (first | (simp; done) | (simp; omega) | omega))))⟩
set_option maxRecDepth 4000 in
set_option maxHeartbeats 2000000 in
theorem compareRowsF (d : Nat) (ih : compareAt d) (p p' : Option Addr) (c c' : Nat) (la lb : List Fld) (w : World) (ra : RowF w p la) (rb : RowF w p' lb) (hla : la.length ≤ 1048576) (hlb : lb.length ≤ 1048576)
    (hall : ∀ f ∈ la, fits d f.v = true ∧ f.v.t.size ≤ 1048576) (hall' : ∀ f ∈ lb, fits d f.v = true ∧ f.v.t.size ≤ 1048576) :
    Calls Try.prog 48 #[.slice p la.length c, .slice p' lb.length c', .func (.func 50) #[] #[]] w fun e w' => e = .returned (.int .i64 (lexG (cF (ordV d)) la lb)) ∧ Below w.heap.size w w' := by
  obtain ⟨R, hR⟩ : ∃ R, R = lexG (cF (ordV d)) la lb := ⟨_, rfl⟩
  rw [← hR]
  have HR : Hid _ := hR
  have RA : Hid (RowF _ _ _) := ra
  have RB : Hid (RowF _ _ _) := rb
  have HA : Hid _ := hall
  have HA' : Hid _ := hall'
  clear hR ra rb hall hall'
  go_enter Try.func48, Try.ntmps48
  go_wp2_with fail
  go_loopw [13] (fun i wr => ∃ k : Nat, k ≤ la.length ∧ k ≤ lb.length ∧ i = .int .i64 k ∧ R = lexG (cF (ordV d)) (la.drop k) (lb.drop k) ∧ Below w.heap.size w wr) (fun i _ => la.length - (intOf i).toNat)
  case atStart => exact ⟨0, Nat.zero_le _, Nat.zero_le _, rfl, HR.out, Below.refl _ _⟩
  case round =>
    obtain ⟨k, hk, hk', rfl, hr, hbel⟩ := hrel
    have HT : Hid _ := hr
    clear hr HR
    have hz := hbel.size
    by_cases hlt : k < la.length
    · rcases RA.out.next hbel with h0 | ⟨g, rfl, R1⟩
      · subst h0; simp at hlt
      · obtain ⟨x0, x1, x2, x3⟩ := R1.cells k hlt
        by_cases hlt' : k < lb.length
        · rcases RB.out.next hbel with h0 | ⟨g', rfl, R2⟩
          · subst h0; simp at hlt'
          · obtain ⟨y0, y1, y2, y3⟩ := R2.cells k hlt'
            have l1 := R1.lt
            have l2 := R2.lt
            have hk2 : (k : Int) < (lb.length : Int) := by omega
            have hq := HA.out la[k] (List.getElem_mem _)
            have hq' := HA'.out lb[k] (List.getElem_mem _)
            have HC0 : ∀ W : World, Calls Try.prog 50 #[.agg #[.string la[k].name, .int .i64 la[k].v.k, .int .i64 la[k].v.n, .string la[k].v.t], .agg #[.string lb[k].name, .int .i64 lb[k].v.k, .int .i64 lb[k].v.n, .string lb[k].v.t]] W fun e w' => e = .returned (.int .i64 (cF (ordV d) la[k] lb[k])) ∧ Below W.heap.size W w' := fun W => compareFields_any d ih la[k] lb[k] W hq.2 hq'.2 hq.1 hq'.1
            have hstep := lexG_step (cF (ordV d)) la lb k hlt hlt'
            rw [← HT.out] at hstep
            obtain ⟨O, hO⟩ : ∃ O, O = cF (ordV d) la[k] lb[k] := ⟨_, rfl⟩
            rw [← hO] at HC0 hstep
            have HC : Hid _ := HC0
            have HS : Hid _ := hstep
            clear hq hq' HC0 hstep hO HT R1 R2
            by_cases hO0 : O = 0
            · have e0 : (O == 0) = true := by simp [hO0]
              go_wp2_with fail
              refine (HC.out _).mono ?_
              rintro e w1 ⟨rfl, hb⟩
              have hb1 : Below w.heap.size w w1 := ((hbel.alloc hz _).alloc (by simp; omega) _).trans (hb.mono (by simp; omega))
              clear hb
              go_wp2_with fail
              go_roundw
              case rel => exact ⟨k + 1, by omega, by omega, by go_num, by rw [HS.out, if_pos hO0], hb1⟩
              case measure => simp [intOf]; omega
            · have e0 : (O == 0) = false := beq_eq_false_iff_ne.mpr hO0
              go_wp2_with fail
              refine (HC.out _).mono ?_
              rintro e w1 ⟨rfl, hb⟩
              have hb1 : Below w.heap.size w w1 := ((hbel.alloc hz _).alloc (by simp; omega) _).trans (hb.mono (by simp; omega))
              clear hb
              go_wp2_with fail
              go_ret
              exact ⟨by rw [HS.out, if_neg hO0]; rfl, hb1⟩
        · have hk2 : ¬ (k : Int) < (lb.length : Int) := by omega
          have hk3 : (lb.length : Int) ≤ (k : Int) := by omega
          have hR1 : R = 1 := by rw [HT.out]; exact lexG_end2 _ la lb k hlt (by omega)
          have hgl := R1.lt
          clear R1
          go_wp2_with fail
          go_ret
          exact ⟨by first | rfl | (rw [hR1]; rfl), by (repeat (first | (with_reducible exact Below.refl _ _) | (with_reducible assumption) | (with_reducible apply below_drewN) | (with_reducible apply Below.drew) | ((with_reducible refine Below.setCell ?_ ?_ _); rotate_left; focus (first | (simp; done) | (simp; omega) | omega)) | ((with_reducible refine Below.alloc ?_ ?_ _); rotate_left; focus (first | (simp; done) | (simp; omega) | omega))))⟩
    · have hR1 := lexG_end1 (cF (ordV d)) la lb k (by omega)
      rw [← HT.out] at hR1
      by_cases h2 : k < lb.length
      · rw [if_pos h2] at hR1
        have hgt : (la.length : Int) < (lb.length : Int) := by omega
        go_wp2_with fail
        go_ret
        exact ⟨by first | rfl | (rw [hR1]; rfl), hbel⟩
      · rw [if_neg h2] at hR1
        have hgt : ¬ (la.length : Int) < (lb.length : Int) := by omega
        go_wp2_with fail
        go_ret
        exact ⟨by first | rfl | (rw [hR1]; rfl), hbel⟩

end Go.Proofs.Ytmchpaccdnnilaa

/- What the specification's order of values answers, for every two right values. -/
namespace Go.Proofs.Ytmchpaccdnnilaa
open Go.RowKit
set_option linter.unusedVariables false

theorem plain_t {d : Nat} {v : Val} (hf : fits d v = true) (h3 : v.k ≠ 3) (h4 : v.k ≠ 4) (h5 : v.k ≠ 5) : v.t = em := by
  rw [fits_base d v h4 h5] at hf
  unfold base at hf
  split at hf
  · rw [decide_eq_true_eq] at hf; exact empty_of _ hf.2
  · split at hf
    · rw [decide_eq_true_eq] at hf; exact empty_of _ hf.2.2
    · split at hf
      · rw [decide_eq_true_eq] at hf; exact empty_of _ hf.2.2
      · first | cases hf | (rw [if_neg h3] at hf; cases hf)
end Go.Proofs.Ytmchpaccdnnilaa

/- What the program's order of values answers, for every two right values. -/
namespace Go.Proofs.Ytmchpaccdnnilaa
open Go.RowKit
set_option linter.unusedVariables false

set_option maxRecDepth 4000 in
set_option maxHeartbeats 4000000 in
theorem compare_list (d : Nat) (ih : compareAt d) (n : Int) (t t' : ByteArray) (la lb : List Val) (w : World) (hs : t.size ≤ 1048576) (hs' : t'.size ≤ 1048576) (h : t ≠ t') (hi : items t = some la) (hi' : items t' = some lb)
    (hall : ∀ u ∈ la, fits d u = true ∧ u.t.size ≤ 1048576) (hall' : ∀ u ∈ lb, fits d u = true ∧ u.t.size ≤ 1048576) (hla : la.length ≤ 1048576) (hlb : lb.length ≤ 1048576) :
    Calls Try.prog 19 #[.agg #[.int .i64 4, .int .i64 n, .string t], .agg #[.int .i64 4, .int .i64 n, .string t']] w fun e w' => e = .returned (.int .i64 (lexG (ordV d) la lb)) ∧ Below w.heap.size w w' := by
  have hb := toList_ne h
  have hk0 : ∀ x : Int, cI x x = 0 := fun x => (cI_zero _ _).mpr rfl
  have HK0 : ∀ (x : Int) (W : World), Calls Try.prog 45 #[.int .i64 x, .int .i64 x] W fun e w' => e = .returned (.int .i64 0) ∧ w' = W := fun x W => by have := cmpInt_any x x W; rw [hk0] at this; exact this
  have HK : Hid _ := HK0
  have HI : Hid _ := hi
  have HI' : Hid _ := hi'
  have HA : Hid _ := hall
  have HA' : Hid _ := hall'
  have HIH : Hid (compareAt d) := ih
  clear HK0 hk0 hi hi' hall hall' ih h
  go_enter Try.func19, Try.ntmps19
  go_wp2_with fail
  refine still_tail_at 10 (by kernel_rfl) (by kernel_rfl) ?_
  intro V hV
  have X := Two.drawn hV
  have Y : ∀ o, Two w (V.alloc o) (.int .i64 4) (.int .i64 n) (.string t) (.int .i64 4) (.int .i64 n) (.string t') := fun o => X.step ((Below.refl _ _).alloc (Nat.le_refl _) o)
  have HY : Hid _ := Y
  have a0 : ∀ o, (V.alloc o).cell? ⟨w.heap.size, 0, none⟩ = some (.int .i64 4) := fun o => (Y o).c0
  obtain ⟨hbw, hlt, c0, c1, c2, d0, d1, d2⟩ := X
  clear hV Y
  simp only [List.take_succ_cons, List.take_zero, List.drop_succ_cons, List.drop_zero]
  repeat still_step
  still_call (HK.out 4 _)
  repeat still_step
  still_call (HK.out n _)
  refine wpStill_nil ?_
  go_wp2_with (go_at_call 44; refine (or_none _ _ _ (by simp [go_sem]) (by simp [go_sem])).mono ?_; rintro e w1 ⟨rfl, rfl⟩)
  have Z := HY.out (.cells #[.int .i64 0, .int .i64 0] 3)
  generalize V.alloc (.cells #[.int .i64 0, .int .i64 0] 3) = W at Z ⊢
  have hbw0 := Z.bel
  have g2 := Z.c2
  have f2 := Z.d2
  clear a0 HY hbw hlt c0 c1 c2 d0 d1 d2
  have hlt0 := Z.lt
  have Z1 := Z.step (Below.refl _ _).drew
  clear Z
  go_region_with (first | (go_at_call_of 47 (Value.string t); refine (itemsIn_row t la _ hs HI.out).mono ?_; rintro e w1 ⟨⟨p, c, rfl, RA⟩, hb1⟩; have X1 := Two.step (by assumption) hb1; have g2 := X1.c2; have f2 := X1.d2) | (go_at_call_of 47 (Value.string t'); refine (itemsIn_row t' lb _ hs' HI'.out).mono ?_; rintro e w2 ⟨⟨p', c', rfl, RB⟩, hb2⟩; have X2 := Two.step (by assumption) hb2; have g2 := X2.c2; have f2 := X2.d2; have RA2 := RowV.next RA hb2) | (go_at_call 46; refine (compareRows d HIH.out _ _ _ _ la lb _ RA2 RB hla hlb HA.out HA'.out).mono ?_; rintro e w3 ⟨rfl, hb3⟩; have X3 := X2.step hb3))
  all_goals go_wp2_with fail
  all_goals go_ret
  all_goals exact ⟨rfl, X3.bel⟩

set_option maxRecDepth 4000 in
set_option maxHeartbeats 4000000 in
theorem compare_doc (d : Nat) (ih : compareAt d) (n : Int) (t t' : ByteArray) (la lb : List Fld) (w : World) (hs : t.size ≤ 1048576) (hs' : t'.size ≤ 1048576) (h : t ≠ t') (hi : fields t = some la) (hi' : fields t' = some lb)
    (hall : ∀ f ∈ la, fits d f.v = true ∧ f.v.t.size ≤ 1048576) (hall' : ∀ f ∈ lb, fits d f.v = true ∧ f.v.t.size ≤ 1048576) (hla : la.length ≤ 1048576) (hlb : lb.length ≤ 1048576) :
    Calls Try.prog 19 #[.agg #[.int .i64 5, .int .i64 n, .string t], .agg #[.int .i64 5, .int .i64 n, .string t']] w fun e w' => e = .returned (.int .i64 (lexG (cF (ordV d)) la lb)) ∧ Below w.heap.size w w' := by
  have hb := toList_ne h
  have hk0 : ∀ x : Int, cI x x = 0 := fun x => (cI_zero _ _).mpr rfl
  have HK0 : ∀ (x : Int) (W : World), Calls Try.prog 45 #[.int .i64 x, .int .i64 x] W fun e w' => e = .returned (.int .i64 0) ∧ w' = W := fun x W => by have := cmpInt_any x x W; rw [hk0] at this; exact this
  have HK : Hid _ := HK0
  have HI : Hid _ := hi
  have HI' : Hid _ := hi'
  have HA : Hid _ := hall
  have HA' : Hid _ := hall'
  have HIH : Hid (compareAt d) := ih
  clear HK0 hk0 hi hi' hall hall' ih h
  go_enter Try.func19, Try.ntmps19
  go_wp2_with fail
  refine still_tail_at 10 (by kernel_rfl) (by kernel_rfl) ?_
  intro V hV
  have X := Two.drawn hV
  have Y : ∀ o, Two w (V.alloc o) (.int .i64 5) (.int .i64 n) (.string t) (.int .i64 5) (.int .i64 n) (.string t') := fun o => X.step ((Below.refl _ _).alloc (Nat.le_refl _) o)
  have HY : Hid _ := Y
  have a0 : ∀ o, (V.alloc o).cell? ⟨w.heap.size, 0, none⟩ = some (.int .i64 5) := fun o => (Y o).c0
  obtain ⟨hbw, hlt, c0, c1, c2, d0, d1, d2⟩ := X
  clear hV Y
  simp only [List.take_succ_cons, List.take_zero, List.drop_succ_cons, List.drop_zero]
  repeat still_step
  still_call (HK.out 5 _)
  repeat still_step
  still_call (HK.out n _)
  refine wpStill_nil ?_
  go_wp2_with (go_at_call 44; refine (or_none _ _ _ (by simp [go_sem]) (by simp [go_sem])).mono ?_; rintro e w1 ⟨rfl, rfl⟩)
  have Z := HY.out (.cells #[.int .i64 0, .int .i64 0] 3)
  generalize V.alloc (.cells #[.int .i64 0, .int .i64 0] 3) = W at Z ⊢
  have hbw0 := Z.bel
  have g2 := Z.c2
  have f2 := Z.d2
  clear a0 HY hbw hlt c0 c1 c2 d0 d1 d2
  have hlt0 := Z.lt
  have Z1 := Z.step (Below.refl _ _).drew
  clear Z
  go_region_with (first | (go_at_call_of 49 (Value.string t); refine (fieldsIn_row t la _ hs HI.out).mono ?_; rintro e w1 ⟨⟨p, c, rfl, RA⟩, hb1⟩; have X1 := Two.step (by assumption) hb1; have g2 := X1.c2; have f2 := X1.d2) | (go_at_call_of 49 (Value.string t'); refine (fieldsIn_row t' lb _ hs' HI'.out).mono ?_; rintro e w2 ⟨⟨p', c', rfl, RB⟩, hb2⟩; have X2 := Two.step (by assumption) hb2; have g2 := X2.c2; have f2 := X2.d2; have RA2 := RowF.next RA hb2) | (go_at_call 48; refine (compareRowsF d HIH.out _ _ _ _ la lb _ RA2 RB hla hlb HA.out HA'.out).mono ?_; rintro e w3 ⟨rfl, hb3⟩; have X3 := X2.step hb3))
  all_goals go_wp2_with fail
  all_goals go_ret
  all_goals exact ⟨rfl, X3.bel⟩

theorem compare_at : ∀ d : Nat, compareAt d
  | d => by
    intro a b w hs hs' ha hb
    by_cases he : a = b
    · subst he; rw [ordV_refl]; exact compare_same a.k a.n a.t w
    · by_cases hk : a.k = b.k
      · by_cases hn : a.n = b.n
        · have ht : a.t ≠ b.t := fun e => he (val_ext hk hn e)
          by_cases h4 : a.k = 4
          · obtain ⟨e, la, rfl, ia, _, _, alla⟩ := fits_items h4 ha
            obtain ⟨e2, lb, hee, ib, _, _, allb⟩ := fits_items (hk ▸ h4) hb
            have : e2 = e := by omega
            subst this
            have n1 := (items_len a.t.size a.t la (Nat.le_refl _) ia).1
            have n2 := (items_len b.t.size b.t lb (Nat.le_refl _) ib).1
            rw [ordV_list e2 a b la lb hk hn h4 ia ib, ← hk, ← hn, h4]
            exact compare_list e2 (compare_at e2) a.n a.t b.t la lb w hs hs' ht ia ib (fun u hu => ⟨(alla u hu).1, Nat.le_trans (alla u hu).2 hs⟩) (fun u hu => ⟨(allb u hu).1, Nat.le_trans (allb u hu).2 hs'⟩) (by omega) (by omega)
          · by_cases h5 : a.k = 5
            · obtain ⟨e, la, rfl, ia, _, _, _, alla⟩ := fits_fields h5 ha
              obtain ⟨e2, lb, hee, ib, _, _, _, allb⟩ := fits_fields (hk ▸ h5) hb
              have : e2 = e := by omega
              subst this
              have n1 := (fields_len a.t.size a.t la (Nat.le_refl _) ia).1
              have n2 := (fields_len b.t.size b.t lb (Nat.le_refl _) ib).1
              rw [ordV_doc e2 a b la lb hk hn h5 ia ib, ← hk, ← hn, h5]
              exact compare_doc e2 (compare_at e2) a.n a.t b.t la lb w hs hs' ht ia ib (fun u hu => ⟨(alla u hu).1, Nat.le_trans (alla u hu).2.1 hs⟩) (fun u hu => ⟨(allb u hu).1, Nat.le_trans (allb u hu).2.1 hs'⟩) (by omega) (by omega)
            · rw [ordV_t d a b hk hn h4 h5, ← hk, ← hn]
              exact compare_t a.k a.n a.t b.t w ht h4 h5
        · rw [ordV_n d a b hk hn, ← hk]; exact compare_n a.k a.n b.n a.t b.t w hn
      · rw [ordV_k d a b hk]; exact compare_k a.k a.n b.k b.n a.t b.t w hk

end Go.Proofs.Ytmchpaccdnnilaa

/- What the two functions that tell the order of values answer, for every two values. -/
namespace Go.Proofs.Ytmchpaccdnnilaa
open Go.RowKit
set_option linter.unusedVariables false

def ordP (a b : Val) : Int × Int := if okB a = true ∧ okB b = true then (ordV 5 a b, 0) else (0, 1)
set_option maxRecDepth 4000 in
set_option maxHeartbeats 1000000 in
theorem implOrder_bad1 (k n k' n' : Int) (t t' : ByteArray) (w : World) (hs : t.size ≤ 1048576) (hs' : t'.size ≤ 1048576) (h1 : okB ⟨k, n, t⟩ = false) :
    Calls Try.prog 6 #[.agg #[.int .i64 k, .int .i64 n, .string t], .agg #[.int .i64 k', .int .i64 n', .string t']] w fun e w' => e = .returned (.tuple #[.int .i64 0, .int .i64 1]) ∧ Below w.heap.size w w' := by
  have X0 := Two.start w (.int .i64 k) (.int .i64 n) (.string t) (.int .i64 k') (.int .i64 n') (.string t') 24
  go_enter Try.func6, Try.ntmps6
  go_wp2_with (first | (go_at_call_of 18 (Value.string t); refine (valueOK_any k n t _ (by unfold maxLen; omega)).mono ?_; rintro e w1 ⟨rfl, hb⟩; rw [h1]; have X := Two.step (by assumption) hb; have g0 := X.c0; have g1 := X.c1; have g2 := X.c2; have f0 := X.d0; have f1 := X.d1; have f2 := X.d2; clear hb))
  go_ret2
  exact ⟨rfl, X.bel⟩
set_option maxRecDepth 4000 in
set_option maxHeartbeats 1000000 in
theorem implOrder_bad2 (k n k' n' : Int) (t t' : ByteArray) (w : World) (hs : t.size ≤ 1048576) (hs' : t'.size ≤ 1048576) (h1 : okB ⟨k, n, t⟩ = true) (h2 : okB ⟨k', n', t'⟩ = false) :
    Calls Try.prog 6 #[.agg #[.int .i64 k, .int .i64 n, .string t], .agg #[.int .i64 k', .int .i64 n', .string t']] w fun e w' => e = .returned (.tuple #[.int .i64 0, .int .i64 1]) ∧ Below w.heap.size w w' := by
  have X0 := Two.start w (.int .i64 k) (.int .i64 n) (.string t) (.int .i64 k') (.int .i64 n') (.string t') 24
  go_enter Try.func6, Try.ntmps6
  go_wp2_with (first | (go_at_call_of 18 (Value.string t); refine (valueOK_any k n t _ (by unfold maxLen; omega)).mono ?_; rintro e w1 ⟨rfl, hb⟩; rw [h1]; have X := Two.step (by assumption) hb; have g0 := X.c0; have g1 := X.c1; have g2 := X.c2; have f0 := X.d0; have f1 := X.d1; have f2 := X.d2; clear hb) | (go_at_call_of 18 (Value.string t'); refine (valueOK_any k' n' t' _ (by unfold maxLen; omega)).mono ?_; rintro e w2 ⟨rfl, hb⟩; rw [h2]; have X := Two.step (by assumption) hb; have g0 := X.c0; have g1 := X.c1; have g2 := X.c2; have f0 := X.d0; have f1 := X.d1; have f2 := X.d2; clear hb))
  go_ret2
  exact ⟨rfl, X.bel⟩
set_option maxRecDepth 4000 in
set_option maxHeartbeats 1000000 in
theorem implOrder_ok (k n k' n' : Int) (t t' : ByteArray) (w : World) (hs : t.size ≤ 1048576) (hs' : t'.size ≤ 1048576) (h1 : okB ⟨k, n, t⟩ = true) (h2 : okB ⟨k', n', t'⟩ = true) :
    Calls Try.prog 6 #[.agg #[.int .i64 k, .int .i64 n, .string t], .agg #[.int .i64 k', .int .i64 n', .string t']] w fun e w' => e = .returned (.tuple #[.int .i64 (ordV 5 ⟨k, n, t⟩ ⟨k', n', t'⟩), .int .i64 0]) ∧ Below w.heap.size w w' := by
  have X0 := Two.start w (.int .i64 k) (.int .i64 n) (.string t) (.int .i64 k') (.int .i64 n') (.string t') 24
  go_enter Try.func6, Try.ntmps6
  go_wp2_with (first | (go_at_call_of 18 (Value.string t); refine (valueOK_any k n t _ (by unfold maxLen; omega)).mono ?_; rintro e w1 ⟨rfl, hb⟩; rw [h1]; have X := Two.step (by assumption) hb; have g0 := X.c0; have g1 := X.c1; have g2 := X.c2; have f0 := X.d0; have f1 := X.d1; have f2 := X.d2; clear hb) | (go_at_call_of 18 (Value.string t'); refine (valueOK_any k' n' t' _ (by unfold maxLen; omega)).mono ?_; rintro e w2 ⟨rfl, hb⟩; rw [h2]; have X := Two.step (by assumption) hb; have g0 := X.c0; have g1 := X.c1; have g2 := X.c2; have f0 := X.d0; have f1 := X.d1; have f2 := X.d2; clear hb) | (go_at_call 19; refine (compare_at 5 ⟨k, n, t⟩ ⟨k', n', t'⟩ _ hs hs' h1 h2).mono ?_; rintro e w3 ⟨rfl, hb⟩; have X := Two.step (by assumption) hb; have g0 := X.c0; have g1 := X.c1; have g2 := X.c2; have f0 := X.d0; have f1 := X.d1; have f2 := X.d2; clear hb))
  go_ret2
  exact ⟨rfl, X.bel⟩
theorem implOrder_any (k n k' n' : Int) (t t' : ByteArray) (w : World) (hs : t.size ≤ 1048576) (hs' : t'.size ≤ 1048576) :
    Calls Try.prog 6 #[.agg #[.int .i64 k, .int .i64 n, .string t], .agg #[.int .i64 k', .int .i64 n', .string t']] w fun e w' => e = .returned (.tuple #[.int .i64 (ordP ⟨k, n, t⟩ ⟨k', n', t'⟩).1, .int .i64 (ordP ⟨k, n, t⟩ ⟨k', n', t'⟩).2]) ∧ Below w.heap.size w w' := by
  cases h1 : okB ⟨k, n, t⟩
  · have e : ordP ⟨k, n, t⟩ ⟨k', n', t'⟩ = (0, 1) := by unfold ordP; rw [if_neg (by simp [h1])]
    rw [e]; exact implOrder_bad1 k n k' n' t t' w hs hs' h1
  · cases h2 : okB ⟨k', n', t'⟩
    · have e : ordP ⟨k, n, t⟩ ⟨k', n', t'⟩ = (0, 1) := by unfold ordP; rw [if_neg (by simp [h2])]
      rw [e]; exact implOrder_bad2 k n k' n' t t' w hs hs' h1 h2
    · have e : ordP ⟨k, n, t⟩ ⟨k', n', t'⟩ = (ordV 5 ⟨k, n, t⟩ ⟨k', n', t'⟩, 0) := by unfold ordP; rw [if_pos ⟨h1, h2⟩]
      rw [e]; exact implOrder_ok k n k' n' t t' w hs hs' h1 h2
end Go.Proofs.Ytmchpaccdnnilaa
