/- Whether a value is a right document: what the program and the specification answer. -/
import Derived.Test.YtcggkeleaepebaaGreatDoorOwnQ
import Derived.Test.YtcggkeleaepebaaGreatDoorLawVal
import Derived.Test.YtcggkeleaepebaaGreatDoorOKD
import Derived.Test.YtcggkeleaepebaaGreatDoorRowV
import Derived.Test.YtcggkeleaepebaaGreatDoorGetM
import Derived.Test.YtcggkeleaepebaaGreatDoorSplitS
import Derived.Deep.RegionWith
import Derived.Test.YtcggkeleaepebaaGreatDoorIn
import Derived.Lib.Walk
import Derived.StillTailTactics
import Derived.Test.YtcggkeleaepebaaGreatDoorFindM
import Derived.Test.YtcggkeleaepebaaGreatDoorTrMQ
import Derived.Test.YtcggkeleaepebaaGreatDoorRowTQ
import Derived.Deep.Slices
import Derived.Deep.Strs
import Derived.ChangeSame
import Derived.Lib.SmallJoins
import Derived.OpenShut
namespace Go.Proofs.YtcggkeleaepebaaGreatDoor
open Go.RowKit
set_option linter.unusedVariables false

theorem docB_ok (v : Val) (h : docB v = true) : okB v = true := by unfold docB at h; rw [Bool.and_eq_true] at h; exact h.2

set_option maxRecDepth 4000 in
set_option maxHeartbeats 1000000 in
theorem documentOK_any (v : Val) (w : World) (hs : v.t.size ≤ 1048576) :
    Calls Tryz.prog 157 #[.agg #[.int .i64 v.k, .int .i64 v.n, .string v.t]] w fun e w' => e = .returned (.bool (docB v)) ∧ Below w.heap.size w w' := by
  have X0 := Boxed.start w (.int .i64 v.k) (.int .i64 v.n) (.string v.t) 82
  unfold docB
  by_cases h5 : v.k = 5
  · have e5 : (v.k == 5) = true := by simp [h5]
    rw [decide_eq_true h5, Bool.true_and]
    clear h5
    go_enter Tryz.func157, Tryz.ntmps157
    go_wp2_with fail
    refine (valueOK_any v.k v.n v.t _ (by unfold maxLen; omega)).mono ?_
    rintro e w1 ⟨rfl, hb⟩
    have hbw := (X0.step hb).bel
    clear hb
    go_wp2_with fail
    go_ret
    exact ⟨rfl, hbw⟩
  · have e5 : (v.k == 5) = false := beq_eq_false_iff_ne.mpr h5
    rw [decide_eq_false h5, Bool.false_and]
    clear h5
    go_enter Tryz.func157, Tryz.ntmps157
    go_wp2_with fail
    go_ret
    exact ⟨rfl, X0.bel⟩
set_option maxRecDepth 4000 in
set_option maxHeartbeats 1000000 in
theorem l03Doc_any (v : Val) (w : World) (hs : v.t.size ≤ 1048576) :
    Calls Tryz.prog 114 #[.agg #[.int .i64 v.k, .int .i64 v.n, .string v.t]] w fun e w' => e = .returned (.bool (docB v)) ∧ Below w.heap.size w w' := by
  have X0 := Boxed.start w (.int .i64 v.k) (.int .i64 v.n) (.string v.t) 82
  have HC : Hid (∀ W : World, Calls _ _ _ W _) := fun W => specValueOK_any v.k v.n v.t W hs
  have hd : docB v = (okB v && (v.k == 5)) := by unfold docB; rw [Bool.and_comm]; congr 1
  rw [hd]
  have ho : okB ⟨v.k, v.n, v.t⟩ = okB v := rfl
  rw [ho] at HC
  clear hd ho
  obtain ⟨O, hO⟩ : ∃ O, O = okB v := ⟨_, rfl⟩
  rw [← hO] at HC ⊢
  clear hO
  cases O
  · go_enter Tryz.func114, Tryz.ntmps114
    go_wp2_with fail
    refine (HC.out _).mono ?_
    rintro e w1 ⟨rfl, hb⟩
    have hbw := (X0.step hb).bel
    clear hb
    go_wp2_with fail
    go_ret
    exact ⟨rfl, hbw⟩
  · go_enter Tryz.func114, Tryz.ntmps114
    go_wp2_with fail
    refine (HC.out _).mono ?_
    rintro e w1 ⟨rfl, hb⟩
    have X1 := X0.step hb
    have a0 := X1.c0
    have hbw := X1.bel
    clear hb
    go_wp2_with fail
    go_ret
    exact ⟨ret_bool (by simp), hbw⟩

end Go.Proofs.YtcggkeleaepebaaGreatDoor

/- A value as the program holds it. -/
namespace Go.Proofs.YtcggkeleaepebaaGreatDoor
open Go.RowKit

abbrev aggV (v : Val) : Value := .agg #[.int .i64 v.k, .int .i64 v.n, .string v.t]

end Go.Proofs.YtcggkeleaepebaaGreatDoor

/- What the specification's way along a path answers, for every right value. -/
namespace Go.Proofs.YtcggkeleaepebaaGreatDoor
open Go.RowKit
set_option linter.unusedVariables false

/-- A value, and whether it is there. -/
def fieldR (nm : ByteArray) (l : List Fld) : Val × Bool := match fieldV nm l with | none => (zv, false) | some x => (x, true)
theorem fieldR_none (nm : ByteArray) (l : List Fld) (h : fieldV nm l = none) : fieldR nm l = (zv, false) := by unfold fieldR; rw [h]
theorem fieldR_some (nm : ByteArray) (l : List Fld) (x : Val) (h : fieldV nm l = some x) : fieldR nm l = (x, true) := by unfold fieldR; rw [h]

set_option maxRecDepth 4000 in
set_option maxHeartbeats 2000000 in
theorem l02Field_any (k n : Int) (t nm : ByteArray) (l : List Fld) (w : World) (hs : t.size ≤ 1048576) (hf : fields t = some l) (hl : l.length ≤ 1048576) :
    Calls Tryz.prog 131 #[.agg #[.int .i64 k, .int .i64 n, .string t], .string nm] w fun e w' => e = .returned (.tuple #[aggV (fieldR nm l).1, .bool (fieldR nm l).2]) ∧ Below w.heap.size w w' := by
  obtain ⟨P, hP⟩ : ∃ P, P = fieldR nm l := ⟨_, rfl⟩
  rw [← hP]
  have HP : Hid _ := hP
  have HF : Hid _ := hf
  have Y0 := Res3.start (w.alloc (.cells #[.int .i64 k, .int .i64 n, .string t] 82)) (.int .i64 0) (.int .i64 0) (.string em) 82
  clear hP hf
  go_enter Tryz.func131, Tryz.ntmps131
  go_wp2_with fail
  refine (l01Fields_any t _ hs).mono ?_
  rintro e w1 ⟨⟨g, m, cap, rfl, hown0⟩, hb⟩
  obtain ⟨rfl, hown⟩ := hown0 l HF.out
  clear hown0
  rw [HF.out]
  have Y1 := Y0.step hb
  have HR : Hid _ := ReadF.of_own hown
  have hbw : Below w.heap.size w w1 := ((Below.refl _ _).alloc (Nat.le_refl _) _).trans (Y1.bel.mono (by simp))
  have HBW : Hid _ := hbw
  clear hb hown Y0 hbw
  go_wp2_with fail
  go_loopw [8] (fun i wr => ∃ q : Nat, q ≤ l.length ∧ i = .int .i64 q ∧ (∀ j (h : j < l.length), j < q → l[j].name ≠ nm) ∧ Below w1.heap.size w1 wr) (fun i _ => l.length - (intOf i).toNat)
  case atStart => exact ⟨0, Nat.zero_le _, rfl, fun j h h2 => absurd h2 (by omega), Below.refl _ _⟩
  case round =>
    obtain ⟨q, hq, rfl, hno, hbel⟩ := hrel
    have HN : Hid _ := hno
    clear hno
    have Y := Y1.step hbel
    have hbw : Below w.heap.size w wr := HBW.out.trans (hbel.mono HBW.out.size)
    have R := HR.out.next hbel
    have g0 := Y.c0
    have g1 := Y.c1
    have g2 := Y.c2
    have z0 := Y.z0
    have z1 := Y.z1
    have z2 := Y.z2
    have hlt1 := Y.lt
    simp only [heap_size_alloc] at g0 g1 g2 z0 z1 z2 hlt1
    clear Y
    by_cases hlt : q < l.length
    · obtain ⟨x0, x1, x2, x3⟩ := R.cells q hlt
      have hgl := R.lt
      clear R
      by_cases hn : l[q].name = nm
      · have hb1 : (l[q].name.toList == nm.toList) = true := (eqL _ _).mpr hn
        have hp := HP.out
        rw [fieldR_some nm l l[q].v (fieldV_at nm l q hlt HN.out hn)] at hp
        subst hp
        clear HP
        go_wp2_with fail
        refine bodyPost_ret (v := .tuple #[aggV l[q].v, .bool true]) (by simp [results, Tryz.results131, go_sem, *]) rfl ⟨rfl, ?_⟩
        (repeat (first | (with_reducible exact Below.refl _ _) | (with_reducible assumption) | (with_reducible apply below_drewN) | (with_reducible apply Below.drew) | ((with_reducible refine Below.setCell ?_ ?_ _); rotate_left; focus (first | (simp; done) | (simp; omega) | omega)) | ((with_reducible refine Below.alloc ?_ ?_ _); rotate_left; focus (first | (simp; done) | (simp; omega) | omega))))
      · have hb1 : (l[q].name.toList == nm.toList) = false := eqL_false _ _ hn
        have HQ : Hid _ := hn
        clear hn
        go_wp2_with fail
        go_roundw
        case rel =>
          refine ⟨q + 1, by omega, by go_num, ?_, hbel⟩
          intro j hj hjq
          rcases Nat.lt_or_ge j q with h | h
          · exact HN.out j hj h
          · obtain rfl : j = q := by omega
            exact HQ.out
        case measure => simp [intOf]; omega
    · have hp := HP.out
      rw [fieldR_none nm l (fieldV_none nm l (fun f hf => by
        obtain ⟨j, hj, rfl⟩ := List.getElem_of_mem hf
        exact HN.out j hj (by omega)))] at hp
      subst hp
      clear HP
      go_wp2_with fail
      refine bodyPost_ret (v := .tuple #[.agg #[.int .i64 0, .int .i64 0, .string em], .bool false]) (by simp [results, Tryz.results131, go_sem, *]) rfl ⟨rfl, ?_⟩
      (repeat (first | (with_reducible exact Below.refl _ _) | (with_reducible assumption) | (with_reducible apply below_drewN) | (with_reducible apply Below.drew) | ((with_reducible refine Below.setCell ?_ ?_ _); rotate_left; focus (first | (simp; done) | (simp; omega) | omega)) | ((with_reducible refine Below.alloc ?_ ?_ _); rotate_left; focus (first | (simp; done) | (simp; omega) | omega))))

end Go.Proofs.YtcggkeleaepebaaGreatDoor

/- What the program's comparing of numbers, texts and pairs of numbers answers. -/
namespace Go.Proofs.YtcggkeleaepebaaGreatDoor
open Go.RowKit
set_option linter.unusedVariables false

set_option maxRecDepth 4000 in
set_option maxHeartbeats 1000000 in
theorem cmpInt_any (x y : Int) (w : World) : Calls Tryz.prog 209 #[.int .i64 x, .int .i64 y] w fun e w' => e = .returned (.int .i64 (cI x y)) ∧ w' = w := by
  by_cases h1 : x < y
  · have e : cI x y = -1 := by unfold cI Lib.compareInt; rw [if_pos h1]
    rw [e]
    go_enter Tryz.func209, Tryz.ntmps209
    go_wp2
    go_ret
    exact ⟨rfl, rfl⟩
  · by_cases h2 : y < x
    · have e : cI x y = 1 := by unfold cI Lib.compareInt; rw [if_neg h1, if_pos h2]
      rw [e]
      go_enter Tryz.func209, Tryz.ntmps209
      go_wp2
      go_ret
      exact ⟨rfl, rfl⟩
    · have e : cI x y = 0 := by unfold cI Lib.compareInt; rw [if_neg h1, if_neg h2]
      rw [e]
      go_enter Tryz.func209, Tryz.ntmps209
      go_wp2
      go_ret
      exact ⟨rfl, rfl⟩
set_option maxRecDepth 4000 in
set_option maxHeartbeats 1000000 in
theorem or_first (g c : Nat) (x : Int) (w : World) (h0 : w.cell? ⟨g, 0, none⟩ = some (.int .i64 x)) (hx : x ≠ 0) :
    Calls Tryz.prog 208 #[.slice (some ⟨g, 0, none⟩) 2 c] w fun e w' => e = .returned (.int .i64 x) ∧ w' = w := by
  have e0 : (x == 0) = false := beq_eq_false_iff_ne.mpr hx
  go_enter Tryz.func208, Tryz.ntmps208
  go_wp2_with fail
  refine wp_loop_rounds 1 ?_
  rw [rounds_succ]
  go_wp2_with fail
  go_ret
  exact ⟨rfl, rfl⟩
set_option maxRecDepth 4000 in
set_option maxHeartbeats 1000000 in
theorem or_second (g c : Nat) (y : Int) (w : World) (h0 : w.cell? ⟨g, 0, none⟩ = some (.int .i64 0)) (h1 : w.cell? ⟨g, 1, none⟩ = some (.int .i64 y)) (hy : y ≠ 0) :
    Calls Tryz.prog 208 #[.slice (some ⟨g, 0, none⟩) 2 c] w fun e w' => e = .returned (.int .i64 y) ∧ w' = w := by
  have e0 : (y == 0) = false := beq_eq_false_iff_ne.mpr hy
  go_enter Tryz.func208, Tryz.ntmps208
  go_wp2_with fail
  refine wp_loop_rounds 2 ?_
  rw [rounds_succ]
  go_wp2_with fail
  rw [rounds_succ]
  go_wp2_with fail
  go_ret
  exact ⟨rfl, rfl⟩
set_option maxRecDepth 4000 in
set_option maxHeartbeats 1000000 in
theorem or_none (g c : Nat) (w : World) (h0 : w.cell? ⟨g, 0, none⟩ = some (.int .i64 0)) (h1 : w.cell? ⟨g, 1, none⟩ = some (.int .i64 0)) :
    Calls Tryz.prog 208 #[.slice (some ⟨g, 0, none⟩) 2 c] w fun e w' => e = .returned (.int .i64 0) ∧ w' = w := by
  go_enter Tryz.func208, Tryz.ntmps208
  go_wp2_with fail
  refine wp_loop_rounds 3 ?_
  rw [rounds_succ]
  go_wp2_with fail
  rw [rounds_succ]
  go_wp2_with fail
  rw [rounds_succ]
  go_wp2_with fail
  go_ret
  exact ⟨rfl, rfl⟩
set_option maxRecDepth 100000 in
set_option maxHeartbeats 1000000 in
theorem cmpStr0_any (a b : ByteArray) (w : World) : Calls Tryz.prog 204 #[.string a, .string b] w fun e w' => e = .returned (.int .i64 (cB a b)) ∧ w' = w := by
  go_enter Tryz.func204, Tryz.ntmps204
  go_wp2
  rw [run_callFunc_extern Tryz.func215 (by kernel_rfl) (by kernel_rfl) (by kernel_rfl) (e := Extern.BytealgCompare.compare) (by kernel_rfl), Lib.run_compareString]
  simp only [Result.andThen]
  rw [Oper.upon_value]
  go_wp2
  go_ret
  exact ⟨rfl, rfl⟩
set_option maxHeartbeats 1000000 in
theorem cmpStr_any (a b : ByteArray) (w : World) : Calls Tryz.prog 186 #[.string a, .string b] w fun e w' => e = .returned (.int .i64 (cB a b)) ∧ w' = w := by
  go_enter Tryz.func186, Tryz.ntmps186
  go_wp2_with (go_at_call 204; refine (cmpStr0_any a b _).mono ?_; rintro e w1 ⟨rfl, rfl⟩)
  go_ret
  exact ⟨rfl, rfl⟩

/-- Two values of three cells in the first two new blocks. -/
structure Two (w W : World) (a b c a' b' c' : Value) : Prop where
  bel : Below w.heap.size w W
  lt : w.heap.size + 1 < W.heap.size
  c0 : W.cell? ⟨w.heap.size, 0, none⟩ = some a
  c1 : W.cell? ⟨w.heap.size, 1, none⟩ = some b
  c2 : W.cell? ⟨w.heap.size, 2, none⟩ = some c
  d0 : W.cell? ⟨w.heap.size + 1, 0, none⟩ = some a'
  d1 : W.cell? ⟨w.heap.size + 1, 1, none⟩ = some b'
  d2 : W.cell? ⟨w.heap.size + 1, 2, none⟩ = some c'
theorem Two.start (w : World) (a b c a' b' c' : Value) (T : TypeId) : Two w ((w.alloc (.cells #[a, b, c] T)).alloc (.cells #[a', b', c'] T)) a b c a' b' c' :=
  ⟨((Below.refl _ _).alloc (Nat.le_refl _) _).alloc (by simp) _, by simp, by simp [go_sem], by simp [go_sem], by simp [go_sem], by simp [go_sem], by simp [go_sem], by simp [go_sem]⟩
theorem Two.step {w W W' : World} {a b c a' b' c' : Value} (h : Two w W a b c a' b' c') (hb : Below W.heap.size W W') : Two w W' a b c a' b' c' :=
  have hl : w.heap.size < W.heap.size := Nat.lt_of_succ_lt h.lt
  ⟨h.bel.trans (hb.mono h.bel.size), Nat.lt_of_lt_of_le h.lt hb.size, (hb.cell hl).trans h.c0, (hb.cell hl).trans h.c1, (hb.cell hl).trans h.c2, (hb.cell h.lt).trans h.d0, (hb.cell h.lt).trans h.d1, (hb.cell h.lt).trans h.d2⟩

set_option maxRecDepth 4000 in
set_option maxHeartbeats 1000000 in
theorem compare_same (k n : Int) (t : ByteArray) (w : World) :
    Calls Tryz.prog 195 #[.agg #[.int .i64 k, .int .i64 n, .string t], .agg #[.int .i64 k, .int .i64 n, .string t]] w fun e w' => e = .returned (.int .i64 0) ∧ Below w.heap.size w w' := by
  go_enter Tryz.func195, Tryz.ntmps195
  go_wp2_with fail
  go_ret
  exact ⟨rfl, by (repeat (first | (with_reducible exact Below.refl _ _) | (with_reducible assumption) | (with_reducible apply below_drewN) | (with_reducible apply Below.drew) | ((with_reducible refine Below.setCell ?_ ?_ _); rotate_left; focus (first | (simp; done) | (simp; omega) | omega)) | ((with_reducible refine Below.alloc ?_ ?_ _); rotate_left; focus (first | (simp; done) | (simp; omega) | omega))))⟩
theorem still_tail_at {P : Program} {id : Nat} {Q : Exit → Act → World → Prop} {a : Act} {w : World} {l : List Oper} (n : Nat) (hm : P.follows .mixedOrders = true) (hB : Region.lexTailB .any l.toArray n = true)
    (h : ∀ V : World, V = w.drew → wpStill P l.toArray V (fun a' => wpList P l.toArray Q (l.drop n) a' V) (l.take n) a) : (Code.region id l.toArray true).wp P Q a w :=
  wp_region_still_tail n hm hB (h _ rfl)
theorem Two.drawn {w V : World} {a b c a' b' c' : Value} {T : TypeId} (h : V = ((w.alloc (.cells #[a, b, c] T)).alloc (.cells #[a', b', c'] T)).drew) : Two w V a b c a' b' c' := by
  subst h
  exact (Two.start w a b c a' b' c' T).step (Below.refl _ _).drew
set_option maxRecDepth 4000 in
set_option maxHeartbeats 1000000 in
theorem compare_k (k n k' n' : Int) (t t' : ByteArray) (w : World) (h : k ≠ k') :
    Calls Tryz.prog 195 #[.agg #[.int .i64 k, .int .i64 n, .string t], .agg #[.int .i64 k', .int .i64 n', .string t']] w fun e w' => e = .returned (.int .i64 (cI k k')) ∧ Below w.heap.size w w' := by
  have hb : (k == k') = false := beq_eq_false_iff_ne.mpr h
  have hnz : cI k k' ≠ 0 := fun e => h ((cI_zero _ _).mp e)
  have hnb : (cI k k' == 0) = false := beq_eq_false_iff_ne.mpr hnz
  go_enter Tryz.func195, Tryz.ntmps195
  go_wp2_with fail
  refine still_tail_at 10 (by kernel_rfl) (by kernel_rfl) ?_
  intro V hV
  have X := Two.drawn hV
  obtain ⟨hbw, hlt, c0, c1, c2, d0, d1, d2⟩ := X
  clear hV
  simp only [List.take_succ_cons, List.take_zero, List.drop_succ_cons, List.drop_zero]
  repeat still_step
  still_call (cmpInt_any k k' _)
  repeat still_step
  still_call (cmpInt_any n n' _)
  refine wpStill_nil ?_
  go_wp2_with (go_at_call 208; refine (or_first _ _ (cI k k') _ (by simp [go_sem]) hnz).mono ?_; rintro e w1 ⟨rfl, rfl⟩)
  go_ret
  exact ⟨rfl, by (repeat (first | (with_reducible exact Below.refl _ _) | (with_reducible assumption) | (with_reducible apply below_drewN) | (with_reducible apply Below.drew) | ((with_reducible refine Below.setCell ?_ ?_ _); rotate_left; focus (first | (simp; done) | (simp; omega) | omega)) | ((with_reducible refine Below.alloc ?_ ?_ _); rotate_left; focus (first | (simp; done) | (simp; omega) | omega))))⟩
set_option maxRecDepth 4000 in
set_option maxHeartbeats 1000000 in
theorem compare_n (k n n' : Int) (t t' : ByteArray) (w : World) (h : n ≠ n') :
    Calls Tryz.prog 195 #[.agg #[.int .i64 k, .int .i64 n, .string t], .agg #[.int .i64 k, .int .i64 n', .string t']] w fun e w' => e = .returned (.int .i64 (cI n n')) ∧ Below w.heap.size w w' := by
  have hb : (n == n') = false := beq_eq_false_iff_ne.mpr h
  have hnz : cI n n' ≠ 0 := fun e => h ((cI_zero _ _).mp e)
  have hnb : (cI n n' == 0) = false := beq_eq_false_iff_ne.mpr hnz
  have hk0 : cI k k = 0 := (cI_zero _ _).mpr rfl
  have HK : ∀ W : World, Calls Tryz.prog 209 #[.int .i64 k, .int .i64 k] W fun e w' => e = .returned (.int .i64 0) ∧ w' = W := fun W => by have := cmpInt_any k k W; rw [hk0] at this; exact this
  go_enter Tryz.func195, Tryz.ntmps195
  go_wp2_with fail
  refine still_tail_at 10 (by kernel_rfl) (by kernel_rfl) ?_
  intro V hV
  have X := Two.drawn hV
  obtain ⟨hbw, hlt, c0, c1, c2, d0, d1, d2⟩ := X
  clear hV
  simp only [List.take_succ_cons, List.take_zero, List.drop_succ_cons, List.drop_zero]
  repeat still_step
  still_call (HK _)
  repeat still_step
  still_call (cmpInt_any n n' _)
  refine wpStill_nil ?_
  go_wp2_with (go_at_call 208; refine (or_second _ _ (cI n n') _ (by simp [go_sem]) (by simp [go_sem]) hnz).mono ?_; rintro e w1 ⟨rfl, rfl⟩)
  go_ret
  exact ⟨rfl, by (repeat (first | (with_reducible exact Below.refl _ _) | (with_reducible assumption) | (with_reducible apply below_drewN) | (with_reducible apply Below.drew) | ((with_reducible refine Below.setCell ?_ ?_ _); rotate_left; focus (first | (simp; done) | (simp; omega) | omega)) | ((with_reducible refine Below.alloc ?_ ?_ _); rotate_left; focus (first | (simp; done) | (simp; omega) | omega))))⟩
set_option maxRecDepth 4000 in
set_option maxHeartbeats 1000000 in
theorem compare_t (k n : Int) (t t' : ByteArray) (w : World) (h : t ≠ t') (h4 : k ≠ 4) (h5 : k ≠ 5) :
    Calls Tryz.prog 195 #[.agg #[.int .i64 k, .int .i64 n, .string t], .agg #[.int .i64 k, .int .i64 n, .string t']] w fun e w' => e = .returned (.int .i64 (cB t t')) ∧ Below w.heap.size w w' := by
  have hb := toList_ne h
  have e4 : (k == 4) = false := beq_eq_false_iff_ne.mpr h4
  have e5 : (k == 5) = false := beq_eq_false_iff_ne.mpr h5
  have hk0 : ∀ x : Int, cI x x = 0 := fun x => (cI_zero _ _).mpr rfl
  have HK0 : ∀ (x : Int) (W : World), Calls Tryz.prog 209 #[.int .i64 x, .int .i64 x] W fun e w' => e = .returned (.int .i64 0) ∧ w' = W := fun x W => by have := cmpInt_any x x W; rw [hk0] at this; exact this
  have HK : Hid _ := HK0
  clear HK0 hk0
  go_enter Tryz.func195, Tryz.ntmps195
  go_wp2_with fail
  refine still_tail_at 10 (by kernel_rfl) (by kernel_rfl) ?_
  intro V hV
  have X := Two.drawn hV
  have a0 : ∀ o, (V.alloc o).cell? ⟨w.heap.size, 0, none⟩ = some (.int .i64 k) := fun o => (X.step ((Below.refl _ _).alloc (Nat.le_refl _) o)).c0
  have a2 : ∀ o, (V.alloc o).cell? ⟨w.heap.size, 2, none⟩ = some (.string t) := fun o => (X.step ((Below.refl _ _).alloc (Nat.le_refl _) o)).c2
  have b2 : ∀ o, (V.alloc o).cell? ⟨w.heap.size + 1, 2, none⟩ = some (.string t') := fun o => (X.step ((Below.refl _ _).alloc (Nat.le_refl _) o)).d2
  obtain ⟨hbw, hlt, c0, c1, c2, d0, d1, d2⟩ := X
  clear hV
  simp only [List.take_succ_cons, List.take_zero, List.drop_succ_cons, List.drop_zero]
  repeat still_step
  still_call (HK.out k _)
  repeat still_step
  still_call (HK.out n _)
  refine wpStill_nil ?_
  go_wp2_with (first | (go_at_call 208; refine (or_none _ _ _ (by simp [go_sem]) (by simp [go_sem])).mono ?_; rintro e w1 ⟨rfl, rfl⟩) | (go_at_call 186; refine (cmpStr_any t t' _).mono ?_; rintro e w1 ⟨rfl, rfl⟩))
  go_ret
  exact ⟨rfl, by (repeat (first | (with_reducible exact Below.refl _ _) | (with_reducible assumption) | (with_reducible apply below_drewN) | (with_reducible apply Below.drew) | ((with_reducible refine Below.setCell ?_ ?_ _); rotate_left; focus (first | (simp; done) | (simp; omega) | omega)) | ((with_reducible refine Below.alloc ?_ ?_ _); rotate_left; focus (first | (simp; done) | (simp; omega) | omega))))⟩

end Go.Proofs.YtcggkeleaepebaaGreatDoor

/- What the program's comparing of rows of values and of fields answers. -/
namespace Go.Proofs.YtcggkeleaepebaaGreatDoor
open Go.RowKit
set_option linter.unusedVariables false

def compareAt (d : Nat) : Prop := ∀ (a b : Val) (w : World), a.t.size ≤ 1048576 → b.t.size ≤ 1048576 → fits d a = true → fits d b = true →
    Calls Tryz.prog 195 #[.agg #[.int .i64 a.k, .int .i64 a.n, .string a.t], .agg #[.int .i64 b.k, .int .i64 b.n, .string b.t]] w fun e w' => e = .returned (.int .i64 (ordV d a b)) ∧ Below w.heap.size w w'
/-- A row of values, a nil one too. -/
def RowV (w : World) (p : Option Addr) (l : List Val) : Prop := l = [] ∨ ∃ g, p = some ⟨g, 0, none⟩ ∧ ReadV w g l
theorem RowV.next {w w' : World} {p : Option Addr} {l : List Val} (h : RowV w p l) (hb : Below w.heap.size w w') : RowV w' p l := by
  rcases h with h | ⟨g, hp, hr⟩
  · exact .inl h
  · exact .inr ⟨g, hp, hr.next hb⟩
def RowF (w : World) (p : Option Addr) (l : List Fld) : Prop := l = [] ∨ ∃ g, p = some ⟨g, 0, none⟩ ∧ ReadF w g l
theorem RowF.next {w w' : World} {p : Option Addr} {l : List Fld} (h : RowF w p l) (hb : Below w.heap.size w w') : RowF w' p l := by
  rcases h with h | ⟨g, hp, hr⟩
  · exact .inl h
  · exact .inr ⟨g, hp, hr.next hb⟩
theorem itemsIn_row (body : ByteArray) (l : List Val) (w : World) (hs : body.size ≤ 1048576) (hi : items body = some l) :
    Calls Tryz.prog 205 #[.string body] w fun e w' => (∃ p cap, e = .returned (.slice p l.length cap) ∧ RowV w' p l) ∧ Below w.heap.size w w' := by
  by_cases hl : l = []
  · subst hl
    exact (itemsIn_nil body w hs hi).mono fun e w' ⟨he, hb⟩ => ⟨⟨none, 0, he, .inl rfl⟩, hb⟩
  · exact (itemsIn_cons body l w hs hi hl).mono fun e w' ⟨⟨g, cap, he, ho⟩, hb⟩ => ⟨⟨some ⟨g, 0, none⟩, cap, he, .inr ⟨g, rfl, ReadV.of_own ho⟩⟩, hb⟩
theorem fieldsIn_row (body : ByteArray) (l : List Fld) (w : World) (hs : body.size ≤ 1048576) (hi : fields body = some l) :
    Calls Tryz.prog 158 #[.string body] w fun e w' => (∃ p cap, e = .returned (.slice p l.length cap) ∧ RowF w' p l) ∧ Below w.heap.size w w' := by
  by_cases hl : l = []
  · subst hl
    exact (fieldsIn_nil body w hs hi).mono fun e w' ⟨he, hb⟩ => ⟨⟨none, 0, he, .inl rfl⟩, hb⟩
  · exact (fieldsIn_cons body l w hs hi hl).mono fun e w' ⟨⟨g, cap, he, ho⟩, hb⟩ => ⟨⟨some ⟨g, 0, none⟩, cap, he, .inr ⟨g, rfl, ReadF.of_own ho⟩⟩, hb⟩

set_option maxRecDepth 4000 in
set_option maxHeartbeats 2000000 in
theorem compareRows (d : Nat) (ih : compareAt d) (p p' : Option Addr) (c c' : Nat) (la lb : List Val) (w : World) (ra : RowV w p la) (rb : RowV w p' lb) (hla : la.length ≤ 1048576) (hlb : lb.length ≤ 1048576)
    (hall : ∀ u ∈ la, fits d u = true ∧ u.t.size ≤ 1048576) (hall' : ∀ u ∈ lb, fits d u = true ∧ u.t.size ≤ 1048576) :
    Calls Tryz.prog 210 #[.slice p la.length c, .slice p' lb.length c', .func (.func 195) #[] #[]] w fun e w' => e = .returned (.int .i64 (lexG (ordV d) la lb)) ∧ Below w.heap.size w w' := by
  obtain ⟨R, hR⟩ : ∃ R, R = lexG (ordV d) la lb := ⟨_, rfl⟩
  rw [← hR]
  have HR : Hid _ := hR
  have RA : Hid (RowV _ _ _) := ra
  have RB : Hid (RowV _ _ _) := rb
  have HA : Hid _ := hall
  have HA' : Hid _ := hall'
  clear hR ra rb hall hall'
  go_enter Tryz.func210, Tryz.ntmps210
  go_wp2_with fail
  go_loopw [13] (fun i wr => ∃ k : Nat, k ≤ la.length ∧ k ≤ lb.length ∧ i = .int .i64 k ∧ R = lexG (ordV d) (la.drop k) (lb.drop k) ∧ Below w.heap.size w wr) (fun i _ => la.length - (intOf i).toNat)
  case atStart => exact ⟨0, Nat.zero_le _, Nat.zero_le _, rfl, HR.out, Below.refl _ _⟩
  case round =>
    obtain ⟨k, hk, hk', rfl, hr, hbel⟩ := hrel
    have HT : Hid _ := hr
    clear hr HR
    have hz := hbel.size
    by_cases hlt : k < la.length
    · rcases RA.out.next hbel with h0 | ⟨g, rfl, R1⟩
      · subst h0; simp at hlt
      · obtain ⟨x0, x1, x2⟩ := R1.cells k hlt
        by_cases hlt' : k < lb.length
        · rcases RB.out.next hbel with h0 | ⟨g', rfl, R2⟩
          · subst h0; simp at hlt'
          · obtain ⟨y0, y1, y2⟩ := R2.cells k hlt'
            have l1 := R1.lt
            have l2 := R2.lt
            have hk2 : (k : Int) < (lb.length : Int) := by omega
            have hq := HA.out la[k] (List.getElem_mem _)
            have hq' := HA'.out lb[k] (List.getElem_mem _)
            have HC0 : ∀ W : World, Calls Tryz.prog 195 #[.agg #[.int .i64 la[k].k, .int .i64 la[k].n, .string la[k].t], .agg #[.int .i64 lb[k].k, .int .i64 lb[k].n, .string lb[k].t]] W fun e w' => e = .returned (.int .i64 (ordV d la[k] lb[k])) ∧ Below W.heap.size W w' := fun W => ih la[k] lb[k] W hq.2 hq'.2 hq.1 hq'.1
            have hstep := lexG_step (ordV d) la lb k hlt hlt'
            rw [← HT.out] at hstep
            obtain ⟨O, hO⟩ : ∃ O, O = ordV d la[k] lb[k] := ⟨_, rfl⟩
            rw [← hO] at HC0 hstep
            have HC : Hid _ := HC0
            have HS : Hid _ := hstep
            clear hq hq' HC0 hstep hO HT R1 R2
            by_cases hO0 : O = 0
            · have e0 : (O == 0) = true := by simp [hO0]
              go_wp2_with fail
              refine (HC.out _).mono ?_
              rintro e w1 ⟨rfl, hb⟩
              have hb1 : Below w.heap.size w w1 := ((hbel.alloc hz _).alloc (by simp; omega) _).trans (hb.mono (by simp; omega))
              clear hb
              go_wp2_with fail
              go_roundw
              case rel => exact ⟨k + 1, by omega, by omega, by go_num, by rw [HS.out, if_pos hO0], hb1⟩
              case measure => simp [intOf]; omega
            · have e0 : (O == 0) = false := beq_eq_false_iff_ne.mpr hO0
              go_wp2_with fail
              refine (HC.out _).mono ?_
              rintro e w1 ⟨rfl, hb⟩
              have hb1 : Below w.heap.size w w1 := ((hbel.alloc hz _).alloc (by simp; omega) _).trans (hb.mono (by simp; omega))
              clear hb
              go_wp2_with fail
              go_ret
              exact ⟨by rw [HS.out, if_neg hO0]; rfl, hb1⟩
        · have hk2 : ¬ (k : Int) < (lb.length : Int) := by omega
          have hk3 : (lb.length : Int) ≤ (k : Int) := by omega
          have hR1 : R = 1 := by rw [HT.out]; exact lexG_end2 _ la lb k hlt (by omega)
          have hgl := R1.lt
          clear R1
          go_wp2_with fail
          go_ret
          exact ⟨by first | rfl | (rw [hR1]; rfl), by (repeat (first | (with_reducible exact Below.refl _ _) | (with_reducible assumption) | (with_reducible apply below_drewN) | (with_reducible apply Below.drew) | ((with_reducible refine Below.setCell ?_ ?_ _); rotate_left; focus (first | (simp; done) | (simp; omega) | omega)) | ((with_reducible refine Below.alloc ?_ ?_ _); rotate_left; focus (first | (simp; done) | (simp; omega) | omega))))⟩
    · have hR1 := lexG_end1 (ordV d) la lb k (by omega)
      rw [← HT.out] at hR1
      by_cases h2 : k < lb.length
      · rw [if_pos h2] at hR1
        have hgt : (la.length : Int) < (lb.length : Int) := by omega
        go_wp2_with fail
        go_ret
        exact ⟨by first | rfl | (rw [hR1]; rfl), hbel⟩
      · rw [if_neg h2] at hR1
        have hgt : ¬ (la.length : Int) < (lb.length : Int) := by omega
        go_wp2_with fail
        go_ret
        exact ⟨by first | rfl | (rw [hR1]; rfl), hbel⟩

set_option maxRecDepth 4000 in
set_option maxHeartbeats 1000000 in
theorem compareFields_any (d : Nat) (ih : compareAt d) (f g : Fld) (w : World) (hs : f.v.t.size ≤ 1048576) (hs' : g.v.t.size ≤ 1048576) (hf : fits d f.v = true) (hg : fits d g.v = true) :
    Calls Tryz.prog 212 #[.agg #[.string f.name, .int .i64 f.v.k, .int .i64 f.v.n, .string f.v.t], .agg #[.string g.name, .int .i64 g.v.k, .int .i64 g.v.n, .string g.v.t]] w fun e w' => e = .returned (.int .i64 (cF (ordV d) f g)) ∧ Below w.heap.size w w' := by
  have HC : Hid _ := ih f.v g.v
  by_cases h : cB f.name g.name = 0
  · have e0 : (cB f.name g.name == 0) = true := by simp [h]
    have e : cF (ordV d) f g = ordV d f.v g.v := by unfold cF; rw [if_pos h]
    rw [e]
    have HS : ∀ W : World, Calls Tryz.prog 186 #[.string f.name, .string g.name] W fun e w' => e = .returned (.int .i64 0) ∧ w' = W := fun W => by have := cmpStr_any f.name g.name W; rw [h] at this; exact this
    have HS1 : Hid _ := HS
    clear HS e0 e h
    go_enter Tryz.func212, Tryz.ntmps212
    go_wp2_with (first | (go_at_call 186; refine (HS1.out _).mono ?_; rintro e w1 ⟨rfl, rfl⟩) | (go_at_call 195; refine (HC.out _ hs hs' hf hg).mono ?_; rintro e w2 ⟨rfl, hb⟩))
    go_ret
    exact ⟨rfl, (((Below.refl _ _).alloc (Nat.le_refl _) _).alloc (by simp) _).trans (hb.mono (by simp; omega))⟩
  · have e0 : (cB f.name g.name == 0) = false := beq_eq_false_iff_ne.mpr h
    have e : cF (ordV d) f g = cB f.name g.name := by unfold cF; rw [if_neg h]
    rw [e]
    clear e
    go_enter Tryz.func212, Tryz.ntmps212
    go_wp2_with (go_at_call 186; refine (cmpStr_any f.name g.name _).mono ?_; rintro e w1 ⟨rfl, rfl⟩)
    go_ret
    exact ⟨rfl, by (repeat (first | (with_reducible exact Below.refl _ _) | (with_reducible assumption) | (with_reducible apply below_drewN) | (with_reducible apply Below.drew) | ((with_reducible refine Below.setCell ?_ ?_ _); rotate_left; focus (first | (simp; done) | (simp; omega) | omega)) | ((with_reducible refine Below.alloc ?_ ?_ _); rotate_left; focus (first | (simp; done) | (simp; omega) | omega))))⟩
set_option maxRecDepth 4000 in
set_option maxHeartbeats 2000000 in
theorem compareRowsF (d : Nat) (ih : compareAt d) (p p' : Option Addr) (c c' : Nat) (la lb : List Fld) (w : World) (ra : RowF w p la) (rb : RowF w p' lb) (hla : la.length ≤ 1048576) (hlb : lb.length ≤ 1048576)
    (hall : ∀ f ∈ la, fits d f.v = true ∧ f.v.t.size ≤ 1048576) (hall' : ∀ f ∈ lb, fits d f.v = true ∧ f.v.t.size ≤ 1048576) :
    Calls Tryz.prog 211 #[.slice p la.length c, .slice p' lb.length c', .func (.func 212) #[] #[]] w fun e w' => e = .returned (.int .i64 (lexG (cF (ordV d)) la lb)) ∧ Below w.heap.size w w' := by
  obtain ⟨R, hR⟩ : ∃ R, R = lexG (cF (ordV d)) la lb := ⟨_, rfl⟩
  rw [← hR]
  have HR : Hid _ := hR
  have RA : Hid (RowF _ _ _) := ra
  have RB : Hid (RowF _ _ _) := rb
  have HA : Hid _ := hall
  have HA' : Hid _ := hall'
  clear hR ra rb hall hall'
  go_enter Tryz.func211, Tryz.ntmps211
  go_wp2_with fail
  go_loopw [13] (fun i wr => ∃ k : Nat, k ≤ la.length ∧ k ≤ lb.length ∧ i = .int .i64 k ∧ R = lexG (cF (ordV d)) (la.drop k) (lb.drop k) ∧ Below w.heap.size w wr) (fun i _ => la.length - (intOf i).toNat)
  case atStart => exact ⟨0, Nat.zero_le _, Nat.zero_le _, rfl, HR.out, Below.refl _ _⟩
  case round =>
    obtain ⟨k, hk, hk', rfl, hr, hbel⟩ := hrel
    have HT : Hid _ := hr
    clear hr HR
    have hz := hbel.size
    by_cases hlt : k < la.length
    · rcases RA.out.next hbel with h0 | ⟨g, rfl, R1⟩
      · subst h0; simp at hlt
      · obtain ⟨x0, x1, x2, x3⟩ := R1.cells k hlt
        by_cases hlt' : k < lb.length
        · rcases RB.out.next hbel with h0 | ⟨g', rfl, R2⟩
          · subst h0; simp at hlt'
          · obtain ⟨y0, y1, y2, y3⟩ := R2.cells k hlt'
            have l1 := R1.lt
            have l2 := R2.lt
            have hk2 : (k : Int) < (lb.length : Int) := by omega
            have hq := HA.out la[k] (List.getElem_mem _)
            have hq' := HA'.out lb[k] (List.getElem_mem _)
            have HC0 : ∀ W : World, Calls Tryz.prog 212 #[.agg #[.string la[k].name, .int .i64 la[k].v.k, .int .i64 la[k].v.n, .string la[k].v.t], .agg #[.string lb[k].name, .int .i64 lb[k].v.k, .int .i64 lb[k].v.n, .string lb[k].v.t]] W fun e w' => e = .returned (.int .i64 (cF (ordV d) la[k] lb[k])) ∧ Below W.heap.size W w' := fun W => compareFields_any d ih la[k] lb[k] W hq.2 hq'.2 hq.1 hq'.1
            have hstep := lexG_step (cF (ordV d)) la lb k hlt hlt'
            rw [← HT.out] at hstep
            obtain ⟨O, hO⟩ : ∃ O, O = cF (ordV d) la[k] lb[k] := ⟨_, rfl⟩
            rw [← hO] at HC0 hstep
            have HC : Hid _ := HC0
            have HS : Hid _ := hstep
            clear hq hq' HC0 hstep hO HT R1 R2
            by_cases hO0 : O = 0
            · have e0 : (O == 0) = true := by simp [hO0]
              go_wp2_with fail
              refine (HC.out _).mono ?_
              rintro e w1 ⟨rfl, hb⟩
              have hb1 : Below w.heap.size w w1 := ((hbel.alloc hz _).alloc (by simp; omega) _).trans (hb.mono (by simp; omega))
              clear hb
              go_wp2_with fail
              go_roundw
              case rel => exact ⟨k + 1, by omega, by omega, by go_num, by rw [HS.out, if_pos hO0], hb1⟩
              case measure => simp [intOf]; omega
            · have e0 : (O == 0) = false := beq_eq_false_iff_ne.mpr hO0
              go_wp2_with fail
              refine (HC.out _).mono ?_
              rintro e w1 ⟨rfl, hb⟩
              have hb1 : Below w.heap.size w w1 := ((hbel.alloc hz _).alloc (by simp; omega) _).trans (hb.mono (by simp; omega))
              clear hb
              go_wp2_with fail
              go_ret
              exact ⟨by rw [HS.out, if_neg hO0]; rfl, hb1⟩
        · have hk2 : ¬ (k : Int) < (lb.length : Int) := by omega
          have hk3 : (lb.length : Int) ≤ (k : Int) := by omega
          have hR1 : R = 1 := by rw [HT.out]; exact lexG_end2 _ la lb k hlt (by omega)
          have hgl := R1.lt
          clear R1
          go_wp2_with fail
          go_ret
          exact ⟨by first | rfl | (rw [hR1]; rfl), by (repeat (first | (with_reducible exact Below.refl _ _) | (with_reducible assumption) | (with_reducible apply below_drewN) | (with_reducible apply Below.drew) | ((with_reducible refine Below.setCell ?_ ?_ _); rotate_left; focus (first | (simp; done) | (simp; omega) | omega)) | ((with_reducible refine Below.alloc ?_ ?_ _); rotate_left; focus (first | (simp; done) | (simp; omega) | omega))))⟩
    · have hR1 := lexG_end1 (cF (ordV d)) la lb k (by omega)
      rw [← HT.out] at hR1
      by_cases h2 : k < lb.length
      · rw [if_pos h2] at hR1
        have hgt : (la.length : Int) < (lb.length : Int) := by omega
        go_wp2_with fail
        go_ret
        exact ⟨by first | rfl | (rw [hR1]; rfl), hbel⟩
      · rw [if_neg h2] at hR1
        have hgt : ¬ (la.length : Int) < (lb.length : Int) := by omega
        go_wp2_with fail
        go_ret
        exact ⟨by first | rfl | (rw [hR1]; rfl), hbel⟩

end Go.Proofs.YtcggkeleaepebaaGreatDoor

/- What the library's search among fields that rise answers, for every name. -/
namespace Go.Proofs.YtcggkeleaepebaaGreatDoor
open Go.RowKit
set_option linter.unusedVariables false

set_option maxRecDepth 4000 in
set_option maxHeartbeats 1000000 in
theorem compareName_any (m : ByteArray) (k n : Int) (t nm : ByteArray) (w : World) :
    Calls Tryz.prog 172 #[.agg #[.string m, .int .i64 k, .int .i64 n, .string t], .string nm] w fun e w' => e = .returned (.int .i64 (cB m nm)) ∧ Below w.heap.size w w' := by
  go_enter Tryz.func172, Tryz.ntmps172
  go_wp2_with (go_at_call 186; refine (cmpStr_any _ _ _).mono ?_; rintro e w1 ⟨rfl, rfl⟩)
  go_ret
  exact ⟨rfl, (Below.refl _ _).alloc (Nat.le_refl _) _⟩

/-- What a search for a name answers: its place, and whether it is there. -/
def Found (l : List Fld) (nm : ByteArray) (e : Ending) : Prop := ∃ (i : Nat) (b : Bool), e = .returned (.tuple #[.int .i64 i, .bool b]) ∧ Place l nm i b
theorem Found.mk {l : List Fld} {nm : ByteArray} {e : Ending} (i : Nat) (b : Bool) (h : e = .returned (.tuple #[.int .i64 i, .bool b])) (hp : Place l nm i b) : Found l nm e := ⟨i, b, h, hp⟩
set_option maxRecDepth 8000 in
set_option maxHeartbeats 2000000 in
theorem search_any (p : Option Addr) (cap : Nat) (l : List Fld) (nm : ByteArray) (w : World) (hr : RowF w p l) (hs : Rise l) (hl : l.length ≤ 1048576) :
    Calls Tryz.prog 171 #[.slice p l.length cap, .string nm, .func (.func 172) #[] #[]] w fun e w' => Found l nm e ∧ Below w.heap.size w w' := by
  have HR : Hid (RowF _ _ _) := hr
  have HS : Hid (Rise _) := hs
  clear hr hs
  go_enter Tryz.func171, Tryz.ntmps171
  go_wp2_with fail
  go_loopw [9, 10] (fun u v wr => ∃ i j : Nat, i ≤ j ∧ j ≤ l.length ∧ u = .int .i64 i ∧ v = .int .i64 j ∧ (∀ q (h : q < l.length), q < i → ltB l[q].name nm = true) ∧ (∀ q (h : q < l.length), j ≤ q → ltB l[q].name nm = false) ∧ Below w.heap.size w wr) (fun u v _ => (intOf v).toNat - (intOf u).toNat)
  case atStart => exact ⟨0, l.length, Nat.zero_le _, Nat.le_refl _, rfl, rfl, fun q h h2 => absurd h2 (by omega), fun q h h2 => absurd h2 (by omega), Below.refl _ _⟩
  case round =>
    obtain ⟨i, j, hij, hj, rfl, rfl, hlo, hhi, hbel⟩ := hrel
    have HL : Hid _ := hlo
    have HH : Hid _ := hhi
    have hz := hbel.size
    clear hlo hhi
    by_cases hlt : i < j
    · rcases HR.out.next hbel with h0 | ⟨g, rfl, R⟩
      · subst h0; simp at hj; omega
      · have hlt2 : (i : Int) < (j : Int) := by omega
        have hh1 : (i + j) / 2 < l.length := by omega
        have hh2 : ((i : Int) + (j : Int)) / 2 < (l.length : Int) := by omega
        obtain ⟨x0, x1, x2, x3⟩ := R.cells ((i + j) / 2) hh1
        have hgl := R.lt
        clear R
        cases hc : ltB l[(i + j) / 2].name nm
        · have hnl : ¬ cB l[(i + j) / 2].name nm < 0 := by have := cB_lt l[(i + j) / 2].name nm; rw [hc] at this; simpa using this
          have HC : Hid _ := hc
          clear hc
          go_wp2_with fail
          refine (compareName_any _ _ _ _ _ _).mono ?_
          rintro e w1 ⟨rfl, hb⟩
          go_wp2_with fail
          go_roundw
          case rel =>
            refine ⟨i, (i + j) / 2, by omega, by omega, rfl, congrArg (Value.int .i64) (by omega), HL.out, ?_, hbel.trans (hb.mono hz)⟩
            intro q hq hge
            cases hq2 : ltB l[q].name nm
            · rfl
            · rcases Nat.lt_or_ge ((i + j) / 2) q with hlt3 | hge2
              · have := ltB_trans (HS.out _ _ hh1 hq hlt3) hq2
                rw [HC.out] at this; cases this
              · obtain rfl : q = (i + j) / 2 := by omega
                rw [HC.out] at hq2; cases hq2
          case measure => simp [intOf]; omega
        · have hnl : cB l[(i + j) / 2].name nm < 0 := by have := cB_lt l[(i + j) / 2].name nm; rw [hc] at this; simpa using this
          have HC : Hid _ := hc
          clear hc
          go_wp2_with fail
          refine (compareName_any _ _ _ _ _ _).mono ?_
          rintro e w1 ⟨rfl, hb⟩
          go_wp2_with fail
          go_roundw
          case rel =>
            refine ⟨(i + j) / 2 + 1, j, by omega, by omega, congrArg (Value.int .i64) (by omega), rfl, ?_, HH.out, hbel.trans (hb.mono hz)⟩
            intro q hq hlt3
            rcases Nat.lt_or_ge q ((i + j) / 2) with h3 | h3
            · exact ltB_trans (HS.out _ _ hq hh1 h3) HC.out
            · obtain rfl : q = (i + j) / 2 := by omega
              exact HC.out
          case measure => simp [intOf]; omega
    · obtain rfl : i = j := by omega
      by_cases hi : i < l.length
      · rcases HR.out.next hbel with h0 | ⟨g, rfl, R⟩
        · subst h0; simp at hi
        · obtain ⟨x0, x1, x2, x3⟩ := R.cells i hi
          have hi2 : (i : Int) < (l.length : Int) := by omega
          have hd2 : decide ((i : Int) < (l.length : Int)) = true := by simp; omega
          have hgl := R.lt
          clear R
          go_wp2_with fail
          refine (compareName_any _ _ _ _ _ _).mono ?_
          rintro e w1 ⟨rfl, hb⟩
          obtain ⟨b, hb0⟩ : ∃ b, b = (cB l[i].name nm == 0) := ⟨_, rfl⟩
          go_wp2_with fail
          go_ret2
          refine ⟨Found.mk i b (by rw [hb0]; rfl) ⟨hj, HL.out, HH.out, ?_⟩, hbel.trans (hb.mono hz)⟩
          rw [hb0, beq_iff_eq, cB_zero]
          exact ⟨fun h => ⟨hi, h⟩, fun ⟨_, h⟩ => h⟩
      · have hi2 : ¬ (i : Int) < (l.length : Int) := by omega
        have hd2 : decide ((i : Int) < (l.length : Int)) = false := by simp; omega
        go_wp2_with fail
        go_ret2
        exact ⟨Found.mk i false rfl ⟨hj, HL.out, HH.out, ⟨fun h => absurd h (by simp), fun ⟨h, _⟩ => absurd h hi⟩⟩, hbel⟩

set_option maxRecDepth 4000 in
set_option maxHeartbeats 1000000 in
theorem fieldPlace_any (p : Option Addr) (cap : Nat) (l : List Fld) (nm : ByteArray) (w : World) (hr : RowF w p l) (hs : Rise l) (hl : l.length ≤ 1048576) :
    Calls Tryz.prog 159 #[.slice p l.length cap, .string nm] w fun e w' => Found l nm e ∧ Below w.heap.size w w' := by
  have HR : Hid (RowF _ _ _) := hr
  have HS : Hid (Rise _) := hs
  clear hr hs
  go_enter Tryz.func159, Tryz.ntmps159
  go_wp2_with fail
  refine (search_any p cap l nm _ HR.out HS.out hl).mono ?_
  rintro e w1 ⟨⟨i, b, rfl, hp⟩, hb⟩
  have HP : Hid _ := hp
  clear hp
  go_wp2_with fail
  go_ret2
  exact ⟨Found.mk i b rfl HP.out, hb⟩

end Go.Proofs.YtcggkeleaepebaaGreatDoor

/- The id of a document: what the program and the specification answer, for every value. -/
namespace Go.Proofs.YtcggkeleaepebaaGreatDoor
open Go.RowKit
set_option linter.unusedVariables false

def idN : ByteArray := ⟨#[105, 100]⟩
/-- A value that is an id. -/
def idGood (x : Val) : Prop := x.k = 2 ∧ 0 ≤ x.n ∧ x.n ≤ 99
instance (x : Val) : Decidable (idGood x) := by unfold idGood; infer_instance
/-- The id of a document, -1 without a right one. -/
def idP (v : Val) : Int := match fieldV idN (flds v) with | some x => if idGood x then x.n else -1 | none => -1
theorem idP_none (v : Val) (h : fieldV idN (flds v) = none) : idP v = -1 := by unfold idP; rw [h]
theorem idP_good (v x : Val) (h : fieldV idN (flds v) = some x) (hg : idGood x) : idP v = x.n := by unfold idP; rw [h]; exact if_pos hg
theorem idP_bad (v x : Val) (h : fieldV idN (flds v) = some x) (hg : ¬ idGood x) : idP v = -1 := by unfold idP; rw [h]; exact if_neg hg
theorem idP_range (v : Val) : -1 ≤ idP v ∧ idP v ≤ 99 := by
  unfold idP
  split
  · split
    · rename_i h; unfold idGood at h; omega
    · omega
  · omega
/-- The answer of IdOf: the id, and a code. -/
def idR (v : Val) : Int × Int := if docB v = true then (if idP v < 0 then (0, 5) else (idP v, 0)) else (0, 1)
theorem docB_five (v : Val) (h : docB v = true) : v.k = 5 := by unfold docB at h; rw [Bool.and_eq_true, decide_eq_true_eq] at h; exact h.1
theorem docB_parts (v : Val) (h : docB v = true) : v.t.size ≤ 300 ∧ fields v.t = some (flds v) ∧ (flds v).length ≤ 300 ∧ Rise (flds v) := by
  have := doc_parts 5 v (docB_ok v h) (docB_five v h)
  exact ⟨this.1, this.2.1, this.2.2.1, this.2.2.2.1⟩

set_option maxRecDepth 4000 in
set_option maxHeartbeats 1000000 in
theorem l06Id_any (v : Val) (w : World) (hd : docB v = true) :
    Calls Tryz.prog 115 #[.agg #[.int .i64 v.k, .int .i64 v.n, .string v.t]] w fun e w' => e = .returned (.int .i64 (idP v)) ∧ Below w.heap.size w w' := by
  obtain ⟨h1, h2, h3, _⟩ := docB_parts v hd
  have X0 := Boxed.start w (.int .i64 v.k) (.int .i64 v.n) (.string v.t) 82
  have HC : Hid (∀ W : World, Calls _ _ _ W _) := fun W => l02Field_any v.k v.n v.t idN (flds v) W (by omega) h2 (by omega)
  clear h1 h2 h3 hd
  cases hf : fieldV idN (flds v) with
  | none =>
    rw [idP_none v hf]
    rw [fieldR_none idN (flds v) hf] at HC
    clear hf
    go_enter Tryz.func115, Tryz.ntmps115
    go_wp2_with fail
    refine (HC.out _).mono ?_
    rintro e w1 ⟨rfl, hb⟩
    have hbw := (X0.step hb).bel
    have hz := hbw.size
    clear hb
    go_wp2_with fail
    go_ret
    exact ⟨rfl, by (repeat (first | (with_reducible exact Below.refl _ _) | (with_reducible assumption) | (with_reducible apply below_drewN) | (with_reducible apply Below.drew) | ((with_reducible refine Below.setCell ?_ ?_ _); rotate_left; focus (first | (simp; done) | (simp; omega) | omega)) | ((with_reducible refine Below.alloc ?_ ?_ _); rotate_left; focus (first | (simp; done) | (simp; omega) | omega))))⟩
  | some x =>
    rw [fieldR_some idN (flds v) x hf] at HC
    by_cases hk : x.k = 2
    · have e1 : (x.k == 2) = true := by simp [hk]
      have e1n : (x.k != 2) = false := by simp [hk]
      by_cases hn : 0 ≤ x.n ∧ x.n ≤ 99
      · rw [idP_good v x hf ⟨hk, hn.1, hn.2⟩]
        have e2 : decide (0 ≤ x.n ∧ x.n ≤ 99) = true := by simp [hn]
        clear hf
        go_enter Tryz.func115, Tryz.ntmps115
        go_wp2_with fail
        refine (HC.out _).mono ?_
        rintro e w1 ⟨rfl, hb⟩
        have hbw := (X0.step hb).bel
        have hz := hbw.size
        clear hb
        go_wp2_with fail
        refine (l01In_any x.n 0 99 _).mono ?_
        rintro e w2 ⟨rfl, rfl⟩
        go_wp2_with fail
        go_ret
        exact ⟨rfl, by (repeat (first | (with_reducible exact Below.refl _ _) | (with_reducible assumption) | (with_reducible apply below_drewN) | (with_reducible apply Below.drew) | ((with_reducible refine Below.setCell ?_ ?_ _); rotate_left; focus (first | (simp; done) | (simp; omega) | omega)) | ((with_reducible refine Below.alloc ?_ ?_ _); rotate_left; focus (first | (simp; done) | (simp; omega) | omega))))⟩
      · rw [idP_bad v x hf (fun h => hn ⟨h.2.1, h.2.2⟩)]
        have e2 : decide (0 ≤ x.n ∧ x.n ≤ 99) = false := by simp; omega
        clear hf
        go_enter Tryz.func115, Tryz.ntmps115
        go_wp2_with fail
        refine (HC.out _).mono ?_
        rintro e w1 ⟨rfl, hb⟩
        have hbw := (X0.step hb).bel
        have hz := hbw.size
        clear hb
        go_wp2_with fail
        refine (l01In_any x.n 0 99 _).mono ?_
        rintro e w2 ⟨rfl, rfl⟩
        go_wp2_with fail
        go_ret
        exact ⟨rfl, by (repeat (first | (with_reducible exact Below.refl _ _) | (with_reducible assumption) | (with_reducible apply below_drewN) | (with_reducible apply Below.drew) | ((with_reducible refine Below.setCell ?_ ?_ _); rotate_left; focus (first | (simp; done) | (simp; omega) | omega)) | ((with_reducible refine Below.alloc ?_ ?_ _); rotate_left; focus (first | (simp; done) | (simp; omega) | omega))))⟩
    · have e1 : (x.k == 2) = false := beq_eq_false_iff_ne.mpr hk
      have e1n : (x.k != 2) = true := by simp [hk]
      rw [idP_bad v x hf (fun h => hk h.1)]
      clear hf
      go_enter Tryz.func115, Tryz.ntmps115
      go_wp2_with fail
      refine (HC.out _).mono ?_
      rintro e w1 ⟨rfl, hb⟩
      have hbw := (X0.step hb).bel
      have hz := hbw.size
      clear hb
      go_wp2_with fail
      go_ret
      exact ⟨rfl, by (repeat (first | (with_reducible exact Below.refl _ _) | (with_reducible assumption) | (with_reducible apply below_drewN) | (with_reducible apply Below.drew) | ((with_reducible refine Below.setCell ?_ ?_ _); rotate_left; focus (first | (simp; done) | (simp; omega) | omega)) | ((with_reducible refine Below.alloc ?_ ?_ _); rotate_left; focus (first | (simp; done) | (simp; omega) | omega))))⟩

set_option maxRecDepth 4000 in
set_option maxHeartbeats 1000000 in
theorem idOf_any (v : Val) (w : World) (hs : v.t.size ≤ 1048576) :
    Calls Tryz.prog 138 #[.agg #[.int .i64 v.k, .int .i64 v.n, .string v.t]] w fun e w' => e = .returned (.tuple #[.int .i64 (idR v).1, .int .i64 (idR v).2]) ∧ Below w.heap.size w w' := by
  have X0 := Boxed.start w (.int .i64 v.k) (.int .i64 v.n) (.string v.t) 82
  have HC : Hid (∀ W : World, Calls _ _ _ W _) := fun W => documentOK_any v W hs
  obtain ⟨r, hr⟩ : ∃ r, r = idR v := ⟨_, rfl⟩
  rw [← hr]
  have HR : Hid (r = idR v) := hr
  clear hr
  cases hd : docB v with
  | false =>
    have e : idR v = (0, 1) := by unfold idR; rw [hd]; rfl
    rw [HR.out, e]
    rw [hd] at HC
    clear e hd HR
    go_enter Tryz.func138, Tryz.ntmps138
    go_wp2_with fail
    refine (HC.out _).mono ?_
    rintro e w1 ⟨rfl, hb⟩
    have hbw := (X0.step hb).bel
    clear hb
    go_wp2_with fail
    go_ret2
    exact ⟨rfl, hbw⟩
  | true =>
    obtain ⟨h1, h2, h3, h4⟩ := docB_parts v hd
    have HF : Hid (∀ W : World, Calls _ _ _ W _) := fun W => fieldsIn_row v.t (flds v) W (by omega) h2
    have HRI : Hid (Rise (flds v)) := h4
    have HD : Hid (docB v = true) := hd
    rw [hd] at HC
    clear hd h2 h4 h1
    go_enter Tryz.func138, Tryz.ntmps138
    go_wp2_with fail
    refine (HC.out _).mono ?_
    rintro e w1 ⟨rfl, hb⟩
    have X1 := X0.step hb
    have c2 := X1.c2
    clear hb
    go_wp2_with fail
    refine (HF.out _).mono ?_
    rintro e w2 ⟨⟨p, cap, rfl, hrow⟩, hb⟩
    have X2 := X1.step hb
    clear hb X1 c2
    go_wp2_with fail
    refine (fieldPlace_any p cap (flds v) idN _ hrow HRI.out (by omega)).mono ?_
    rintro e w3 ⟨⟨i, b, rfl, hp⟩, hb⟩
    have X3 := X2.step hb
    have hrow3 := hrow.next hb
    have hbw := X3.bel
    have hz := hbw.size
    clear hb X2 hrow
    cases b with
    | false =>
      have hf := hp.none HRI.out
      have e : r = (0, 5) := by rw [HR.out]; unfold idR; rw [HD.out, idP_none v hf]; rfl
      subst e
      clear hf hp X3 hrow3
      go_wp2_with fail
      go_ret2
      exact ⟨rfl, hbw⟩
    | true =>
      obtain ⟨hi, _, hf⟩ := hp.some
      rcases hrow3 with hn | ⟨g, rfl, R⟩
      · rw [hn] at hi; simp at hi
      obtain ⟨x0, x1, x2, x3⟩ := R.cells i hi
      have hgl := R.lt
      have hi2 : (i : Int) < ((flds v).length : Int) := by omega
      obtain ⟨x, hx⟩ : ∃ x, x = (flds v)[i].v := ⟨_, rfl⟩
      rw [← hx] at x1 x2 x3 hf
      have HX : Hid (fieldV idN (flds v) = some x) := hf
      clear hf hp hx R X3 x0
      by_cases hk : x.k = 2
      · have e1 : (x.k == 2) = true := by simp [hk]
        have e1n : (x.k != 2) = false := by simp [hk]
        by_cases hn1 : x.n < 0
        · have e : r = (0, 5) := by
            rw [HR.out]; unfold idR
            rw [HD.out, idP_bad v x HX.out (fun h => by have := h.2.1; omega)]; rfl
          subst e
          skip
          go_wp2_with fail
          go_ret2
          exact ⟨rfl, by (repeat (first | (with_reducible exact Below.refl _ _) | (with_reducible assumption) | (with_reducible apply below_drewN) | (with_reducible apply Below.drew) | ((with_reducible refine Below.setCell ?_ ?_ _); rotate_left; focus (first | (simp; done) | (simp; omega) | omega)) | ((with_reducible refine Below.alloc ?_ ?_ _); rotate_left; focus (first | (simp; done) | (simp; omega) | omega))))⟩
        · by_cases hn2 : (99 : Int) < x.n
          · have e : r = (0, 5) := by
              rw [HR.out]; unfold idR
              rw [HD.out, idP_bad v x HX.out (fun h => by have := h.2.2; omega)]; rfl
            subst e
            skip
            go_wp2_with fail
            go_ret2
            exact ⟨rfl, by (repeat (first | (with_reducible exact Below.refl _ _) | (with_reducible assumption) | (with_reducible apply below_drewN) | (with_reducible apply Below.drew) | ((with_reducible refine Below.setCell ?_ ?_ _); rotate_left; focus (first | (simp; done) | (simp; omega) | omega)) | ((with_reducible refine Below.alloc ?_ ?_ _); rotate_left; focus (first | (simp; done) | (simp; omega) | omega))))⟩
          · have e : r = (x.n, 0) := by
              rw [HR.out]; unfold idR
              rw [HD.out, idP_good v x HX.out ⟨hk, by omega, by omega⟩]
              exact (if_pos rfl).trans (if_neg hn1)
            subst e
            skip
            go_wp2_with fail
            go_ret2
            exact ⟨rfl, by (repeat (first | (with_reducible exact Below.refl _ _) | (with_reducible assumption) | (with_reducible apply below_drewN) | (with_reducible apply Below.drew) | ((with_reducible refine Below.setCell ?_ ?_ _); rotate_left; focus (first | (simp; done) | (simp; omega) | omega)) | ((with_reducible refine Below.alloc ?_ ?_ _); rotate_left; focus (first | (simp; done) | (simp; omega) | omega))))⟩
      · have e1 : (x.k == 2) = false := beq_eq_false_iff_ne.mpr hk
        have e1n : (x.k != 2) = true := by simp [hk]
        have e : r = (0, 5) := by
          rw [HR.out]; unfold idR
          rw [HD.out, idP_bad v x HX.out (fun h => hk h.1)]; rfl
        subst e
        skip
        go_wp2_with fail
        go_ret2
        exact ⟨rfl, by (repeat (first | (with_reducible exact Below.refl _ _) | (with_reducible assumption) | (with_reducible apply below_drewN) | (with_reducible apply Below.drew) | ((with_reducible refine Below.setCell ?_ ?_ _); rotate_left; focus (first | (simp; done) | (simp; omega) | omega)) | ((with_reducible refine Below.alloc ?_ ?_ _); rotate_left; focus (first | (simp; done) | (simp; omega) | omega))))⟩

end Go.Proofs.YtcggkeleaepebaaGreatDoor

/- What a write, or a version, says of an id: right or not, by both; small facts on blocks. -/
namespace Go.Proofs.YtcggkeleaepebaaGreatDoor.Co
open Go.RowKit Tr
set_option linter.unusedVariables false

def zeroB (v : Val) : Bool := decide (v.k = 0) && (decide (v.n = 0) && decide (v.t.size = 0))
/-- What a version, or a write, says of an id. -/
def stateB (id : Int) (g : Bool) (v : Val) : Bool := if g then zeroB v else (docB v && decide (idP v = id))
def timeB (t : Int) : Bool := decide (1 ≤ t ∧ t ≤ 10000)
def topB (i : Int) : Bool := decide (0 ≤ i ∧ i ≤ 19)
/-- A state that is read off IdOf's answer. -/
theorem state_id (id : Int) (v : Val) (h : 0 ≤ id) : (docB v && decide (idP v = id)) = (decide ((idR v).2 = 0) && decide ((idR v).1 = id)) := by
  unfold idR
  cases hd : docB v
  · simp
  · have hr := idP_range v
    by_cases hn : idP v < 0
    · simp only [if_true, if_pos hn]
      have : ¬ idP v = id := by omega
      simp [this]
    · simp only [if_true, if_neg hn]
      simp
set_option maxRecDepth 4000 in
set_option maxHeartbeats 1000000 in
theorem topIdOK_any (i : Int) (w : World) :
    Calls Tryz.prog 137 #[.int .i64 i] w fun e w' => e = .returned (.bool (topB i)) ∧ w' = w := by
  unfold topB
  by_cases h1 : 0 ≤ i
  · by_cases h2 : i ≤ 19
    · rw [decide_eq_true ⟨h1, h2⟩]
      go_enter Tryz.func137, Tryz.ntmps137
      go_wp2_with fail
      go_ret
      exact ⟨rfl, rfl⟩
    · rw [decide_eq_false (fun h => h2 h.2)]
      go_enter Tryz.func137, Tryz.ntmps137
      go_wp2_with fail
      go_ret
      exact ⟨rfl, rfl⟩
  · rw [decide_eq_false (fun h => h1 h.1)]
    go_enter Tryz.func137, Tryz.ntmps137
    go_wp2_with fail
    go_ret
    exact ⟨rfl, rfl⟩
set_option maxRecDepth 4000 in
set_option maxHeartbeats 1000000 in
theorem timeOK_any (i : Int) (w : World) :
    Calls Tryz.prog 51 #[.int .i64 i] w fun e w' => e = .returned (.bool (timeB i)) ∧ w' = w := by
  unfold timeB
  by_cases h1 : 1 ≤ i
  · by_cases h2 : i ≤ 10000
    · rw [decide_eq_true ⟨h1, h2⟩]
      go_enter Tryz.func51, Tryz.ntmps51
      go_wp2_with fail
      go_ret
      exact ⟨rfl, rfl⟩
    · rw [decide_eq_false (fun h => h2 h.2)]
      go_enter Tryz.func51, Tryz.ntmps51
      go_wp2_with fail
      go_ret
      exact ⟨rfl, rfl⟩
  · rw [decide_eq_false (fun h => h1 h.1)]
    go_enter Tryz.func51, Tryz.ntmps51
    go_wp2_with fail
    go_ret
    exact ⟨rfl, rfl⟩
theorem size0 (t : ByteArray) : decide (t.size = 0) = (t.toList == []) := by
  rw [ByteArray.toList_eq]
  by_cases h : t.size = 0
  · rw [decide_eq_true h]
    have : t.data.toList = [] := List.length_eq_zero_iff.mp (by rw [toList_length]; exact h)
    rw [this]; rfl
  · rw [decide_eq_false h]
    symm
    rw [beq_eq_false_iff_ne]
    intro e
    exact h (by rw [← toList_length, e]; rfl)
set_option maxRecDepth 4000 in
set_option maxHeartbeats 1000000 in
theorem stateOK_any (id : Int) (g : Bool) (v : Val) (w : World) (hid : 0 ≤ id) (hs : v.t.size ≤ 1048576) :
    Calls Tryz.prog 121 #[.int .i64 id, .bool g, .agg #[.int .i64 v.k, .int .i64 v.n, .string v.t]] w fun e w' => e = .returned (.bool (stateB id g v)) ∧ Below w.heap.size w w' := by
  have X0 := Boxed.start w (.int .i64 v.k) (.int .i64 v.n) (.string v.t) 82
  have hbw0 := X0.bel
  have HC : Hid (∀ W : World, Calls _ _ _ W _) := fun W => idOf_any v W hs
  obtain ⟨R, hR⟩ : ∃ R, R = stateB id g v := ⟨_, rfl⟩
  rw [← hR]
  unfold stateB at hR
  cases g
  · rw [if_neg (by simp), state_id id v hid] at hR
    obtain ⟨r, hr⟩ : ∃ r, r = idR v := ⟨_, rfl⟩
    rw [← hr] at hR HC
    clear hr
    by_cases h1 : r.2 = 0
    · have e1 : (r.2 == 0) = true := by simp [h1]
      rw [decide_eq_true h1, Bool.true_and] at hR
      have HR : Hid (R = _) := hR
      clear hR h1
      go_enter Tryz.func121, Tryz.ntmps121
      go_wp2_with fail
      refine (HC.out _).mono ?_
      rintro e w1 ⟨rfl, hb⟩
      have hbw := (X0.step hb).bel
      clear hb
      go_wp2_with fail
      go_ret
      exact ⟨ret_bool' (by rw [HR.out]; rfl), hbw⟩
    · have e1 : (r.2 == 0) = false := beq_eq_false_iff_ne.mpr h1
      rw [decide_eq_false h1, Bool.false_and] at hR
      have HR : Hid (R = _) := hR
      clear hR h1
      go_enter Tryz.func121, Tryz.ntmps121
      go_wp2_with fail
      refine (HC.out _).mono ?_
      rintro e w1 ⟨rfl, hb⟩
      have hbw := (X0.step hb).bel
      clear hb
      go_wp2_with fail
      go_ret
      exact ⟨ret_bool' HR.out.symm, hbw⟩
  · rw [if_pos rfl] at hR
    unfold zeroB at hR
    rw [size0] at hR
    have HR : Hid (R = _) := hR
    clear hR HC
    go_enter Tryz.func121, Tryz.ntmps121
    go_wp2_with fail
    all_goals
      go_ret
      refine ⟨ret_bool' ?_, ?_⟩
      · rw [HR.out]; simp [*]
      · (repeat (first | (with_reducible exact Below.refl _ _) | (with_reducible assumption) | (with_reducible apply below_drewN) | (with_reducible apply Below.drew) | ((with_reducible refine Below.setCell ?_ ?_ _); rotate_left; focus (first | (simp; done) | (simp; omega) | omega)) | ((with_reducible refine Below.alloc ?_ ?_ _); rotate_left; focus (first | (simp; done) | (simp; omega) | omega))))

set_option maxRecDepth 4000 in
set_option maxHeartbeats 1000000 in
theorem l08Doc_any (id : Int) (g : Bool) (v : Val) (w : World) (hs : v.t.size ≤ 1048576) :
    Calls Tryz.prog 97 #[.int .i64 id, .bool g, .agg #[.int .i64 v.k, .int .i64 v.n, .string v.t]] w fun e w' => e = .returned (.bool (stateB id g v)) ∧ Below w.heap.size w w' := by
  have X0 := Boxed.start w (.int .i64 v.k) (.int .i64 v.n) (.string v.t) 82
  have hbw0 := X0.bel
  have HC : Hid (∀ W : World, Calls _ _ _ W _) := fun W => l03Doc_any v W hs
  obtain ⟨R, hR⟩ : ∃ R, R = stateB id g v := ⟨_, rfl⟩
  rw [← hR]
  unfold stateB at hR
  cases g
  · rw [if_neg (by simp)] at hR
    cases hd : docB v
    · rw [hd, Bool.false_and] at hR
      rw [hd] at HC
      subst hR
      clear hd
      go_enter Tryz.func97, Tryz.ntmps97
      go_wp2_with fail
      refine (HC.out _).mono ?_
      rintro e w1 ⟨rfl, hb⟩
      have hbw := (X0.step hb).bel
      clear hb
      go_wp2_with fail
      go_ret
      exact ⟨rfl, hbw⟩
    · have HD : Hid (∀ W : World, Calls _ _ _ W _) := fun W => l06Id_any v W hd
      rw [hd, Bool.true_and] at hR
      rw [hd] at HC
      have HR : Hid (R = _) := hR
      clear hd hR
      go_enter Tryz.func97, Tryz.ntmps97
      go_wp2_with fail
      refine (HC.out _).mono ?_
      rintro e w1 ⟨rfl, hb⟩
      have X1 := X0.step hb
      have c0 := X1.c0; have c1 := X1.c1; have c2 := X1.c2
      clear hb
      go_wp2_with fail
      refine (HD.out _).mono ?_
      rintro e w2 ⟨rfl, hb⟩
      have hbw := (X1.step hb).bel
      clear hb X1 c0 c1 c2
      go_wp2_with fail
      go_ret
      exact ⟨ret_bool' (by rw [HR.out]; rfl), hbw⟩
  · rw [if_pos rfl] at hR
    unfold zeroB at hR
    rw [size0] at hR
    have HR : Hid (R = _) := hR
    clear hR HC
    go_enter Tryz.func97, Tryz.ntmps97
    go_wp2_with fail
    all_goals
      go_ret
      refine ⟨ret_bool' ?_, ?_⟩
      · rw [HR.out]; simp [*]
      · (repeat (first | (with_reducible exact Below.refl _ _) | (with_reducible assumption) | (with_reducible apply below_drewN) | (with_reducible apply Below.drew) | ((with_reducible refine Below.setCell ?_ ?_ _); rotate_left; focus (first | (simp; done) | (simp; omega) | omega)) | ((with_reducible refine Below.alloc ?_ ?_ _); rotate_left; focus (first | (simp; done) | (simp; omega) | omega))))

theorem cellsVv : Tryz.prog.cellsOf 67 = 3 := by kernel_rfl
theorem cellsI1 : Tryz.prog.cellsOf 3 = 1 := by kernel_rfl
theorem cellsS1 : Tryz.prog.cellsOf 9 = 1 := by kernel_rfl
theorem cellsB1 : Tryz.prog.cellsOf 4 = 1 := by kernel_rfl
theorem six {W : World} {b : Nat} {T : TypeId} {v0 v1 v2 v3 v4 v5 : Value} (h : W.heap[b]? = some (.cells #[v0, v1, v2, v3, v4, v5] T)) :
    W.cell? ⟨b, 0, none⟩ = some v0 ∧ W.cell? ⟨b, 1, none⟩ = some v1 ∧ W.cell? ⟨b, 2, none⟩ = some v2 ∧ W.cell? ⟨b, 3, none⟩ = some v3 ∧ W.cell? ⟨b, 4, none⟩ = some v4 ∧ W.cell? ⟨b, 5, none⟩ = some v5 := by
  refine ⟨?_, ?_, ?_, ?_, ?_, ?_⟩ <;> simp [World.cell?, h]
theorem five {W : World} {b : Nat} {T : TypeId} {v0 v1 v2 v3 v4 : Value} (h : W.heap[b]? = some (.cells #[v0, v1, v2, v3, v4] T)) :
    W.cell? ⟨b, 0, none⟩ = some v0 ∧ W.cell? ⟨b, 1, none⟩ = some v1 ∧ W.cell? ⟨b, 2, none⟩ = some v2 ∧ W.cell? ⟨b, 3, none⟩ = some v3 ∧ W.cell? ⟨b, 4, none⟩ = some v4 := by
  refine ⟨?_, ?_, ?_, ?_, ?_⟩ <;> simp [World.cell?, h]
theorem soft {W : World} {b : Nat} {T : TypeId} {vs : Array Value} (h : W.heap[b]? = some (.cells vs T)) (o : Nat) : W.frozen? ⟨b, o, none⟩ = false := by simp [World.frozen?, h]
theorem set_same {w : World} {g o : Nat} {v : Value} {c : Array Value} {T : TypeId} (h : w.heap[g]? = some (.cells c T)) : (w.setCell ⟨g, o, none⟩ v).heap[g]? = some (.cells (c.setIfInBounds o v) T) := by
  simp [World.setCell, Array.getElem?_modify, h]
theorem set_other {w : World} {g b o : Nat} {v : Value} (h : b ≠ g) : (w.setCell ⟨g, o, none⟩ v).heap[b]? = w.heap[b]? := by
  have : g ≠ b := fun e => h e.symm
  simp [World.setCell, Array.getElem?_modify, this]

end Go.Proofs.YtcggkeleaepebaaGreatDoor.Co

/- Writes: whether one is right, by both; the laws' own helpers on one; one that comes in, opened. -/
namespace Go.Proofs.YtcggkeleaepebaaGreatDoor.Co
open Go.RowKit Go.Joins Go.Deep Go.ChangeShapes Go.WideShapes Go.ChangeAt Tr
set_option linter.unusedVariables false

/-- A write. -/
structure Wrt where
  coll : ByteArray
  id : Int
  gone : Bool
  doc : Val
/-- A write, as a value. -/
def Wrt.v (x : Wrt) : Value := .agg #[.string x.coll, .int .i64 x.id, .bool x.gone, .int .i64 x.doc.k, .int .i64 x.doc.n, .string x.doc.t]
def writeB (x : Wrt) : Bool := shortB x.coll && (topB x.id && stateB x.id x.gone x.doc)
structure SzW (x : Wrt) : Prop where
  c : x.coll.size ≤ 1048576
  d : x.doc.t.size ≤ 1048576
structure MaxW (x : Wrt) : Prop where
  c : x.coll.size ≤ maxLen
  d : x.doc.t.size ≤ maxLen
theorem SzW.mx {x : Wrt} (h : SzW x) : x.coll.size ≤ maxLen := by have := h.c; unfold maxLen; omega
/-- A box of six cells, anywhere. -/
structure BxW (W : World) (b : Nat) (x : Wrt) : Prop where
  lt : b < W.heap.size
  c0 : W.cell? ⟨b, 0, none⟩ = some (.string x.coll)
  c1 : W.cell? ⟨b, 1, none⟩ = some (.int .i64 x.id)
  c2 : W.cell? ⟨b, 2, none⟩ = some (.bool x.gone)
  c3 : W.cell? ⟨b, 3, none⟩ = some (.int .i64 x.doc.k)
  c4 : W.cell? ⟨b, 4, none⟩ = some (.int .i64 x.doc.n)
  c5 : W.cell? ⟨b, 5, none⟩ = some (.string x.doc.t)
theorem BxW.new (w : World) (x : Wrt) (T : TypeId) : BxW (w.alloc (.cells #[.string x.coll, .int .i64 x.id, .bool x.gone, .int .i64 x.doc.k, .int .i64 x.doc.n, .string x.doc.t] T)) w.heap.size x :=
  ⟨by simp, by simp [go_sem], by simp [go_sem], by simp [go_sem], by simp [go_sem], by simp [go_sem], by simp [go_sem]⟩
theorem BxW.step {W W' : World} {b B : Nat} {x : Wrt} (h : BxW W b x) (hb : Below B W W') (hB : b < B) : BxW W' b x :=
  ⟨Nat.lt_of_lt_of_le h.lt hb.size, (hb.cell hB).trans h.c0, (hb.cell hB).trans h.c1, (hb.cell hB).trans h.c2, (hb.cell hB).trans h.c3, (hb.cell hB).trans h.c4, (hb.cell hB).trans h.c5⟩
theorem BxW.next {W W' : World} {b : Nat} {x : Wrt} (h : BxW W b x) (hb : Below W.heap.size W W') : BxW W' b x := h.step hb h.lt
theorem BxW.chg {W W' : World} {b lo hi : Nat} {x : Wrt} (h : BxW W b x) (hc : Chg lo hi W W') (ho : b < lo ∨ hi ≤ b) : BxW W' b x :=
  ⟨Nat.lt_of_lt_of_le h.lt hc.size, (hc.cell h.lt ho).trans h.c0, (hc.cell h.lt ho).trans h.c1, (hc.cell h.lt ho).trans h.c2, (hc.cell h.lt ho).trans h.c3, (hc.cell h.lt ho).trans h.c4, (hc.cell h.lt ho).trans h.c5⟩

set_option maxRecDepth 4000 in
set_option maxHeartbeats 1000000 in
theorem writeOK_any (x : Wrt) (w : World) (hs : SzW x) :
    Calls Tryz.prog 120 #[.agg #[.string x.coll, .int .i64 x.id, .bool x.gone, .int .i64 x.doc.k, .int .i64 x.doc.n, .string x.doc.t]] w fun e w' => e = .returned (.bool (writeB x)) ∧ Below w.heap.size w w' := by
  have X0 := BxW.new w x 84
  have hbw : Below w.heap.size w (w.alloc (.cells #[.string x.coll, .int .i64 x.id, .bool x.gone, .int .i64 x.doc.k, .int .i64 x.doc.n, .string x.doc.t] 84)) := (Below.refl _ _).alloc (Nat.le_refl _) _
  have HN : Hid (∀ W : World, Calls _ _ _ W _) := fun W => shortNameOK_any x.coll W hs.mx
  have HT : Hid (∀ W : World, Calls _ _ _ W _) := fun W => topIdOK_any x.id W
  have HS : Hid (0 ≤ x.id → ∀ W : World, Calls _ _ _ W _) := fun h W => stateOK_any x.id x.gone x.doc W h hs.d
  clear hs
  unfold writeB
  cases hb1 : shortB x.coll
  · rw [hb1] at HN
    go_enter Tryz.func120, Tryz.ntmps120
    go_wp2_with fail
    refine (HN.out _).mono ?_
    rintro e w1 ⟨rfl, rfl⟩
    go_wp2_with fail
    go_ret
    exact ⟨rfl, hbw⟩
  · rw [hb1] at HN
    cases hb2 : topB x.id
    · rw [hb2] at HT
      go_enter Tryz.func120, Tryz.ntmps120
      go_wp2_with fail
      refine (HN.out _).mono ?_
      rintro e w1 ⟨rfl, rfl⟩
      go_wp2_with fail
      refine (HT.out _).mono ?_
      rintro e w1 ⟨rfl, rfl⟩
      go_wp2_with fail
      go_ret
      exact ⟨rfl, hbw⟩
    · have h0 : 0 ≤ x.id := by unfold topB at hb2; have := of_decide_eq_true hb2; omega
      rw [hb2] at HT
      have HS2 : Hid (∀ W : World, Calls _ _ _ W _) := HS.out h0
      clear hb1 hb2 HS h0
      go_enter Tryz.func120, Tryz.ntmps120
      go_wp2_with fail
      refine (HN.out _).mono ?_
      rintro e w1 ⟨rfl, rfl⟩
      go_wp2_with fail
      refine (HT.out _).mono ?_
      rintro e w1 ⟨rfl, rfl⟩
      go_wp2_with fail
      refine (HS2.out _).mono ?_
      rintro e w1 ⟨rfl, hb⟩
      have hbw2 := hbw.trans (hb.mono hbw.size)
      clear hb
      go_wp2_with fail
      go_ret
      exact ⟨rfl, hbw2⟩
set_option maxRecDepth 4000 in
set_option maxHeartbeats 1000000 in
theorem specWrite_any (x : Wrt) (w : World) (hs : SzW x) :
    Calls Tryz.prog 96 #[.agg #[.string x.coll, .int .i64 x.id, .bool x.gone, .int .i64 x.doc.k, .int .i64 x.doc.n, .string x.doc.t]] w fun e w' => e = .returned (.bool (writeB x)) ∧ Below w.heap.size w w' := by
  have X0 := BxW.new w x 84
  have hbw : Below w.heap.size w (w.alloc (.cells #[.string x.coll, .int .i64 x.id, .bool x.gone, .int .i64 x.doc.k, .int .i64 x.doc.n, .string x.doc.t] 84)) := (Below.refl _ _).alloc (Nat.le_refl _) _
  have HN : Hid (∀ W : World, Calls _ _ _ W _) := fun W => l01Name_any x.coll W hs.mx
  have HT : Hid (∀ W : World, Calls _ _ _ W _) := fun W => l01In_any x.id 0 19 W
  have HS : Hid (∀ W : World, Calls _ _ _ W _) := fun W => l08Doc_any x.id x.gone x.doc W hs.d
  clear hs
  unfold writeB topB
  cases hb1 : shortB x.coll
  · rw [hb1] at HN
    go_enter Tryz.func96, Tryz.ntmps96
    go_wp2_with fail
    refine (HN.out _).mono ?_
    rintro e w1 ⟨rfl, rfl⟩
    go_wp2_with fail
    go_ret
    exact ⟨rfl, hbw⟩
  · rw [hb1] at HN
    cases hb2 : decide (0 ≤ x.id ∧ x.id ≤ 19)
    · rw [hb2] at HT
      go_enter Tryz.func96, Tryz.ntmps96
      go_wp2_with fail
      refine (HN.out _).mono ?_
      rintro e w1 ⟨rfl, rfl⟩
      go_wp2_with fail
      refine (HT.out _).mono ?_
      rintro e w1 ⟨rfl, rfl⟩
      go_wp2_with fail
      go_ret
      exact ⟨rfl, hbw⟩
    · rw [hb2] at HT
      clear hb1 hb2
      go_enter Tryz.func96, Tryz.ntmps96
      go_wp2_with fail
      refine (HN.out _).mono ?_
      rintro e w1 ⟨rfl, rfl⟩
      go_wp2_with fail
      refine (HT.out _).mono ?_
      rintro e w1 ⟨rfl, rfl⟩
      go_wp2_with fail
      refine (HS.out _).mono ?_
      rintro e w1 ⟨rfl, hb⟩
      have hbw2 := hbw.trans (hb.mono hbw.size)
      clear hb
      go_wp2_with fail
      go_ret
      exact ⟨rfl, hbw2⟩
set_option maxRecDepth 4000 in
set_option maxHeartbeats 1000000 in
theorem szWrite_any (x : Wrt) (c0 : Int) (w : World) (hm : MaxW x) (h0 : 0 ≤ c0) (h1 : c0 ≤ 1048576) :
    Calls Tryz.prog 67 #[.agg #[.string x.coll, .int .i64 x.id, .bool x.gone, .int .i64 x.doc.k, .int .i64 x.doc.n, .string x.doc.t], .int .i64 c0] w fun e w' => (∃ r : Int, e = .returned (.int .i64 r) ∧ (r < 0 ∨ (0 ≤ r ∧ r ≤ c0 ∧ SzW x))) ∧ Below w.heap.size w w' := by
  have hbw : Below w.heap.size w (w.alloc (.cells #[.string x.coll, .int .i64 x.id, .bool x.gone, .int .i64 x.doc.k, .int .i64 x.doc.n, .string x.doc.t] 69)) := (Below.refl _ _).alloc (Nat.le_refl _) _
  have hmx := hm.c
  unfold maxLen at hmx
  by_cases hover : c0 < (x.coll.size : Int)
  · have hneg : c0 - (x.coll.size : Int) < 0 := by omega
    go_enter Tryz.func67, Tryz.ntmps67
    go_wp2_with fail
    go_ret
    exact ⟨⟨-1, rfl, .inl (by omega)⟩, hbw⟩
  · have hpos : ¬ c0 - (x.coll.size : Int) < 0 := by omega
    have HF : Hid (∀ W : World, Calls _ _ _ W _) := fun W => szValue_any x.doc.k x.doc.n x.doc.t (c0 - x.coll.size) W hm.d (by omega) (by omega)
    by_cases hd : c0 - (x.coll.size : Int) < (x.doc.t.size : Int)
    · rw [if_pos hd] at HF
      clear hm hd
      go_enter Tryz.func67, Tryz.ntmps67
      go_wp2_with fail
      refine (HF.out _).mono ?_
      rintro e w1 ⟨rfl, hb⟩
      have hbw1 := hbw.trans (hb.mono hbw.size)
      clear hb
      go_wp2_with fail
      go_ret
      exact ⟨⟨-1, rfl, .inl (by omega)⟩, hbw1⟩
    · rw [if_neg hd] at HF
      have hpos2 : ¬ c0 - (x.coll.size : Int) - (x.doc.t.size : Int) < 0 := by omega
      have HSW : Hid (SzW x) := ⟨by omega, by omega⟩
      clear hm hd
      go_enter Tryz.func67, Tryz.ntmps67
      go_wp2_with fail
      refine (HF.out _).mono ?_
      rintro e w1 ⟨rfl, hb⟩
      have hbw1 := hbw.trans (hb.mono hbw.size)
      clear hb
      go_wp2_with fail
      go_ret
      exact ⟨⟨_, rfl, .inr ⟨by omega, by omega, HSW.out⟩⟩, hbw1⟩
/-- Blocks of six cells that are being made. -/
structure Mk6 (w W : World) (x y : Array Value) (T U : TypeId) : Prop where
  bel : Below w.heap.size w W
  lt : w.heap.size + 2 < W.heap.size
  rb : W.heap[w.heap.size + 1]? = some (.cells x U)
  ob : W.heap[w.heap.size + 2]? = some (.cells y U)
theorem Mk6.start (w : World) (O : Obj) (x y : Array Value) (T U : TypeId) : Mk6 w (((w.alloc O).alloc (.cells x U)).alloc (.cells y U)) x y T U := by
  have s1 : (w.alloc O).heap.size = w.heap.size + 1 := by simp
  have s2 : ((w.alloc O).alloc (.cells x U)).heap.size = w.heap.size + 2 := by simp
  refine ⟨(((Below.refl _ _).alloc (Nat.le_refl _) _).alloc (by simp) _).alloc (by simp; omega) _, by simp, ?_, ?_⟩
  · rw [heap_alloc_old _ _ (by simp)]; rw [← s1]; exact heap_alloc_new _ _
  · rw [← s2]; exact heap_alloc_new _ _
theorem Mk6.next {w W W' : World} {x y : Array Value} {T U : TypeId} (h : Mk6 w W x y T U) (hb : Below W.heap.size W W') : Mk6 w W' x y T U := by
  have := h.lt
  exact ⟨h.bel.trans (hb.mono (by omega)), Nat.lt_of_lt_of_le h.lt hb.size, (hb.block _ (by omega)).trans h.rb, (hb.block _ h.lt).trans h.ob⟩
set_option maxRecDepth 4000 in
set_option maxHeartbeats 1000000 in
theorem toWrite_any (x : Wrt) (w : World) :
    Calls Tryz.prog 73 #[.agg #[.string x.coll, .int .i64 x.id, .bool x.gone, .int .i64 x.doc.k, .int .i64 x.doc.n, .string x.doc.t]] w fun e w' => e = .returned (.agg #[.string x.coll, .int .i64 x.id, .bool x.gone, .int .i64 x.doc.k, .int .i64 x.doc.n, .string x.doc.t]) ∧ Below w.heap.size w w' := by
  have M0 := Mk6.start w (.cells #[.string x.coll, .int .i64 x.id, .bool x.gone, .int .i64 x.doc.k, .int .i64 x.doc.n, .string x.doc.t] 69) #[.string em, .int .i64 0, .bool false, .int .i64 0, .int .i64 0, .string em] #[.string x.coll, .int .i64 x.id, .bool x.gone, .int .i64 0, .int .i64 0, .string em] 69 84
  have HC : Hid (∀ W : World, Calls _ _ _ W _) := fun W => toValue_any x.doc.k x.doc.n x.doc.t W
  go_enter Tryz.func73, Tryz.ntmps73
  go_wp2_with fail
  generalize ((w.alloc (.cells #[.string x.coll, .int .i64 x.id, .bool x.gone, .int .i64 x.doc.k, .int .i64 x.doc.n, .string x.doc.t] 69)).alloc (.cells #[.string em, .int .i64 0, .bool false, .int .i64 0, .int .i64 0, .string em] 84)).alloc (.cells #[.string x.coll, .int .i64 x.id, .bool x.gone, .int .i64 0, .int .i64 0, .string em] 84) = W0 at M0 ⊢
  refine (HC.out _).mono ?_
  rintro e w1 ⟨rfl, hb⟩
  have M1 := M0.next hb
  obtain ⟨a0, a1, a2, a3, a4, a5⟩ := six M1.rb
  obtain ⟨b0, b1, b2, b3, b4, b5⟩ := six M1.ob
  have fa := soft M1.rb
  have fb := soft M1.ob
  have hbw := M1.bel
  have hl := M1.lt
  clear hb M0 M1
  go_wp2_with fail
  refine bodyPost_ret (v := .agg #[.string x.coll, .int .i64 x.id, .bool x.gone, .int .i64 x.doc.k, .int .i64 x.doc.n, .string x.doc.t]) (by simp [results, Tryz.results73, go_sem, *]) rfl ⟨rfl, ?_⟩
  (repeat (first | (with_reducible exact Below.refl _ _) | (with_reducible assumption) | (with_reducible apply below_drewN) | (with_reducible apply Below.drew) | ((with_reducible refine Below.setCell ?_ ?_ _); rotate_left; focus (first | (simp; done) | (simp; omega) | omega)) | ((with_reducible refine Below.alloc ?_ ?_ _); rotate_left; focus (first | (simp; done) | (simp; omega) | omega))))
theorem cellsWr : Tryz.prog.cellsOf 69 = 6 := by kernel_rfl
theorem trod_struct4w {H : Type} {enc : TypeId × Value → H} {P : Program} {w : World} {base : Nat} {spare : Nat → Bool} {held : Bool} {t : TypeId} {f0 f1 f2 f3 : Field} {fuel : Nat} {cs : List Value} {x : DataW H × List MemPlace} (ht : P.underlying t = some (.struct #[f0, f1, f2, f3])) (h : DataW.trod enc P w base spare held fuel t cs = some x) :
    ∃ y0 y1 y2 y3 n, DataW.trod enc P w base spare held n f0.type ((cs.drop f0.offset).take (P.cellsOf f0.type)) = some y0 ∧
      DataW.trod enc P w base spare held n f1.type ((cs.drop f1.offset).take (P.cellsOf f1.type)) = some y1 ∧ DataW.trod enc P w base spare held n f2.type ((cs.drop f2.offset).take (P.cellsOf f2.type)) = some y2 ∧
      DataW.trod enc P w base spare held n f3.type ((cs.drop f3.offset).take (P.cellsOf f3.type)) = some y3 := by
  obtain ⟨xs, n, _, rfl, hl, hlen, hf⟩ := DataW.trod_struct ht h
  match xs, hlen with
  | [y0, y1, y2, y3], _ => exact ⟨y0, y1, y2, y3, n, by simpa using hf 0 f0 rfl, by simpa using hf 1 f1 rfl, by simpa using hf 2 f2 rfl, by simpa using hf 3 f3 rfl⟩
set_option maxRecDepth 100000 in
theorem open_write {H : Type} {enc : TypeId × Value → H} {w : World} {base b0 : Nat} {spare : Nat → Bool} {held : Bool} {r : Reach} {v : Value} {d : DataW H} {ps : List MemPlace}
    (hv : Value.okWide Tryz.prog w r b0 69 v) (h : DataW.Trod enc Tryz.prog w base spare held 69 v d ps) :
    ∃ x : Wrt, v = .agg #[.string x.coll, .int .i64 x.id, .bool x.gone, .int .i64 x.doc.k, .int .i64 x.doc.n, .string x.doc.t] ∧ MaxW x := by
  obtain ⟨cs, rfl, hsz⟩ := okWide_struct Tryz.underlying69 hv
  obtain ⟨fuel, hf⟩ := h
  rw [cellsWr] at hsz
  obtain ⟨l⟩ := cs
  match l, hsz with
  | [c0, c1, c2, c3, c4, c5], _ =>
    obtain ⟨y0, y1, y2, y3, n, t0, t1, t2, t3⟩ := trod_struct4w Tryz.underlying69 (show DataW.trod enc Tryz.prog w base spare held fuel 69 [c0, c1, c2, c3, c4, c5] = some _ by simpa [Value.cells] using hf)
    obtain ⟨z0, e0, _, h0⟩ := DataW.trod_string Tryz.underlying9 t0
    obtain ⟨z1, e1, _, _⟩ := DataW.trod_int Tryz.underlying3 t1
    obtain ⟨z2, e2, _⟩ := DataW.trod_bool Tryz.underlying4 t2
    obtain ⟨u0, u1, u2, m2, _, _, s0, s1, s2⟩ := trod_struct3 Tryz.underlying67 t3
    obtain ⟨z3, e3, _, _⟩ := DataW.trod_int Tryz.underlying3 s0
    obtain ⟨z4, e4, _, _⟩ := DataW.trod_int Tryz.underlying3 s1
    obtain ⟨z5, e5, _, h5⟩ := DataW.trod_string Tryz.underlying9 s2
    simp [cellsI1, cellsS1, cellsVv, cellsB1] at e0 e1 e2 e3 e4 e5
    subst e0 e1 e2 e3 e4 e5
    exact ⟨⟨z0, z1, z2, ⟨z3, z4, z5⟩⟩, rfl, ⟨h0, h5⟩⟩

end Go.Proofs.YtcggkeleaepebaaGreatDoor.Co
