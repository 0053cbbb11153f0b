/- Whether a value is a right document: what the program and the specification answer. -/
import Derived.Test.YtncpijfbbgipaaaGreatDoorEncUQ
import Derived.Test.YtncpijfbbgipaaaGreatDoorLawVal
import Derived.Test.YtncpijfbbgipaaaGreatDoorOKD
import Derived.Test.YtncpijfbbgipaaaGreatDoorGetM
import Derived.Test.YtncpijfbbgipaaaGreatDoorSplitS
import Derived.Deep.RegionWith
import Derived.Test.YtncpijfbbgipaaaGreatDoorIn
import Derived.Lib.Walk
import Derived.StillTailTactics
import Derived.Test.YtncpijfbbgipaaaGreatDoorFindM
import Derived.Test.YtncpijfbbgipaaaGreatDoorChgBQ
namespace Go.Proofs.YtncpijfbbgipaaaGreatDoor
open Go.RowKit
set_option linter.unusedVariables false

theorem docB_ok (v : Val) (h : docB v = true) : okB v = true := by unfold docB at h; rw [Bool.and_eq_true] at h; exact h.2

set_option maxRecDepth 4000 in
set_option maxHeartbeats 1000000 in
theorem documentOK_any (v : Val) (w : World) (hs : v.t.size ≤ 1048576) :
    Calls Tryz.prog 112 #[.agg #[.int .i64 v.k, .int .i64 v.n, .string v.t]] w fun e w' => e = .returned (.bool (docB v)) ∧ Below w.heap.size w w' := by
  have X0 := Boxed.start w (.int .i64 v.k) (.int .i64 v.n) (.string v.t) 39
  unfold docB
  by_cases h5 : v.k = 5
  · have e5 : (v.k == 5) = true := by simp [h5]
    rw [decide_eq_true h5, Bool.true_and]
    clear h5
    go_enter Tryz.func112, Tryz.ntmps112
    go_wp2_with fail
    refine (valueOK_any v.k v.n v.t _ (by unfold maxLen; omega)).mono ?_
    rintro e w1 ⟨rfl, hb⟩
    have hbw := (X0.step hb).bel
    clear hb
    go_wp2_with fail
    go_ret
    exact ⟨rfl, hbw⟩
  · have e5 : (v.k == 5) = false := beq_eq_false_iff_ne.mpr h5
    rw [decide_eq_false h5, Bool.false_and]
    clear h5
    go_enter Tryz.func112, Tryz.ntmps112
    go_wp2_with fail
    go_ret
    exact ⟨rfl, X0.bel⟩
set_option maxRecDepth 4000 in
set_option maxHeartbeats 1000000 in
theorem l03Doc_any (v : Val) (w : World) (hs : v.t.size ≤ 1048576) :
    Calls Tryz.prog 74 #[.agg #[.int .i64 v.k, .int .i64 v.n, .string v.t]] w fun e w' => e = .returned (.bool (docB v)) ∧ Below w.heap.size w w' := by
  have X0 := Boxed.start w (.int .i64 v.k) (.int .i64 v.n) (.string v.t) 39
  have HC : Hid (∀ W : World, Calls _ _ _ W _) := fun W => specValueOK_any v.k v.n v.t W hs
  have hd : docB v = (okB v && (v.k == 5)) := by unfold docB; rw [Bool.and_comm]; congr 1
  rw [hd]
  have ho : okB ⟨v.k, v.n, v.t⟩ = okB v := rfl
  rw [ho] at HC
  clear hd ho
  obtain ⟨O, hO⟩ : ∃ O, O = okB v := ⟨_, rfl⟩
  rw [← hO] at HC ⊢
  clear hO
  cases O
  · go_enter Tryz.func74, Tryz.ntmps74
    go_wp2_with fail
    refine (HC.out _).mono ?_
    rintro e w1 ⟨rfl, hb⟩
    have hbw := (X0.step hb).bel
    clear hb
    go_wp2_with fail
    go_ret
    exact ⟨rfl, hbw⟩
  · go_enter Tryz.func74, Tryz.ntmps74
    go_wp2_with fail
    refine (HC.out _).mono ?_
    rintro e w1 ⟨rfl, hb⟩
    have X1 := X0.step hb
    have a0 := X1.c0
    have hbw := X1.bel
    clear hb
    go_wp2_with fail
    go_ret
    exact ⟨ret_bool (by simp), hbw⟩

end Go.Proofs.YtncpijfbbgipaaaGreatDoor

/- A value as the program holds it. -/
namespace Go.Proofs.YtncpijfbbgipaaaGreatDoor
open Go.RowKit

abbrev aggV (v : Val) : Value := .agg #[.int .i64 v.k, .int .i64 v.n, .string v.t]

end Go.Proofs.YtncpijfbbgipaaaGreatDoor

/- What the specification's way along a path answers, for every right value. -/
namespace Go.Proofs.YtncpijfbbgipaaaGreatDoor
open Go.RowKit
set_option linter.unusedVariables false

/-- A value, and whether it is there. -/
def fieldR (nm : ByteArray) (l : List Fld) : Val × Bool := match fieldV nm l with | none => (zv, false) | some x => (x, true)
theorem fieldR_none (nm : ByteArray) (l : List Fld) (h : fieldV nm l = none) : fieldR nm l = (zv, false) := by unfold fieldR; rw [h]
theorem fieldR_some (nm : ByteArray) (l : List Fld) (x : Val) (h : fieldV nm l = some x) : fieldR nm l = (x, true) := by unfold fieldR; rw [h]

set_option maxRecDepth 4000 in
set_option maxHeartbeats 2000000 in
theorem l02Field_any (k n : Int) (t nm : ByteArray) (l : List Fld) (w : World) (hs : t.size ≤ 1048576) (hf : fields t = some l) (hl : l.length ≤ 1048576) :
    Calls Tryz.prog 102 #[.agg #[.int .i64 k, .int .i64 n, .string t], .string nm] w fun e w' => e = .returned (.tuple #[aggV (fieldR nm l).1, .bool (fieldR nm l).2]) ∧ Below w.heap.size w w' := by
  obtain ⟨P, hP⟩ : ∃ P, P = fieldR nm l := ⟨_, rfl⟩
  rw [← hP]
  have HP : Hid _ := hP
  have HF : Hid _ := hf
  have Y0 := Res3.start (w.alloc (.cells #[.int .i64 k, .int .i64 n, .string t] 39)) (.int .i64 0) (.int .i64 0) (.string em) 39
  clear hP hf
  go_enter Tryz.func102, Tryz.ntmps102
  go_wp2_with fail
  refine (l01Fields_any t _ hs).mono ?_
  rintro e w1 ⟨⟨g, m, cap, rfl, hown0⟩, hb⟩
  obtain ⟨rfl, hown⟩ := hown0 l HF.out
  clear hown0
  rw [HF.out]
  have Y1 := Y0.step hb
  have HR : Hid _ := ReadF.of_own hown
  have hbw : Below w.heap.size w w1 := ((Below.refl _ _).alloc (Nat.le_refl _) _).trans (Y1.bel.mono (by simp))
  have HBW : Hid _ := hbw
  clear hb hown Y0 hbw
  go_wp2_with fail
  go_loopw [8] (fun i wr => ∃ q : Nat, q ≤ l.length ∧ i = .int .i64 q ∧ (∀ j (h : j < l.length), j < q → l[j].name ≠ nm) ∧ Below w1.heap.size w1 wr) (fun i _ => l.length - (intOf i).toNat)
  case atStart => exact ⟨0, Nat.zero_le _, rfl, fun j h h2 => absurd h2 (by omega), Below.refl _ _⟩
  case round =>
    obtain ⟨q, hq, rfl, hno, hbel⟩ := hrel
    have HN : Hid _ := hno
    clear hno
    have Y := Y1.step hbel
    have hbw : Below w.heap.size w wr := HBW.out.trans (hbel.mono HBW.out.size)
    have R := HR.out.next hbel
    have g0 := Y.c0
    have g1 := Y.c1
    have g2 := Y.c2
    have z0 := Y.z0
    have z1 := Y.z1
    have z2 := Y.z2
    have hlt1 := Y.lt
    simp only [heap_size_alloc] at g0 g1 g2 z0 z1 z2 hlt1
    clear Y
    by_cases hlt : q < l.length
    · obtain ⟨x0, x1, x2, x3⟩ := R.cells q hlt
      have hgl := R.lt
      clear R
      by_cases hn : l[q].name = nm
      · have hb1 : (l[q].name.toList == nm.toList) = true := (eqL _ _).mpr hn
        have hp := HP.out
        rw [fieldR_some nm l l[q].v (fieldV_at nm l q hlt HN.out hn)] at hp
        subst hp
        clear HP
        go_wp2_with fail
        refine bodyPost_ret (v := .tuple #[aggV l[q].v, .bool true]) (by simp [results, Tryz.results102, go_sem, *]) rfl ⟨rfl, ?_⟩
        (repeat (first | (with_reducible exact Below.refl _ _) | (with_reducible assumption) | (with_reducible apply below_drewN) | (with_reducible apply Below.drew) | ((with_reducible refine Below.setCell ?_ ?_ _); rotate_left; focus (first | (simp; done) | (simp; omega) | omega)) | ((with_reducible refine Below.alloc ?_ ?_ _); rotate_left; focus (first | (simp; done) | (simp; omega) | omega))))
      · have hb1 : (l[q].name.toList == nm.toList) = false := eqL_false _ _ hn
        have HQ : Hid _ := hn
        clear hn
        go_wp2_with fail
        go_roundw
        case rel =>
          refine ⟨q + 1, by omega, by go_num, ?_, hbel⟩
          intro j hj hjq
          rcases Nat.lt_or_ge j q with h | h
          · exact HN.out j hj h
          · obtain rfl : j = q := by omega
            exact HQ.out
        case measure => simp [intOf]; omega
    · have hp := HP.out
      rw [fieldR_none nm l (fieldV_none nm l (fun f hf => by
        obtain ⟨j, hj, rfl⟩ := List.getElem_of_mem hf
        exact HN.out j hj (by omega)))] at hp
      subst hp
      clear HP
      go_wp2_with fail
      refine bodyPost_ret (v := .tuple #[.agg #[.int .i64 0, .int .i64 0, .string em], .bool false]) (by simp [results, Tryz.results102, go_sem, *]) rfl ⟨rfl, ?_⟩
      (repeat (first | (with_reducible exact Below.refl _ _) | (with_reducible assumption) | (with_reducible apply below_drewN) | (with_reducible apply Below.drew) | ((with_reducible refine Below.setCell ?_ ?_ _); rotate_left; focus (first | (simp; done) | (simp; omega) | omega)) | ((with_reducible refine Below.alloc ?_ ?_ _); rotate_left; focus (first | (simp; done) | (simp; omega) | omega))))

end Go.Proofs.YtncpijfbbgipaaaGreatDoor

/- What the program's comparing of numbers, texts and pairs of numbers answers. -/
namespace Go.Proofs.YtncpijfbbgipaaaGreatDoor
open Go.RowKit
set_option linter.unusedVariables false

set_option maxRecDepth 4000 in
set_option maxHeartbeats 1000000 in
theorem cmpInt_any (x y : Int) (w : World) : Calls Tryz.prog 115 #[.int .i64 x, .int .i64 y] w fun e w' => e = .returned (.int .i64 (cI x y)) ∧ w' = w := by
  by_cases h1 : x < y
  · have e : cI x y = -1 := by unfold cI Lib.compareInt; rw [if_pos h1]
    rw [e]
    go_enter Tryz.func115, Tryz.ntmps115
    go_wp2
    go_ret
    exact ⟨rfl, rfl⟩
  · by_cases h2 : y < x
    · have e : cI x y = 1 := by unfold cI Lib.compareInt; rw [if_neg h1, if_pos h2]
      rw [e]
      go_enter Tryz.func115, Tryz.ntmps115
      go_wp2
      go_ret
      exact ⟨rfl, rfl⟩
    · have e : cI x y = 0 := by unfold cI Lib.compareInt; rw [if_neg h1, if_neg h2]
      rw [e]
      go_enter Tryz.func115, Tryz.ntmps115
      go_wp2
      go_ret
      exact ⟨rfl, rfl⟩
set_option maxRecDepth 100000 in
set_option maxHeartbeats 1000000 in
theorem cmpStr0_any (a b : ByteArray) (w : World) : Calls Tryz.prog 148 #[.string a, .string b] w fun e w' => e = .returned (.int .i64 (cB a b)) ∧ w' = w := by
  go_enter Tryz.func148, Tryz.ntmps148
  go_wp2
  rw [run_callFunc_extern Tryz.func150 (by kernel_rfl) (by kernel_rfl) (by kernel_rfl) (e := Extern.BytealgCompare.compare) (by kernel_rfl), Lib.run_compareString]
  simp only [Result.andThen]
  rw [Oper.upon_value]
  go_wp2
  go_ret
  exact ⟨rfl, rfl⟩
set_option maxHeartbeats 1000000 in
theorem cmpStr_any (a b : ByteArray) (w : World) : Calls Tryz.prog 141 #[.string a, .string b] w fun e w' => e = .returned (.int .i64 (cB a b)) ∧ w' = w := by
  go_enter Tryz.func141, Tryz.ntmps141
  go_wp2_with (go_at_call 148; refine (cmpStr0_any a b _).mono ?_; rintro e w1 ⟨rfl, rfl⟩)
  go_ret
  exact ⟨rfl, rfl⟩

/-- Two values of three cells in the first two new blocks. -/
structure Two (w W : World) (a b c a' b' c' : Value) : Prop where
  bel : Below w.heap.size w W
  lt : w.heap.size + 1 < W.heap.size
  c0 : W.cell? ⟨w.heap.size, 0, none⟩ = some a
  c1 : W.cell? ⟨w.heap.size, 1, none⟩ = some b
  c2 : W.cell? ⟨w.heap.size, 2, none⟩ = some c
  d0 : W.cell? ⟨w.heap.size + 1, 0, none⟩ = some a'
  d1 : W.cell? ⟨w.heap.size + 1, 1, none⟩ = some b'
  d2 : W.cell? ⟨w.heap.size + 1, 2, none⟩ = some c'
theorem Two.start (w : World) (a b c a' b' c' : Value) (T : TypeId) : Two w ((w.alloc (.cells #[a, b, c] T)).alloc (.cells #[a', b', c'] T)) a b c a' b' c' :=
  ⟨((Below.refl _ _).alloc (Nat.le_refl _) _).alloc (by simp) _, by simp, by simp [go_sem], by simp [go_sem], by simp [go_sem], by simp [go_sem], by simp [go_sem], by simp [go_sem]⟩
theorem Two.step {w W W' : World} {a b c a' b' c' : Value} (h : Two w W a b c a' b' c') (hb : Below W.heap.size W W') : Two w W' a b c a' b' c' :=
  have hl : w.heap.size < W.heap.size := Nat.lt_of_succ_lt h.lt
  ⟨h.bel.trans (hb.mono h.bel.size), Nat.lt_of_lt_of_le h.lt hb.size, (hb.cell hl).trans h.c0, (hb.cell hl).trans h.c1, (hb.cell hl).trans h.c2, (hb.cell h.lt).trans h.d0, (hb.cell h.lt).trans h.d1, (hb.cell h.lt).trans h.d2⟩

theorem still_tail_at {P : Program} {id : Nat} {Q : Exit → Act → World → Prop} {a : Act} {w : World} {l : List Oper} (n : Nat) (hm : P.follows .mixedOrders = true) (hB : Region.lexTailB .any l.toArray n = true)
    (h : ∀ V : World, V = w.drew → wpStill P l.toArray V (fun a' => wpList P l.toArray Q (l.drop n) a' V) (l.take n) a) : (Code.region id l.toArray true).wp P Q a w :=
  wp_region_still_tail n hm hB (h _ rfl)
theorem Two.drawn {w V : World} {a b c a' b' c' : Value} {T : TypeId} (h : V = ((w.alloc (.cells #[a, b, c] T)).alloc (.cells #[a', b', c'] T)).drew) : Two w V a b c a' b' c' := by
  subst h
  exact (Two.start w a b c a' b' c' T).step (Below.refl _ _).drew
end Go.Proofs.YtncpijfbbgipaaaGreatDoor

/- What the program's comparing of rows of values and of fields answers. -/
namespace Go.Proofs.YtncpijfbbgipaaaGreatDoor
open Go.RowKit
set_option linter.unusedVariables false

/-- A row of values, a nil one too. -/
def RowV (w : World) (p : Option Addr) (l : List Val) : Prop := l = [] ∨ ∃ g, p = some ⟨g, 0, none⟩ ∧ ReadV w g l
theorem RowV.next {w w' : World} {p : Option Addr} {l : List Val} (h : RowV w p l) (hb : Below w.heap.size w w') : RowV w' p l := by
  rcases h with h | ⟨g, hp, hr⟩
  · exact .inl h
  · exact .inr ⟨g, hp, hr.next hb⟩
def RowF (w : World) (p : Option Addr) (l : List Fld) : Prop := l = [] ∨ ∃ g, p = some ⟨g, 0, none⟩ ∧ ReadF w g l
theorem RowF.next {w w' : World} {p : Option Addr} {l : List Fld} (h : RowF w p l) (hb : Below w.heap.size w w') : RowF w' p l := by
  rcases h with h | ⟨g, hp, hr⟩
  · exact .inl h
  · exact .inr ⟨g, hp, hr.next hb⟩
theorem fieldsIn_row (body : ByteArray) (l : List Fld) (w : World) (hs : body.size ≤ 1048576) (hi : fields body = some l) :
    Calls Tryz.prog 113 #[.string body] w fun e w' => (∃ p cap, e = .returned (.slice p l.length cap) ∧ RowF w' p l) ∧ Below w.heap.size w w' := by
  by_cases hl : l = []
  · subst hl
    exact (fieldsIn_nil body w hs hi).mono fun e w' ⟨he, hb⟩ => ⟨⟨none, 0, he, .inl rfl⟩, hb⟩
  · exact (fieldsIn_cons body l w hs hi hl).mono fun e w' ⟨⟨g, cap, he, ho⟩, hb⟩ => ⟨⟨some ⟨g, 0, none⟩, cap, he, .inr ⟨g, rfl, ReadF.of_own ho⟩⟩, hb⟩

end Go.Proofs.YtncpijfbbgipaaaGreatDoor

/- What the library's search among fields that rise answers, for every name. -/
namespace Go.Proofs.YtncpijfbbgipaaaGreatDoor
open Go.RowKit
set_option linter.unusedVariables false

set_option maxRecDepth 4000 in
set_option maxHeartbeats 1000000 in
theorem compareName_any (m : ByteArray) (k n : Int) (t nm : ByteArray) (w : World) :
    Calls Tryz.prog 129 #[.agg #[.string m, .int .i64 k, .int .i64 n, .string t], .string nm] w fun e w' => e = .returned (.int .i64 (cB m nm)) ∧ Below w.heap.size w w' := by
  go_enter Tryz.func129, Tryz.ntmps129
  go_wp2_with (go_at_call 141; refine (cmpStr_any _ _ _).mono ?_; rintro e w1 ⟨rfl, rfl⟩)
  go_ret
  exact ⟨rfl, (Below.refl _ _).alloc (Nat.le_refl _) _⟩

/-- What a search for a name answers: its place, and whether it is there. -/
def Found (l : List Fld) (nm : ByteArray) (e : Ending) : Prop := ∃ (i : Nat) (b : Bool), e = .returned (.tuple #[.int .i64 i, .bool b]) ∧ Place l nm i b
theorem Found.mk {l : List Fld} {nm : ByteArray} {e : Ending} (i : Nat) (b : Bool) (h : e = .returned (.tuple #[.int .i64 i, .bool b])) (hp : Place l nm i b) : Found l nm e := ⟨i, b, h, hp⟩
set_option maxRecDepth 8000 in
set_option maxHeartbeats 2000000 in
theorem search_any (p : Option Addr) (cap : Nat) (l : List Fld) (nm : ByteArray) (w : World) (hr : RowF w p l) (hs : Rise l) (hl : l.length ≤ 1048576) :
    Calls Tryz.prog 128 #[.slice p l.length cap, .string nm, .func (.func 129) #[] #[]] w fun e w' => Found l nm e ∧ Below w.heap.size w w' := by
  have HR : Hid (RowF _ _ _) := hr
  have HS : Hid (Rise _) := hs
  clear hr hs
  go_enter Tryz.func128, Tryz.ntmps128
  go_wp2_with fail
  go_loopw [9, 10] (fun u v wr => ∃ i j : Nat, i ≤ j ∧ j ≤ l.length ∧ u = .int .i64 i ∧ v = .int .i64 j ∧ (∀ q (h : q < l.length), q < i → ltB l[q].name nm = true) ∧ (∀ q (h : q < l.length), j ≤ q → ltB l[q].name nm = false) ∧ Below w.heap.size w wr) (fun u v _ => (intOf v).toNat - (intOf u).toNat)
  case atStart => exact ⟨0, l.length, Nat.zero_le _, Nat.le_refl _, rfl, rfl, fun q h h2 => absurd h2 (by omega), fun q h h2 => absurd h2 (by omega), Below.refl _ _⟩
  case round =>
    obtain ⟨i, j, hij, hj, rfl, rfl, hlo, hhi, hbel⟩ := hrel
    have HL : Hid _ := hlo
    have HH : Hid _ := hhi
    have hz := hbel.size
    clear hlo hhi
    by_cases hlt : i < j
    · rcases HR.out.next hbel with h0 | ⟨g, rfl, R⟩
      · subst h0; simp at hj; omega
      · have hlt2 : (i : Int) < (j : Int) := by omega
        have hh1 : (i + j) / 2 < l.length := by omega
        have hh2 : ((i : Int) + (j : Int)) / 2 < (l.length : Int) := by omega
        obtain ⟨x0, x1, x2, x3⟩ := R.cells ((i + j) / 2) hh1
        have hgl := R.lt
        clear R
        cases hc : ltB l[(i + j) / 2].name nm
        · have hnl : ¬ cB l[(i + j) / 2].name nm < 0 := by have := cB_lt l[(i + j) / 2].name nm; rw [hc] at this; simpa using this
          have HC : Hid _ := hc
          clear hc
          go_wp2_with fail
          refine (compareName_any _ _ _ _ _ _).mono ?_
          rintro e w1 ⟨rfl, hb⟩
          go_wp2_with fail
          go_roundw
          case rel =>
            refine ⟨i, (i + j) / 2, by omega, by omega, rfl, congrArg (Value.int .i64) (by omega), HL.out, ?_, hbel.trans (hb.mono hz)⟩
            intro q hq hge
            cases hq2 : ltB l[q].name nm
            · rfl
            · rcases Nat.lt_or_ge ((i + j) / 2) q with hlt3 | hge2
              · have := ltB_trans (HS.out _ _ hh1 hq hlt3) hq2
                rw [HC.out] at this; cases this
              · obtain rfl : q = (i + j) / 2 := by omega
                rw [HC.out] at hq2; cases hq2
          case measure => simp [intOf]; omega
        · have hnl : cB l[(i + j) / 2].name nm < 0 := by have := cB_lt l[(i + j) / 2].name nm; rw [hc] at this; simpa using this
          have HC : Hid _ := hc
          clear hc
          go_wp2_with fail
          refine (compareName_any _ _ _ _ _ _).mono ?_
          rintro e w1 ⟨rfl, hb⟩
          go_wp2_with fail
          go_roundw
          case rel =>
            refine ⟨(i + j) / 2 + 1, j, by omega, by omega, congrArg (Value.int .i64) (by omega), rfl, ?_, HH.out, hbel.trans (hb.mono hz)⟩
            intro q hq hlt3
            rcases Nat.lt_or_ge q ((i + j) / 2) with h3 | h3
            · exact ltB_trans (HS.out _ _ hq hh1 h3) HC.out
            · obtain rfl : q = (i + j) / 2 := by omega
              exact HC.out
          case measure => simp [intOf]; omega
    · obtain rfl : i = j := by omega
      by_cases hi : i < l.length
      · rcases HR.out.next hbel with h0 | ⟨g, rfl, R⟩
        · subst h0; simp at hi
        · obtain ⟨x0, x1, x2, x3⟩ := R.cells i hi
          have hi2 : (i : Int) < (l.length : Int) := by omega
          have hd2 : decide ((i : Int) < (l.length : Int)) = true := by simp; omega
          have hgl := R.lt
          clear R
          go_wp2_with fail
          refine (compareName_any _ _ _ _ _ _).mono ?_
          rintro e w1 ⟨rfl, hb⟩
          obtain ⟨b, hb0⟩ : ∃ b, b = (cB l[i].name nm == 0) := ⟨_, rfl⟩
          go_wp2_with fail
          go_ret2
          refine ⟨Found.mk i b (by rw [hb0]; rfl) ⟨hj, HL.out, HH.out, ?_⟩, hbel.trans (hb.mono hz)⟩
          rw [hb0, beq_iff_eq, cB_zero]
          exact ⟨fun h => ⟨hi, h⟩, fun ⟨_, h⟩ => h⟩
      · have hi2 : ¬ (i : Int) < (l.length : Int) := by omega
        have hd2 : decide ((i : Int) < (l.length : Int)) = false := by simp; omega
        go_wp2_with fail
        go_ret2
        exact ⟨Found.mk i false rfl ⟨hj, HL.out, HH.out, ⟨fun h => absurd h (by simp), fun ⟨h, _⟩ => absurd h hi⟩⟩, hbel⟩

set_option maxRecDepth 4000 in
set_option maxHeartbeats 1000000 in
theorem fieldPlace_any (p : Option Addr) (cap : Nat) (l : List Fld) (nm : ByteArray) (w : World) (hr : RowF w p l) (hs : Rise l) (hl : l.length ≤ 1048576) :
    Calls Tryz.prog 114 #[.slice p l.length cap, .string nm] w fun e w' => Found l nm e ∧ Below w.heap.size w w' := by
  have HR : Hid (RowF _ _ _) := hr
  have HS : Hid (Rise _) := hs
  clear hr hs
  go_enter Tryz.func114, Tryz.ntmps114
  go_wp2_with fail
  refine (search_any p cap l nm _ HR.out HS.out hl).mono ?_
  rintro e w1 ⟨⟨i, b, rfl, hp⟩, hb⟩
  have HP : Hid _ := hp
  clear hp
  go_wp2_with fail
  go_ret2
  exact ⟨Found.mk i b rfl HP.out, hb⟩

end Go.Proofs.YtncpijfbbgipaaaGreatDoor

/- The id of a document: what the program and the specification answer, for every value. -/
namespace Go.Proofs.YtncpijfbbgipaaaGreatDoor
open Go.RowKit
set_option linter.unusedVariables false

def idN : ByteArray := ⟨#[105, 100]⟩
/-- A value that is an id. -/
def idGood (x : Val) : Prop := x.k = 2 ∧ 0 ≤ x.n ∧ x.n ≤ 99
instance (x : Val) : Decidable (idGood x) := by unfold idGood; infer_instance
/-- The id of a document, -1 without a right one. -/
def idP (v : Val) : Int := match fieldV idN (flds v) with | some x => if idGood x then x.n else -1 | none => -1
theorem idP_none (v : Val) (h : fieldV idN (flds v) = none) : idP v = -1 := by unfold idP; rw [h]
theorem idP_good (v x : Val) (h : fieldV idN (flds v) = some x) (hg : idGood x) : idP v = x.n := by unfold idP; rw [h]; exact if_pos hg
theorem idP_bad (v x : Val) (h : fieldV idN (flds v) = some x) (hg : ¬ idGood x) : idP v = -1 := by unfold idP; rw [h]; exact if_neg hg
theorem idP_range (v : Val) : -1 ≤ idP v ∧ idP v ≤ 99 := by
  unfold idP
  split
  · split
    · rename_i h; unfold idGood at h; omega
    · omega
  · omega
/-- The answer of IdOf: the id, and a code. -/
def idR (v : Val) : Int × Int := if docB v = true then (if idP v < 0 then (0, 5) else (idP v, 0)) else (0, 1)
theorem docB_five (v : Val) (h : docB v = true) : v.k = 5 := by unfold docB at h; rw [Bool.and_eq_true, decide_eq_true_eq] at h; exact h.1
theorem docB_parts (v : Val) (h : docB v = true) : v.t.size ≤ 300 ∧ fields v.t = some (flds v) ∧ (flds v).length ≤ 300 ∧ Rise (flds v) := by
  have := doc_parts 5 v (docB_ok v h) (docB_five v h)
  exact ⟨this.1, this.2.1, this.2.2.1, this.2.2.2.1⟩

set_option maxRecDepth 4000 in
set_option maxHeartbeats 1000000 in
theorem l06Id_any (v : Val) (w : World) (hd : docB v = true) :
    Calls Tryz.prog 75 #[.agg #[.int .i64 v.k, .int .i64 v.n, .string v.t]] w fun e w' => e = .returned (.int .i64 (idP v)) ∧ Below w.heap.size w w' := by
  obtain ⟨h1, h2, h3, _⟩ := docB_parts v hd
  have X0 := Boxed.start w (.int .i64 v.k) (.int .i64 v.n) (.string v.t) 39
  have HC : Hid (∀ W : World, Calls _ _ _ W _) := fun W => l02Field_any v.k v.n v.t idN (flds v) W (by omega) h2 (by omega)
  clear h1 h2 h3 hd
  cases hf : fieldV idN (flds v) with
  | none =>
    rw [idP_none v hf]
    rw [fieldR_none idN (flds v) hf] at HC
    clear hf
    go_enter Tryz.func75, Tryz.ntmps75
    go_wp2_with fail
    refine (HC.out _).mono ?_
    rintro e w1 ⟨rfl, hb⟩
    have hbw := (X0.step hb).bel
    have hz := hbw.size
    clear hb
    go_wp2_with fail
    go_ret
    exact ⟨rfl, by (repeat (first | (with_reducible exact Below.refl _ _) | (with_reducible assumption) | (with_reducible apply below_drewN) | (with_reducible apply Below.drew) | ((with_reducible refine Below.setCell ?_ ?_ _); rotate_left; focus (first | (simp; done) | (simp; omega) | omega)) | ((with_reducible refine Below.alloc ?_ ?_ _); rotate_left; focus (first | (simp; done) | (simp; omega) | omega))))⟩
  | some x =>
    rw [fieldR_some idN (flds v) x hf] at HC
    by_cases hk : x.k = 2
    · have e1 : (x.k == 2) = true := by simp [hk]
      have e1n : (x.k != 2) = false := by simp [hk]
      by_cases hn : 0 ≤ x.n ∧ x.n ≤ 99
      · rw [idP_good v x hf ⟨hk, hn.1, hn.2⟩]
        have e2 : decide (0 ≤ x.n ∧ x.n ≤ 99) = true := by simp [hn]
        clear hf
        go_enter Tryz.func75, Tryz.ntmps75
        go_wp2_with fail
        refine (HC.out _).mono ?_
        rintro e w1 ⟨rfl, hb⟩
        have hbw := (X0.step hb).bel
        have hz := hbw.size
        clear hb
        go_wp2_with fail
        refine (l01In_any x.n 0 99 _).mono ?_
        rintro e w2 ⟨rfl, rfl⟩
        go_wp2_with fail
        go_ret
        exact ⟨rfl, by (repeat (first | (with_reducible exact Below.refl _ _) | (with_reducible assumption) | (with_reducible apply below_drewN) | (with_reducible apply Below.drew) | ((with_reducible refine Below.setCell ?_ ?_ _); rotate_left; focus (first | (simp; done) | (simp; omega) | omega)) | ((with_reducible refine Below.alloc ?_ ?_ _); rotate_left; focus (first | (simp; done) | (simp; omega) | omega))))⟩
      · rw [idP_bad v x hf (fun h => hn ⟨h.2.1, h.2.2⟩)]
        have e2 : decide (0 ≤ x.n ∧ x.n ≤ 99) = false := by simp; omega
        clear hf
        go_enter Tryz.func75, Tryz.ntmps75
        go_wp2_with fail
        refine (HC.out _).mono ?_
        rintro e w1 ⟨rfl, hb⟩
        have hbw := (X0.step hb).bel
        have hz := hbw.size
        clear hb
        go_wp2_with fail
        refine (l01In_any x.n 0 99 _).mono ?_
        rintro e w2 ⟨rfl, rfl⟩
        go_wp2_with fail
        go_ret
        exact ⟨rfl, by (repeat (first | (with_reducible exact Below.refl _ _) | (with_reducible assumption) | (with_reducible apply below_drewN) | (with_reducible apply Below.drew) | ((with_reducible refine Below.setCell ?_ ?_ _); rotate_left; focus (first | (simp; done) | (simp; omega) | omega)) | ((with_reducible refine Below.alloc ?_ ?_ _); rotate_left; focus (first | (simp; done) | (simp; omega) | omega))))⟩
    · have e1 : (x.k == 2) = false := beq_eq_false_iff_ne.mpr hk
      have e1n : (x.k != 2) = true := by simp [hk]
      rw [idP_bad v x hf (fun h => hk h.1)]
      clear hf
      go_enter Tryz.func75, Tryz.ntmps75
      go_wp2_with fail
      refine (HC.out _).mono ?_
      rintro e w1 ⟨rfl, hb⟩
      have hbw := (X0.step hb).bel
      have hz := hbw.size
      clear hb
      go_wp2_with fail
      go_ret
      exact ⟨rfl, by (repeat (first | (with_reducible exact Below.refl _ _) | (with_reducible assumption) | (with_reducible apply below_drewN) | (with_reducible apply Below.drew) | ((with_reducible refine Below.setCell ?_ ?_ _); rotate_left; focus (first | (simp; done) | (simp; omega) | omega)) | ((with_reducible refine Below.alloc ?_ ?_ _); rotate_left; focus (first | (simp; done) | (simp; omega) | omega))))⟩

set_option maxRecDepth 4000 in
set_option maxHeartbeats 1000000 in
theorem idOf_any (v : Val) (w : World) (hs : v.t.size ≤ 1048576) :
    Calls Tryz.prog 83 #[.agg #[.int .i64 v.k, .int .i64 v.n, .string v.t]] w fun e w' => e = .returned (.tuple #[.int .i64 (idR v).1, .int .i64 (idR v).2]) ∧ Below w.heap.size w w' := by
  have X0 := Boxed.start w (.int .i64 v.k) (.int .i64 v.n) (.string v.t) 39
  have HC : Hid (∀ W : World, Calls _ _ _ W _) := fun W => documentOK_any v W hs
  obtain ⟨r, hr⟩ : ∃ r, r = idR v := ⟨_, rfl⟩
  rw [← hr]
  have HR : Hid (r = idR v) := hr
  clear hr
  cases hd : docB v with
  | false =>
    have e : idR v = (0, 1) := by unfold idR; rw [hd]; rfl
    rw [HR.out, e]
    rw [hd] at HC
    clear e hd HR
    go_enter Tryz.func83, Tryz.ntmps83
    go_wp2_with fail
    refine (HC.out _).mono ?_
    rintro e w1 ⟨rfl, hb⟩
    have hbw := (X0.step hb).bel
    clear hb
    go_wp2_with fail
    go_ret2
    exact ⟨rfl, hbw⟩
  | true =>
    obtain ⟨h1, h2, h3, h4⟩ := docB_parts v hd
    have HF : Hid (∀ W : World, Calls _ _ _ W _) := fun W => fieldsIn_row v.t (flds v) W (by omega) h2
    have HRI : Hid (Rise (flds v)) := h4
    have HD : Hid (docB v = true) := hd
    rw [hd] at HC
    clear hd h2 h4 h1
    go_enter Tryz.func83, Tryz.ntmps83
    go_wp2_with fail
    refine (HC.out _).mono ?_
    rintro e w1 ⟨rfl, hb⟩
    have X1 := X0.step hb
    have c2 := X1.c2
    clear hb
    go_wp2_with fail
    refine (HF.out _).mono ?_
    rintro e w2 ⟨⟨p, cap, rfl, hrow⟩, hb⟩
    have X2 := X1.step hb
    clear hb X1 c2
    go_wp2_with fail
    refine (fieldPlace_any p cap (flds v) idN _ hrow HRI.out (by omega)).mono ?_
    rintro e w3 ⟨⟨i, b, rfl, hp⟩, hb⟩
    have X3 := X2.step hb
    have hrow3 := hrow.next hb
    have hbw := X3.bel
    have hz := hbw.size
    clear hb X2 hrow
    cases b with
    | false =>
      have hf := hp.none HRI.out
      have e : r = (0, 5) := by rw [HR.out]; unfold idR; rw [HD.out, idP_none v hf]; rfl
      subst e
      clear hf hp X3 hrow3
      go_wp2_with fail
      go_ret2
      exact ⟨rfl, hbw⟩
    | true =>
      obtain ⟨hi, _, hf⟩ := hp.some
      rcases hrow3 with hn | ⟨g, rfl, R⟩
      · rw [hn] at hi; simp at hi
      obtain ⟨x0, x1, x2, x3⟩ := R.cells i hi
      have hgl := R.lt
      have hi2 : (i : Int) < ((flds v).length : Int) := by omega
      obtain ⟨x, hx⟩ : ∃ x, x = (flds v)[i].v := ⟨_, rfl⟩
      rw [← hx] at x1 x2 x3 hf
      have HX : Hid (fieldV idN (flds v) = some x) := hf
      clear hf hp hx R X3 x0
      by_cases hk : x.k = 2
      · have e1 : (x.k == 2) = true := by simp [hk]
        have e1n : (x.k != 2) = false := by simp [hk]
        by_cases hn1 : x.n < 0
        · have e : r = (0, 5) := by
            rw [HR.out]; unfold idR
            rw [HD.out, idP_bad v x HX.out (fun h => by have := h.2.1; omega)]; rfl
          subst e
          skip
          go_wp2_with fail
          go_ret2
          exact ⟨rfl, by (repeat (first | (with_reducible exact Below.refl _ _) | (with_reducible assumption) | (with_reducible apply below_drewN) | (with_reducible apply Below.drew) | ((with_reducible refine Below.setCell ?_ ?_ _); rotate_left; focus (first | (simp; done) | (simp; omega) | omega)) | ((with_reducible refine Below.alloc ?_ ?_ _); rotate_left; focus (first | (simp; done) | (simp; omega) | omega))))⟩
        · by_cases hn2 : (99 : Int) < x.n
          · have e : r = (0, 5) := by
              rw [HR.out]; unfold idR
              rw [HD.out, idP_bad v x HX.out (fun h => by have := h.2.2; omega)]; rfl
            subst e
            skip
            go_wp2_with fail
            go_ret2
            exact ⟨rfl, by (repeat (first | (with_reducible exact Below.refl _ _) | (with_reducible assumption) | (with_reducible apply below_drewN) | (with_reducible apply Below.drew) | ((with_reducible refine Below.setCell ?_ ?_ _); rotate_left; focus (first | (simp; done) | (simp; omega) | omega)) | ((with_reducible refine Below.alloc ?_ ?_ _); rotate_left; focus (first | (simp; done) | (simp; omega) | omega))))⟩
          · have e : r = (x.n, 0) := by
              rw [HR.out]; unfold idR
              rw [HD.out, idP_good v x HX.out ⟨hk, by omega, by omega⟩]
              exact (if_pos rfl).trans (if_neg hn1)
            subst e
            skip
            go_wp2_with fail
            go_ret2
            exact ⟨rfl, by (repeat (first | (with_reducible exact Below.refl _ _) | (with_reducible assumption) | (with_reducible apply below_drewN) | (with_reducible apply Below.drew) | ((with_reducible refine Below.setCell ?_ ?_ _); rotate_left; focus (first | (simp; done) | (simp; omega) | omega)) | ((with_reducible refine Below.alloc ?_ ?_ _); rotate_left; focus (first | (simp; done) | (simp; omega) | omega))))⟩
      · have e1 : (x.k == 2) = false := beq_eq_false_iff_ne.mpr hk
        have e1n : (x.k != 2) = true := by simp [hk]
        have e : r = (0, 5) := by
          rw [HR.out]; unfold idR
          rw [HD.out, idP_bad v x HX.out (fun h => hk h.1)]; rfl
        subst e
        skip
        go_wp2_with fail
        go_ret2
        exact ⟨rfl, by (repeat (first | (with_reducible exact Below.refl _ _) | (with_reducible assumption) | (with_reducible apply below_drewN) | (with_reducible apply Below.drew) | ((with_reducible refine Below.setCell ?_ ?_ _); rotate_left; focus (first | (simp; done) | (simp; omega) | omega)) | ((with_reducible refine Below.alloc ?_ ?_ _); rotate_left; focus (first | (simp; done) | (simp; omega) | omega))))⟩

end Go.Proofs.YtncpijfbbgipaaaGreatDoor

/- What a write, or a version, says of an id: right or not, by both; small facts on blocks. -/
namespace Go.Proofs.YtncpijfbbgipaaaGreatDoor.Co
open Go.RowKit Tr
set_option linter.unusedVariables false

def zeroB (v : Val) : Bool := decide (v.k = 0) && (decide (v.n = 0) && decide (v.t.size = 0))
/-- What a version, or a write, says of an id. -/
def stateB (id : Int) (g : Bool) (v : Val) : Bool := if g then zeroB v else (docB v && decide (idP v = id))
def timeB (t : Int) : Bool := decide (1 ≤ t ∧ t ≤ 10000)
def topB (i : Int) : Bool := decide (0 ≤ i ∧ i ≤ 19)
/-- A state that is read off IdOf's answer. -/
theorem state_id (id : Int) (v : Val) (h : 0 ≤ id) : (docB v && decide (idP v = id)) = (decide ((idR v).2 = 0) && decide ((idR v).1 = id)) := by
  unfold idR
  cases hd : docB v
  · simp
  · have hr := idP_range v
    by_cases hn : idP v < 0
    · simp only [if_true, if_pos hn]
      have : ¬ idP v = id := by omega
      simp [this]
    · simp only [if_true, if_neg hn]
      simp
set_option maxRecDepth 4000 in
set_option maxHeartbeats 1000000 in
theorem topIdOK_any (i : Int) (w : World) :
    Calls Tryz.prog 52 #[.int .i64 i] w fun e w' => e = .returned (.bool (topB i)) ∧ w' = w := by
  unfold topB
  by_cases h1 : 0 ≤ i
  · by_cases h2 : i ≤ 19
    · rw [decide_eq_true ⟨h1, h2⟩]
      go_enter Tryz.func52, Tryz.ntmps52
      go_wp2_with fail
      go_ret
      exact ⟨rfl, rfl⟩
    · rw [decide_eq_false (fun h => h2 h.2)]
      go_enter Tryz.func52, Tryz.ntmps52
      go_wp2_with fail
      go_ret
      exact ⟨rfl, rfl⟩
  · rw [decide_eq_false (fun h => h1 h.1)]
    go_enter Tryz.func52, Tryz.ntmps52
    go_wp2_with fail
    go_ret
    exact ⟨rfl, rfl⟩
set_option maxRecDepth 4000 in
set_option maxHeartbeats 1000000 in
theorem timeOK_any (i : Int) (w : World) :
    Calls Tryz.prog 29 #[.int .i64 i] w fun e w' => e = .returned (.bool (timeB i)) ∧ w' = w := by
  unfold timeB
  by_cases h1 : 1 ≤ i
  · by_cases h2 : i ≤ 10000
    · rw [decide_eq_true ⟨h1, h2⟩]
      go_enter Tryz.func29, Tryz.ntmps29
      go_wp2_with fail
      go_ret
      exact ⟨rfl, rfl⟩
    · rw [decide_eq_false (fun h => h2 h.2)]
      go_enter Tryz.func29, Tryz.ntmps29
      go_wp2_with fail
      go_ret
      exact ⟨rfl, rfl⟩
  · rw [decide_eq_false (fun h => h1 h.1)]
    go_enter Tryz.func29, Tryz.ntmps29
    go_wp2_with fail
    go_ret
    exact ⟨rfl, rfl⟩
theorem size0 (t : ByteArray) : decide (t.size = 0) = (t.toList == []) := by
  rw [ByteArray.toList_eq]
  by_cases h : t.size = 0
  · rw [decide_eq_true h]
    have : t.data.toList = [] := List.length_eq_zero_iff.mp (by rw [toList_length]; exact h)
    rw [this]; rfl
  · rw [decide_eq_false h]
    symm
    rw [beq_eq_false_iff_ne]
    intro e
    exact h (by rw [← toList_length, e]; rfl)
set_option maxRecDepth 4000 in
set_option maxHeartbeats 1000000 in
theorem stateOK_any (id : Int) (g : Bool) (v : Val) (w : World) (hid : 0 ≤ id) (hs : v.t.size ≤ 1048576) :
    Calls Tryz.prog 53 #[.int .i64 id, .bool g, .agg #[.int .i64 v.k, .int .i64 v.n, .string v.t]] w fun e w' => e = .returned (.bool (stateB id g v)) ∧ Below w.heap.size w w' := by
  have X0 := Boxed.start w (.int .i64 v.k) (.int .i64 v.n) (.string v.t) 39
  have hbw0 := X0.bel
  have HC : Hid (∀ W : World, Calls _ _ _ W _) := fun W => idOf_any v W hs
  obtain ⟨R, hR⟩ : ∃ R, R = stateB id g v := ⟨_, rfl⟩
  rw [← hR]
  unfold stateB at hR
  cases g
  · rw [if_neg (by simp), state_id id v hid] at hR
    obtain ⟨r, hr⟩ : ∃ r, r = idR v := ⟨_, rfl⟩
    rw [← hr] at hR HC
    clear hr
    by_cases h1 : r.2 = 0
    · have e1 : (r.2 == 0) = true := by simp [h1]
      rw [decide_eq_true h1, Bool.true_and] at hR
      have HR : Hid (R = _) := hR
      clear hR h1
      go_enter Tryz.func53, Tryz.ntmps53
      go_wp2_with fail
      refine (HC.out _).mono ?_
      rintro e w1 ⟨rfl, hb⟩
      have hbw := (X0.step hb).bel
      clear hb
      go_wp2_with fail
      go_ret
      exact ⟨ret_bool' (by rw [HR.out]; rfl), hbw⟩
    · have e1 : (r.2 == 0) = false := beq_eq_false_iff_ne.mpr h1
      rw [decide_eq_false h1, Bool.false_and] at hR
      have HR : Hid (R = _) := hR
      clear hR h1
      go_enter Tryz.func53, Tryz.ntmps53
      go_wp2_with fail
      refine (HC.out _).mono ?_
      rintro e w1 ⟨rfl, hb⟩
      have hbw := (X0.step hb).bel
      clear hb
      go_wp2_with fail
      go_ret
      exact ⟨ret_bool' HR.out.symm, hbw⟩
  · rw [if_pos rfl] at hR
    unfold zeroB at hR
    rw [size0] at hR
    have HR : Hid (R = _) := hR
    clear hR HC
    go_enter Tryz.func53, Tryz.ntmps53
    go_wp2_with fail
    all_goals
      go_ret
      refine ⟨ret_bool' ?_, ?_⟩
      · rw [HR.out]; simp [*]
      · (repeat (first | (with_reducible exact Below.refl _ _) | (with_reducible assumption) | (with_reducible apply below_drewN) | (with_reducible apply Below.drew) | ((with_reducible refine Below.setCell ?_ ?_ _); rotate_left; focus (first | (simp; done) | (simp; omega) | omega)) | ((with_reducible refine Below.alloc ?_ ?_ _); rotate_left; focus (first | (simp; done) | (simp; omega) | omega))))

set_option maxRecDepth 4000 in
set_option maxHeartbeats 1000000 in
theorem l08Doc_any (id : Int) (g : Bool) (v : Val) (w : World) (hs : v.t.size ≤ 1048576) :
    Calls Tryz.prog 45 #[.int .i64 id, .bool g, .agg #[.int .i64 v.k, .int .i64 v.n, .string v.t]] w fun e w' => e = .returned (.bool (stateB id g v)) ∧ Below w.heap.size w w' := by
  have X0 := Boxed.start w (.int .i64 v.k) (.int .i64 v.n) (.string v.t) 39
  have hbw0 := X0.bel
  have HC : Hid (∀ W : World, Calls _ _ _ W _) := fun W => l03Doc_any v W hs
  obtain ⟨R, hR⟩ : ∃ R, R = stateB id g v := ⟨_, rfl⟩
  rw [← hR]
  unfold stateB at hR
  cases g
  · rw [if_neg (by simp)] at hR
    cases hd : docB v
    · rw [hd, Bool.false_and] at hR
      rw [hd] at HC
      subst hR
      clear hd
      go_enter Tryz.func45, Tryz.ntmps45
      go_wp2_with fail
      refine (HC.out _).mono ?_
      rintro e w1 ⟨rfl, hb⟩
      have hbw := (X0.step hb).bel
      clear hb
      go_wp2_with fail
      go_ret
      exact ⟨rfl, hbw⟩
    · have HD : Hid (∀ W : World, Calls _ _ _ W _) := fun W => l06Id_any v W hd
      rw [hd, Bool.true_and] at hR
      rw [hd] at HC
      have HR : Hid (R = _) := hR
      clear hd hR
      go_enter Tryz.func45, Tryz.ntmps45
      go_wp2_with fail
      refine (HC.out _).mono ?_
      rintro e w1 ⟨rfl, hb⟩
      have X1 := X0.step hb
      have c0 := X1.c0; have c1 := X1.c1; have c2 := X1.c2
      clear hb
      go_wp2_with fail
      refine (HD.out _).mono ?_
      rintro e w2 ⟨rfl, hb⟩
      have hbw := (X1.step hb).bel
      clear hb X1 c0 c1 c2
      go_wp2_with fail
      go_ret
      exact ⟨ret_bool' (by rw [HR.out]; rfl), hbw⟩
  · rw [if_pos rfl] at hR
    unfold zeroB at hR
    rw [size0] at hR
    have HR : Hid (R = _) := hR
    clear hR HC
    go_enter Tryz.func45, Tryz.ntmps45
    go_wp2_with fail
    all_goals
      go_ret
      refine ⟨ret_bool' ?_, ?_⟩
      · rw [HR.out]; simp [*]
      · (repeat (first | (with_reducible exact Below.refl _ _) | (with_reducible assumption) | (with_reducible apply below_drewN) | (with_reducible apply Below.drew) | ((with_reducible refine Below.setCell ?_ ?_ _); rotate_left; focus (first | (simp; done) | (simp; omega) | omega)) | ((with_reducible refine Below.alloc ?_ ?_ _); rotate_left; focus (first | (simp; done) | (simp; omega) | omega))))

theorem cellsVv : Tryz.prog.cellsOf 27 = 3 := by kernel_rfl
theorem cellsI1 : Tryz.prog.cellsOf 3 = 1 := by kernel_rfl
theorem cellsS1 : Tryz.prog.cellsOf 9 = 1 := by kernel_rfl
theorem cellsB1 : Tryz.prog.cellsOf 4 = 1 := by kernel_rfl
theorem six {W : World} {b : Nat} {T : TypeId} {v0 v1 v2 v3 v4 v5 : Value} (h : W.heap[b]? = some (.cells #[v0, v1, v2, v3, v4, v5] T)) :
    W.cell? ⟨b, 0, none⟩ = some v0 ∧ W.cell? ⟨b, 1, none⟩ = some v1 ∧ W.cell? ⟨b, 2, none⟩ = some v2 ∧ W.cell? ⟨b, 3, none⟩ = some v3 ∧ W.cell? ⟨b, 4, none⟩ = some v4 ∧ W.cell? ⟨b, 5, none⟩ = some v5 := by
  refine ⟨?_, ?_, ?_, ?_, ?_, ?_⟩ <;> simp [World.cell?, h]
theorem five {W : World} {b : Nat} {T : TypeId} {v0 v1 v2 v3 v4 : Value} (h : W.heap[b]? = some (.cells #[v0, v1, v2, v3, v4] T)) :
    W.cell? ⟨b, 0, none⟩ = some v0 ∧ W.cell? ⟨b, 1, none⟩ = some v1 ∧ W.cell? ⟨b, 2, none⟩ = some v2 ∧ W.cell? ⟨b, 3, none⟩ = some v3 ∧ W.cell? ⟨b, 4, none⟩ = some v4 := by
  refine ⟨?_, ?_, ?_, ?_, ?_⟩ <;> simp [World.cell?, h]
theorem soft {W : World} {b : Nat} {T : TypeId} {vs : Array Value} (h : W.heap[b]? = some (.cells vs T)) (o : Nat) : W.frozen? ⟨b, o, none⟩ = false := by simp [World.frozen?, h]
theorem set_same {w : World} {g o : Nat} {v : Value} {c : Array Value} {T : TypeId} (h : w.heap[g]? = some (.cells c T)) : (w.setCell ⟨g, o, none⟩ v).heap[g]? = some (.cells (c.setIfInBounds o v) T) := by
  simp [World.setCell, Array.getElem?_modify, h]
theorem set_other {w : World} {g b o : Nat} {v : Value} (h : b ≠ g) : (w.setCell ⟨g, o, none⟩ v).heap[b]? = w.heap[b]? := by
  have : g ≠ b := fun e => h e.symm
  simp [World.setCell, Array.getElem?_modify, this]

end Go.Proofs.YtncpijfbbgipaaaGreatDoor.Co
