/- For every two intervals of right sizes MeetIntervals answers as the specification. -/
import Derived.Test.YtejphhhmblpapaaIvlN
import Derived.ProofKit
import Derived.OpenShut
import Derived.ShutString
import Derived.ChangeOld
import Derived.Below
import Derived.Lib.SmallJoins
namespace Go.Proofs.Ytejphhhmblpapaa
open Go.ChangeShapes Go.WideShapes Go.ChangeAt Go.RowKit Go.Joins
open Go.ChangeMaps (open_string shut_string)
set_option linter.unusedVariables false
namespace MeetIntervalsLaw

theorem blkI {W w1 : World} {a b c : Value} {T : TypeId} (h : Below (W.alloc (.cells #[a, b, c] T)).heap.size (W.alloc (.cells #[a, b, c] T)) w1) :
    w1.cell? ⟨W.heap.size, 0, none⟩ = some a ∧ w1.cell? ⟨W.heap.size, 1, none⟩ = some b ∧ w1.cell? ⟨W.heap.size, 2, none⟩ = some c ∧ w1.frozen? ⟨W.heap.size, 0, none⟩ = false ∧ w1.frozen? ⟨W.heap.size, 1, none⟩ = false ∧ w1.frozen? ⟨W.heap.size, 2, none⟩ = false ∧ W.heap.size < w1.heap.size :=
  have hl : W.heap.size < (W.alloc (.cells #[a, b, c] T)).heap.size := by simp
  ⟨(h.cell hl).trans (by simp [go_sem]), (h.cell hl).trans (by simp [go_sem]), (h.cell hl).trans (by simp [go_sem]), (h.frozen hl).trans (by simp [go_sem]), (h.frozen hl).trans (by simp [go_sem]), (h.frozen hl).trans (by simp [go_sem]), Nat.lt_of_lt_of_le hl h.size⟩
theorem blkId {W w1 : World} {a b c : Value} {T : TypeId} (h : Below (W.drew.alloc (.cells #[a, b, c] T)).heap.size (W.drew.alloc (.cells #[a, b, c] T)) w1) :
    w1.cell? ⟨W.heap.size, 0, none⟩ = some a ∧ w1.cell? ⟨W.heap.size, 1, none⟩ = some b ∧ w1.cell? ⟨W.heap.size, 2, none⟩ = some c ∧ w1.frozen? ⟨W.heap.size, 0, none⟩ = false ∧ w1.frozen? ⟨W.heap.size, 1, none⟩ = false ∧ w1.frozen? ⟨W.heap.size, 2, none⟩ = false ∧ W.heap.size < w1.heap.size := blkI (W := W.drew) h
theorem blkIe {W w1 : World} {a b c : Value} {T : TypeId} (h : Below (W.alloc (.cells #[a, b, c] T)).drew.heap.size (W.alloc (.cells #[a, b, c] T)).drew w1) :
    w1.cell? ⟨W.heap.size, 0, none⟩ = some a ∧ w1.cell? ⟨W.heap.size, 1, none⟩ = some b ∧ w1.cell? ⟨W.heap.size, 2, none⟩ = some c ∧ w1.frozen? ⟨W.heap.size, 0, none⟩ = false ∧ w1.frozen? ⟨W.heap.size, 1, none⟩ = false ∧ w1.frozen? ⟨W.heap.size, 2, none⟩ = false ∧ W.heap.size < w1.heap.size := blkI (W := W.drew) h
theorem carI {V w1 : World} {g : Nat} {a b c : Value} (h : Below V.heap.size V w1) (h0 : V.cell? ⟨g, 0, none⟩ = some a) (h1 : V.cell? ⟨g, 1, none⟩ = some b) (h2 : V.cell? ⟨g, 2, none⟩ = some c) (f0 : V.frozen? ⟨g, 0, none⟩ = false) (f1 : V.frozen? ⟨g, 1, none⟩ = false) (f2 : V.frozen? ⟨g, 2, none⟩ = false) (hl : g < V.heap.size) :
    w1.cell? ⟨g, 0, none⟩ = some a ∧ w1.cell? ⟨g, 1, none⟩ = some b ∧ w1.cell? ⟨g, 2, none⟩ = some c ∧ w1.frozen? ⟨g, 0, none⟩ = false ∧ w1.frozen? ⟨g, 1, none⟩ = false ∧ w1.frozen? ⟨g, 2, none⟩ = false ∧ g < w1.heap.size :=
  ⟨(h.cell hl).trans h0, (h.cell hl).trans h1, (h.cell hl).trans h2, (h.frozen hl).trans f0, (h.frozen hl).trans f1, (h.frozen hl).trans f2, Nat.lt_of_lt_of_le hl h.size⟩
theorem keepJ {w W W' : World} {a b : Ivl} (h : Two w W (.string a.lo) (.string a.hi) (.bool a.op) (.string b.lo) (.string b.hi) (.bool b.op)) (hb : Below W.heap.size W W') : W'.cell? ⟨w.heap.size, 0, none⟩ = some (.string a.lo) ∧ W'.cell? ⟨w.heap.size, 1, none⟩ = some (.string a.hi) ∧ W'.cell? ⟨w.heap.size, 2, none⟩ = some (.bool a.op) ∧ W'.cell? ⟨w.heap.size + 1, 0, none⟩ = some (.string b.lo) ∧ W'.cell? ⟨w.heap.size + 1, 1, none⟩ = some (.string b.hi) ∧ W'.cell? ⟨w.heap.size + 1, 2, none⟩ = some (.bool b.op) :=
  have X := h.step hb
  ⟨X.c0, X.c1, X.c2, X.d0, X.d1, X.d2⟩
/-- Block b of U holds three cells, and all that lay in w lies in U as it did. -/
structure LiesI (w U : World) (b : Nat) (x y z : Value) : Prop where
  bel : Below w.heap.size w U
  lt : b < U.heap.size
  c0 : U.cell? ⟨b, 0, none⟩ = some x
  c1 : U.cell? ⟨b, 1, none⟩ = some y
  c2 : U.cell? ⟨b, 2, none⟩ = some z
set_option maxRecDepth 8000 in
set_option maxHeartbeats 8000000 in
theorem walk0 (a b : Ivl) (hs : a.lo.size ≤ maxLen) (hh : a.hi.size ≤ maxLen) (hs' : b.lo.size ≤ maxLen) (hh' : b.hi.size ≤ maxLen) (w : World) :
    Calls Try.prog 10 #[.agg #[.string a.lo, .string a.hi, .bool a.op], .agg #[.string b.lo, .string b.hi, .bool b.op]] w fun e w' => e = .returned (.bool true) ∧ Below w.heap.size w w' := by
  have X0 := Two.start w (.string a.lo) (.string a.hi) (.bool a.op) (.string b.lo) (.string b.hi) (.bool b.op) 65
  by_cases hbig : (1048576 : Int) < a.lo.size + a.hi.size
  · go_enter Try.func10, Try.ntmps10
    go_wp2_with (go_at_call 39; refine (szInterval_any a.lo a.hi a.op _ _ hs hh (by omega) (by omega)).mono ?_; rintro e w1 ⟨rfl, hb1⟩; rw [if_pos hbig])
    go_ret
    exact ⟨rfl, (X0.step hb1).bel⟩
  · have hpos : ¬ ((1048576 : Int) - (a.lo.size : Int) - (a.hi.size : Int) < 0) := by omega
    by_cases hbig' : (1048576 : Int) - a.lo.size - a.hi.size < b.lo.size + b.hi.size
    · go_enter Try.func10, Try.ntmps10
      go_wp2_with fail
      refine (szInterval_any a.lo a.hi a.op _ _ hs hh (by omega) (by omega)).mono ?_
      rintro e w1 ⟨rfl, hb⟩
      rw [if_neg (by omega)]
      have X1 := X0.step hb
      have f0 := X1.d0
      have f1 := X1.d1
      have f2 := X1.d2
      clear hb X0
      go_wp2_with fail
      refine (szInterval_any b.lo b.hi b.op _ _ hs' hh' (by omega) (by omega)).mono ?_
      rintro e w2 ⟨rfl, hb⟩
      rw [if_pos (by omega)]
      have X2 := X1.step hb
      clear hb X1 f0 f1 f2
      go_wp2_with fail
      go_ret
      exact ⟨rfl, X2.bel⟩
    · have hpos' : ¬ ((1048576 : Int) - (a.lo.size : Int) - (a.hi.size : Int) - (b.lo.size : Int) - (b.hi.size : Int) < 0) := by omega
      obtain ⟨⟨ml, mh, mo⟩, hm⟩ : ∃ m, m = meetI a b := ⟨_, rfl⟩
      have HS0 := fun W : World => specMeet_any a b W
      have HI0 := fun W : World => implMeet_any a b W (by omega) (by omega) (by omega) (by omega)
      rw [← hm] at HS0 HI0
      have HS : Hid (∀ W : World, Calls _ _ _ W _) := HS0
      have HI : Hid (∀ W : World, Calls _ _ _ W _) := HI0
      clear HS0 HI0 hm
      go_enter Try.func10, Try.ntmps10
      go_wp2_with fail
      refine (szInterval_any a.lo a.hi a.op _ _ hs hh (by omega) (by omega)).mono ?_
      rintro e w1 ⟨rfl, hb⟩
      rw [if_neg (by omega)]
      have X1 := X0.step hb
      have f0 := X1.d0
      have f1 := X1.d1
      have f2 := X1.d2
      clear hb X0
      go_wp2_with fail
      refine (szInterval_any b.lo b.hi b.op _ _ hs' hh' (by omega) (by omega)).mono ?_
      rintro e W0 ⟨rfl, hb⟩
      rw [if_neg (by omega)]
      have X0 := X1.step hb
      clear hb X1 f0 f1 f2
      have a0 := X0.c0
      have a1 := X0.c1
      have a2 := X0.c2
      have b0 := X0.d0
      have b1 := X0.d1
      have b2 := X0.d2
      have hlt1 : w.heap.size + 1 < W0.heap.size := X0.lt
      have hltw : w.heap.size < W0.heap.size := Nat.lt_of_succ_lt hlt1
      have hbw := X0.bel
      clear hbig hbig' hs hh hs' hh' hpos
      go_wp2_with fail
      go_cut [6] (fun s6 wx => ∃ b, s6 = .pointer (some ⟨b, 0, none⟩) ∧ LiesI W0 wx b (.string ml) (.string mh) (.bool mo))
      case first =>
        go_region_held3 (fun w0 => w0.cell? ⟨w.heap.size, 0, none⟩ = some (.string a.lo) ∧ w0.cell? ⟨w.heap.size, 1, none⟩ = some (.string a.hi) ∧ w0.cell? ⟨w.heap.size, 2, none⟩ = some (.bool a.op) ∧ w0.cell? ⟨w.heap.size + 1, 0, none⟩ = some (.string b.lo) ∧ w0.cell? ⟨w.heap.size + 1, 1, none⟩ = some (.string b.hi) ∧ w0.cell? ⟨w.heap.size + 1, 2, none⟩ = some (.bool b.op)) ((refine keepJ X0 ?_; (repeat (first | (with_reducible exact Below.refl _ _) | (with_reducible assumption) | (with_reducible apply below_drewN) | (with_reducible apply Below.drew) | ((with_reducible refine Below.setCell ?_ ?_ _); rotate_left; focus (first | (simp; done) | (simp; omega) | omega)) | ((with_reducible refine Below.alloc ?_ ?_ _); rotate_left; focus (first | (simp; done) | (simp; omega) | omega)))))) (first | (go_at_call_of 41 (Value.string a.lo); refine (toInterval_any a.lo a.hi a.op _).mono ?_; rintro e w1 ⟨rfl, hb⟩; have hB1 : Below W0.heap.size W0 w1 := (show Below W0.heap.size W0 _ by (repeat (first | (with_reducible exact Below.refl _ _) | (with_reducible assumption) | (with_reducible apply below_drewN) | (with_reducible apply Below.drew) | ((with_reducible refine Below.setCell ?_ ?_ _); rotate_left; focus (first | (simp; done) | (simp; omega) | omega)) | ((with_reducible refine Below.alloc ?_ ?_ _); rotate_left; focus (first | (simp; done) | (simp; omega) | omega))))).trans (hb.mono (by first | (simp; done) | (simp; omega) | omega)); have hzb1 := hB1.size; have hn1 := Nat.lt_of_lt_of_le hltw hzb1; have hm1 := Nat.lt_of_lt_of_le hlt1 hzb1; (try have T1 := blkIe (W := W0) hb); (try have T1 := blkId (W := W0) hb); (try (with_reducible have T1 := blkI (W := W0) hb)); (try obtain ⟨t10, t11, t12, t13, t14, t15, t16⟩ := T1); try clear hb) | (go_at_call_of 41 (Value.string b.lo); refine (toInterval_any b.lo b.hi b.op _).mono ?_; rintro e w2 ⟨rfl, hb⟩; have hB2 : Below W0.heap.size W0 w2 := (show Below W0.heap.size W0 _ by (repeat (first | (with_reducible exact Below.refl _ _) | (with_reducible assumption) | (with_reducible apply below_drewN) | (with_reducible apply Below.drew) | ((with_reducible refine Below.setCell ?_ ?_ _); rotate_left; focus (first | (simp; done) | (simp; omega) | omega)) | ((with_reducible refine Below.alloc ?_ ?_ _); rotate_left; focus (first | (simp; done) | (simp; omega) | omega))))).trans (hb.mono (by first | (simp; done) | (simp; omega) | omega)); have hzb2 := hB2.size; have hn2 := Nat.lt_of_lt_of_le hltw hzb2; have hm2 := Nat.lt_of_lt_of_le hlt1 hzb2; (try (with_reducible have T2 := blkI (W := w1) hb)); (try obtain ⟨t20, t21, t22, t23, t24, t25, t26⟩ := T2); (try have C1 := carI hb t10 t11 t12 t13 t14 t15 t16); (try obtain ⟨v210, v211, v212, v213, v214, v215, v216⟩ := C1); try clear hb) | (go_at_call 43; refine (HS.out _).mono ?_; rintro e w3 ⟨rfl, hb⟩; have hB3 : Below W0.heap.size W0 w3 := (show Below W0.heap.size W0 _ by (repeat (first | (with_reducible exact Below.refl _ _) | (with_reducible assumption) | (with_reducible apply below_drewN) | (with_reducible apply Below.drew) | ((with_reducible refine Below.setCell ?_ ?_ _); rotate_left; focus (first | (simp; done) | (simp; omega) | omega)) | ((with_reducible refine Below.alloc ?_ ?_ _); rotate_left; focus (first | (simp; done) | (simp; omega) | omega))))).trans (hb.mono (by first | (simp; done) | (simp; omega) | omega)); have hzb3 := hB3.size; have hn3 := Nat.lt_of_lt_of_le hltw hzb3; have hm3 := Nat.lt_of_lt_of_le hlt1 hzb3; (try (with_reducible have T3 := blkI (W := w2) hb)); (try obtain ⟨t30, t31, t32, t33, t34, t35, t36⟩ := T3); (try have C2 := carI hb t10 t11 t12 t13 t14 t15 t16); (try obtain ⟨v310, v311, v312, v313, v314, v315, v316⟩ := C2); (try have C3 := carI hb t20 t21 t22 t23 t24 t25 t26); (try obtain ⟨v320, v321, v322, v323, v324, v325, v326⟩ := C3); (try have C4 := carI hb v210 v211 v212 v213 v214 v215 v216); (try obtain ⟨x0, x1, x2, x3, x4, x5, x6⟩ := C4); try clear hb))
        all_goals
          try go_wp2_with fail
          go_meet
          exact ⟨_, rfl, ⟨by (repeat (first | (with_reducible exact Below.refl _ _) | (with_reducible assumption) | (with_reducible apply below_drewN) | (with_reducible apply Below.drew) | ((with_reducible refine Below.setCell ?_ ?_ _); rotate_left; focus (first | (simp; done) | (simp; omega) | omega)) | ((with_reducible refine Below.alloc ?_ ?_ _); rotate_left; focus (first | (simp; done) | (simp; omega) | omega)))), by simp; try omega, by simp [go_sem, *], by simp [go_sem, *], by simp [go_sem, *]⟩⟩
      case rest =>
        obtain ⟨p, rfl, Y0⟩ := hcut
        obtain ⟨W1, rfl⟩ : ∃ W1 : World, W1 = wc := ⟨_, rfl⟩
        have X2 := X0.step Y0.bel
        clear a0 a1 a2 b0 b1 b2 hlt1 hltw hbw X0
        have a0 := X2.c0
        have a1 := X2.c1
        have a2 := X2.c2
        have b0 := X2.d0
        have b1 := X2.d1
        have b2 := X2.d2
        have hlt1 : w.heap.size + 1 < W1.heap.size := X2.lt
        have hltw : w.heap.size < W1.heap.size := Nat.lt_of_succ_lt hlt1
        have hbw := X2.bel
        have hpl := Y0.lt
        have p0 := Y0.c0
        have p1 := Y0.c1
        have p2 := Y0.c2
        clear Y0
        go_wp2_with fail
        go_cut [7] (fun s7 wx => ∃ b, s7 = .pointer (some ⟨b, 0, none⟩) ∧ LiesI W1 wx b (.string ml) (.string mh) (.bool mo))
        case first =>
          go_region_held3 (fun w0 => w0.cell? ⟨w.heap.size, 0, none⟩ = some (.string a.lo) ∧ w0.cell? ⟨w.heap.size, 1, none⟩ = some (.string a.hi) ∧ w0.cell? ⟨w.heap.size, 2, none⟩ = some (.bool a.op) ∧ w0.cell? ⟨w.heap.size + 1, 0, none⟩ = some (.string b.lo) ∧ w0.cell? ⟨w.heap.size + 1, 1, none⟩ = some (.string b.hi) ∧ w0.cell? ⟨w.heap.size + 1, 2, none⟩ = some (.bool b.op)) ((refine keepJ X2 ?_; (repeat (first | (with_reducible exact Below.refl _ _) | (with_reducible assumption) | (with_reducible apply below_drewN) | (with_reducible apply Below.drew) | ((with_reducible refine Below.setCell ?_ ?_ _); rotate_left; focus (first | (simp; done) | (simp; omega) | omega)) | ((with_reducible refine Below.alloc ?_ ?_ _); rotate_left; focus (first | (simp; done) | (simp; omega) | omega)))))) (first | (go_at_call_of 41 (Value.string a.lo); refine (toInterval_any a.lo a.hi a.op _).mono ?_; rintro e w1 ⟨rfl, hb⟩; have hB1 : Below W1.heap.size W1 w1 := (show Below W1.heap.size W1 _ by (repeat (first | (with_reducible exact Below.refl _ _) | (with_reducible assumption) | (with_reducible apply below_drewN) | (with_reducible apply Below.drew) | ((with_reducible refine Below.setCell ?_ ?_ _); rotate_left; focus (first | (simp; done) | (simp; omega) | omega)) | ((with_reducible refine Below.alloc ?_ ?_ _); rotate_left; focus (first | (simp; done) | (simp; omega) | omega))))).trans (hb.mono (by first | (simp; done) | (simp; omega) | omega)); have hzb1 := hB1.size; have hn1 := Nat.lt_of_lt_of_le hltw hzb1; have hm1 := Nat.lt_of_lt_of_le hlt1 hzb1; (try have T1 := blkIe (W := W1) hb); (try have T1 := blkId (W := W1) hb); (try (with_reducible have T1 := blkI (W := W1) hb)); (try obtain ⟨t10, t11, t12, t13, t14, t15, t16⟩ := T1); try clear hb) | (go_at_call_of 41 (Value.string b.lo); refine (toInterval_any b.lo b.hi b.op _).mono ?_; rintro e w2 ⟨rfl, hb⟩; have hB2 : Below W1.heap.size W1 w2 := (show Below W1.heap.size W1 _ by (repeat (first | (with_reducible exact Below.refl _ _) | (with_reducible assumption) | (with_reducible apply below_drewN) | (with_reducible apply Below.drew) | ((with_reducible refine Below.setCell ?_ ?_ _); rotate_left; focus (first | (simp; done) | (simp; omega) | omega)) | ((with_reducible refine Below.alloc ?_ ?_ _); rotate_left; focus (first | (simp; done) | (simp; omega) | omega))))).trans (hb.mono (by first | (simp; done) | (simp; omega) | omega)); have hzb2 := hB2.size; have hn2 := Nat.lt_of_lt_of_le hltw hzb2; have hm2 := Nat.lt_of_lt_of_le hlt1 hzb2; (try (with_reducible have T2 := blkI (W := w1) hb)); (try obtain ⟨t20, t21, t22, t23, t24, t25, t26⟩ := T2); (try have C5 := carI hb t10 t11 t12 t13 t14 t15 t16); (try obtain ⟨v210, v211, v212, v213, v214, v215, v216⟩ := C5); try clear hb) | (go_at_call 44; refine (HI.out _).mono ?_; rintro e w3 ⟨rfl, hb⟩; have hB3 : Below W1.heap.size W1 w3 := (show Below W1.heap.size W1 _ by (repeat (first | (with_reducible exact Below.refl _ _) | (with_reducible assumption) | (with_reducible apply below_drewN) | (with_reducible apply Below.drew) | ((with_reducible refine Below.setCell ?_ ?_ _); rotate_left; focus (first | (simp; done) | (simp; omega) | omega)) | ((with_reducible refine Below.alloc ?_ ?_ _); rotate_left; focus (first | (simp; done) | (simp; omega) | omega))))).trans (hb.mono (by first | (simp; done) | (simp; omega) | omega)); have hzb3 := hB3.size; have hn3 := Nat.lt_of_lt_of_le hltw hzb3; have hm3 := Nat.lt_of_lt_of_le hlt1 hzb3; (try (with_reducible have T3 := blkI (W := w2) hb)); (try obtain ⟨t30, t31, t32, t33, t34, t35, t36⟩ := T3); (try have C6 := carI hb t10 t11 t12 t13 t14 t15 t16); (try obtain ⟨v310, v311, v312, v313, v314, v315, v316⟩ := C6); (try have C7 := carI hb t20 t21 t22 t23 t24 t25 t26); (try obtain ⟨v320, v321, v322, v323, v324, v325, v326⟩ := C7); (try have C8 := carI hb v210 v211 v212 v213 v214 v215 v216); (try obtain ⟨x0, x1, x2, x3, x4, x5, x6⟩ := C8); try clear hb))
          all_goals
            try go_wp2_with fail
            go_meet
            exact ⟨_, rfl, ⟨by (repeat (first | (with_reducible exact Below.refl _ _) | (with_reducible assumption) | (with_reducible apply below_drewN) | (with_reducible apply Below.drew) | ((with_reducible refine Below.setCell ?_ ?_ _); rotate_left; focus (first | (simp; done) | (simp; omega) | omega)) | ((with_reducible refine Below.alloc ?_ ?_ _); rotate_left; focus (first | (simp; done) | (simp; omega) | omega)))), by simp; try omega, by simp [go_sem, *], by simp [go_sem, *], by simp [go_sem, *]⟩⟩
        case rest =>
          obtain ⟨g, rfl, Y1⟩ := hcut
          have X3 := X2.step Y1.bel
          have hc := Y1.bel
          have k0 := Y1.c0
          have k1 := Y1.c1
          have k2 := Y1.c2
          have n0 := (hc.cell (p := ⟨p, 0, none⟩) hpl).trans p0
          have n1 := (hc.cell (p := ⟨p, 1, none⟩) hpl).trans p1
          have n2 := (hc.cell (p := ⟨p, 2, none⟩) hpl).trans p2
          have hgl := Y1.lt
          have hpl2 : p < wc.heap.size := Nat.lt_of_lt_of_le hpl hc.size
          have hfb := X3.bel
          clear a0 a1 a2 b0 b1 b2 p0 p1 p2 X2 Y1 hc X3
          go_wp2_with (go_at_call 45; refine (eqInterval_same ml mh mo _).mono ?_; rintro e w9 ⟨rfl, hb9⟩)
          go_ret
          exact ⟨rfl, hfb.trans (hb9.mono hfb.size)⟩

theorem walk (lo hi : ByteArray) (op : Bool) (hs : lo.size ≤ maxLen) (hh : hi.size ≤ maxLen) (lo' hi' : ByteArray) (op' : Bool) (hs' : lo'.size ≤ maxLen) (hh' : hi'.size ≤ maxLen) (w : World) :
    Calls Try.prog 10 #[.agg #[.string lo, .string hi, .bool op], .agg #[.string lo', .string hi', .bool op']] w fun e w' => e = .returned (.bool true) ∧ Below w.heap.size w w' :=
  walk0 ⟨lo, hi, op⟩ ⟨lo', hi', op'⟩ hs hh hs' hh' w

theorem own : ownKnob Try.prog.godebug = none := by kernel_rfl
theorem laidOut : laidOutB Try.prog = true := by kernel_rfl
theorem cellsN : Try.prog.cellsOf 65 = 3 := by kernel_rfl

set_option maxRecDepth 100000 in
theorem lifted (os : Os) (started : os.Started) (H : Type) (enc : TypeId × Value → H) :
    ReturnsInHanded {} Try.checked os 10 .any (Rows.fnExactMeetIntervalsSpec.pre6 enc Try.prog Try.f10 Rows.fnExactMeetIntervalsRow.domain false) (Rows.fnExactMeetIntervalsSpec.post enc Try.prog Try.f10 false true false false) := by
  refine returnsInHanded_of_change (C := Try.checked) own started (by kernel_rfl) Try.func10
    (ChangeSpec.witness6 (enc := enc) (C := Try.checked) false ⟨#[], #[.agg #[.string ByteArray.empty, .string ByteArray.empty, .bool false], .agg #[.string ByteArray.empty, .string ByteArray.empty, .bool false]], []⟩ 8 (by kernel_rfl) (by kernel_rfl) (by kernel_rfl) (by kernel_rfl)) ?_
  intro W base args ds gs before hval0 hW hcnd _
  have hval : ∀ (j : Nat) t v, Try.f10.params[j]? = some t → args[j]? = some v → Value.okWide Try.prog W .any base t v := hval0
  have hW' := hW
  obtain ⟨p, q, hA0, hV, rfl, hfz, hnd⟩ := hW
  have hA : DataW.TrodAll enc Try.prog W 0 (fun _ => true) true Try.f10.params.toList args.toList ds p := hA0
  rw [Try.params10] at hA hval
  obtain ⟨v0, vs0, d0, ds0, p0, q0, hargs, rfl, rfl, h0, r0⟩ := trodAll_cons hA
  obtain ⟨v1, vs1, d1, ds1, p1, q1, rfl, rfl, rfl, h1, r1⟩ := trodAll_cons r0
  obtain ⟨rfl, rfl, rfl⟩ := trodAll_nil r1
  obtain rfl : args = #[v0, v1] := by cases args; simp_all
  obtain ⟨rfl, rfl⟩ := trodVars_none hV
  have k0 := h0
  have lt0 : ∀ x ∈ p0, x.block < W.heap.size := by obtain ⟨m, hm⟩ := k0; exact DataW.trod_lt m _ _ _ hm
  obtain ⟨c00, c01, c02, y00, y01, y02, m0, rfl, hd0, hp0, hy00, hy01, hy02⟩ := open_agg3 Try.underlying65 (by kernel_rfl) cellsN (hval 0 65 v0 rfl rfl) h0
  obtain ⟨a0, e00, _, wa0⟩ := DataW.trod_string Try.underlying9 hy00
  obtain ⟨b0, e01, _, wb0⟩ := DataW.trod_string Try.underlying9 hy01
  obtain ⟨s0, e02, _⟩ := DataW.trod_bool Try.underlying4 hy02
  simp at e00 e01 e02
  subst e00 e01 e02
  have k1 := h1
  have lt1 : ∀ x ∈ p1, x.block < W.heap.size := by obtain ⟨m, hm⟩ := k1; exact DataW.trod_lt m _ _ _ hm
  obtain ⟨c10, c11, c12, y10, y11, y12, m1, rfl, hd1, hp1, hy10, hy11, hy12⟩ := open_agg3 Try.underlying65 (by kernel_rfl) cellsN (hval 1 65 v1 rfl rfl) h1
  obtain ⟨a1, e10, _, wa1⟩ := DataW.trod_string Try.underlying9 hy10
  obtain ⟨b1, e11, _, wb1⟩ := DataW.trod_string Try.underlying9 hy11
  obtain ⟨s1, e12, _⟩ := DataW.trod_bool Try.underlying4 hy12
  simp at e10 e11 e12
  subst e10 e11 e12
  clear hA0 hval0
  refine (walk a0 b0 s0 wa0 wb0 a1 b1 s1 wa1 wb1 W).mono fun e W' ⟨he, bel⟩ => ?_
  subst he
  exact ⟨_, rfl, _, _, _, [], _, [], hW', trodAll_mk1 (shut_bool Try.underlying4 _), (trodAll_cons_mk (Below.trod laidOut (by kernel_rfl) (of_decide_eq_true (by kernel_rfl)) k0 bel lt0) (trodAll_cons_mk (Below.trod laidOut (by kernel_rfl) (of_decide_eq_true (by kernel_rfl)) k1 bel lt1) trodAll_mk0)), rfl, bel.frame _, fun h => by cases h⟩
end MeetIntervalsLaw

theorem fnExactMeetIntervals_holds : Rows.FnExactMeetIntervalsSaid :=
  OpenClaim.holds_of_wide 10 Try.f10 rfl rfl rfl rfl rfl rfl rfl ⟨rfl, rfl, rfl, rfl, rfl⟩ rfl rfl rfl rfl rfl (by kernel_rfl) Try.func10 (by kernel_rfl)
    (of_decide_eq_true (by kernel_rfl)) (by unfold Func.isWrapper; first | (rw [if_pos (by decide +kernel)]; kernel_rfl) | (rw [if_neg (by decide +kernel)]; exact ⟨rfl, rfl⟩))
    (fun os started H enc _ => MeetIntervalsLaw.lifted os started H enc)
#print axioms fnExactMeetIntervals_holds
end Go.Proofs.Ytejphhhmblpapaa
