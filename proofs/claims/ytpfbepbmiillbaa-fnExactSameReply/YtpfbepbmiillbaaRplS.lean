/- Whether two replies are the same: both sides. -/
import Derived.Test.YtpfbepbmiillbaaRplM
namespace Go.Proofs.Ytpfbepbmiillbaa.Rp
open Go.RowKit
set_option linter.unusedVariables false

set_option maxRecDepth 4000 in
set_option maxHeartbeats 2000000 in
theorem equal_any (g1 g2 c1 c2 : Nat) (l m : List Val) (w : World) (h1 : ReadV w g1 l) (h2 : ReadV w g2 m) (hl : l.length ≤ 1048576) (hm : m.length ≤ 1048576) :
    Calls Try.prog 12 #[.slice (some ⟨g1, 0, none⟩) l.length c1, .slice (some ⟨g2, 0, none⟩) m.length c2] w fun e w' => e = .returned (.bool (decide (l.length = m.length) && lEq l m)) ∧ Below w.heap.size w w' := by
  have H1 : Hid (ReadV _ _ _) := h1
  have H2 : Hid (ReadV _ _ _) := h2
  clear h1 h2
  by_cases hlen : l.length = m.length
  case neg =>
    have e1 : ¬ (l.length : Int) = (m.length : Int) := by omega
    have e2 : ((l.length : Int) == (m.length : Int)) = false := by rw [beq_eq_false_iff_ne]; exact e1
    rw [decide_eq_false hlen, Bool.false_and]
    go_enter Try.func12, Try.ntmps12
    go_wp2_with fail
    go_ret
    exact ⟨rfl, Below.refl _ _⟩
  rw [decide_eq_true hlen, Bool.true_and]
  obtain ⟨R, hR⟩ : ∃ R, R = lEq l m := ⟨_, rfl⟩
  rw [← hR]
  have HR : Hid (R = lEq (l.drop 0) (m.drop 0)) := hR
  have HLEN : Hid (l.length = m.length) := hlen
  obtain ⟨n, hn⟩ : ∃ n, n = m.length := ⟨_, rfl⟩
  have HN0 : Hid (n = m.length) := hn
  rw [← hn] at hlen ⊢
  rw [hlen]
  have hnn : n ≤ 1048576 := by omega
  clear hR hn hm hl hlen
  go_enter Try.func12, Try.ntmps12
  go_wp2_with fail
  go_loopw [13] (fun i wr => ∃ k : Nat, k ≤ n ∧ i = .int .i64 k ∧ R = lEq (l.drop k) (m.drop k) ∧ Below w.heap.size w wr) (fun i _ => n - (intOf i).toNat)
  case atStart => exact ⟨0, Nat.zero_le _, rfl, HR.out, Below.refl _ _⟩
  case round =>
    obtain ⟨k, hk, rfl, hrk, hbel⟩ := hrel
    clear HR
    by_cases hlt : k < n
    · have hlt2 : (k : Int) < (n : Int) := by omega
      have hkl : k < l.length := by have := HLEN.out; have := HN0.out; omega
      have hkm : k < m.length := by have := HN0.out; omega
      have R1 := H1.out.step hbel H1.out.lt
      have R2 := H2.out.step hbel H2.out.lt
      obtain ⟨x0, x1, x2⟩ := R1.cells k hkl
      obtain ⟨y0, y1, y2⟩ := R2.cells k hkm
      rw [lEq_step l m k hkl hkm] at hrk
      obtain ⟨x, hx⟩ : ∃ x, x = l[k] := ⟨_, rfl⟩
      obtain ⟨y, hy⟩ : ∃ y, y = m[k] := ⟨_, rfl⟩
      rw [← hx] at x0 x1 x2 hrk
      rw [← hy] at y0 y1 y2 hrk
      have HRK : Hid (R = _) := hrk
      clear hx hy hrk R1 R2 hkl hkm
      rcases vEq_ways x y with ⟨hv, q1, q2, q3⟩ | ⟨hv, hq⟩
      · have HN : Hid (R = lEq (l.drop (k + 1)) (m.drop (k + 1))) := by show R = _; rw [HRK.out, hv, Bool.true_and]
        clear HRK hv
        go_wp2_with fail
        go_quiet (fail)
        go_wp2_with fail
        go_roundw
        case rel => exact ⟨k + 1, by omega, by go_num, HN.out, by (repeat (first | (with_reducible exact Below.refl _ _) | (with_reducible assumption) | (with_reducible apply below_drewN) | (with_reducible apply Below.drew) | ((with_reducible refine Below.setCell ?_ ?_ _); rotate_left; focus (first | (simp; done) | (simp; omega) | omega)) | ((with_reducible refine Below.alloc ?_ ?_ _); rotate_left; focus (first | (simp; done) | (simp; omega) | omega))))⟩
        case measure => simp [intOf]; omega
      · have HF : Hid (R = false) := by show R = _; rw [HRK.out, hv, Bool.false_and]
        clear HRK hv
        rcases hq with q1 | ⟨q1, q2⟩ | ⟨q1, q2, q3⟩
        all_goals
          go_wp2_with fail
          go_quiet (fail)
          go_wp2_with fail
          go_ret
          exact ⟨by rw [HF.out]; rfl, by (repeat (first | (with_reducible exact Below.refl _ _) | (with_reducible assumption) | (with_reducible apply below_drewN) | (with_reducible apply Below.drew) | ((with_reducible refine Below.setCell ?_ ?_ _); rotate_left; focus (first | (simp; done) | (simp; omega) | omega)) | ((with_reducible refine Below.alloc ?_ ?_ _); rotate_left; focus (first | (simp; done) | (simp; omega) | omega))))⟩
    · have hlt2 : ¬ (k : Int) < (n : Int) := by omega
      have hT : R = true := by rw [hrk]; exact lEq_end l m k (by have := HLEN.out; have := HN0.out; omega) (by have := HN0.out; omega)
      have HT : Hid (R = true) := hT
      clear hrk hT
      go_wp2_with fail
      go_ret
      exact ⟨by rw [HT.out]; rfl, hbel⟩

set_option maxRecDepth 8000 in
set_option maxHeartbeats 4000000 in
theorem l12Same_any (g1 g2 c1 c2 : Nat) (a b : Rpl) (w : World) (h1 : ReadV w g1 a.ds) (h2 : ReadV w g2 b.ds) (hl : a.ds.length ≤ 1048576) (hm : b.ds.length ≤ 1048576) :
    Calls Try.prog 10 #[.agg #[.int .i64 a.code, .slice (some ⟨g1, 0, none⟩) a.ds.length c1, .int .i64 a.n], .agg #[.int .i64 b.code, .slice (some ⟨g2, 0, none⟩) b.ds.length c2, .int .i64 b.n]] w fun e w' => e = .returned (.bool (rEq a b)) ∧ Below w.heap.size w w' := by
  have X0 := (Boxed.start w (.int .i64 a.code) (.slice (some ⟨g1, 0, none⟩) a.ds.length c1) (.int .i64 a.n) 29).step ((Below.refl _ _).alloc (Nat.le_refl _) (.cells #[.int .i64 b.code, .slice (some ⟨g2, 0, none⟩) b.ds.length c2, .int .i64 b.n] 29))
  have Y0 := Boxed.start (w.alloc (.cells #[.int .i64 a.code, .slice (some ⟨g1, 0, none⟩) a.ds.length c1, .int .i64 a.n] 29)) (.int .i64 b.code) (.slice (some ⟨g2, 0, none⟩) b.ds.length c2) (.int .i64 b.n) 29
  have H1 : Hid (ReadV _ _ _) := h1
  have H2 : Hid (ReadV _ _ _) := h2
  clear h1 h2
  have hb0 := X0.bel
  obtain ⟨R, hR⟩ : ∃ R, R = rEq a b := ⟨_, rfl⟩
  rw [← hR]
  unfold rEq at hR
  by_cases e1 : a.code = b.code
  case neg =>
    have e2 : (a.code == b.code) = false := by rw [beq_eq_false_iff_ne]; exact e1
    have HF : Hid (R = false) := by show R = _; rw [hR, decide_eq_false e1, Bool.false_and]
    clear hR
    go_enter Try.func10, Try.ntmps10
    go_wp2_with fail
    go_ret
    exact ⟨by rw [HF.out]; rfl, hb0⟩
  by_cases e3 : a.n = b.n
  case neg =>
    have e2 : (a.n == b.n) = false := by rw [beq_eq_false_iff_ne]; exact e3
    have HF : Hid (R = false) := by show R = _; rw [hR, decide_eq_true e1, decide_eq_false e3, Bool.true_and, Bool.false_and]
    rw [← e1] at X0 Y0 hb0 ⊢
    clear hR e1
    go_enter Try.func10, Try.ntmps10
    go_wp2_with fail
    go_ret
    exact ⟨by rw [HF.out]; rfl, hb0⟩
  by_cases hlen : a.ds.length = b.ds.length
  case neg =>
    have e4 : ¬ (a.ds.length : Int) = (b.ds.length : Int) := by omega
    have e5 : ((a.ds.length : Int) == (b.ds.length : Int)) = false := by rw [beq_eq_false_iff_ne]; exact e4
    have HF : Hid (R = false) := by show R = _; rw [hR, decide_eq_true e1, decide_eq_true e3, decide_eq_false hlen, Bool.true_and, Bool.true_and, Bool.false_and]
    rw [← e1, ← e3] at X0 Y0 hb0 ⊢
    clear hR e1 e3
    go_enter Try.func10, Try.ntmps10
    go_wp2_with fail
    go_ret
    exact ⟨by rw [HF.out]; rfl, hb0⟩
  have hR2 : R = lEq a.ds b.ds := by rw [hR, decide_eq_true e1, decide_eq_true e3, decide_eq_true hlen, Bool.true_and, Bool.true_and, Bool.true_and]
  have HR : Hid (R = lEq (a.ds.drop 0) (b.ds.drop 0)) := hR2
  obtain ⟨l, hll⟩ : ∃ l, l = a.ds := ⟨_, rfl⟩
  obtain ⟨m, hmm⟩ : ∃ m, m = b.ds := ⟨_, rfl⟩
  rw [← hll] at HR H1 hl hlen X0 hb0 ⊢
  rw [← hmm] at HR H2 hm hlen X0 hb0 ⊢
  rw [← hll, ← hmm] at Y0
  obtain ⟨ca, hca⟩ : ∃ c, c = a.code := ⟨_, rfl⟩
  obtain ⟨na, hna⟩ : ∃ c, c = a.n := ⟨_, rfl⟩
  rw [← e1, ← e3, ← hca, ← hna] at X0 Y0 hb0 ⊢
  have HLEN : Hid (l.length = m.length) := hlen
  obtain ⟨n, hn⟩ : ∃ n, n = m.length := ⟨_, rfl⟩
  have HN0 : Hid (n = m.length) := hn
  rw [← hn] at hlen X0 Y0 hb0 ⊢
  rw [hlen] at X0 Y0 hb0 ⊢
  have hnn : n ≤ 1048576 := by omega
  obtain ⟨_, xl, x0, x1, x2⟩ := id X0
  obtain ⟨_, yl, y0, y1, y2⟩ := id Y0
  rw [World.size_alloc] at y0 y1 y2
  clear hR hR2 hn hm hl hlen e1 e3 hll hmm hca hna
  go_enter Try.func10, Try.ntmps10
  go_wp2_with fail
  generalize (w.alloc _).alloc _ = W0 at X0 Y0 hb0 xl x0 x1 x2 yl y0 y1 y2 ⊢
  clear X0 Y0
  have hw0 : w.heap.size < W0.heap.size := xl
  have hw1 : w.heap.size + 1 < W0.heap.size := by rw [World.size_alloc] at yl; exact yl
  clear xl yl
  go_loopw [5] (fun i wr => ∃ k : Nat, k ≤ n ∧ i = .int .i64 k ∧ R = lEq (l.drop k) (m.drop k) ∧ Below W0.heap.size W0 wr) (fun i _ => n - (intOf i).toNat)
  case atStart => exact ⟨0, Nat.zero_le _, rfl, HR.out, Below.refl _ _⟩
  case round =>
    obtain ⟨k, hk, rfl, hrk, hbl⟩ := hrel
    clear HR
    have hbel := hb0.trans (hbl.mono hb0.size)
    have k1 := (hbl.cell hw0).trans x1
    have k2 := (hbl.cell hw1).trans y1
    clear x0 x1 x2 y0 y1 y2
    by_cases hlt : k < n
    · have hlt2 : (k : Int) < (n : Int) := by omega
      have hkl : k < l.length := by have := HLEN.out; have := HN0.out; omega
      have hkm : k < m.length := by have := HN0.out; omega
      have R1 := H1.out.step hbel H1.out.lt
      have R2 := H2.out.step hbel H2.out.lt
      obtain ⟨x0, x1, x2⟩ := R1.cells k hkl
      obtain ⟨y0, y1, y2⟩ := R2.cells k hkm
      rw [lEq_step l m k hkl hkm] at hrk
      obtain ⟨x, hx⟩ : ∃ x, x = l[k] := ⟨_, rfl⟩
      obtain ⟨y, hy⟩ : ∃ y, y = m[k] := ⟨_, rfl⟩
      rw [← hx] at x0 x1 x2 hrk
      rw [← hy] at y0 y1 y2 hrk
      have HRK : Hid (R = _) := hrk
      clear hx hy hrk R1 R2 hkl hkm
      rcases vEq_ways x y with ⟨hv, q1, q2, q3⟩ | ⟨hv, hq⟩
      · have HN : Hid (R = lEq (l.drop (k + 1)) (m.drop (k + 1))) := by show R = _; rw [HRK.out, hv, Bool.true_and]
        clear HRK hv
        go_wp2_with fail
        go_quiet (fail)
        go_wp2_with fail
        go_roundw
        case rel => exact ⟨k + 1, by omega, by go_num, HN.out, by (repeat (first | (with_reducible exact Below.refl _ _) | (with_reducible assumption) | (with_reducible apply below_drewN) | (with_reducible apply Below.drew) | ((with_reducible refine Below.setCell ?_ ?_ _); rotate_left; focus (first | (simp; done) | (simp; omega) | omega)) | ((with_reducible refine Below.alloc ?_ ?_ _); rotate_left; focus (first | (simp; done) | (simp; omega) | omega))))⟩
        case measure => simp [intOf]; omega
      · have HF : Hid (R = false) := by show R = _; rw [HRK.out, hv, Bool.false_and]
        clear HRK hv
        rcases hq with q1 | ⟨q1, q2⟩ | ⟨q1, q2, q3⟩
        all_goals
          go_wp2_with fail
          go_quiet (fail)
          go_wp2_with fail
          go_ret
          exact ⟨by rw [HF.out]; rfl, by (repeat (first | (with_reducible exact Below.refl _ _) | (with_reducible assumption) | (with_reducible apply below_drewN) | (with_reducible apply Below.drew) | ((with_reducible refine Below.setCell ?_ ?_ _); rotate_left; focus (first | (simp; done) | (simp; omega) | omega)) | ((with_reducible refine Below.alloc ?_ ?_ _); rotate_left; focus (first | (simp; done) | (simp; omega) | omega))))⟩
    · have hlt2 : ¬ (k : Int) < (n : Int) := by omega
      have hT : R = true := by rw [hrk]; exact lEq_end l m k (by have := HLEN.out; have := HN0.out; omega) (by have := HN0.out; omega)
      have HT : Hid (R = true) := hT
      clear hrk hT
      go_wp2_with fail
      go_ret
      exact ⟨by rw [HT.out]; rfl, hbel⟩

set_option maxRecDepth 8000 in
set_option maxHeartbeats 4000000 in
theorem specSame_any (g1 g2 c1 c2 : Nat) (a b : Rpl) (w : World) (h1 : ReadV w g1 a.ds) (h2 : ReadV w g2 b.ds) (hl : a.ds.length ≤ 1048576) (hm : b.ds.length ≤ 1048576) :
    Calls Try.prog 5 #[.agg #[.int .i64 a.code, .slice (some ⟨g1, 0, none⟩) a.ds.length c1, .int .i64 a.n], .agg #[.int .i64 b.code, .slice (some ⟨g2, 0, none⟩) b.ds.length c2, .int .i64 b.n]] w fun e w' => e = .returned (.bool (sameB a b)) ∧ Below w.heap.size w w' := by
  have X0 := (Boxed.start w (.int .i64 a.code) (.slice (some ⟨g1, 0, none⟩) a.ds.length c1) (.int .i64 a.n) 29).step ((Below.refl _ _).alloc (Nat.le_refl _) (.cells #[.int .i64 b.code, .slice (some ⟨g2, 0, none⟩) b.ds.length c2, .int .i64 b.n] 29))
  have HC : Hid (∀ W : World, Below w.heap.size w W → Calls _ _ _ W _) := fun W hW => l12Same_any g1 g2 c1 c2 a b W (h1.step hW h1.lt) (h2.step hW h2.lt) hl hm
  have Y0 := Boxed.start (w.alloc (.cells #[.int .i64 a.code, .slice (some ⟨g1, 0, none⟩) a.ds.length c1, .int .i64 a.n] 29)) (.int .i64 b.code) (.slice (some ⟨g2, 0, none⟩) b.ds.length c2) (.int .i64 b.n) 29
  clear h1 h2
  have hb0 := X0.bel
  obtain ⟨R, hR⟩ : ∃ R, R = sameB a b := ⟨_, rfl⟩
  rw [← hR]
  unfold sameB at hR
  by_cases s1 : a.ds.length ≤ 4096
  case neg =>
    have t1 : ¬ (a.ds.length : Int) ≤ 4096 := by omega
    have HF : Hid (R = false) := by show R = _; rw [hR, decide_eq_false s1, Bool.false_and]
    clear hR HC
    go_enter Try.func5, Try.ntmps5
    go_wp2_with fail
    go_ret
    exact ⟨by rw [HF.out]; rfl, hb0⟩
  have t1 : (a.ds.length : Int) ≤ 4096 := by omega
  by_cases s2 : b.ds.length ≤ 4096
  case neg =>
    have t2 : ¬ (b.ds.length : Int) ≤ 4096 := by omega
    have HF : Hid (R = false) := by show R = _; rw [hR, decide_eq_false s2, Bool.false_and, Bool.and_false]
    clear hR HC
    go_enter Try.func5, Try.ntmps5
    go_wp2_with fail
    go_ret
    exact ⟨by rw [HF.out]; rfl, hb0⟩
  have t2 : (b.ds.length : Int) ≤ 4096 := by omega
  have hR2 : R = rEq a b := by rw [hR, decide_eq_true s1, decide_eq_true s2, Bool.true_and, Bool.true_and]
  obtain ⟨P, hP⟩ : ∃ P, P = rEq a b := ⟨_, rfl⟩
  rw [← hP] at HC hR2
  have HF : Hid (R = P) := hR2
  clear hR hR2 hP
  go_enter Try.func5, Try.ntmps5
  go_wp2_with fail
  refine (HC.out _ X0.bel).mono ?_
  rintro e w1 ⟨rfl, hb⟩
  have hbw := (X0.step hb).bel
  clear hb X0 HC
  go_wp2_with fail
  go_ret
  exact ⟨by rw [HF.out]; rfl, hbw⟩

set_option maxRecDepth 8000 in
set_option maxHeartbeats 4000000 in
theorem implSame_any (g1 g2 c1 c2 : Nat) (a b : Rpl) (w : World) (h1 : ReadV w g1 a.ds) (h2 : ReadV w g2 b.ds) (hl : a.ds.length ≤ 1048576) (hm : b.ds.length ≤ 1048576) :
    Calls Try.prog 7 #[.agg #[.int .i64 a.code, .slice (some ⟨g1, 0, none⟩) a.ds.length c1, .int .i64 a.n], .agg #[.int .i64 b.code, .slice (some ⟨g2, 0, none⟩) b.ds.length c2, .int .i64 b.n]] w fun e w' => e = .returned (.bool (sameB a b)) ∧ Below w.heap.size w w' := by
  have X0 := (Boxed.start w (.int .i64 a.code) (.slice (some ⟨g1, 0, none⟩) a.ds.length c1) (.int .i64 a.n) 29).step ((Below.refl _ _).alloc (Nat.le_refl _) (.cells #[.int .i64 b.code, .slice (some ⟨g2, 0, none⟩) b.ds.length c2, .int .i64 b.n] 29))
  have HC : Hid (∀ W : World, Below w.heap.size w W → Calls _ _ _ W _) := fun W hW => equal_any g1 g2 c1 c2 a.ds b.ds W (h1.step hW h1.lt) (h2.step hW h2.lt) hl hm
  have Y0 := Boxed.start (w.alloc (.cells #[.int .i64 a.code, .slice (some ⟨g1, 0, none⟩) a.ds.length c1, .int .i64 a.n] 29)) (.int .i64 b.code) (.slice (some ⟨g2, 0, none⟩) b.ds.length c2) (.int .i64 b.n) 29
  clear h1 h2
  have hb0 := X0.bel
  obtain ⟨R, hR⟩ : ∃ R, R = sameB a b := ⟨_, rfl⟩
  rw [← hR]
  unfold sameB at hR
  by_cases s1 : a.ds.length ≤ 4096
  case neg =>
    have t1 : (4096 : Int) < (a.ds.length : Int) := by omega
    have HF : Hid (R = false) := by show R = _; rw [hR, decide_eq_false s1, Bool.false_and]
    clear hR HC
    go_enter Try.func7, Try.ntmps7
    go_wp2_with fail
    go_ret
    exact ⟨by rw [HF.out]; rfl, hb0⟩
  have t1 : ¬ (4096 : Int) < (a.ds.length : Int) := by omega
  by_cases s2 : b.ds.length ≤ 4096
  case neg =>
    have t2 : (4096 : Int) < (b.ds.length : Int) := by omega
    have HF : Hid (R = false) := by show R = _; rw [hR, decide_eq_false s2, Bool.false_and, Bool.and_false]
    clear hR HC
    go_enter Try.func7, Try.ntmps7
    go_wp2_with fail
    go_ret
    exact ⟨by rw [HF.out]; rfl, hb0⟩
  have t2 : ¬ (4096 : Int) < (b.ds.length : Int) := by omega
  have hR2 : R = rEq a b := by rw [hR, decide_eq_true s1, decide_eq_true s2, Bool.true_and, Bool.true_and]
  unfold rEq at hR2
  by_cases e1 : a.code = b.code
  case neg =>
    have e2 : (a.code == b.code) = false := by rw [beq_eq_false_iff_ne]; exact e1
    have e4 : decide (a.code = b.code) = false := decide_eq_false e1
    have HF : Hid (R = false) := by show R = _; rw [hR2, decide_eq_false e1, Bool.false_and]
    clear hR HC hR2
    try clear e1
    go_enter Try.func7, Try.ntmps7
    go_wp2_with fail
    go_ret
    exact ⟨by rw [HF.out]; rfl, hb0⟩
  by_cases e3 : a.n = b.n
  case neg =>
    have e5 : (a.n == b.n) = false := by rw [beq_eq_false_iff_ne]; exact e3
    have HF : Hid (R = false) := by show R = _; rw [hR2, decide_eq_true e1, decide_eq_false e3, Bool.true_and, Bool.false_and]
    rw [← e1] at X0 Y0 hb0 ⊢
    clear hR HC hR2
    try clear e1
    go_enter Try.func7, Try.ntmps7
    go_wp2_with fail
    go_ret
    exact ⟨by rw [HF.out]; rfl, hb0⟩
  obtain ⟨P, hP⟩ : ∃ P, P = (decide (a.ds.length = b.ds.length) && lEq a.ds b.ds) := ⟨_, rfl⟩
  have hR3 : R = P := by rw [hR2, decide_eq_true e1, decide_eq_true e3, Bool.true_and, Bool.true_and, hP]
  rw [← hP] at HC
  have HF : Hid (R = P) := hR3
  rw [← e1, ← e3] at X0 Y0 hb0 ⊢
  clear hR hR2 hP hR3 e1 e3
  go_enter Try.func7, Try.ntmps7
  go_wp2_with fail
  refine (HC.out _ X0.bel).mono ?_
  rintro e w1 ⟨rfl, hb⟩
  have hbw := (X0.step hb).bel
  clear hb X0 HC
  go_wp2_with fail
  go_ret
  exact ⟨by rw [HF.out]; rfl, hbw⟩

end Go.Proofs.Ytpfbepbmiillbaa.Rp
