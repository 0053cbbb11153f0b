/- Whether a transaction is right: what the program answers. -/
import Derived.Test.YtpfbepbmiillbaaGreatDoorNwtIR
import Derived.Test.YtpfbepbmiillbaaGreatDoorTxnRR
import Derived.Test.YtpfbepbmiillbaaGreatDoorChgVR
import Derived.Test.YtpfbepbmiillbaaGreatDoorClsRR
import Derived.Test.YtpfbepbmiillbaaGreatDoorColMR
namespace Go.Proofs.YtpfbepbmiillbaaGreatDoor.Tx
open Go.RowKit Tr Co Rea Ce
set_option linter.unusedVariables false

theorem riseW_nil (o : Option Wrt) : riseW o [] = true := by cases o <;> rfl
theorem cmpE_neg (a b : Ent) (h : lessE a b = true) : cmpE a b < 0 := by have := cmpE_lt a b; rw [h] at this; simpa using this
theorem cmpE_pos (a b : Ent) (h : lessE a b = false) : 0 ≤ cmpE a b := by have := cmpE_lt a b; rw [h] at this; simp at this; omega
/-- Six cells in a new block. -/
theorem newSix (w : World) (x : Wrt) (T : TypeId) : ∀ u : Under (w.alloc (.cells #[.string x.coll, .int .i64 x.id, .bool x.gone, .int .i64 x.doc.k, .int .i64 x.doc.n, .string x.doc.t] T)), u.x.cell? ⟨w.heap.size, 0, none⟩ = some (.string x.coll) ∧ u.x.cell? ⟨w.heap.size, 1, none⟩ = some (.int .i64 x.id) ∧ u.x.cell? ⟨w.heap.size, 2, none⟩ = some (.bool x.gone) ∧ u.x.cell? ⟨w.heap.size, 3, none⟩ = some (.int .i64 x.doc.k) ∧ u.x.cell? ⟨w.heap.size, 4, none⟩ = some (.int .i64 x.doc.n) ∧ u.x.cell? ⟨w.heap.size, 5, none⟩ = some (.string x.doc.t) := by
  intro u
  have h := fun o (v : Value) (e : (w.alloc (.cells #[.string x.coll, .int .i64 x.id, .bool x.gone, .int .i64 x.doc.k, .int .i64 x.doc.n, .string x.doc.t] T)).cell? ⟨w.heap.size, o, none⟩ = some v) => (u.h.cell (p := ⟨w.heap.size, o, none⟩) (by simp)).trans e
  exact ⟨h 0 _ (by simp [go_sem]), h 1 _ (by simp [go_sem]), h 2 _ (by simp [go_sem]), h 3 _ (by simp [go_sem]), h 4 _ (by simp [go_sem]), h 5 _ (by simp [go_sem])⟩

set_option maxRecDepth 4000 in
set_option maxHeartbeats 4000000 in
theorem writesOK_any (g c : Nat) (l : List Wrt) (w : World) (hr : ReadWs w g l) (hl : l.length ≤ 1048576) (hs : ∀ v ∈ l, szWs v) :
    Calls Tryz.prog 113 #[.slice (some ⟨g, 0, none⟩) l.length c] w fun e w' => e = .returned (.bool (wrsB l)) ∧ Below w.heap.size w w' := by
  have HR : Hid (ReadWs _ _ _) := hr
  have HS : Hid (∀ v ∈ l, szWs v) := hs
  clear hr hs
  obtain ⟨R, hR⟩ : ∃ R, R = wrsB l := ⟨_, rfl⟩
  rw [← hR]
  have HRR : Hid (R = riseW (lastW l 0) (l.drop 0)) := by show R = _; rw [hR]; rfl
  clear hR
  go_enter Tryz.func113, Tryz.ntmps113
  go_wp2_with fail
  go_loopw [7] (fun i wr => ∃ k : Nat, k ≤ l.length ∧ i = .int .i64 k ∧ R = riseW (lastW l k) (l.drop k) ∧ Below w.heap.size w wr) (fun i _ => l.length - (intOf i).toNat)
  case atStart => exact ⟨0, Nat.zero_le _, rfl, HRR.out, Below.refl _ _⟩
  case round =>
    obtain ⟨k, hk, rfl, hrk, hbel⟩ := hrel
    clear HRR
    by_cases hlt : k < l.length
    · have hlt2 : (k : Int) < (l.length : Int) := by omega
      have R1 := HR.out.next hbel
      obtain ⟨x0, x1, x2, x3, x4, x5⟩ := R1.cells k hlt
      have hg := R1.lt
      have hsz := HS.out l[k] (List.getElem_mem _)
      obtain ⟨x, hx⟩ : ∃ x, x = l[k] := ⟨_, rfl⟩
      have HX : Hid (x = l[k]) := hx
      rw [← hx] at x0 x1 x2 x3 x4 x5 hsz
      have HW0 := fun W : World => writeOK_any x W hsz
      have hbA : Below wr.heap.size wr (wr.alloc (.cells #[.string x.coll, .int .i64 x.id, .bool x.gone, .int .i64 x.doc.k, .int .i64 x.doc.n, .string x.doc.t] 78)) := (Below.refl _ _).alloc (Nat.le_refl _) _
      have q := newSix wr x 78
      have ql : wr.heap.size < (wr.alloc (.cells #[.string x.coll, .int .i64 x.id, .bool x.gone, .int .i64 x.doc.k, .int .i64 x.doc.n, .string x.doc.t] 78)).heap.size := by simp
      have hbel2 := hbel.trans (hbA.mono hbel.size)
      have hgA : g < (wr.alloc (.cells #[.string x.coll, .int .i64 x.id, .bool x.gone, .int .i64 x.doc.k, .int .i64 x.doc.n, .string x.doc.t] 78)).heap.size := Nat.lt_of_lt_of_le hg hbA.size
      have R2 := R1.next hbA
      clear hx R1
      cases hW : writeB x
      · rw [hW] at HW0
        have HW : Hid (∀ W : World, Calls _ _ _ W _) := HW0
        have hF : R = false := by
          rw [hrk]
          rcases Nat.eq_zero_or_pos k with rfl | h0
          · rw [riseW_first l hlt, ← HX.out, hW, Bool.false_and]
          · rw [riseW_step l k h0 hlt, ← HX.out, hW, Bool.false_and]
        have HF : Hid (R = false) := hF
        clear HW0 hW hrk hF R2
        go_wp2_with fail
        generalize wr.alloc (.cells #[.string x.coll, .int .i64 x.id, .bool x.gone, .int .i64 x.doc.k, .int .i64 x.doc.n, .string x.doc.t] 78) = WA at q ql hbel2 hgA ⊢
        have q0 := fun u => (q u).1
        have q1 := fun u => (q u).2.1
        have q2 := fun u => (q u).2.2.1
        have q3 := fun u => (q u).2.2.2.1
        have q4 := fun u => (q u).2.2.2.2.1
        have q5 := fun u => (q u).2.2.2.2.2
        clear q
        have hnu : Nonempty (Under WA) := ⟨⟨WA, Below.refl _ _⟩⟩
        refine wp_region_under (by kernel_rfl) (by kernel_rfl) ?_
        repeat (go_big_quiet_step ((go_at_call 149; exact calls_under _ (HW.out _))))
        refine wpQuiet_nil ?_
        rintro _ ⟨u, rfl⟩
        go_wp2_with fail
        go_ret
        exact ⟨by rw [HF.out]; rfl, hbel2.trans (u.h.mono hbel2.size)⟩
      · rw [hW] at HW0
        have HW : Hid (∀ W : World, Calls _ _ _ W _) := HW0
        clear HW0
        rcases Nat.eq_zero_or_pos k with rfl | h0
        · rw [riseW_first l hlt, ← HX.out, hW, Bool.true_and] at hrk
          have HC : Hid (R = _) := hrk
          have hd0 : decide ((0 : Int) < ((0 : Nat) : Int)) = false := by decide
          clear hW hrk R2
          go_wp2_with fail
          generalize wr.alloc (.cells #[.string x.coll, .int .i64 x.id, .bool x.gone, .int .i64 x.doc.k, .int .i64 x.doc.n, .string x.doc.t] 78) = WA at q ql hbel2 hgA ⊢
          have q0 := fun u => (q u).1
          have q1 := fun u => (q u).2.1
          have q2 := fun u => (q u).2.2.1
          have q3 := fun u => (q u).2.2.2.1
          have q4 := fun u => (q u).2.2.2.2.1
          have q5 := fun u => (q u).2.2.2.2.2
          clear q
          have hnu : Nonempty (Under WA) := ⟨⟨WA, Below.refl _ _⟩⟩
          refine wp_region_under (by kernel_rfl) (by kernel_rfl) ?_
          repeat (go_big_quiet_step ((go_at_call 149; exact calls_under _ (HW.out _))))
          refine wpQuiet_nil ?_
          rintro _ ⟨u, rfl⟩
          go_wp2_with fail
          go_roundw
          case rel => exact ⟨0 + 1, by omega, by go_num, HC.out, hbel2.trans (u.h.mono hbel2.size)⟩
          case measure => simp [intOf]; omega
        · have h0' : (0 : Int) < (k : Int) := by omega
          have hd0 : decide ((0 : Int) < (k : Int)) = true := decide_eq_true h0'
          have hk1 : k - 1 < l.length := by omega
          rw [riseW_step l k h0 hlt, ← HX.out, hW, Bool.true_and] at hrk
          obtain ⟨y0, y1, y2, y3, y4, y5⟩ := R2.cells (k - 1) hk1
          obtain ⟨y, hy⟩ : ∃ y, y = l[k - 1] := ⟨_, rfl⟩
          rw [← hy] at y0 y1 y2 y3 y4 y5 hrk
          have HC0 := fun W : World => compareWrites_any y x W
          obtain ⟨C, hC⟩ : ∃ C, C = cmpE (ew y) (ew x) := ⟨_, rfl⟩
          rw [← hC] at HC0
          have HC : Hid (∀ W : World, Calls _ _ _ W _) := HC0
          have hL1 : lessE (ew y) (ew x) = true → C < 0 := fun h => by rw [hC]; exact cmpE_neg _ _ h
          have hL2 : lessE (ew y) (ew x) = false → 0 ≤ C := fun h => by rw [hC]; exact cmpE_pos _ _ h
          have HRK : Hid (R = (lessE (ew y) (ew x) && riseW (lastW l (k + 1)) (l.drop (k + 1)))) := hrk
          clear hW HC0 hC hy R2 hrk
          go_wp2_with fail
          generalize wr.alloc (.cells #[.string x.coll, .int .i64 x.id, .bool x.gone, .int .i64 x.doc.k, .int .i64 x.doc.n, .string x.doc.t] 78) = WA at q ql hbel2 hgA y0 y1 y2 y3 y4 y5 ⊢
          have q0 := fun u => (q u).1
          have q1 := fun u => (q u).2.1
          have q2 := fun u => (q u).2.2.1
          have q3 := fun u => (q u).2.2.2.1
          have q4 := fun u => (q u).2.2.2.2.1
          have q5 := fun u => (q u).2.2.2.2.2
          have p0 : ∀ u : Under WA, u.x.cell? ⟨g, (k - 1) * 6, none⟩ = some (.string y.coll) := fun u => (u.h.cell hgA).trans y0
          have p1 : ∀ u : Under WA, u.x.cell? ⟨g, (k - 1) * 6 + 1, none⟩ = some (.int .i64 y.id) := fun u => (u.h.cell hgA).trans y1
          have p2 : ∀ u : Under WA, u.x.cell? ⟨g, (k - 1) * 6 + 2, none⟩ = some (.bool y.gone) := fun u => (u.h.cell hgA).trans y2
          have p3 : ∀ u : Under WA, u.x.cell? ⟨g, (k - 1) * 6 + 3, none⟩ = some (.int .i64 y.doc.k) := fun u => (u.h.cell hgA).trans y3
          have p4 : ∀ u : Under WA, u.x.cell? ⟨g, (k - 1) * 6 + 4, none⟩ = some (.int .i64 y.doc.n) := fun u => (u.h.cell hgA).trans y4
          have p5 : ∀ u : Under WA, u.x.cell? ⟨g, (k - 1) * 6 + 5, none⟩ = some (.string y.doc.t) := fun u => (u.h.cell hgA).trans y5
          clear q y0 y1 y2 y3 y4 y5
          have hnu : Nonempty (Under WA) := ⟨⟨WA, Below.refl _ _⟩⟩
          cases hL : lessE (ew y) (ew x)
          · have hC0 := hL2 hL
            have hF : R = false := by rw [HRK.out, hL, Bool.false_and]
            have HF : Hid (R = false) := hF
            clear hL hL1 hL2 HRK hF
            refine wp_region_under (by kernel_rfl) (by kernel_rfl) ?_
            repeat (go_big_quiet_step ((first | (go_at_call 149; exact calls_under _ (HW.out _)) | (go_at_call 150; exact calls_under _ (HC.out _)))))
            refine wpQuiet_nil ?_
            rintro _ ⟨u, rfl⟩
            go_wp2_with fail
            go_ret
            exact ⟨by rw [HF.out]; rfl, hbel2.trans (u.h.mono hbel2.size)⟩
          · have hC0 := hL1 hL
            have hC1 : ¬ 0 ≤ C := by omega
            have hN : R = riseW (lastW l (k + 1)) (l.drop (k + 1)) := by rw [HRK.out, hL, Bool.true_and]
            have HN : Hid (R = _) := hN
            clear hL hL1 hL2 HRK hN
            refine wp_region_under (by kernel_rfl) (by kernel_rfl) ?_
            repeat (go_big_quiet_step ((first | (go_at_call 149; exact calls_under _ (HW.out _)) | (go_at_call 150; exact calls_under _ (HC.out _)))))
            refine wpQuiet_nil ?_
            rintro _ ⟨u, rfl⟩
            go_wp2_with fail
            go_roundw
            case rel => exact ⟨k + 1, by omega, by go_num, HN.out, hbel2.trans (u.h.mono hbel2.size)⟩
            case measure => simp [intOf]; omega
    · have hlt2 : ¬ (k : Int) < (l.length : Int) := by omega
      have hT : R = true := by rw [hrk, List.drop_of_length_le (by omega), riseW_nil]
      have HT : Hid (R = true) := hT
      clear hrk hT
      go_wp2_with fail
      go_ret
      exact ⟨by rw [HT.out]; rfl, hbel⟩

/-- Is a transaction right, but for how many writes it has. -/
def sesB (n : Int) : Bool := decide (0 ≤ n) && decide (n < 4)
def snpB (n : Int) : Bool := decide (0 ≤ n) && decide (n ≤ 10000)
def txnB (x : Tn) : Bool := sesB x.sn && (snpB x.sp && (decide (x.rs.length ≤ 20) && (x.rs.all okR && wrsB x.cs)))
set_option maxRecDepth 4000 in
set_option maxHeartbeats 1000000 in
theorem sesOK_any (n : Int) (w : World) :
    Calls Tryz.prog 110 #[.int .i64 n] w fun e w' => e = .returned (.bool (sesB n)) ∧ w' = w := by
  unfold sesB
  by_cases h0 : 0 ≤ n
  · rw [decide_eq_true h0, Bool.true_and]
    go_enter Tryz.func110, Tryz.ntmps110
    go_wp2_with fail
    go_ret
    exact ⟨by simp, rfl⟩
  · rw [decide_eq_false h0, Bool.false_and]
    go_enter Tryz.func110, Tryz.ntmps110
    go_wp2_with fail
    go_ret
    exact ⟨rfl, rfl⟩
set_option maxRecDepth 4000 in
set_option maxHeartbeats 2000000 in
theorem txnOK_any (gr gw cr cw bs : Nat) (x : Tn) (w : World) (h1 : MadeRd w bs gr x.rs) (h2 : ReadWs w gw x.cs) (hz : SzTn x.rs x.cs) :
    Calls Tryz.prog 73 #[.agg #[.int .i64 x.sn, .int .i64 x.sp, .slice (some ⟨gr, 0, none⟩) x.rs.length cr, .slice (some ⟨gw, 0, none⟩) x.cs.length cw]] w fun e w' => e = .returned (.bool (txnB x)) ∧ Below w.heap.size w w' := by
  have X0 := BxTn.start w (.int .i64 x.sn) (.int .i64 x.sp) (.slice (some ⟨gr, 0, none⟩) x.rs.length cr) (.slice (some ⟨gw, 0, none⟩) x.cs.length cw) 75
  have HS : Hid (∀ W : World, Calls _ _ _ W _) := fun W => sesOK_any x.sn W
  have HR : Hid (∀ W : World, Below w.heap.size w W → Calls _ _ _ W _) := fun W hW => anyWrongRd_any gr cr bs x.rs W (h1.next hW) hz.r0 hz.r1
  have HW : Hid (∀ W : World, Below w.heap.size w W → Calls _ _ _ W _) := fun W hW => writesOK_any gw cw x.cs W (h2.next hW) hz.s0 hz.s1
  have k0 := X0.c0
  have k1 := X0.c1
  have k2 := X0.c2
  have k3 := X0.c3
  have kl := X0.lt
  have kb := X0.bel
  clear h1 h2 hz
  unfold txnB
  obtain ⟨b0, e0⟩ : ∃ b, b = sesB x.sn := ⟨_, rfl⟩
  obtain ⟨b1, e1⟩ : ∃ b, b = x.rs.all okR := ⟨_, rfl⟩
  obtain ⟨b2, e2⟩ : ∃ b, b = wrsB x.cs := ⟨_, rfl⟩
  rw [← e0] at HS
  rw [← e1] at HR
  rw [← e2] at HW
  rw [← e0, ← e1, ← e2]
  clear e0 e1 e2
  cases b0
  · rw [Bool.false_and]
    go_enter Tryz.func73, Tryz.ntmps73
    go_wp2_with fail
    refine (HS.out _).mono ?_
    rintro e w1 ⟨rfl, rfl⟩
    go_wp2_with fail
    go_ret
    exact ⟨rfl, kb⟩
  rw [Bool.true_and]
  unfold snpB
  by_cases s0 : 0 ≤ x.sp
  case neg =>
    rw [decide_eq_false s0, Bool.false_and, Bool.false_and]
    go_enter Tryz.func73, Tryz.ntmps73
    go_wp2_with fail
    refine (HS.out _).mono ?_
    rintro e w1 ⟨rfl, rfl⟩
    go_wp2_with fail
    go_ret
    exact ⟨rfl, kb⟩
  rw [decide_eq_true s0, Bool.true_and]
  by_cases s1 : x.sp ≤ 10000
  case neg =>
    rw [decide_eq_false s1, Bool.false_and]
    go_enter Tryz.func73, Tryz.ntmps73
    go_wp2_with fail
    refine (HS.out _).mono ?_
    rintro e w1 ⟨rfl, rfl⟩
    go_wp2_with fail
    go_ret
    exact ⟨rfl, kb⟩
  rw [decide_eq_true s1, Bool.true_and]
  by_cases s2 : x.rs.length ≤ 20
  case neg =>
    have s2' : ¬ (x.rs.length : Int) ≤ 20 := by omega
    rw [decide_eq_false s2, Bool.false_and]
    go_enter Tryz.func73, Tryz.ntmps73
    go_wp2_with fail
    refine (HS.out _).mono ?_
    rintro e w1 ⟨rfl, rfl⟩
    go_wp2_with fail
    go_ret
    exact ⟨rfl, kb⟩
  have s2' : (x.rs.length : Int) ≤ 20 := by omega
  rw [decide_eq_true s2, Bool.true_and]
  go_enter Tryz.func73, Tryz.ntmps73
  go_wp2_with fail
  refine (HS.out _).mono ?_
  rintro e w1 ⟨rfl, rfl⟩
  go_wp2_with fail
  refine (HR.out _ X0.bel).mono ?_
  rintro e w2 ⟨rfl, hb⟩
  have X2 := X0.step hb
  have m3 := X2.c3
  have ml := X2.lt
  have mb := X2.bel
  clear hb k0 k1 k2 k3 kl kb HR X0
  cases b1
  · go_wp2_with fail
    go_ret
    exact ⟨rfl, mb⟩
  go_wp2_with fail
  refine (HW.out _ X2.bel).mono ?_
  rintro e w3 ⟨rfl, hb⟩
  have nb := (X2.step hb).bel
  clear hb
  go_wp2_with fail
  go_ret
  exact ⟨by simp, nb⟩

end Go.Proofs.YtpfbepbmiillbaaGreatDoor.Tx

/- Where a collection of a name stands. -/
namespace Go.Proofs.YtpfbepbmiillbaaGreatDoor.Tx
open Go.RowKit Tr Co
set_option linter.unusedVariables false

def namedC (s : ByteArray) (c : Col) : Bool := c.name.toList == s.toList
set_option maxRecDepth 4000 in
set_option maxHeartbeats 1000000 in
theorem namedC_any (s n : ByteArray) (v v2 : Value) (b : Nat) (w : World) (hc : w.cell? ⟨b, 0, none⟩ = some (.string s)) (hb : b < w.heap.size) :
    Calls Tryz.prog 89 #[.agg #[.string n, v, v2], .pointer (some ⟨b, 0, none⟩)] w fun e w' => e = .returned (.bool (n.toList == s.toList)) ∧ Below w.heap.size w w' := by
  go_enter Tryz.func89, Tryz.ntmps89
  go_wp2_with fail
  go_ret
  exact ⟨rfl, by (repeat (first | (with_reducible exact Below.refl _ _) | (with_reducible assumption) | (with_reducible apply below_drewN) | (with_reducible apply Below.drew) | ((with_reducible refine Below.setCell ?_ ?_ _); rotate_left; focus (first | (simp; done) | (simp; omega) | omega)) | ((with_reducible refine Below.alloc ?_ ?_ _); rotate_left; focus (first | (simp; done) | (simp; omega) | omega))))⟩
set_option maxRecDepth 4000 in
set_option maxHeartbeats 1000000 in
theorem idxNamedC_any (s : ByteArray) (b : Nat) (q bs qc : Nat) (l : List Col) (w : World) (hc : w.cell? ⟨b, 0, none⟩ = some (.string s)) (hb : b < w.heap.size) (hr : MadeCs w bs q l) (hl : l.length ≤ 1048576) :
    Calls Tryz.prog 88 #[.slice (some ⟨q, 0, none⟩) l.length qc, .func (.func 89) #[] #[.pointer (some ⟨b, 0, none⟩)]] w fun e w' => (∃ i : Int, e = .returned (.int .i64 i) ∧ FirstAt (namedC s) l i) ∧ Below w.heap.size w w' := by
  have HR : Hid (MadeCs _ _ _ _) := hr
  clear hr
  obtain ⟨P, hP0⟩ : ∃ P : Col → Bool, P = namedC s := ⟨_, rfl⟩
  rw [← hP0]
  have HP0 : Hid _ := hP0
  clear hP0
  go_enter Tryz.func88, Tryz.ntmps88
  go_wp2_with fail
  go_loopw [8] (fun i wr => ∃ k : Nat, k ≤ l.length ∧ i = .int .i64 k ∧ (∀ u ∈ l.take k, P u = false) ∧ Below w.heap.size w wr) (fun i _ => l.length - (intOf i).toNat)
  case atStart => exact ⟨0, Nat.zero_le _, rfl, fun u hu => by simp at hu, Below.refl _ _⟩
  case round =>
    obtain ⟨k, hk, rfl, hall, hbel⟩ := hrel
    have HA : Hid _ := hall
    clear hall
    by_cases hlt : k < l.length
    · have R := HR.out.next hbel
      obtain ⟨gr, gc, ⟨x0, x1, x2⟩, _, _, _⟩ := R.cells k hlt
      have hg := R.lt
      have hlt2 : (k : Int) < (l.length : Int) := by omega
      have HK0 := namedC_any s l[k].name (.slice (some ⟨gr, 0, none⟩) l[k].chs.length l[k].chs.length) (.slice (some ⟨gc, 0, none⟩) l[k].dfs.length l[k].dfs.length) b wr ((hbel.cell hb).trans hc) (Nat.lt_of_lt_of_le hb hbel.size)
      have hPk : P l[k] = (l[k].name.toList == s.toList) := by rw [HP0.out]; rfl
      rw [← hPk] at HK0
      cases hP : P l[k]
      · rw [hP] at HK0
        have HK : Hid (Calls _ _ _ _ _) := HK0
        have HPK : Hid _ := hP
        clear R hP HK0 hPk
        go_wp2_with fail
        refine HK.out.mono ?_
        rintro e w1 ⟨rfl, hb1⟩
        have hb2 := hbel.trans (hb1.mono hbel.size)
        clear hb1 HK
        go_wp2_with fail
        go_roundw
        case rel =>
          refine ⟨k + 1, by omega, by go_num, ?_, hb2⟩
          intro u hu
          rw [List.take_succ_eq_append_getElem hlt] at hu
          rcases List.mem_append.mp hu with h | h
          · exact HA.out u h
          · simp at h; subst h; exact HPK.out
        case measure => simp [intOf]; omega
      · rw [hP] at HK0
        have HK : Hid (Calls _ _ _ _ _) := HK0
        have HPK : Hid _ := hP
        clear R hP HK0 hPk
        go_wp2_with fail
        refine HK.out.mono ?_
        rintro e w1 ⟨rfl, hb1⟩
        have hb2 := hbel.trans (hb1.mono hbel.size)
        clear hb1 HK
        go_wp2_with fail
        go_ret
        exact ⟨⟨k, rfl, .inr ⟨k, hlt, rfl, HPK.out, HA.out⟩⟩, hb2⟩
    · have hlt2 : ¬ (k : Int) < (l.length : Int) := by omega
      go_wp2_with fail
      go_ret
      exact ⟨⟨-1, rfl, .inl ⟨rfl, fun u hu => HA.out u (by rw [List.take_of_length_le (by omega)]; exact hu)⟩⟩, hbel⟩
set_option maxRecDepth 4000 in
set_option maxHeartbeats 1000000 in
theorem collPlace_any (s : ByteArray) (q bs qc : Nat) (l : List Col) (w : World) (hr : MadeCs w bs q l) (hl : l.length ≤ 1048576) :
    Calls Tryz.prog 52 #[.slice (some ⟨q, 0, none⟩) l.length qc, .string s] w fun e w' => (∃ i : Int, e = .returned (.int .i64 i) ∧ FirstAt (namedC s) l i) ∧ Below w.heap.size w w' := by
  have hb0 : Below w.heap.size w (w.alloc (.cells #[.string s] 9)) := (Below.refl _ _).alloc (Nat.le_refl _) _
  have HC : Hid (Calls _ _ _ _ _) := idxNamedC_any s w.heap.size q bs qc l (w.alloc (.cells #[.string s] 9)) (by simp [go_sem]) (by simp) (hr.next hb0) hl
  clear hr
  go_enter Tryz.func52, Tryz.ntmps52
  go_wp2_with fail
  refine HC.out.mono ?_
  rintro e w1 ⟨⟨i, rfl, hi⟩, hb⟩
  have hbw := hb0.trans (hb.mono hb0.size)
  have HF : Hid (FirstAt _ _ _) := hi
  clear hb HC hi
  go_wp2_with fail
  go_ret
  exact ⟨⟨i, rfl, HF.out⟩, hbw⟩
set_option maxRecDepth 4000 in
set_option maxHeartbeats 1000000 in
theorem specPlace_any (s : ByteArray) (q bs qc : Nat) (l : List Col) (w : World) (hr : MadeCs w bs q l) (hl : l.length ≤ 1048576) :
    Calls Tryz.prog 35 #[.slice (some ⟨q, 0, none⟩) l.length qc, .string s] w fun e w' => (∃ i : Int, e = .returned (.int .i64 i) ∧ FirstAt (namedC s) l i) ∧ Below w.heap.size w w' := by
  have HR : Hid (MadeCs _ _ _ _) := hr
  clear hr
  obtain ⟨P, hP0⟩ : ∃ P : Col → Bool, P = namedC s := ⟨_, rfl⟩
  rw [← hP0]
  have HP0 : Hid _ := hP0
  clear hP0
  go_enter Tryz.func35, Tryz.ntmps35
  go_wp2_with fail
  go_loopw [5] (fun i wr => ∃ k : Nat, k ≤ l.length ∧ i = .int .i64 k ∧ (∀ u ∈ l.take k, P u = false) ∧ Below w.heap.size w wr) (fun i _ => l.length - (intOf i).toNat)
  case atStart => exact ⟨0, Nat.zero_le _, rfl, fun u hu => by simp at hu, Below.refl _ _⟩
  case round =>
    obtain ⟨k, hk, rfl, hall, hbel⟩ := hrel
    have HA : Hid _ := hall
    clear hall
    by_cases hlt : k < l.length
    · have R := HR.out.next hbel
      obtain ⟨gr, gc, ⟨x0, x1, x2⟩, _, _, _⟩ := R.cells k hlt
      have hg := R.lt
      have hlt2 : (k : Int) < (l.length : Int) := by omega
      have hPk : P l[k] = (l[k].name.toList == s.toList) := by rw [HP0.out]; rfl
      cases hP : P l[k]
      · rw [hP] at hPk
        have HPK : Hid _ := hP
        have hq := hPk.symm
        clear R hP hPk
        go_wp2_with fail
        go_roundw
        case rel =>
          refine ⟨k + 1, by omega, by go_num, ?_, hbel⟩
          intro u hu
          rw [List.take_succ_eq_append_getElem hlt] at hu
          rcases List.mem_append.mp hu with h | h
          · exact HA.out u h
          · simp at h; subst h; exact HPK.out
        case measure => simp [intOf]; omega
      · rw [hP] at hPk
        have HPK : Hid _ := hP
        have hq := hPk.symm
        clear R hP hPk
        go_wp2_with fail
        go_ret
        exact ⟨⟨k, rfl, .inr ⟨k, hlt, rfl, HPK.out, HA.out⟩⟩, hbel⟩
    · have hlt2 : ¬ (k : Int) < (l.length : Int) := by omega
      go_wp2_with fail
      go_ret
      exact ⟨⟨-1, rfl, .inl ⟨rfl, fun u hu => HA.out u (by rw [List.take_of_length_le (by omega)]; exact hu)⟩⟩, hbel⟩

end Go.Proofs.YtpfbepbmiillbaaGreatDoor.Tx
