/- Whether a store is right: what the specification answers. -/
import Derived.Test.YtpfbepbmiillbaaGreatDoorStoMR
import Derived.BigQuiet
namespace Go.Proofs.YtpfbepbmiillbaaGreatDoor.Tx
open Go.RowKit Tr Co Rea Ce
set_option linter.unusedVariables false

theorem first_uniq {P : Col → Bool} {l : List Col} {a b : Int} (h1 : FirstAt P l a) (h2 : FirstAt P l b) : a = b := by
  rcases h1 with ⟨e1, f1⟩ | ⟨k1, l1, e1, p1, f1⟩
  · rcases h2 with ⟨e2, _⟩ | ⟨k2, l2, e2, p2, _⟩
    · rw [e1, e2]
    · rw [f1 _ (List.getElem_mem l2)] at p2; cases p2
  · rcases h2 with ⟨e2, f2⟩ | ⟨k2, l2, e2, p2, f2⟩
    · rw [f2 _ (List.getElem_mem l1)] at p1; cases p1
    · rcases Nat.lt_trichotomy k1 k2 with h | h | h
      · rw [f2 l[k1] (List.mem_take_iff_getElem.mpr ⟨k1, by omega, rfl⟩)] at p1; cases p1
      · rw [e1, e2, h]
      · rw [f1 l[k2] (List.mem_take_iff_getElem.mpr ⟨k2, by omega, rfl⟩)] at p2; cases p2
theorem first_lt {P : Col → Bool} {l : List Col} {r : Int} (h : FirstAt P l r) : decide (r < 0) = !(l.any P) := by
  rcases h with ⟨rfl, f⟩ | ⟨k, hk, rfl, p, _⟩
  · have : l.any P = false := by rw [Bool.eq_false_iff]; intro hh; obtain ⟨v, hv, hv2⟩ := List.any_eq_true.mp hh; rw [f v hv] at hv2; cases hv2
    rw [this]; rfl
  · have : l.any P = true := List.any_eq_true.mpr ⟨_, List.getElem_mem hk, p⟩
    rw [this]; exact decide_eq_false (by omega)
open Classical in
/-- The place that FirstAt tells. -/
noncomputable def placeN (P : Col → Bool) (l : List Col) : Int := if h : ∃ r, FirstAt P l r then Classical.choose h else 0
theorem placeN_eq {P : Col → Bool} {l : List Col} {r : Int} (h : FirstAt P l r) : placeN P l = r := by
  have hx : ∃ r, FirstAt P l r := ⟨r, h⟩
  unfold placeN
  rw [dif_pos hx]
  exact first_uniq (Classical.choose_spec hx) h
theorem first_has (P : Col → Bool) : ∀ l : List Col, ∃ r, FirstAt P l r
  | [] => ⟨-1, .inl ⟨rfl, fun u hu => by simp at hu⟩⟩
  | x :: l => by
    cases e : P x
    · obtain ⟨r, h⟩ := first_has P l
      rcases h with ⟨_, f⟩ | ⟨k, hk, _, p, f⟩
      · exact ⟨-1, .inl ⟨rfl, fun u hu => by rcases List.mem_cons.mp hu with rfl | hu; exact e; exact f u hu⟩⟩
      · refine ⟨_, .inr ⟨k + 1, by simp; omega, rfl, by simpa using p, fun u hu => ?_⟩⟩
        rw [List.take_succ_cons] at hu
        rcases List.mem_cons.mp hu with rfl | hu
        · exact e
        · exact f u hu
    · exact ⟨_, .inr ⟨0, by simp, rfl, by simpa using e, fun u hu => by simp at hu⟩⟩
theorem placeN_lt (P : Col → Bool) (l : List Col) : decide (placeN P l < 0) = !(l.any P) := by
  obtain ⟨r, h⟩ := first_has P l
  rw [placeN_eq h]; exact first_lt h
theorem placeN_run (s : ByteArray) (q bs qc : Nat) (l : List Col) (w : World) (hr : MadeCs w bs q l) (hl : l.length ≤ 1048576) :
    Calls Tryz.prog 35 #[.slice (some ⟨q, 0, none⟩) l.length qc, .string s] w fun e w' => e = .returned (.int .i64 (placeN (namedC s) l)) ∧ Below w.heap.size w w' :=
  (specPlace_any s q bs qc l w hr hl).mono fun _ _ ⟨⟨i, he, hf⟩, hb⟩ => ⟨by rw [he, placeN_eq hf], hb⟩
def ofL (cs : List Col) (l : List Wrt) : Bool := l.all fun y => cs.any (namedC y.coll)
theorem ofL_step (cs : List Col) (l : List Wrt) (k : Nat) (h : k < l.length) : ofL cs (l.drop k) = (cs.any (namedC l[k].coll) && ofL cs (l.drop (k + 1))) := by
  rw [List.drop_eq_getElem_cons h]; rfl
theorem ofL_end (cs : List Col) (l : List Wrt) (k : Nat) (h : l.length ≤ k) : ofL cs (l.drop k) = true := by
  rw [List.drop_of_length_le h]; rfl
theorem tmE_at (l : List Ver) (m : Nat) (h : l.length = m + 1) : tmE l = (l[m]'(by omega)).tm := by
  have e : l.length - 1 = m := by omega
  unfold tmE; rw [e, List.getElem?_eq_getElem (show m < l.length by omega)]
theorem endD_at (c : Int) (l : List Dn) (m : Nat) (h : l.length = m + 1) : endD c l = decide ((l[m]'(by omega)).at_ ≤ c) := by
  have e : l.length - 1 = m := by omega
  unfold endD; rw [e, List.getElem?_eq_getElem (show m < l.length by omega)]
theorem endD_nil (c : Int) (l : List Dn) (h : l.length = 0) : endD c l = true := by
  have : l = [] := List.eq_nil_of_length_eq_zero h
  subst this; rfl

set_option maxRecDepth 8000 in
set_option maxHeartbeats 8000000 in
theorem specStore_any (bs gc gt gd cc ct cd : Nat) (s : Sto) (w : World) (hm : MadeSto w bs gc gt gd s) (hz : SzSto s) :
    Calls Tryz.prog 9 #[.agg #[.slice (some ⟨gc, 0, none⟩) s.cs.length cc, .slice (some ⟨gt, 0, none⟩) s.ts.length ct, .slice (some ⟨gd, 0, none⟩) s.ds.length cd, .int .i64 s.clk]] w fun e w' => e = .returned (.bool (speB s)) ∧ Below w.heap.size w w' := by
  have X0 := BxTn.start w (.slice (some ⟨gc, 0, none⟩) s.cs.length cc) (.slice (some ⟨gt, 0, none⟩) s.ts.length ct) (.slice (some ⟨gd, 0, none⟩) s.ds.length cd) (.int .i64 s.clk) 33
  have HM : Hid (MadeSto _ _ _ _ _ _) := hm
  have HZ : Hid (SzSto s) := hz
  have hl0 := hz.c0
  have hl1 := hz.t0
  have hl2 := hz.d0
  have HI0 := fun W : World => l01In_any s.clk 0 10000 W
  have HC0 := fun (W : World) (hW : Below w.heap.size w W) => specColls_any gc cc bs s.cs W (hm.c.next hW) hz.c0 hz.c1
  have HD0 := fun (W : World) (hW : Below w.heap.size w W) => l09Dones_any gd cd bs s.ds W (hm.d.next hW) hz.d0 hz.d1
  clear hm hz
  obtain ⟨R, hR⟩ : ∃ R, R = speB s := ⟨_, rfl⟩
  rw [← hR]
  unfold speB at hR
  obtain ⟨A, hA⟩ : ∃ A, A = decide (0 ≤ s.clk ∧ s.clk ≤ 10000) := ⟨_, rfl⟩
  obtain ⟨C, hC⟩ : ∃ C, C = (decide (s.cs.length ≤ 3) && colsB s.cs) := ⟨_, rfl⟩
  obtain ⟨D, hD⟩ : ∃ D, D = donesB s.ds := ⟨_, rfl⟩
  obtain ⟨Q, hQ⟩ : ∃ Q, Q = (txsG s.clk s.cs (-1) s.ts && endD s.clk s.ds) := ⟨_, rfl⟩
  rw [← hA, ← hC, ← hD, ← hQ] at hR
  rw [← hA] at HI0
  rw [← hC] at HC0
  rw [← hD] at HD0
  have HCOL : Hid (C = true → colsB s.cs = true) := fun h => by rw [hC, Bool.and_eq_true] at h; exact h.2
  have HQQ : Hid (Q = (txsG s.clk s.cs (-1) s.ts && endD s.clk s.ds)) := hQ
  have HR : Hid (R = _) := hR
  have HI : Hid (∀ W : World, Calls _ _ _ W _) := HI0
  have HC : Hid (∀ W : World, Below w.heap.size w W → Calls _ _ _ W _) := HC0
  have HD : Hid (∀ W : World, Below w.heap.size w W → Calls _ _ _ W _) := HD0
  clear hR hA hC hD hQ HI0 HC0 HD0
  obtain ⟨kb, kl, k0, k1, k2, k3⟩ := id X0
  go_enter Tryz.func9, Tryz.ntmps9
  go_wp2_with fail
  refine (HI.out _).mono ?_
  rintro e w1 ⟨rfl, rfl⟩
  cases A
  · have HF : Hid (R = false) := by show R = false; rw [HR.out, Bool.false_and]
    clear HR
    go_wp2_with fail
    go_ret
    exact ⟨by rw [HF.out]; rfl, kb⟩
  by_cases s2 : 0 < s.cs.length
  case neg =>
    have e2 : (s.cs.length : Int) = 0 := by omega
    have HF : Hid (R = false) := by show R = false; rw [HR.out, decide_eq_false s2, Bool.true_and, Bool.false_and]
    clear HR s2
    go_wp2_with fail
    go_ret
    exact ⟨by rw [HF.out]; rfl, kb⟩
  have e2 : ¬ (s.cs.length : Int) = 0 := by omega
  have e3 : ¬ s.cs.length = 0 := by omega
  have e5 : decide ((s.cs.length : Int) = 0) = false := decide_eq_false e2
  have e6 : ((s.cs.length : Int) == 0) = false := by rw [beq_eq_false_iff_ne]; exact e2
  have HR2 : Hid (R = (C && (decide (s.ts.length ≤ 4) && (D && (oldK s.clk s.cs && Q))))) := by show R = _; rw [HR.out, decide_eq_true s2, Bool.true_and, Bool.true_and]
  clear HR s2
  go_wp2_with fail
  refine (HC.out _ kb).mono ?_
  rintro e w2 ⟨rfl, hb⟩
  have X2 := X0.step hb
  clear hb kb kl k0 k1 k2 k3 X0 HC HI
  obtain ⟨kb, kl, k0, k1, k2, k3⟩ := id X2
  cases C
  · have HF : Hid (R = false) := by show R = false; rw [HR2.out, Bool.false_and]
    clear HR2
    go_wp2_with fail
    go_ret
    exact ⟨by rw [HF.out]; rfl, kb⟩
  have HCO : Hid (colsB s.cs = true) := HCOL.out rfl
  by_cases s4 : s.ts.length ≤ 4
  case neg =>
    have e4 : (4 : Int) < (s.ts.length : Int) := by omega
    have HF : Hid (R = false) := by show R = false; rw [HR2.out, decide_eq_false s4, Bool.true_and, Bool.false_and]
    clear HR2 s4
    go_wp2_with fail
    go_ret
    exact ⟨by rw [HF.out]; rfl, kb⟩
  have e4 : ¬ (4 : Int) < (s.ts.length : Int) := by omega
  have HR3 : Hid (R = (D && (oldK s.clk s.cs && Q))) := by show R = _; rw [HR2.out, decide_eq_true s4, Bool.true_and, Bool.true_and]
  clear HR2 s4 HCOL
  go_wp2_with fail
  refine (HD.out _ kb).mono ?_
  rintro e w3 ⟨rfl, hb⟩
  have X3 := X2.step hb
  clear hb kb kl k0 k1 k2 k3 X2 HD
  obtain ⟨kb, kl, k0, k1, k2, k3⟩ := id X3
  cases D
  · have HF : Hid (R = false) := by show R = false; rw [HR3.out, Bool.false_and]
    clear HR3
    go_wp2_with fail
    go_ret
    exact ⟨by rw [HF.out]; rfl, kb⟩
  have HR4 : Hid (R = (oldK s.clk (s.cs.drop 0) && Q)) := by show R = _; rw [HR3.out, Bool.true_and]; rfl
  clear HR3
  go_wp2_with fail
  clear kb kl k0 k1 k2 k3 e2 e4 e3 e5 e6
  go_loopw [3] (fun i wr => ∃ k : Nat, k ≤ s.cs.length ∧ i = .int .i64 k ∧ R = (oldK s.clk (s.cs.drop k) && Q) ∧ BxTn w wr (.slice (some ⟨gc, 0, none⟩) s.cs.length cc) (.slice (some ⟨gt, 0, none⟩) s.ts.length ct) (.slice (some ⟨gd, 0, none⟩) s.ds.length cd) (.int .i64 s.clk)) (fun i _ => s.cs.length - (intOf i).toNat)
  case atStart => exact ⟨0, Nat.zero_le _, rfl, HR4.out, X3⟩
  case round =>
    obtain ⟨k, hk, rfl, hrk, X⟩ := hrel
    clear HR4 X3
    have hbel := X.bel
    obtain ⟨_, kl, k0, k1, k2, k3⟩ := id X
    by_cases hlt : k < s.cs.length
    · have hlt2 : (k : Int) < (s.cs.length : Int) := by omega
      have R1 := HM.out.c.next hbel
      obtain ⟨gr, g2, ⟨x0, x1, x2⟩, hch, _, _⟩ := R1.cells k hlt
      have hg := R1.lt
      have hsz := HZ.out.c1 _ (List.getElem_mem hlt)
      have HN : Hid (∀ y ∈ s.cs[k].chs, 1 ≤ y.vs.length ∧ nwT y.vs = tmE y.vs) := cols_chn s.cs HCO.out s.cs[k] (List.getElem_mem hlt)
      rw [oldK_step s.clk s.cs k hlt, Bool.and_assoc] at hrk
      obtain ⟨Q1, hQ1⟩ : ∃ Q1, Q1 = (oldK s.clk (s.cs.drop (k + 1)) && Q) := ⟨_, rfl⟩
      rw [← hQ1] at hrk
      have HQ1 : Hid (Q1 = _) := hQ1
      obtain ⟨c, hc⟩ : ∃ c, c = s.cs[k] := ⟨_, rfl⟩
      rw [← hc] at x0 x1 x2 hch hsz HN hrk
      have HR1 : Hid (R = (oldC s.clk (c.chs.drop 0) && Q1)) := hrk
      have HCC : Hid (ReadCc _ _ _) := hch.readCc
      have hl3 := hsz.chl
      have HSC : Hid (∀ v ∈ c.chs, szCh v) := hsz.chs
      clear R1 hch hsz hrk hQ1 hc hbel
      go_wp2_with fail
      generalize hWW : wr = WA at X HCC x0 x1 x2 hg k0 k1 k2 k3 kl ⊢
      clear hWW
      go_loopw [4] (fun i wq => ∃ j : Nat, j ≤ c.chs.length ∧ i = .int .i64 j ∧ R = (oldC s.clk (c.chs.drop j) && Q1) ∧ Below WA.heap.size WA wq) (fun i _ => c.chs.length - (intOf i).toNat)
      case atStart => exact ⟨0, Nat.zero_le _, rfl, HR1.out, Below.refl _ _⟩
      case round =>
        obtain ⟨j, hj, rfl, hrj, hbl⟩ := hrel
        clear HR1
        have X4 := X.step hbl
        have y1 := (hbl.cell hg).trans x1
        clear k0 k1 k2 k3 kl x0 x1 x2
        obtain ⟨_, kl, k0, k1, k2, k3⟩ := id X4
        have hg4 := Nat.lt_of_lt_of_le hg hbl.size
        by_cases hjt : j < c.chs.length
        · have hjt2 : (j : Int) < (c.chs.length : Int) := by omega
          have R2 := HCC.out.next hbl
          obtain ⟨z0, pv, cv, z1, hcv, hin⟩ := R2.cells j hjt
          have hg2 := R2.lt
          have hne := (HN.out _ (List.getElem_mem hjt)).1
          have hlv := (HSC.out _ (List.getElem_mem hjt)).1
          rw [oldC_step s.clk c.chs j hjt] at hrj
          obtain ⟨h, hh⟩ : ∃ h, h = c.chs[j] := ⟨_, rfl⟩
          rw [← hh] at z0 z1 hcv hin hne hrj hlv
          obtain ⟨m, hm⟩ : ∃ m, h.vs.length = m + 1 := ⟨h.vs.length - 1, by omega⟩
          rcases hin with h0 | ⟨b, off, rfl, hblt, hcell⟩
          · omega
          have v0 := (hcell m (by omega)).1
          rw [tmE_at h.vs m hm] at hrj
          have hml : (m : Int) < (h.vs.length : Int) := by omega
          have hks : (h.vs.length : Int) - 1 = (m : Int) := by omega
          obtain ⟨z, hzz⟩ : ∃ z, z = (h.vs[m]'(by omega)).tm := ⟨_, rfl⟩
          rw [← hzz] at v0 hrj
          have HRJ : Hid (R = _) := hrj
          clear hcell hh hzz R2 hrj hne hcv
          have HL : Hid (h.vs.length = m + 1) := hm
          clear hm
          have hnu : Nonempty (Under wr) := ⟨⟨wr, Below.refl _ _⟩⟩
          have a3 : ∀ u : Under wr, u.x.cell? ⟨w.heap.size, 3, none⟩ = some (.int .i64 s.clk) := fun u => (u.h.cell X4.lt).trans X4.c3
          have p0 : ∀ u : Under wr, u.x.cell? ⟨b, off + m * 5, none⟩ = some (.int .i64 z) := fun u => (u.h.cell hblt).trans v0
          by_cases t1 : z ≤ s.clk
          · have t2 : decide (s.clk < z) = false := decide_eq_false (by omega)
            have HN2 : Hid (R = (oldC s.clk (c.chs.drop (j + 1)) && Q1)) := by show R = _; rw [HRJ.out, decide_eq_true t1, Bool.true_and]
            clear HRJ t1
            go_wp2_with fail
            refine wp_region_under (by kernel_rfl) (by kernel_rfl) ?_
            repeat (go_big_quiet_step (fail))
            refine wpQuiet_nil ?_
            rintro _ ⟨u, rfl⟩
            have hbw := hbl.trans (u.h.mono hbl.size)
            go_wp2_with fail
            go_roundw
            case rel => exact ⟨j + 1, by omega, by go_num, HN2.out, hbw⟩
            case measure => simp [intOf]; omega
          · have t2 : decide (s.clk < z) = true := decide_eq_true (by omega)
            have HF : Hid (R = false) := by show R = _; rw [HRJ.out, decide_eq_false t1, Bool.false_and, Bool.false_and]
            clear HRJ t1
            go_wp2_with fail
            refine wp_region_under (by kernel_rfl) (by kernel_rfl) ?_
            repeat (go_big_quiet_step (fail))
            refine wpQuiet_nil ?_
            rintro _ ⟨u, rfl⟩
            have hbw := (X4.step u.h).bel
            go_wp2_with fail
            go_ret
            exact ⟨by rw [HF.out]; rfl, hbw⟩
        · have hjt2 : ¬ (j : Int) < (c.chs.length : Int) := by omega
          rw [oldC_end s.clk c.chs j (by omega), Bool.true_and] at hrj
          have HN2 : Hid (R = (oldK s.clk (s.cs.drop (k + 1)) && Q)) := by show R = _; rw [hrj]; exact HQ1.out
          clear hrj
          go_wp2_with fail
          go_roundw
          case rel => exact ⟨k + 1, by omega, by go_num, HN2.out, X4⟩
          case measure => simp [intOf]; omega
    · have hlt2 : ¬ (k : Int) < (s.cs.length : Int) := by omega
      obtain ⟨E, hE⟩ : ∃ E, E = endD s.clk s.ds := ⟨_, rfl⟩
      have HR5 : Hid (R = (txsG s.clk s.cs (lastS s.ts 0) (s.ts.drop 0) && E)) := by show R = _; rw [hrk, oldK_end s.clk s.cs k (by omega), Bool.true_and, HQQ.out, hE]; rfl
      have HE : Hid (E = endD s.clk s.ds) := hE
      clear hrk hE HQQ hbel
      go_wp2_with fail
      clear kl k0 k1 k2 k3
      generalize hWW : wr = W1 at X ⊢
      clear hWW hlt2 hlt hk
      go_loopw [6] (fun i wr => ∃ k : Nat, k ≤ s.ts.length ∧ i = .int .i64 k ∧ R = (txsG s.clk s.cs (lastS s.ts k) (s.ts.drop k) && E) ∧ BxTn w wr (.slice (some ⟨gc, 0, none⟩) s.cs.length cc) (.slice (some ⟨gt, 0, none⟩) s.ts.length ct) (.slice (some ⟨gd, 0, none⟩) s.ds.length cd) (.int .i64 s.clk)) (fun i _ => s.ts.length - (intOf i).toNat)
      case atStart => exact ⟨0, Nat.zero_le _, rfl, HR5.out, X⟩
      case round =>
        obtain ⟨k, hk, rfl, hrk, X5⟩ := hrel
        clear HR5 X
        have hbel := X5.bel
        obtain ⟨_, kl, k0, k1, k2, k3⟩ := id X5
        have hnu : Nonempty (Under wr) := ⟨⟨wr, Below.refl _ _⟩⟩
        by_cases hlt : k < s.ts.length
        · have hlt2 : (k : Int) < (s.ts.length : Int) := by omega
          have R1 := HM.out.t.next hbel
          obtain ⟨gr, gw, ⟨x0, x1, x2, x3⟩, u0, u1, _⟩ := R1.cells k hlt
          have hg1 := R1.lt
          have hsk := HZ.out.t1 _ (List.getElem_mem hlt)
          rw [txsG_step s.clk s.cs s.ts k hlt] at hrk
          have HLA : Hid (lastS s.ts (k + 1) = s.ts[k].sn) := lastS_succ s.ts k hlt
          have hlast : (k = 0 ∧ lastS s.ts k = -1) ∨ ∃ m, k = m + 1 ∧ wr.cell? ⟨gt, m * 4, none⟩ = some (.int .i64 (lastS s.ts k)) := by
            cases k with
            | zero => exact .inl ⟨rfl, rfl⟩
            | succ m =>
              obtain ⟨_, _, ⟨e1, _⟩, _⟩ := R1.cells m (by omega)
              exact .inr ⟨m, rfl, by rw [lastS_succ s.ts m (by omega)]; exact e1⟩
          obtain ⟨z, hz⟩ : ∃ z, z = lastS s.ts k := ⟨_, rfl⟩
          rw [← hz] at hrk hlast
          obtain ⟨x, hx⟩ : ∃ x, x = s.ts[k] := ⟨_, rfl⟩
          rw [← hx] at x0 x1 x2 x3 u0 u1 hsk hrk HLA
          have HC0 := fun (W : World) (hW : Below wr.heap.size wr W) => specTxn_any gr gw x.rs.length x.cs.length bs x W (u0.next hW) (u1.next hW) hsk
          obtain ⟨T, hT⟩ : ∃ T, T = (txnB x && smallW x) := ⟨_, rfl⟩
          rw [← hT] at HC0 hrk
          have HPOS : Hid (T = true → 0 ≤ x.sn) := fun h => by
            rw [hT, Bool.and_eq_true] at h
            have h1 := h.1
            unfold txnB sesB at h1
            simp only [Bool.and_eq_true, decide_eq_true_eq] at h1
            exact h1.1.1
          have HC : Hid (∀ W : World, Below wr.heap.size wr W → Calls _ _ _ W _) := HC0
          have HWS : Hid (ReadWs wr gw x.cs) := u1
          have hl5 := hsk.s0
          have HRK : Hid (R = _) := hrk
          clear hz hx R1 u0 u1 hsk hrk HC0 hT
          have a0 : ∀ u : Under wr, u.x.cell? ⟨w.heap.size, 0, none⟩ = some (.slice (some ⟨gc, 0, none⟩) s.cs.length cc) := fun u => (u.h.cell X5.lt).trans X5.c0
          have a1 : ∀ u : Under wr, u.x.cell? ⟨w.heap.size, 1, none⟩ = some (.slice (some ⟨gt, 0, none⟩) s.ts.length ct) := fun u => (u.h.cell X5.lt).trans X5.c1
          have a3 : ∀ u : Under wr, u.x.cell? ⟨w.heap.size, 3, none⟩ = some (.int .i64 s.clk) := fun u => (u.h.cell X5.lt).trans X5.c3
          have q0 : ∀ u : Under wr, u.x.cell? ⟨gt, k * 4, none⟩ = some (.int .i64 x.sn) := fun u => (u.h.cell hg1).trans x0
          have q1 : ∀ u : Under wr, u.x.cell? ⟨gt, k * 4 + 1, none⟩ = some (.int .i64 x.sp) := fun u => (u.h.cell hg1).trans x1
          have q2 : ∀ u : Under wr, u.x.cell? ⟨gt, k * 4 + 2, none⟩ = some (.slice (some ⟨gr, 0, none⟩) x.rs.length x.rs.length) := fun u => (u.h.cell hg1).trans x2
          have q3 : ∀ u : Under wr, u.x.cell? ⟨gt, k * 4 + 3, none⟩ = some (.slice (some ⟨gw, 0, none⟩) x.cs.length x.cs.length) := fun u => (u.h.cell hg1).trans x3
          cases T
          · have HF : Hid (R = false) := by show R = _; rw [HRK.out, Bool.false_and, Bool.false_and]
            clear HRK hlast HPOS
            go_wp2_with fail
            refine wp_region_under (by kernel_rfl) (by kernel_rfl) ?_
            repeat (go_big_quiet_step ((go_at_call 34; exact calls_under _ (HC.out _ (Under.h _)))))
            refine wpQuiet_nil ?_
            rintro _ ⟨u, rfl⟩
            have hbw := (X5.step u.h).bel
            go_wp2_with fail
            go_ret
            exact ⟨by rw [HF.out]; rfl, hbw⟩
          have hpos := HPOS.out rfl
          by_cases p1 : x.sp ≤ s.clk
          case neg =>
            have p2 : decide (s.clk < x.sp) = true := decide_eq_true (by omega)
            have HF : Hid (R = false) := by show R = _; rw [HRK.out, decide_eq_false p1, Bool.true_and, Bool.false_and, Bool.false_and]
            clear HRK hlast HPOS p1 hpos
            go_wp2_with fail
            refine wp_region_under (by kernel_rfl) (by kernel_rfl) ?_
            repeat (go_big_quiet_step ((go_at_call 34; exact calls_under _ (HC.out _ (Under.h _)))))
            refine wpQuiet_nil ?_
            rintro _ ⟨u, rfl⟩
            have hbw := (X5.step u.h).bel
            go_wp2_with fail
            go_ret
            exact ⟨by rw [HF.out]; rfl, hbw⟩
          have p2 : decide (s.clk < x.sp) = false := decide_eq_false (by omega)
          by_cases t1 : z < x.sn
          case neg =>
            have HF : Hid (R = false) := by show R = _; rw [HRK.out, decide_eq_true p1, decide_eq_false t1]; simp
            rcases hlast with ⟨hk0, hz0⟩ | ⟨m, hkm, hcm⟩
            · omega
            have hkn : decide ((0 : Int) < (k : Int)) = true := decide_eq_true (by omega)
            have hkn2 : decide (0 < k) = true := decide_eq_true (by omega)
            have hks : (k : Int) - 1 = (m : Int) := by omega
            have hml : (m : Int) < (s.ts.length : Int) := by omega
            have hzi' : decide (x.sn ≤ z) = true := decide_eq_true (by omega)
            have r0 : ∀ u : Under wr, u.x.cell? ⟨gt, m * 4, none⟩ = some (.int .i64 z) := fun u => (u.h.cell hg1).trans hcm
            clear HRK HPOS hkm hcm t1 hpos p1
            go_wp2_with fail
            refine wp_region_under (by kernel_rfl) (by kernel_rfl) ?_
            repeat (go_big_quiet_step ((go_at_call 34; exact calls_under _ (HC.out _ (Under.h _)))))
            refine wpQuiet_nil ?_
            rintro _ ⟨u, rfl⟩
            have hbw := (X5.step u.h).bel
            go_wp2_with fail
            go_ret
            exact ⟨by rw [HF.out]; rfl, hbw⟩
          have hzi' : decide (x.sn ≤ z) = false := decide_eq_false (by omega)
          have hsplit : (decide ((0 : Int) < (k : Int)) = false ∧ decide (0 < k) = false) ∨ ∃ m : Nat, (decide ((0 : Int) < (k : Int)) = true ∧ decide (0 < k) = true) ∧ (k : Int) - 1 = (m : Int) ∧ (m : Int) < (s.ts.length : Int) ∧ ∀ u : Under wr, u.x.cell? ⟨gt, m * 4, none⟩ = some (.int .i64 z) := by
            rcases hlast with ⟨hk0, _⟩ | ⟨m, hkm, hcm⟩
            · exact .inl ⟨decide_eq_false (by omega), decide_eq_false (by omega)⟩
            · exact .inr ⟨m, ⟨decide_eq_true (by omega), decide_eq_true (by omega)⟩, by omega, by omega, fun u => (u.h.cell hg1).trans hcm⟩
          obtain ⟨Q2, hQ2⟩ : ∃ Q2, Q2 = (txsG s.clk s.cs (lastS s.ts (k + 1)) (s.ts.drop (k + 1)) && E) := ⟨_, rfl⟩
          have HR6 : Hid (R = (ofL s.cs (x.cs.drop 0) && Q2)) := by show R = _; rw [HRK.out, decide_eq_true p1, decide_eq_true t1, Bool.true_and, Bool.true_and, Bool.true_and, hQ2, Bool.and_assoc]; rfl
          have HQ2 : Hid (Q2 = _) := hQ2
          clear hlast HRK HPOS t1 hpos p1 hQ2 HLA
          rcases hsplit with ⟨hkn, hkn2⟩ | ⟨m, ⟨hkn, hkn2⟩, hks, hml, r0⟩
          all_goals
            go_wp2_with fail
            refine wp_region_under (by kernel_rfl) (by kernel_rfl) ?_
            repeat (go_big_quiet_step ((go_at_call 34; exact calls_under _ (HC.out _ (Under.h _)))))
            refine wpQuiet_nil ?_
            rintro _ ⟨u, rfl⟩
            have X6 := X5.step u.h
            have HW6 : Hid (ReadWs u.x gw x.cs) := HWS.out.next u.h
            have hg6 : gt < u.x.heap.size := Nat.lt_of_lt_of_le hg1 u.h.size
            have y3 := q3 u
            generalize u.x = W6 at X6 HW6 hg6 y3 ⊢
            clear a0 a1 a3 q0 q1 q2 q3 x0 x1 x2 x3 kl k0 k1 k2 k3 hbel HWS HC hnu hg1 u hzi' p2 hkn hkn2
            try clear r0 hks hml
            go_wp2_with fail
            go_loopw [7] (fun i wq => ∃ j : Nat, j ≤ x.cs.length ∧ i = .int .i64 j ∧ R = (ofL s.cs (x.cs.drop j) && Q2) ∧ Below W6.heap.size W6 wq) (fun i _ => x.cs.length - (intOf i).toNat)
            case atStart => exact ⟨0, Nat.zero_le _, rfl, HR6.out, Below.refl _ _⟩
            case round =>
              obtain ⟨j, hj, rfl, hrj, hbl⟩ := hrel
              clear HR6
              have X7 := X6.step hbl
              have b3 := (hbl.cell hg6).trans y3
              have hg7 := Nat.lt_of_lt_of_le hg6 hbl.size
              obtain ⟨_, kl, k0, k1, k2, k3⟩ := id X7
              have hnu : Nonempty (Under wr) := ⟨⟨wr, Below.refl _ _⟩⟩
              by_cases hjt : j < x.cs.length
              · have hjt2 : (j : Int) < (x.cs.length : Int) := by omega
                have R2 := HW6.out.next hbl
                have v0 := (R2.cells j hjt).1
                have hg8 := R2.lt
                rw [ofL_step s.cs x.cs j hjt] at hrj
                obtain ⟨y, hy⟩ : ∃ y, y = x.cs[j] := ⟨_, rfl⟩
                rw [← hy] at v0 hrj
                have hpl := placeN_lt (namedC y.coll) s.cs
                have HP0 := fun u : Under wr => placeN_run y.coll gc bs cc s.cs u.x (HM.out.c.next (X7.step u.h).bel) hl0
                obtain ⟨P, hP⟩ : ∃ P, P = placeN (namedC y.coll) s.cs := ⟨_, rfl⟩
                rw [← hP] at hpl HP0
                have HP : Hid (∀ u : Under wr, Calls _ _ _ u.x _) := HP0
                have HRJ : Hid (R = _) := hrj
                clear hy hP R2 HP0 hrj
                have a0 : ∀ u : Under wr, u.x.cell? ⟨w.heap.size, 0, none⟩ = some (.slice (some ⟨gc, 0, none⟩) s.cs.length cc) := fun u => (u.h.cell X7.lt).trans X7.c0
                have a1 : ∀ u : Under wr, u.x.cell? ⟨w.heap.size, 1, none⟩ = some (.slice (some ⟨gt, 0, none⟩) s.ts.length ct) := fun u => (u.h.cell X7.lt).trans X7.c1
                have p0 : ∀ u : Under wr, u.x.cell? ⟨gw, j * 6, none⟩ = some (.string y.coll) := fun u => (u.h.cell hg8).trans v0
                have p3 : ∀ u : Under wr, u.x.cell? ⟨gt, k * 4 + 3, none⟩ = some (.slice (some ⟨gw, 0, none⟩) x.cs.length x.cs.length) := fun u => (u.h.cell hg7).trans b3
                cases hG : s.cs.any (namedC y.coll)
                · rw [hG] at hpl
                  have HF : Hid (R = false) := by show R = _; rw [HRJ.out, hG, Bool.false_and, Bool.false_and]
                  have hpl2 : decide (P < 0) = true := hpl
                  clear HRJ hG hpl
                  go_wp2_with fail
                  refine wp_region_under (by kernel_rfl) (by kernel_rfl) ?_
                  repeat (go_big_quiet_step ((go_at_call 35; exact calls_under _ (HP.out _))))
                  refine wpQuiet_nil ?_
                  rintro _ ⟨u, rfl⟩
                  have hbw := (X7.step u.h).bel
                  go_wp2_with fail
                  go_ret
                  exact ⟨by rw [HF.out]; rfl, hbw⟩
                · rw [hG] at hpl
                  have HN2 : Hid (R = (ofL s.cs (x.cs.drop (j + 1)) && Q2)) := by show R = _; rw [HRJ.out, hG, Bool.true_and]
                  have hpl2 : decide (P < 0) = false := hpl
                  clear HRJ hG hpl
                  go_wp2_with fail
                  refine wp_region_under (by kernel_rfl) (by kernel_rfl) ?_
                  repeat (go_big_quiet_step ((go_at_call 35; exact calls_under _ (HP.out _))))
                  refine wpQuiet_nil ?_
                  rintro _ ⟨u, rfl⟩
                  have hbw := hbl.trans (u.h.mono hbl.size)
                  go_wp2_with fail
                  go_roundw
                  case rel => exact ⟨j + 1, by omega, by go_num, HN2.out, hbw⟩
                  case measure => simp [intOf]; omega
              · have hjt2 : ¬ (j : Int) < (x.cs.length : Int) := by omega
                rw [ofL_end s.cs x.cs j (by omega), Bool.true_and] at hrj
                have HN2 : Hid (R = (txsG s.clk s.cs (lastS s.ts (k + 1)) (s.ts.drop (k + 1)) && E)) := by show R = _; rw [hrj]; exact HQ2.out
                clear hrj
                go_wp2_with fail
                go_roundw
                case rel => exact ⟨k + 1, by omega, by go_num, HN2.out, X7⟩
                case measure => simp [intOf]; omega
        · have hlt2 : ¬ (k : Int) < (s.ts.length : Int) := by omega
          have HR7 : Hid (R = E) := by show R = _; rw [hrk, txsG_end s.clk s.cs _ s.ts k (by omega), Bool.true_and]
          clear hrk
          have a2 : ∀ u : Under wr, u.x.cell? ⟨w.heap.size, 2, none⟩ = some (.slice (some ⟨gd, 0, none⟩) s.ds.length cd) := fun u => (u.h.cell X5.lt).trans X5.c2
          have a3 : ∀ u : Under wr, u.x.cell? ⟨w.heap.size, 3, none⟩ = some (.int .i64 s.clk) := fun u => (u.h.cell X5.lt).trans X5.c3
          rcases Nat.eq_zero_or_pos s.ds.length with h0 | h0
          · have d0 : decide ((s.ds.length : Int) = 0) = true := decide_eq_true (by omega)
            have d1 : ((s.ds.length : Int) == 0) = true := by rw [h0]; rfl
            have d2 : decide (s.ds.length = 0) = true := decide_eq_true h0
            have d3 : (s.ds.length == 0) = true := by rw [h0]; rfl
            have HF : Hid (R = true) := by show R = _; rw [HR7.out, HE.out, endD_nil s.clk s.ds h0]
            clear HR7 h0
            go_wp2_with fail
            refine wp_region_under (by kernel_rfl) (by kernel_rfl) ?_
            repeat (go_big_quiet_step (fail))
            refine wpQuiet_nil ?_
            rintro _ ⟨u, rfl⟩
            have hbw := (X5.step u.h).bel
            go_wp2_with fail
            go_ret
            exact ⟨by rw [HF.out]; rfl, hbw⟩
          · obtain ⟨m, hm⟩ : ∃ m, s.ds.length = m + 1 := ⟨s.ds.length - 1, by omega⟩
            have d0 : decide ((s.ds.length : Int) = 0) = false := decide_eq_false (by omega)
            have d1 : ((s.ds.length : Int) == 0) = false := by rw [beq_eq_false_iff_ne]; omega
            have d2 : decide (s.ds.length = 0) = false := decide_eq_false (by omega)
            have d3 : (s.ds.length == 0) = false := by rw [beq_eq_false_iff_ne]; omega
            have R1 := HM.out.d.next hbel
            have hmd : m < s.ds.length := by omega
            have e1 : wr.cell? ⟨gd, m * 6 + 1, none⟩ = some (.int .i64 s.ds[m].at_) := by
              obtain ⟨_, _, ⟨_, e1, _⟩, _⟩ := R1.cells m hmd
              exact e1
            have hg1 := R1.lt
            have hea := endD_at s.clk s.ds m hm
            have hml : (m : Int) < (s.ds.length : Int) := by omega
            have hks : (s.ds.length : Int) - 1 = (m : Int) := by omega
            obtain ⟨z, hz⟩ : ∃ z, z = s.ds[m].at_ := ⟨_, rfl⟩
            rw [← hz] at hea e1
            have HF : Hid (R = decide (z ≤ s.clk)) := by show R = _; rw [HR7.out, HE.out, hea]
            have p0 : ∀ u : Under wr, u.x.cell? ⟨gd, m * 6 + 1, none⟩ = some (.int .i64 z) := fun u => (u.h.cell hg1).trans e1
            clear HR7 h0 R1 hea hz hmd
            clear hm
            have hbb : ∃ b : Bool, b = decide (z ≤ s.clk) := ⟨_, rfl⟩
            obtain ⟨b, hb⟩ := hbb
            rw [← hb] at HF
            have hb2 : decide (z ≤ s.clk) = b := hb.symm
            clear hb
            cases b
            all_goals
              go_wp2_with fail
              refine wp_region_under (by kernel_rfl) (by kernel_rfl) ?_
              repeat (go_big_quiet_step (fail))
              refine wpQuiet_nil ?_
              rintro _ ⟨u, rfl⟩
              have hbw := (X5.step u.h).bel
              go_wp2_with fail
              go_ret
              exact ⟨ret_bool' HF.out.symm, hbw⟩

end Go.Proofs.YtpfbepbmiillbaaGreatDoor.Tx
