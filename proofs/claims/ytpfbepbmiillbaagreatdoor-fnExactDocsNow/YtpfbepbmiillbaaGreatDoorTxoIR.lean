/- Whether transactions are right: what the program answers. -/
import Derived.Test.YtpfbepbmiillbaaGreatDoorTxnIR
import Derived.Test.YtpfbepbmiillbaaGreatDoorClsIR
namespace Go.Proofs.YtpfbepbmiillbaaGreatDoor.Tx
open Go.RowKit Tr Co Rea
set_option linter.unusedVariables false

theorem firstAt_neg {s : ByteArray} {l : List Col} {i : Int} (h : FirstAt (namedC s) l i) : decide (i < 0) = !(l.any (namedC s)) := by
  rcases h with ⟨rfl, h⟩ | ⟨k, hk, rfl, h1, _⟩
  · have : l.any (namedC s) = false := by rw [Bool.eq_false_iff]; intro hh; obtain ⟨x, hx, h2⟩ := List.any_eq_true.mp hh; rw [h x hx] at h2; cases h2
    rw [this]; rfl
  · have : l.any (namedC s) = true := List.any_eq_true.mpr ⟨l[k], List.getElem_mem _, h1⟩
    rw [this]; exact decide_eq_false (by omega)
set_option maxRecDepth 4000 in
set_option maxHeartbeats 1000000 in
theorem isOfNone_any (x : Wrt) (b g bs qc : Nat) (cs : List Col) (w : World) (hc : w.cell? ⟨b, 0, none⟩ = some (.slice (some ⟨g, 0, none⟩) cs.length qc)) (hb : b < w.heap.size) (hr : MadeCs w bs g cs) (hl : cs.length ≤ 1048576) :
    Calls Tryz.prog 72 #[.agg #[.string x.coll, .int .i64 x.id, .bool x.gone, .int .i64 x.doc.k, .int .i64 x.doc.n, .string x.doc.t], .pointer (some ⟨b, 0, none⟩)] w fun e w' => e = .returned (.bool (!(cs.any (namedC x.coll)))) ∧ Below w.heap.size w w' := by
  have hb0 : Below w.heap.size w (w.alloc (.cells #[.string x.coll, .int .i64 x.id, .bool x.gone, .int .i64 x.doc.k, .int .i64 x.doc.n, .string x.doc.t] 78)) := (Below.refl _ _).alloc (Nat.le_refl _) _
  have HW : Hid (Calls _ _ _ _ _) := collPlace_any x.coll g bs qc cs (w.alloc (.cells #[.string x.coll, .int .i64 x.id, .bool x.gone, .int .i64 x.doc.k, .int .i64 x.doc.n, .string x.doc.t] 78)) (hr.next hb0) hl
  clear hr
  go_enter Tryz.func72, Tryz.ntmps72
  go_wp2_with fail
  refine HW.out.mono ?_
  rintro e w1 ⟨⟨i, rfl, hi⟩, hb1⟩
  have hb2 := hb0.trans (hb1.mono hb0.size)
  have hd := firstAt_neg hi
  clear hb1 hi
  go_wp2_with fail
  go_ret
  exact ⟨by rw [← hd]; rfl, hb2⟩
set_option maxRecDepth 4000 in
set_option maxHeartbeats 1000000 in
theorem idxNone_any (g qc : Nat) (l : List Wrt) (b g2 bs c2 : Nat) (cs : List Col) (w : World) (hr : ReadWs w g l) (hl : l.length ≤ 1048576) (hc : w.cell? ⟨b, 0, none⟩ = some (.slice (some ⟨g2, 0, none⟩) cs.length c2)) (hb : b < w.heap.size) (hcs : MadeCs w bs g2 cs) (hcl : cs.length ≤ 1048576) :
    Calls Tryz.prog 114 #[.slice (some ⟨g, 0, none⟩) l.length qc, .func (.func 72) #[] #[.pointer (some ⟨b, 0, none⟩)]] w fun e w' => (∃ i : Int, e = .returned (.int .i64 i) ∧ decide (0 ≤ i) = !(l.all fun x => cs.any (namedC x.coll))) ∧ Below w.heap.size w w' := by
  have HR : Hid (ReadWs _ _ _) := hr
  have HCS : Hid (MadeCs _ _ _ _) := hcs
  have HCC : Hid (_ = _) := hc
  clear hr hcs hc
  obtain ⟨P, hP0⟩ : ∃ P : Wrt → Bool, P = fun x => cs.any (namedC x.coll) := ⟨_, rfl⟩
  have HP0 : Hid (∀ x : Wrt, cs.any (namedC x.coll) = P x) := fun x => by rw [hP0]
  rw [show (fun x : Wrt => cs.any (namedC x.coll)) = P from hP0.symm]
  clear hP0
  go_enter Tryz.func114, Tryz.ntmps114
  go_wp2_with fail
  go_loopw [8] (fun i wr => ∃ k : Nat, k ≤ l.length ∧ i = .int .i64 k ∧ (∀ u ∈ l.take k, P u = true) ∧ Below w.heap.size w wr) (fun i _ => l.length - (intOf i).toNat)
  case atStart => exact ⟨0, Nat.zero_le _, rfl, fun u hu => by simp at hu, Below.refl _ _⟩
  case round =>
    obtain ⟨k, hk, rfl, hall, hbel⟩ := hrel
    have HA : Hid _ := hall
    clear hall
    by_cases hlt : k < l.length
    · have R := HR.out.next hbel
      have hg1 := R.lt
      obtain ⟨x0, x1, x2, x3, x4, x5⟩ := R.cells k hlt
      have hlt2 : (k : Int) < (l.length : Int) := by omega
      have HK0 : ∀ W : World, Below wr.heap.size wr W → Calls Tryz.prog 72 #[.agg #[.string l[k].coll, .int .i64 l[k].id, .bool l[k].gone, .int .i64 l[k].doc.k, .int .i64 l[k].doc.n, .string l[k].doc.t], .pointer (some ⟨b, 0, none⟩)] W fun e w' => e = .returned (.bool (!(P l[k]))) ∧ Below W.heap.size W w' := fun W hW => by
        have h := isOfNone_any l[k] b g2 bs c2 cs W ((hW.cell (p := ⟨b, 0, none⟩) (Nat.lt_of_lt_of_le hb hbel.size)).trans ((hbel.cell (p := ⟨b, 0, none⟩) hb).trans HCC.out)) (Nat.lt_of_lt_of_le (Nat.lt_of_lt_of_le hb hbel.size) hW.size) ((HCS.out.next hbel).next hW) hcl
        rw [HP0.out] at h
        exact h
      cases hP : P l[k]
      · rw [hP] at HK0
        have HK : Hid _ := HK0
        have hal : l.all P = false := by
          rw [Bool.eq_false_iff]; intro hh
          have := List.all_eq_true.mp hh l[k] (List.getElem_mem _)
          rw [hP] at this; cases this
        have HL : Hid _ := hal
        clear R hP HK0 hal
        go_wp2_with fail
        refine (HK.out _ (Below.refl _ _)).mono ?_
        rintro e w1 ⟨rfl, hb⟩
        have hb1 := hbel.trans (hb.mono hbel.size)
        clear hb
        go_wp2_with fail
        go_ret
        exact ⟨⟨k, rfl, by rw [HL.out]; exact decide_eq_true (by omega)⟩, hb1⟩
      · rw [hP] at HK0
        have HK : Hid _ := HK0
        have HPK : Hid _ := hP
        clear R hP HK0
        go_wp2_with fail
        refine (HK.out _ (Below.refl _ _)).mono ?_
        rintro e w1 ⟨rfl, hb⟩
        have hb1 := hbel.trans (hb.mono hbel.size)
        clear hb
        go_wp2_with fail
        go_roundw
        case rel =>
          refine ⟨k + 1, by omega, by go_num, ?_, hb1⟩
          intro u hu
          rw [List.take_succ_eq_append_getElem hlt] at hu
          rcases List.mem_append.mp hu with h | h
          · exact HA.out u h
          · simp at h; subst h; exact HPK.out
        case measure => simp [intOf]; omega
    · have hlt2 : ¬ (k : Int) < (l.length : Int) := by omega
      have hal : l.all P = true := List.all_eq_true.mpr (fun u hu => HA.out u (by rw [List.take_of_length_le (by omega)]; exact hu))
      have HL : Hid _ := hal
      clear hal
      go_wp2_with fail
      go_ret
      exact ⟨⟨-1, rfl, by rw [HL.out]; rfl⟩, hbel⟩
set_option maxRecDepth 4000 in
set_option maxHeartbeats 1000000 in
theorem anyNone_any (g qc : Nat) (l : List Wrt) (b g2 bs c2 : Nat) (cs : List Col) (w : World) (hr : ReadWs w g l) (hl : l.length ≤ 1048576) (hc : w.cell? ⟨b, 0, none⟩ = some (.slice (some ⟨g2, 0, none⟩) cs.length c2)) (hb : b < w.heap.size) (hcs : MadeCs w bs g2 cs) (hcl : cs.length ≤ 1048576) :
    Calls Tryz.prog 74 #[.slice (some ⟨g, 0, none⟩) l.length qc, .func (.func 72) #[] #[.pointer (some ⟨b, 0, none⟩)]] w fun e w' => e = .returned (.bool (!(l.all fun x => cs.any (namedC x.coll)))) ∧ Below w.heap.size w w' := by
  have HI : Hid (Calls _ _ _ _ _) := idxNone_any g qc l b g2 bs c2 cs w hr hl hc hb hcs hcl
  obtain ⟨Q, hQ⟩ : ∃ Q, Q = l.all fun x => cs.any (namedC x.coll) := ⟨_, rfl⟩
  rw [← hQ] at HI ⊢
  clear hr hcs hc hQ
  go_enter Tryz.func74, Tryz.ntmps74
  go_wp2_with fail
  refine HI.out.mono ?_
  rintro e w1 ⟨⟨i, rfl, hi⟩, hb⟩
  have HJ : Hid _ := hi
  clear hi HI
  go_wp2_with fail
  go_ret
  exact ⟨ret_bool HJ.out, hb⟩

/-- Are transactions right, each behind the one ahead of it: over collections. -/
def ofB (cs : List Col) (x : Tn) : Bool := x.cs.all fun y => cs.any (namedC y.coll)
def txsB (cs : List Col) : Int → List Tn → Bool
  | _, [] => true
  | last, x :: t => decide (last < x.sn) && (txnB x && (ofB cs x && txsB cs x.sn t))
def lastS (l : List Tn) (k : Nat) : Int := if k = 0 then -1 else match l[k - 1]? with | some x => x.sn | none => 0
theorem lastS_succ (l : List Tn) (k : Nat) (h : k < l.length) : lastS l (k + 1) = l[k].sn := by unfold lastS; rw [if_neg (by omega)]; simp [List.getElem?_eq_getElem h]
theorem txsB_step (cs : List Col) (l : List Tn) (k : Nat) (h : k < l.length) : txsB cs (lastS l k) (l.drop k) = (decide (lastS l k < l[k].sn) && (txnB l[k] && (ofB cs l[k] && txsB cs (lastS l (k + 1)) (l.drop (k + 1))))) := by
  rw [List.drop_eq_getElem_cons h, lastS_succ l k h]; rfl
set_option maxRecDepth 4000 in
set_option maxHeartbeats 4000000 in
theorem txnsOK_any (g c bs g2 bs2 c2 : Nat) (l : List Tn) (cs : List Col) (w : World) (hr : MadeTn w bs g l) (hl : l.length ≤ 1048576) (hs : ∀ v ∈ l, szTn v) (hcs : MadeCs w bs2 g2 cs) (hcl : cs.length ≤ 1048576) :
    Calls Tryz.prog 40 #[.slice (some ⟨g, 0, none⟩) l.length c, .slice (some ⟨g2, 0, none⟩) cs.length c2] w fun e w' => e = .returned (.bool (txsB cs (-1) l)) ∧ Below w.heap.size w w' := by
  have hb0 : Below w.heap.size w (w.alloc (.cells #[.slice (some ⟨g2, 0, none⟩) cs.length c2] 29)) := (Below.refl _ _).alloc (Nat.le_refl _) _
  have hlt0 : w.heap.size < (w.alloc (.cells #[.slice (some ⟨g2, 0, none⟩) cs.length c2] 29)).heap.size := by simp
  have HC0 : Hid (_ = _) := (show (w.alloc (.cells #[.slice (some ⟨g2, 0, none⟩) cs.length c2] 29)).cell? ⟨w.heap.size, 0, none⟩ = some (.slice (some ⟨g2, 0, none⟩) cs.length c2) by simp [go_sem])
  have HR : Hid (MadeTn _ _ _ _) := hr
  have HS : Hid (∀ v ∈ l, szTn v) := hs
  have HCS : Hid (MadeCs _ _ _ _) := hcs.next hb0
  clear hr hs hcs
  obtain ⟨R, hR⟩ : ∃ R, R = txsB cs (-1) l := ⟨_, rfl⟩
  rw [← hR]
  have HRR : Hid (R = txsB cs (lastS l 0) (l.drop 0)) := hR
  clear hR
  go_enter Tryz.func40, Tryz.ntmps40
  go_wp2_with fail
  generalize w.alloc (.cells #[.slice (some ⟨g2, 0, none⟩) cs.length c2] 29) = W0 at hb0 hlt0 HC0 HCS ⊢
  go_loopw [12, 6] (fun i o wr => ∃ k : Nat, k ≤ l.length ∧ i = .int .i64 k ∧ o = .int .i64 (lastS l k) ∧ R = txsB cs (lastS l k) (l.drop k) ∧ Below W0.heap.size W0 wr) (fun i _ _ => l.length - (intOf i).toNat)
  case atStart => exact ⟨0, Nat.zero_le _, rfl, rfl, HRR.out, Below.refl _ _⟩
  case round =>
    obtain ⟨k, hk, rfl, rfl, hrk, hbl⟩ := hrel
    clear HRR
    have hbel : Below w.heap.size w wr := hb0.trans (hbl.mono hb0.size)
    by_cases hlt : k < l.length
    · have hlt2 : (k : Int) < (l.length : Int) := by omega
      have R1 := HR.out.next hbel
      obtain ⟨gr, gw, ⟨x0, x1, x2, x3⟩, mr, mw, _⟩ := R1.cells k hlt
      have hg := R1.lt
      have hsz := HS.out l[k] (List.getElem_mem _)
      have hstep := hrk.trans (txsB_step cs l k hlt)
      rw [lastS_succ l k hlt] at hstep
      have hls := lastS_succ l k hlt
      obtain ⟨x, hx⟩ : ∃ x, x = l[k] := ⟨_, rfl⟩
      rw [← hx] at x0 x1 x2 x3 mr mw hsz hstep hls
      have HLS : Hid (_ = _) := hls
      have B0 := BxTn.start wr (.int .i64 x.sn) (.int .i64 x.sp) (.slice (some ⟨gr, 0, none⟩) x.rs.length x.rs.length) (.slice (some ⟨gw, 0, none⟩) x.cs.length x.cs.length) 75
      have HT : Hid (∀ W : World, Below wr.heap.size wr W → Calls _ _ _ W _) := fun W hW => txnOK_any gr gw x.rs.length x.cs.length bs x W (mr.next hW) (mw.next hW) hsz
      have HN0 : ∀ W : World, Below wr.heap.size wr W → Calls _ _ _ W _ := fun W hW => anyNone_any gw x.cs.length x.cs w.heap.size g2 bs2 c2 cs W (mw.next hW) hsz.s0 ((hW.cell (p := ⟨w.heap.size, 0, none⟩) (Nat.lt_of_lt_of_le hlt0 hbl.size)).trans ((hbl.cell (p := ⟨w.heap.size, 0, none⟩) hlt0).trans HC0.out)) (Nat.lt_of_lt_of_le (Nat.lt_of_lt_of_le hlt0 hbl.size) hW.size) ((HCS.out.next hbl).next hW) hcl
      have hofb : (x.cs.all fun y => cs.any (namedC y.coll)) = ofB cs x := rfl
      rw [hofb] at HN0
      obtain ⟨S, hS⟩ : ∃ S, S = txsB cs x.sn (l.drop (k + 1)) := ⟨_, rfl⟩
      obtain ⟨b1, e1⟩ : ∃ b, b = txnB x := ⟨_, rfl⟩
      obtain ⟨b2, e2⟩ : ∃ b, b = ofB cs x := ⟨_, rfl⟩
      rw [← hS, ← e1, ← e2] at hstep
      rw [← e1] at HT
      rw [← e2] at HN0
      have HN : Hid (∀ W : World, Below wr.heap.size wr W → Calls _ _ _ W _) := HN0
      have HSS : Hid (S = _) := hS
      have c0 := B0.c0
      have c1 := B0.c1
      have c2' := B0.c2
      have c3 := B0.c3
      have cl := B0.lt
      have cb := hbel.trans (B0.bel.mono hbel.size)
      clear R1 mr mw hsz hx hrk HN0 hofb hS e1 e2 hls
      by_cases hL : lastS l k < x.sn
      case neg =>
        have hL2 : x.sn ≤ lastS l k := by omega
        have HF : Hid (R = false) := by show R = false; rw [hstep, decide_eq_false hL, Bool.false_and]
        clear hstep HT HN
        go_wp2_with fail
        go_ret
        exact ⟨by rw [HF.out]; rfl, cb⟩
      have hL2 : ¬ x.sn ≤ lastS l k := by omega
      rw [decide_eq_true hL, Bool.true_and] at hstep
      cases b1
      · have HF : Hid (R = false) := by show R = false; rw [hstep, Bool.false_and]
        clear hstep HN
        go_wp2_with fail
        refine (HT.out _ B0.bel).mono ?_
        rintro e w1 ⟨rfl, hb⟩
        have cb1 := hbel.trans ((B0.step hb).bel.mono hbel.size)
        clear hb
        go_wp2_with fail
        go_ret
        exact ⟨by rw [HF.out]; rfl, cb1⟩
      rw [Bool.true_and] at hstep
      cases b2
      · have HF : Hid (R = false) := by show R = false; rw [hstep, Bool.false_and]
        clear hstep
        go_wp2_with fail
        refine (HT.out _ B0.bel).mono ?_
        rintro e w1 ⟨rfl, hb⟩
        have B1 := B0.step hb
        have d3 := B1.c3
        have dl := B1.lt
        clear hb c0 c1 c2' c3 cl B0
        go_wp2_with fail
        refine (HN.out _ B1.bel).mono ?_
        rintro e w2 ⟨rfl, hb⟩
        have cb1 := hbel.trans ((B1.step hb).bel.mono hbel.size)
        clear hb
        go_wp2_with fail
        go_ret
        exact ⟨by rw [HF.out]; rfl, cb1⟩
      rw [Bool.true_and] at hstep
      have HST : Hid (R = S) := hstep
      clear hstep
      go_wp2_with fail
      refine (HT.out _ B0.bel).mono ?_
      rintro e w1 ⟨rfl, hb⟩
      have B1 := B0.step hb
      have d3 := B1.c3
      have dl := B1.lt
      clear hb c0 c1 c2' c3 cl B0
      go_wp2_with fail
      refine (HN.out _ B1.bel).mono ?_
      rintro e w2 ⟨rfl, hb⟩
      have B2 := B1.step hb
      have f0 := B2.c0
      have fl := B2.lt
      have hb2 : Below W0.heap.size W0 w2 := hbl.trans (B2.bel.mono hbl.size)
      clear hb d3 dl B1
      go_wp2_with fail
      go_roundw
      case rel => exact ⟨k + 1, by omega, by go_num, by rw [HLS.out], by rw [HST.out, HSS.out, HLS.out], hb2⟩
      case measure => simp [intOf]; omega
    · have hlt2 : ¬ (k : Int) < (l.length : Int) := by omega
      have hT : R = true := by rw [hrk, List.drop_of_length_le (by omega)]; unfold txsB; rfl
      have HT : Hid (R = true) := hT
      clear hrk hT
      go_wp2_with fail
      go_ret
      exact ⟨by rw [HT.out]; rfl, hbel⟩

end Go.Proofs.YtpfbepbmiillbaaGreatDoor.Tx
