/- What the program's trial of a document by a term answers, for every right term and document. -/
import Derived.Test.YtkeghknceccdmaaGreatDoorTrialAQ
import Derived.Test.YtkeghknceccdmaaGreatDoorGetSQ
import Derived.Deep.DeepCutAuto
import Derived.Deep.RegionHeld3
import Derived.Deep.RegionWith
import Derived.Test.YtkeghknceccdmaaGreatDoorEncUQ
import Derived.Test.YtkeghknceccdmaaGreatDoorLawVal
import Derived.Test.YtkeghknceccdmaaGreatDoorOKD
import Derived.Test.YtkeghknceccdmaaGreatDoorSplitWQ
namespace Go.Proofs.YtkeghknceccdmaaGreatDoor
open Go.RowKit
set_option linter.unusedVariables false

/-- Some block holds four cells. -/
structure Lies4 (U : World) (b : Nat) (x y z t : Value) : Prop where
  lt : b < U.heap.size
  c0 : U.cell? ⟨b, 0, none⟩ = some x
  c1 : U.cell? ⟨b, 1, none⟩ = some y
  c2 : U.cell? ⟨b, 2, none⟩ = some z
  c3 : U.cell? ⟨b, 3, none⟩ = some t
theorem alloc_lt (w : World) (o : Obj) : w.heap.size < (w.alloc o).heap.size := by simp
theorem blk4 {W w1 : World} {a b c d : Value} {T : TypeId} (h : Below (W.alloc (.cells #[a, b, c, d] T)).heap.size (W.alloc (.cells #[a, b, c, d] T)) w1) :
    w1.cell? ⟨W.heap.size, 0, none⟩ = some a ∧ w1.cell? ⟨W.heap.size, 1, none⟩ = some b ∧ w1.cell? ⟨W.heap.size, 2, none⟩ = some c ∧ w1.cell? ⟨W.heap.size, 3, none⟩ = some d ∧ w1.frozen? ⟨W.heap.size, 0, none⟩ = false ∧ w1.frozen? ⟨W.heap.size, 1, none⟩ = false ∧ w1.frozen? ⟨W.heap.size, 2, none⟩ = false ∧ w1.frozen? ⟨W.heap.size, 3, none⟩ = false ∧ W.heap.size < w1.heap.size :=
  have hl := alloc_lt W (.cells #[a, b, c, d] T)
  ⟨(h.cell hl).trans (by simp [go_sem]), (h.cell hl).trans (by simp [go_sem]), (h.cell hl).trans (by simp [go_sem]), (h.cell hl).trans (by simp [go_sem]), (h.frozen hl).trans (by simp [go_sem]), (h.frozen hl).trans (by simp [go_sem]), (h.frozen hl).trans (by simp [go_sem]), (h.frozen hl).trans (by simp [go_sem]), Nat.lt_of_lt_of_le hl h.size⟩
theorem blk4d {W w1 : World} {a b c d : Value} {T : TypeId} (h : Below (W.drew.alloc (.cells #[a, b, c, d] T)).heap.size (W.drew.alloc (.cells #[a, b, c, d] T)) w1) :
    w1.cell? ⟨W.heap.size, 0, none⟩ = some a ∧ w1.cell? ⟨W.heap.size, 1, none⟩ = some b ∧ w1.cell? ⟨W.heap.size, 2, none⟩ = some c ∧ w1.cell? ⟨W.heap.size, 3, none⟩ = some d ∧ w1.frozen? ⟨W.heap.size, 0, none⟩ = false ∧ w1.frozen? ⟨W.heap.size, 1, none⟩ = false ∧ w1.frozen? ⟨W.heap.size, 2, none⟩ = false ∧ w1.frozen? ⟨W.heap.size, 3, none⟩ = false ∧ W.heap.size < w1.heap.size := blk4 (W := W.drew) h
theorem keepT {w W0 U : World} {a b c d e x y z : Value} (X : B53 w W0 a b c d e x y z) (hb : Below W0.heap.size W0 U) :
    U.cell? ⟨w.heap.size, 1, none⟩ = some b ∧ U.cell? ⟨w.heap.size, 2, none⟩ = some c ∧ U.cell? ⟨w.heap.size, 3, none⟩ = some d ∧ U.cell? ⟨w.heap.size, 4, none⟩ = some e ∧ U.cell? ⟨w.heap.size + 1, 0, none⟩ = some x ∧ U.cell? ⟨w.heap.size + 1, 1, none⟩ = some y ∧ U.cell? ⟨w.heap.size + 1, 2, none⟩ = some z :=
  have Y := X.step hb
  ⟨Y.c1, Y.c2, Y.c3, Y.c4, Y.d0, Y.d1, Y.d2⟩
theorem grown_setT {w : World} {g o : Nat} {v : Value} : w.grownBy (w.setCell ⟨g, o, none⟩ v) (some g) := by
  refine ⟨rfl, rfl, rfl, by simp [World.setCell], ?_⟩
  intro k hk hne
  have : g ≠ k := fun e => hne (by rw [e])
  simp [World.setCell, Array.getElem?_modify, this]
theorem grown_set4 {w : World} {g : Nat} {a b c d : Value} : w.grownBy ((((w.setCell ⟨g, 0, none⟩ a).setCell ⟨g, 1, none⟩ b).setCell ⟨g, 2, none⟩ c).setCell ⟨g, 3, none⟩ d) (some g) :=
  ((grown_setT.trans grown_setT).trans grown_setT).trans grown_setT
theorem RowV.far {w U : World} {q s : Option Addr} {l : List Val} {tb n c : Nat} (h : RowV w q l) (ht : w.cell? ⟨tb, 0, none⟩ = some (.slice s n c)) (hg : w.grownBy U (some tb)) : RowV U q l := by
  rcases h with h | ⟨g, hp, R⟩
  · exact .inl h
  · cases l with
    | nil => exact .inl rfl
    | cons v l =>
      refine .inr ⟨g, hp, R.grown hg (fun e => ?_)⟩
      injection e with e
      have := (R.cells 0 (by simp)).1
      rw [Nat.zero_mul, e, ht] at this
      cases this
theorem keepR {U V : World} {b a0 : Nat} {x y z t o : Value} (Y : Lies4 U b x y z t) (hl : a0 < U.heap.size) (h0 : U.cell? ⟨a0, 0, none⟩ = some o) (hb : Below U.heap.size U V) :
    V.cell? ⟨b, 0, none⟩ = some x ∧ V.cell? ⟨b, 1, none⟩ = some y ∧ V.cell? ⟨b, 2, none⟩ = some z ∧ V.cell? ⟨b, 3, none⟩ = some t ∧ V.cell? ⟨a0, 0, none⟩ = some o :=
  ⟨(hb.cell Y.lt).trans Y.c0, (hb.cell Y.lt).trans Y.c1, (hb.cell Y.lt).trans Y.c2, (hb.cell Y.lt).trans Y.c3, (hb.cell hl).trans h0⟩
theorem RowV.below {w w' : World} {p : Option Addr} {l : List Val} (h : RowV w p l) (hb : Below w.heap.size w w') : RowV w' p l := h.next hb

set_option maxRecDepth 8000 in
set_option maxHeartbeats 4000000 in
theorem termLets_any (op : Int) (p : ByteArray) (c doc : Val) (w : World) (hp : p.size ≤ 300) (hop : 1 ≤ op ∧ op ≤ 10) (h7 : op = 7 → c.k = 4) (hc : okB c = true) (hd : okB doc = true) :
    Calls Tryz.prog 60 #[.agg #[.int .i64 op, .string p, .int .i64 c.k, .int .i64 c.n, .string c.t], .agg #[.int .i64 doc.k, .int .i64 doc.n, .string doc.t]] w fun e w' => e = .returned (.bool (termL op p c doc)) ∧ Below w.heap.size w w' := by
  have X0 := B53.start w (.int .i64 op) (.string p) (.int .i64 c.k) (.int .i64 c.n) (.string c.t) (.int .i64 doc.k) (.int .i64 doc.n) (.string doc.t) 34 28
  have hgl := getP_len (pieces p) doc
  have hsd := ok_size doc hd
  have hpl := pieces_len_le p
  have hLO := getP_ok (pieces p) doc hd
  have HCM : Hid (ComeAt (pieces p)) := come_at (pieces p) (by omega)
  have HDO : Hid (okB doc = true) := hd
  have HSD : Hid (doc.t.size ≤ 300) := hsd
  have hps : p.size ≤ 1048576 := by omega
  have HPS : Hid (p.size ≤ 1048576) := hps
  clear hps
  unfold termL
  obtain ⟨L, hL⟩ : ∃ L, L = getP (pieces p) doc := ⟨_, rfl⟩
  rw [← hL] at hgl hLO ⊢
  obtain ⟨RR, hRR⟩ : ∃ RR, RR = letsT op c L := ⟨_, rfl⟩
  rw [← hRR]
  have HRR : Hid _ := hRR
  clear hRR
  have HL : Hid _ := hL
  have HC : Hid (okB c = true) := hc
  have H7 : Hid _ := h7
  have HLO : Hid _ := hLO
  clear hc hd hL h7 hLO
  go_enter Tryz.func60, Tryz.ntmps60
  go_wp2_with fail
  generalize (w.alloc (.cells #[.int .i64 op, .string p, .int .i64 c.k, .int .i64 c.n, .string c.t] 34)).alloc (.cells #[.int .i64 doc.k, .int .i64 doc.n, .string doc.t] 28) = W0 at X0 ⊢
  have a1 := X0.c1
  have a2 := X0.c2
  have a3 := X0.c3
  have a4 := X0.c4
  have b0 := X0.d0
  have b1 := X0.d1
  have b2 := X0.d2
  have hlt0 := X0.lt
  have hz0 := X0.bel.size
  go_cut [5] (fun s5 wx => ∃ (b : Nat) (q : Option Addr) (qc : Nat), s5 = .pointer (some ⟨b, 0, none⟩) ∧ Lies4 wx b (.slice q L.length qc) (.int .i64 c.k) (.int .i64 c.n) (.string c.t) ∧ RowV wx q L ∧ Below W0.heap.size W0 wx)
  case first =>
    have hltw : w.heap.size < W0.heap.size := Nat.lt_of_succ_lt hlt0
    clear hgl hsd hz0 hop
    go_region_held3 (fun w0 => w0.cell? ⟨w.heap.size, 1, none⟩ = some (.string p) ∧ w0.cell? ⟨w.heap.size, 2, none⟩ = some (.int .i64 c.k) ∧ w0.cell? ⟨w.heap.size, 3, none⟩ = some (.int .i64 c.n) ∧ w0.cell? ⟨w.heap.size, 4, none⟩ = some (.string c.t) ∧ w0.cell? ⟨w.heap.size + 1, 0, none⟩ = some (.int .i64 doc.k) ∧ w0.cell? ⟨w.heap.size + 1, 1, none⟩ = some (.int .i64 doc.n) ∧ w0.cell? ⟨w.heap.size + 1, 2, none⟩ = some (.string doc.t)) ((refine keepT X0 ?_; (repeat (first | (with_reducible exact Below.refl _ _) | (with_reducible assumption) | (with_reducible apply below_drewN) | (with_reducible apply Below.drew) | ((with_reducible refine Below.setCell ?_ ?_ _); rotate_left; focus (first | (simp; done) | (simp; omega) | omega)) | ((with_reducible refine Below.alloc ?_ ?_ _); rotate_left; focus (first | (simp; done) | (simp; omega) | omega)))))) (first | (go_at_call 125; refine (namesOfC_any p _ HPS.out).mono ?_; rintro e w1 ⟨⟨g, cap, rfl, hcap, R⟩, hb⟩; have hB1 : Below W0.heap.size W0 w1 := (show Below W0.heap.size W0 _ by (repeat (first | (with_reducible exact Below.refl _ _) | (with_reducible assumption) | (with_reducible apply below_drewN) | (with_reducible apply Below.drew) | ((with_reducible refine Below.setCell ?_ ?_ _); rotate_left; focus (first | (simp; done) | (simp; omega) | omega)) | ((with_reducible refine Below.alloc ?_ ?_ _); rotate_left; focus (first | (simp; done) | (simp; omega) | omega))))).trans (hb.mono (by simp)); have hzb1 := hB1.size; have hn1 := Nat.lt_of_lt_of_le hltw hzb1; have ho1 := Nat.lt_of_lt_of_le hlt0 hzb1; (try have T1 := blk4d (W := W0) hb); (try obtain ⟨t0, t1, t2, t3, s0, s1, s2, s3, s4⟩ := T1); have HR : Hid (ReadS _ _ _ _) := R; clear R hb) | (go_at_call 124; refine (HCM.out 5 doc g 0 cap _ HDO.out HSD.out hcap (HR.out.next (by (repeat (first | (with_reducible exact Below.refl _ _) | (with_reducible assumption) | (with_reducible apply below_drewN) | (with_reducible apply Below.drew) | ((with_reducible refine Below.setCell ?_ ?_ _); rotate_left; focus (first | (simp; done) | (simp; omega) | omega)) | ((with_reducible refine Below.alloc ?_ ?_ _); rotate_left; focus (first | (simp; done) | (simp; omega) | omega))))))).mono ?_; rintro e w2 ⟨hO, hb⟩; rw [← HL.out] at hO; obtain ⟨q, qc, rfl, RV⟩ := hO.row; have hB2 : Below W0.heap.size W0 w2 := hB1.trans ((show Below w1.heap.size w1 w2 from (show Below w1.heap.size w1 _ by (repeat (first | (with_reducible exact Below.refl _ _) | (with_reducible assumption) | (with_reducible apply below_drewN) | (with_reducible apply Below.drew) | ((with_reducible refine Below.setCell ?_ ?_ _); rotate_left; focus (first | (simp; done) | (simp; omega) | omega)) | ((with_reducible refine Below.alloc ?_ ?_ _); rotate_left; focus (first | (simp; done) | (simp; omega) | omega))))).trans (hb.mono (by simp))).mono hB1.size); have hzb2 := hB2.size; have hn2 := Nat.lt_of_lt_of_le hltw hzb2; have ho2 := Nat.lt_of_lt_of_le hlt0 hzb2; (try have T2 := blk4 (W := w1) hb); (try obtain ⟨u0, u1, u2, u3, v0, v1, v2, v3, v4⟩ := T2); (try have q0 := (hb.cell s4).trans t0); (try have q1 := (hb.cell s4).trans t1); (try have q2 := (hb.cell s4).trans t2); (try have q3 := (hb.cell s4).trans t3); (try have q4 := (hb.frozen s4).trans s0); (try have q5 := (hb.frozen s4).trans s1); (try have q6 := (hb.frozen s4).trans s2); (try have q7 := (hb.frozen s4).trans s3); (try have q8 := Nat.lt_of_lt_of_le s4 hb.size); have HRV : Hid (RowV _ _ _) := RV; clear RV hO hb))
    all_goals
      try go_wp2_with fail
      go_meet
      refine ⟨_, q, qc, rfl, ⟨?_, ?_, ?_, ?_, ?_⟩, ?_, ?_⟩
      · simp; try omega
      · simp [go_sem, *]
      · simp [go_sem, *]
      · simp [go_sem, *]
      · simp [go_sem, *]
      · first | (refine HRV.out.next ?_; (repeat (first | (with_reducible exact Below.refl _ _) | (with_reducible assumption) | (with_reducible apply below_drewN) | (with_reducible apply Below.drew) | ((with_reducible refine Below.setCell ?_ ?_ _); rotate_left; focus (first | (simp; done) | (simp; omega) | omega)) | ((with_reducible refine Below.alloc ?_ ?_ _); rotate_left; focus (first | (simp; done) | (simp; omega) | omega)))); done) | (refine RowV.far (s := none) (n := 0) (c := 0) HRV.out ?_ grown_set4; assumption)
      · (repeat (first | (with_reducible exact Below.refl _ _) | (with_reducible assumption) | (with_reducible apply below_drewN) | (with_reducible apply Below.drew) | ((with_reducible refine Below.setCell ?_ ?_ _); rotate_left; focus (first | (simp; done) | (simp; omega) | omega)) | ((with_reducible refine Below.alloc ?_ ?_ _); rotate_left; focus (first | (simp; done) | (simp; omega) | omega))))
  case rest =>
    obtain ⟨b, q, qc, rfl, Y, RV, hbc⟩ := hcut
    have X := X0.step hbc
    have g0 := X.c0
    have hbw := X.bel
    have y0 := Y.c0
    have y1 := Y.c1
    have y2 := Y.c2
    have y3 := Y.c3
    have hyl := Y.lt
    have hxl : w.heap.size < wc.heap.size := Nat.lt_of_succ_lt X.lt
    have HRV : Hid (RowV _ _ _) := RV
    clear RV a1 a2 a3 a4 b0 b1 b2 hlt0 hz0
    by_cases h8 : op = 8
    · subst h8
      go_wp2_with fail
      refine (presence_exists q qc L c _).mono ?_
      rintro e w1 ⟨rfl, hb⟩
      have hbz := hbw.trans (hb.mono hbw.size)
      clear hb
      go_wp2_with fail
      go_ret
      exact ⟨ret_bool (by rw [HRR.out]; unfold letsT; rw [if_pos rfl]; simp), hbz⟩
    have hRo : RR = ((heldT op L).any (oneT op c) != decide (op = 2)) := by rw [HRR.out]; unfold letsT; rw [if_neg h8]
    clear HRR
    by_cases h9 : op = 9
    · subst h9
      have h92 : decide ((9 : Int) = 2) = false := by decide
      have hM : heldT 9 L = L := by unfold heldT; by_cases h : L = [] <;> simp [h]
      rw [hM, h92] at hRo
      have HRO : Hid _ := hRo
      clear hM h92 hRo
      go_wp2_with fail
      refine (presence_type q qc L c _ HRV.out (by omega)).mono ?_
      rintro e w1 ⟨rfl, hb⟩
      have hbz := hbw.trans (hb.mono hbw.size)
      clear hb
      go_wp2_with fail
      go_ret
      exact ⟨ret_bool (by rw [HRO.out]; simp), hbz⟩
    have hMO := heldT_ok op L HLO.out
    rw [heldT_Z op L h9] at hMO hRo
    have hMl : (withZ L).length ≤ 1048576 := by unfold withZ; split; (simp); omega
    have HMO : Hid _ := hMO
    have e8 : (op == 8) = false := beq_eq_false_iff_ne.mpr h8
    have e9 : (op == 9) = false := beq_eq_false_iff_ne.mpr h9
    clear hMO
    by_cases ho : op = 3 ∨ op = 4 ∨ op = 5 ∨ op = 6
    · have HOL : Hid (∀ (q' : Option Addr) (qc' : Nat) (W : World), RowV W q' (withZ L) → Calls _ _ _ W _) := fun q' qc' W hW => order_lets op ho q' qc' (withZ L) c W HC.out HMO.out hW hMl
      rw [← hRo] at HOL
      clear hRo
      rcases ho with rfl | rfl | rfl | rfl
      · go_wp2_with fail
        go_region_held3 (fun w0 => w0.cell? ⟨b, 0, none⟩ = some (.slice q L.length qc) ∧ w0.cell? ⟨b, 1, none⟩ = some (.int .i64 c.k) ∧ w0.cell? ⟨b, 2, none⟩ = some (.int .i64 c.n) ∧ w0.cell? ⟨b, 3, none⟩ = some (.string c.t) ∧ w0.cell? ⟨w.heap.size, 0, none⟩ = some (.int .i64 3)) ((refine keepR Y hxl g0 ?_; (repeat (first | (with_reducible exact Below.refl _ _) | (with_reducible assumption) | (with_reducible apply below_drewN) | (with_reducible apply Below.drew) | ((with_reducible refine Below.setCell ?_ ?_ _); rotate_left; focus (first | (simp; done) | (simp; omega) | omega)) | ((with_reducible refine Below.alloc ?_ ?_ _); rotate_left; focus (first | (simp; done) | (simp; omega) | omega)))))) (first | (go_at_call 127; refine (withNull_any q qc L c _ (HRV.out.next (by (repeat (first | (with_reducible exact Below.refl _ _) | (with_reducible assumption) | (with_reducible apply below_drewN) | (with_reducible apply Below.drew) | ((with_reducible refine Below.setCell ?_ ?_ _); rotate_left; focus (first | (simp; done) | (simp; omega) | omega)) | ((with_reducible refine Below.alloc ?_ ?_ _); rotate_left; focus (first | (simp; done) | (simp; omega) | omega))))))).mono ?_; rintro e w1 ⟨⟨q', qc', rfl, RV'⟩, hb⟩; have HRV' : Hid (RowV _ _ _) := RV'; have hB1 : Below wc.heap.size wc w1 := (show Below wc.heap.size wc _ by (repeat (first | (with_reducible exact Below.refl _ _) | (with_reducible assumption) | (with_reducible apply below_drewN) | (with_reducible apply Below.drew) | ((with_reducible refine Below.setCell ?_ ?_ _); rotate_left; focus (first | (simp; done) | (simp; omega) | omega)) | ((with_reducible refine Below.alloc ?_ ?_ _); rotate_left; focus (first | (simp; done) | (simp; omega) | omega))))).trans (hb.mono (by simp)); have hzb1 := hB1.size; clear RV' hb) | (go_at_call 128; refine (HOL.out q' qc' _ HRV'.out).mono ?_; rintro e w2 ⟨rfl, hb⟩; have hB2 := hB1.trans (hb.mono hB1.size); have hzb2 := hB2.size; clear hb))
        all_goals
          have hbz := hbw.trans (hB2.mono hbw.size)
          go_wp2_with fail
          go_ret
          exact ⟨rfl, hbz⟩
      · go_wp2_with fail
        go_region_held3 (fun w0 => w0.cell? ⟨b, 0, none⟩ = some (.slice q L.length qc) ∧ w0.cell? ⟨b, 1, none⟩ = some (.int .i64 c.k) ∧ w0.cell? ⟨b, 2, none⟩ = some (.int .i64 c.n) ∧ w0.cell? ⟨b, 3, none⟩ = some (.string c.t) ∧ w0.cell? ⟨w.heap.size, 0, none⟩ = some (.int .i64 4)) ((refine keepR Y hxl g0 ?_; (repeat (first | (with_reducible exact Below.refl _ _) | (with_reducible assumption) | (with_reducible apply below_drewN) | (with_reducible apply Below.drew) | ((with_reducible refine Below.setCell ?_ ?_ _); rotate_left; focus (first | (simp; done) | (simp; omega) | omega)) | ((with_reducible refine Below.alloc ?_ ?_ _); rotate_left; focus (first | (simp; done) | (simp; omega) | omega)))))) (first | (go_at_call 127; refine (withNull_any q qc L c _ (HRV.out.next (by (repeat (first | (with_reducible exact Below.refl _ _) | (with_reducible assumption) | (with_reducible apply below_drewN) | (with_reducible apply Below.drew) | ((with_reducible refine Below.setCell ?_ ?_ _); rotate_left; focus (first | (simp; done) | (simp; omega) | omega)) | ((with_reducible refine Below.alloc ?_ ?_ _); rotate_left; focus (first | (simp; done) | (simp; omega) | omega))))))).mono ?_; rintro e w1 ⟨⟨q', qc', rfl, RV'⟩, hb⟩; have HRV' : Hid (RowV _ _ _) := RV'; have hB1 : Below wc.heap.size wc w1 := (show Below wc.heap.size wc _ by (repeat (first | (with_reducible exact Below.refl _ _) | (with_reducible assumption) | (with_reducible apply below_drewN) | (with_reducible apply Below.drew) | ((with_reducible refine Below.setCell ?_ ?_ _); rotate_left; focus (first | (simp; done) | (simp; omega) | omega)) | ((with_reducible refine Below.alloc ?_ ?_ _); rotate_left; focus (first | (simp; done) | (simp; omega) | omega))))).trans (hb.mono (by simp)); have hzb1 := hB1.size; clear RV' hb) | (go_at_call 128; refine (HOL.out q' qc' _ HRV'.out).mono ?_; rintro e w2 ⟨rfl, hb⟩; have hB2 := hB1.trans (hb.mono hB1.size); have hzb2 := hB2.size; clear hb))
        all_goals
          have hbz := hbw.trans (hB2.mono hbw.size)
          go_wp2_with fail
          go_ret
          exact ⟨rfl, hbz⟩
      · go_wp2_with fail
        go_region_held3 (fun w0 => w0.cell? ⟨b, 0, none⟩ = some (.slice q L.length qc) ∧ w0.cell? ⟨b, 1, none⟩ = some (.int .i64 c.k) ∧ w0.cell? ⟨b, 2, none⟩ = some (.int .i64 c.n) ∧ w0.cell? ⟨b, 3, none⟩ = some (.string c.t) ∧ w0.cell? ⟨w.heap.size, 0, none⟩ = some (.int .i64 5)) ((refine keepR Y hxl g0 ?_; (repeat (first | (with_reducible exact Below.refl _ _) | (with_reducible assumption) | (with_reducible apply below_drewN) | (with_reducible apply Below.drew) | ((with_reducible refine Below.setCell ?_ ?_ _); rotate_left; focus (first | (simp; done) | (simp; omega) | omega)) | ((with_reducible refine Below.alloc ?_ ?_ _); rotate_left; focus (first | (simp; done) | (simp; omega) | omega)))))) (first | (go_at_call 127; refine (withNull_any q qc L c _ (HRV.out.next (by (repeat (first | (with_reducible exact Below.refl _ _) | (with_reducible assumption) | (with_reducible apply below_drewN) | (with_reducible apply Below.drew) | ((with_reducible refine Below.setCell ?_ ?_ _); rotate_left; focus (first | (simp; done) | (simp; omega) | omega)) | ((with_reducible refine Below.alloc ?_ ?_ _); rotate_left; focus (first | (simp; done) | (simp; omega) | omega))))))).mono ?_; rintro e w1 ⟨⟨q', qc', rfl, RV'⟩, hb⟩; have HRV' : Hid (RowV _ _ _) := RV'; have hB1 : Below wc.heap.size wc w1 := (show Below wc.heap.size wc _ by (repeat (first | (with_reducible exact Below.refl _ _) | (with_reducible assumption) | (with_reducible apply below_drewN) | (with_reducible apply Below.drew) | ((with_reducible refine Below.setCell ?_ ?_ _); rotate_left; focus (first | (simp; done) | (simp; omega) | omega)) | ((with_reducible refine Below.alloc ?_ ?_ _); rotate_left; focus (first | (simp; done) | (simp; omega) | omega))))).trans (hb.mono (by simp)); have hzb1 := hB1.size; clear RV' hb) | (go_at_call 128; refine (HOL.out q' qc' _ HRV'.out).mono ?_; rintro e w2 ⟨rfl, hb⟩; have hB2 := hB1.trans (hb.mono hB1.size); have hzb2 := hB2.size; clear hb))
        all_goals
          have hbz := hbw.trans (hB2.mono hbw.size)
          go_wp2_with fail
          go_ret
          exact ⟨rfl, hbz⟩
      · go_wp2_with fail
        go_region_held3 (fun w0 => w0.cell? ⟨b, 0, none⟩ = some (.slice q L.length qc) ∧ w0.cell? ⟨b, 1, none⟩ = some (.int .i64 c.k) ∧ w0.cell? ⟨b, 2, none⟩ = some (.int .i64 c.n) ∧ w0.cell? ⟨b, 3, none⟩ = some (.string c.t) ∧ w0.cell? ⟨w.heap.size, 0, none⟩ = some (.int .i64 6)) ((refine keepR Y hxl g0 ?_; (repeat (first | (with_reducible exact Below.refl _ _) | (with_reducible assumption) | (with_reducible apply below_drewN) | (with_reducible apply Below.drew) | ((with_reducible refine Below.setCell ?_ ?_ _); rotate_left; focus (first | (simp; done) | (simp; omega) | omega)) | ((with_reducible refine Below.alloc ?_ ?_ _); rotate_left; focus (first | (simp; done) | (simp; omega) | omega)))))) (first | (go_at_call 127; refine (withNull_any q qc L c _ (HRV.out.next (by (repeat (first | (with_reducible exact Below.refl _ _) | (with_reducible assumption) | (with_reducible apply below_drewN) | (with_reducible apply Below.drew) | ((with_reducible refine Below.setCell ?_ ?_ _); rotate_left; focus (first | (simp; done) | (simp; omega) | omega)) | ((with_reducible refine Below.alloc ?_ ?_ _); rotate_left; focus (first | (simp; done) | (simp; omega) | omega))))))).mono ?_; rintro e w1 ⟨⟨q', qc', rfl, RV'⟩, hb⟩; have HRV' : Hid (RowV _ _ _) := RV'; have hB1 : Below wc.heap.size wc w1 := (show Below wc.heap.size wc _ by (repeat (first | (with_reducible exact Below.refl _ _) | (with_reducible assumption) | (with_reducible apply below_drewN) | (with_reducible apply Below.drew) | ((with_reducible refine Below.setCell ?_ ?_ _); rotate_left; focus (first | (simp; done) | (simp; omega) | omega)) | ((with_reducible refine Below.alloc ?_ ?_ _); rotate_left; focus (first | (simp; done) | (simp; omega) | omega))))).trans (hb.mono (by simp)); have hzb1 := hB1.size; clear RV' hb) | (go_at_call 128; refine (HOL.out q' qc' _ HRV'.out).mono ?_; rintro e w2 ⟨rfl, hb⟩; have hB2 := hB1.trans (hb.mono hB1.size); have hzb2 := hB2.size; clear hb))
        all_goals
          have hbz := hbw.trans (hB2.mono hbw.size)
          go_wp2_with fail
          go_ret
          exact ⟨rfl, hbz⟩
    · have hov : op = 1 ∨ op = 2 ∨ op = 7 ∨ op = 10 := by omega
      have HOL : Hid (∀ (q' : Option Addr) (qc' : Nat) (W : World), RowV W q' (withZ L) → Calls _ _ _ W _) := fun q' qc' W hW => value_lets op hov q' qc' (withZ L) c W HC.out H7.out HMO.out hW hMl
      rw [← hRo] at HOL
      clear hRo
      rcases hov with rfl | rfl | rfl | rfl
      · go_wp2_with fail
        go_region_held3 (fun w0 => w0.cell? ⟨b, 0, none⟩ = some (.slice q L.length qc) ∧ w0.cell? ⟨b, 1, none⟩ = some (.int .i64 c.k) ∧ w0.cell? ⟨b, 2, none⟩ = some (.int .i64 c.n) ∧ w0.cell? ⟨b, 3, none⟩ = some (.string c.t) ∧ w0.cell? ⟨w.heap.size, 0, none⟩ = some (.int .i64 1)) ((refine keepR Y hxl g0 ?_; (repeat (first | (with_reducible exact Below.refl _ _) | (with_reducible assumption) | (with_reducible apply below_drewN) | (with_reducible apply Below.drew) | ((with_reducible refine Below.setCell ?_ ?_ _); rotate_left; focus (first | (simp; done) | (simp; omega) | omega)) | ((with_reducible refine Below.alloc ?_ ?_ _); rotate_left; focus (first | (simp; done) | (simp; omega) | omega)))))) (first | (go_at_call 127; refine (withNull_any q qc L c _ (HRV.out.next (by (repeat (first | (with_reducible exact Below.refl _ _) | (with_reducible assumption) | (with_reducible apply below_drewN) | (with_reducible apply Below.drew) | ((with_reducible refine Below.setCell ?_ ?_ _); rotate_left; focus (first | (simp; done) | (simp; omega) | omega)) | ((with_reducible refine Below.alloc ?_ ?_ _); rotate_left; focus (first | (simp; done) | (simp; omega) | omega))))))).mono ?_; rintro e w1 ⟨⟨q', qc', rfl, RV'⟩, hb⟩; have HRV' : Hid (RowV _ _ _) := RV'; have hB1 : Below wc.heap.size wc w1 := (show Below wc.heap.size wc _ by (repeat (first | (with_reducible exact Below.refl _ _) | (with_reducible assumption) | (with_reducible apply below_drewN) | (with_reducible apply Below.drew) | ((with_reducible refine Below.setCell ?_ ?_ _); rotate_left; focus (first | (simp; done) | (simp; omega) | omega)) | ((with_reducible refine Below.alloc ?_ ?_ _); rotate_left; focus (first | (simp; done) | (simp; omega) | omega))))).trans (hb.mono (by simp)); have hzb1 := hB1.size; clear RV' hb) | (go_at_call 129; refine (HOL.out q' qc' _ HRV'.out).mono ?_; rintro e w2 ⟨rfl, hb⟩; have hB2 := hB1.trans (hb.mono hB1.size); have hzb2 := hB2.size; clear hb))
        all_goals
          have hbz := hbw.trans (hB2.mono hbw.size)
          go_wp2_with fail
          go_ret
          exact ⟨rfl, hbz⟩
      · go_wp2_with fail
        go_region_held3 (fun w0 => w0.cell? ⟨b, 0, none⟩ = some (.slice q L.length qc) ∧ w0.cell? ⟨b, 1, none⟩ = some (.int .i64 c.k) ∧ w0.cell? ⟨b, 2, none⟩ = some (.int .i64 c.n) ∧ w0.cell? ⟨b, 3, none⟩ = some (.string c.t) ∧ w0.cell? ⟨w.heap.size, 0, none⟩ = some (.int .i64 2)) ((refine keepR Y hxl g0 ?_; (repeat (first | (with_reducible exact Below.refl _ _) | (with_reducible assumption) | (with_reducible apply below_drewN) | (with_reducible apply Below.drew) | ((with_reducible refine Below.setCell ?_ ?_ _); rotate_left; focus (first | (simp; done) | (simp; omega) | omega)) | ((with_reducible refine Below.alloc ?_ ?_ _); rotate_left; focus (first | (simp; done) | (simp; omega) | omega)))))) (first | (go_at_call 127; refine (withNull_any q qc L c _ (HRV.out.next (by (repeat (first | (with_reducible exact Below.refl _ _) | (with_reducible assumption) | (with_reducible apply below_drewN) | (with_reducible apply Below.drew) | ((with_reducible refine Below.setCell ?_ ?_ _); rotate_left; focus (first | (simp; done) | (simp; omega) | omega)) | ((with_reducible refine Below.alloc ?_ ?_ _); rotate_left; focus (first | (simp; done) | (simp; omega) | omega))))))).mono ?_; rintro e w1 ⟨⟨q', qc', rfl, RV'⟩, hb⟩; have HRV' : Hid (RowV _ _ _) := RV'; have hB1 : Below wc.heap.size wc w1 := (show Below wc.heap.size wc _ by (repeat (first | (with_reducible exact Below.refl _ _) | (with_reducible assumption) | (with_reducible apply below_drewN) | (with_reducible apply Below.drew) | ((with_reducible refine Below.setCell ?_ ?_ _); rotate_left; focus (first | (simp; done) | (simp; omega) | omega)) | ((with_reducible refine Below.alloc ?_ ?_ _); rotate_left; focus (first | (simp; done) | (simp; omega) | omega))))).trans (hb.mono (by simp)); have hzb1 := hB1.size; clear RV' hb) | (go_at_call 129; refine (HOL.out q' qc' _ HRV'.out).mono ?_; rintro e w2 ⟨rfl, hb⟩; have hB2 := hB1.trans (hb.mono hB1.size); have hzb2 := hB2.size; clear hb))
        all_goals
          have hbz := hbw.trans (hB2.mono hbw.size)
          go_wp2_with fail
          go_ret
          exact ⟨rfl, hbz⟩
      · go_wp2_with fail
        go_region_held3 (fun w0 => w0.cell? ⟨b, 0, none⟩ = some (.slice q L.length qc) ∧ w0.cell? ⟨b, 1, none⟩ = some (.int .i64 c.k) ∧ w0.cell? ⟨b, 2, none⟩ = some (.int .i64 c.n) ∧ w0.cell? ⟨b, 3, none⟩ = some (.string c.t) ∧ w0.cell? ⟨w.heap.size, 0, none⟩ = some (.int .i64 7)) ((refine keepR Y hxl g0 ?_; (repeat (first | (with_reducible exact Below.refl _ _) | (with_reducible assumption) | (with_reducible apply below_drewN) | (with_reducible apply Below.drew) | ((with_reducible refine Below.setCell ?_ ?_ _); rotate_left; focus (first | (simp; done) | (simp; omega) | omega)) | ((with_reducible refine Below.alloc ?_ ?_ _); rotate_left; focus (first | (simp; done) | (simp; omega) | omega)))))) (first | (go_at_call 127; refine (withNull_any q qc L c _ (HRV.out.next (by (repeat (first | (with_reducible exact Below.refl _ _) | (with_reducible assumption) | (with_reducible apply below_drewN) | (with_reducible apply Below.drew) | ((with_reducible refine Below.setCell ?_ ?_ _); rotate_left; focus (first | (simp; done) | (simp; omega) | omega)) | ((with_reducible refine Below.alloc ?_ ?_ _); rotate_left; focus (first | (simp; done) | (simp; omega) | omega))))))).mono ?_; rintro e w1 ⟨⟨q', qc', rfl, RV'⟩, hb⟩; have HRV' : Hid (RowV _ _ _) := RV'; have hB1 : Below wc.heap.size wc w1 := (show Below wc.heap.size wc _ by (repeat (first | (with_reducible exact Below.refl _ _) | (with_reducible assumption) | (with_reducible apply below_drewN) | (with_reducible apply Below.drew) | ((with_reducible refine Below.setCell ?_ ?_ _); rotate_left; focus (first | (simp; done) | (simp; omega) | omega)) | ((with_reducible refine Below.alloc ?_ ?_ _); rotate_left; focus (first | (simp; done) | (simp; omega) | omega))))).trans (hb.mono (by simp)); have hzb1 := hB1.size; clear RV' hb) | (go_at_call 129; refine (HOL.out q' qc' _ HRV'.out).mono ?_; rintro e w2 ⟨rfl, hb⟩; have hB2 := hB1.trans (hb.mono hB1.size); have hzb2 := hB2.size; clear hb))
        all_goals
          have hbz := hbw.trans (hB2.mono hbw.size)
          go_wp2_with fail
          go_ret
          exact ⟨rfl, hbz⟩
      · go_wp2_with fail
        go_region_held3 (fun w0 => w0.cell? ⟨b, 0, none⟩ = some (.slice q L.length qc) ∧ w0.cell? ⟨b, 1, none⟩ = some (.int .i64 c.k) ∧ w0.cell? ⟨b, 2, none⟩ = some (.int .i64 c.n) ∧ w0.cell? ⟨b, 3, none⟩ = some (.string c.t) ∧ w0.cell? ⟨w.heap.size, 0, none⟩ = some (.int .i64 10)) ((refine keepR Y hxl g0 ?_; (repeat (first | (with_reducible exact Below.refl _ _) | (with_reducible assumption) | (with_reducible apply below_drewN) | (with_reducible apply Below.drew) | ((with_reducible refine Below.setCell ?_ ?_ _); rotate_left; focus (first | (simp; done) | (simp; omega) | omega)) | ((with_reducible refine Below.alloc ?_ ?_ _); rotate_left; focus (first | (simp; done) | (simp; omega) | omega)))))) (first | (go_at_call 127; refine (withNull_any q qc L c _ (HRV.out.next (by (repeat (first | (with_reducible exact Below.refl _ _) | (with_reducible assumption) | (with_reducible apply below_drewN) | (with_reducible apply Below.drew) | ((with_reducible refine Below.setCell ?_ ?_ _); rotate_left; focus (first | (simp; done) | (simp; omega) | omega)) | ((with_reducible refine Below.alloc ?_ ?_ _); rotate_left; focus (first | (simp; done) | (simp; omega) | omega))))))).mono ?_; rintro e w1 ⟨⟨q', qc', rfl, RV'⟩, hb⟩; have HRV' : Hid (RowV _ _ _) := RV'; have hB1 : Below wc.heap.size wc w1 := (show Below wc.heap.size wc _ by (repeat (first | (with_reducible exact Below.refl _ _) | (with_reducible assumption) | (with_reducible apply below_drewN) | (with_reducible apply Below.drew) | ((with_reducible refine Below.setCell ?_ ?_ _); rotate_left; focus (first | (simp; done) | (simp; omega) | omega)) | ((with_reducible refine Below.alloc ?_ ?_ _); rotate_left; focus (first | (simp; done) | (simp; omega) | omega))))).trans (hb.mono (by simp)); have hzb1 := hB1.size; clear RV' hb) | (go_at_call 129; refine (HOL.out q' qc' _ HRV'.out).mono ?_; rintro e w2 ⟨rfl, hb⟩; have hB2 := hB1.trans (hb.mono hB1.size); have hzb2 := hB2.size; clear hb))
        all_goals
          have hbz := hbw.trans (hB2.mono hbw.size)
          go_wp2_with fail
          go_ret
          exact ⟨rfl, hbz⟩

end Go.Proofs.YtkeghknceccdmaaGreatDoor

/- What the specification's trial of a document by a term answers. -/
namespace Go.Proofs.YtkeghknceccdmaaGreatDoor
open Go.RowKit
set_option linter.unusedVariables false

theorem lets_exists (c : Val) (L : List Val) : letsT 8 c L = (decide (0 < (L.length : Int)) == (c.n == 1)) := by
  unfold letsT; rw [if_pos rfl]; congr 1
theorem op_two (op : Int) : (op == 2) = decide (op = 2) := by rw [Bool.eq_iff_iff]; simp

set_option maxRecDepth 4000 in
set_option maxHeartbeats 1000000 in
theorem l02Values_any (v : Val) (p : ByteArray) (w : World) (hv : okB v = true) (hp : p.size ≤ 300) :
    Calls Tryz.prog 321 #[.agg #[.int .i64 v.k, .int .i64 v.n, .string v.t], .string p] w fun e w' => OutV (getP (pieces p) v) w' e ∧ Below w.heap.size w w' := by
  have X0 := Boxed.start w (.int .i64 v.k) (.int .i64 v.n) (.string v.t) 28
  have hs := ok_size v hv
  have hpl := pieces_len_le p
  have HV : Hid (okB v = true) := hv
  clear hv
  go_enter Tryz.func321, Tryz.ntmps321
  go_wp2_with fail
  go_region_with (first | (go_at_call 206; refine (l00CutC_any p _ (by omega)).mono ?_; rintro e w1 ⟨⟨g, cap, rfl, hcap, R⟩, hb⟩; have X1 := (X0.step (Below.refl _ _).drew).step hb; have HR : Hid (ReadS _ _ _ _) := R; have a0 := X1.c0; have a1 := X1.c1; have a2 := X1.c2; clear R hb) | (go_at_call 327; refine (get_at (pieces p) (by omega) 5 v g 0 cap _ HV.out hs hcap HR.out).mono ?_; rintro e w2 ⟨⟨g2, cap2, rfl, R2⟩, hb2⟩; have hbw := (X1.step hb2).bel; have HR2 : Hid (ReadV _ _ _) := R2; clear R2 hb2))
  all_goals
    go_wp2_with fail
    go_ret
    exact ⟨OutV.mk g2 cap2 rfl HR2.out, hbw⟩

set_option maxRecDepth 8000 in
set_option maxHeartbeats 4000000 in
theorem l03Term_any (op : Int) (p : ByteArray) (c doc : Val) (w : World) (hp : p.size ≤ 300) (hop : 1 ≤ op ∧ op ≤ 10) (h7 : op = 7 → c.k = 4) (hc : okB c = true) (hd : okB doc = true) :
    Calls Tryz.prog 309 #[.agg #[.int .i64 op, .string p, .int .i64 c.k, .int .i64 c.n, .string c.t], .agg #[.int .i64 doc.k, .int .i64 doc.n, .string doc.t]] w fun e w' => e = .returned (.bool (termL op p c doc)) ∧ Below w.heap.size w w' := by
  have X0 := B53.start w (.int .i64 op) (.string p) (.int .i64 c.k) (.int .i64 c.n) (.string c.t) (.int .i64 doc.k) (.int .i64 doc.n) (.string doc.t) 34 28
  have hgl := getP_len (pieces p) doc
  have hsd := ok_size doc hd
  have hLO := getP_ok (pieces p) doc hd
  have HV0 : Hid (∀ W : World, Calls _ _ _ W _) := fun W => l02Values_any doc p W hd hp
  unfold termL
  obtain ⟨L, hL⟩ : ∃ L, L = getP (pieces p) doc := ⟨_, rfl⟩
  rw [← hL] at hgl hLO HV0 ⊢
  obtain ⟨RR, hRR⟩ : ∃ RR, RR = letsT op c L := ⟨_, rfl⟩
  rw [← hRR]
  have HRR : Hid _ := hRR
  clear hRR
  have HC : Hid (okB c = true) := hc
  have H7 : Hid _ := h7
  have HLO : Hid _ := hLO
  clear hc hd hL h7 hLO
  go_enter Tryz.func309, Tryz.ntmps309
  go_wp2_with fail
  refine (HV0.out _).mono ?_
  rintro e w1 ⟨⟨g1, cap1, rfl, R1⟩, hb⟩
  have X1 := X0.step hb
  have a0 := X1.c0
  have a3 := X1.c3
  have hbw1 := X1.bel
  have HR1 : Hid (ReadV _ _ _) := R1
  clear hb X0 R1
  by_cases h8 : op = 8
  · subst h8
    go_wp2_with fail
    go_ret
    exact ⟨ret_bool (by rw [HRR.out, lets_exists]; simp), hbw1⟩
  have e8 : (op == 8) = false := beq_eq_false_iff_ne.mpr h8
  have hRo : RR = ((heldT op L).any (oneT op c) != decide (op = 2)) := by rw [HRR.out]; unfold letsT; rw [if_neg h8]
  clear HRR
  obtain ⟨M, hM⟩ : ∃ M, M = heldT op L := ⟨_, rfl⟩
  have hMO := heldT_ok op L HLO.out
  rw [← hM] at hMO hRo
  have HMO : Hid _ := hMO
  have HR : Hid _ := hRo
  have HOP : Hid (1 ≤ op ∧ op ≤ 10 ∧ op ≠ 8) := ⟨hop.1, hop.2, h8⟩
  unfold heldT at hM
  clear hRo hMO h8 hop
  by_cases hB : L = [] ∧ op ≠ 9
  · rw [if_pos hB.1, if_neg hB.2] at hM
    have hl0 : ((L.length : Int) == 0) = true := by rw [hB.1]; rfl
    have e9 : (op == 9) = false := beq_eq_false_iff_ne.mpr hB.2
    have e9' : (op != 9) = true := by simp [hB.2]
    have hMl : M.length = 1 := by rw [hM]; rfl
    have hRZ : ReadV (w1.alloc (.cells #[.int .i64 0, .int .i64 0, .string em] 28)) w1.heap.size M := by
      rw [hM]; exact ReadV.of_own (l := [⟨0, 0, em⟩]) (owns_one w1 ⟨0, 0, em⟩ (base := w1.heap.size) (Nat.le_refl _))
    have XM := X1.step ((Below.refl _ _).alloc (Nat.le_refl _) (.cells #[.int .i64 0, .int .i64 0, .string em] 28))
    have HRM : Hid (ReadV _ _ _) := hRZ
    clear HR1 hM hB hRZ X1
    go_wp2_with fail
    obtain ⟨gM, hgM⟩ : ∃ gM, gM = w1.heap.size := ⟨_, rfl⟩
    rw [← hgM] at HRM ⊢
    clear hgM
    generalize w1.alloc (.cells #[.int .i64 0, .int .i64 0, .string em] 28) = Wm at XM HRM ⊢
    go_loopw [6, 7] (fun s i wr => ∃ k : Nat, k ≤ 1 ∧ i = .int .i64 k ∧ s = .bool ((M.take k).any (oneT op c)) ∧ Below Wm.heap.size Wm wr) (fun _ i _ => 1 - (intOf i).toNat)
    case atStart => exact ⟨0, Nat.zero_le _, rfl, by simp, Below.refl _ _⟩
    case round =>
      obtain ⟨k, hk, rfl, rfl, hbel⟩ := hrel
      have Y := XM.step hbel
      have hlY : w.heap.size < wr.heap.size := Nat.lt_of_succ_lt Y.lt
      by_cases hlt : k < M.length
      · obtain rfl : k = 0 := by omega
        have RR := HRM.out.next hbel
        obtain ⟨x0, x1, x2⟩ := RR.cells 0 hlt
        simp only [Nat.zero_mul, Nat.zero_add] at x0 x1 x2
        have hgr := RR.lt
        have hlt2 : ((0 : Nat) : Int) < ((1 : Nat) : Int) := by omega
        have q0 : ∀ u : Under wr, u.x.cell? ⟨w.heap.size, 0, none⟩ = some (.int .i64 op) := fun u => (u.h.cell hlY).trans Y.c0
        have q1 : ∀ u : Under wr, u.x.cell? ⟨w.heap.size, 1, none⟩ = some (.string p) := fun u => (u.h.cell hlY).trans Y.c1
        have q2 : ∀ u : Under wr, u.x.cell? ⟨w.heap.size, 2, none⟩ = some (.int .i64 c.k) := fun u => (u.h.cell hlY).trans Y.c2
        have q3 : ∀ u : Under wr, u.x.cell? ⟨w.heap.size, 3, none⟩ = some (.int .i64 c.n) := fun u => (u.h.cell hlY).trans Y.c3
        have q4 : ∀ u : Under wr, u.x.cell? ⟨w.heap.size, 4, none⟩ = some (.string c.t) := fun u => (u.h.cell hlY).trans Y.c4
        have y0 : ∀ u : Under wr, u.x.cell? ⟨gM, 0, none⟩ = some (.int .i64 M[0].k) := fun u => (u.h.cell hgr).trans x0
        have y1 : ∀ u : Under wr, u.x.cell? ⟨gM, 1, none⟩ = some (.int .i64 M[0].n) := fun u => (u.h.cell hgr).trans x1
        have y2 : ∀ u : Under wr, u.x.cell? ⟨gM, 2, none⟩ = some (.string M[0].t) := fun u => (u.h.cell hgr).trans x2
        have hnu : Nonempty (Under wr) := ⟨⟨wr, Below.refl _ _⟩⟩
        have HC1 : Hid (∀ W : World, Calls _ _ _ W _) := fun W => l03One_any op p c M[0] W HOP.out H7.out HC.out (HMO.out M[0] (List.getElem_mem _))
        have hsucc : (M.take (0 + 1)).any (oneT op c) = ((M.take 0).any (oneT op c) || oneT op c M[0]) := by rw [List.take_succ_eq_append_getElem hlt, List.any_append]; simp
        obtain ⟨S, hS⟩ : ∃ S, S = (M.take 0).any (oneT op c) := ⟨_, rfl⟩
        obtain ⟨O, hO⟩ : ∃ O, O = oneT op c M[0] := ⟨_, rfl⟩
        rw [← hS, ← hO] at hsucc
        rw [← hS]
        rw [← hO] at HC1
        have HSU : Hid _ := hsucc
        clear hsucc hS hO RR x0 x1 x2
        cases S
        · go_wp2_with fail
          refine wp_region_under (by kernel_rfl) (by kernel_rfl) ?_
          repeat (go_big_quiet_step ((go_at_call 322; exact calls_under _ (HC1.out _))))
          refine wpQuiet_nil ?_
          rintro _ ⟨u, rfl⟩
          have hbu := hbel.trans (u.h.mono hbel.size)
          clear q0 q1 q2 q3 q4 y0 y1 y2 hnu
          go_wp2_with fail
          go_roundw
          case rel => exact ⟨0 + 1, by omega, by go_num, by rw [HSU.out]; simp, hbu⟩
          case measure => simp [intOf] <;> omega
        · go_wp2_with fail
          refine wp_region_under (by kernel_rfl) (by kernel_rfl) ?_
          repeat (go_big_quiet_step (fail))
          refine wpQuiet_nil ?_
          rintro _ ⟨u, rfl⟩
          have hbu := hbel.trans (u.h.mono hbel.size)
          clear q0 q1 q2 q3 q4 y0 y1 y2 hnu
          go_wp2_with fail
          go_roundw
          case rel => exact ⟨0 + 1, by omega, by go_num, by rw [HSU.out]; simp, hbu⟩
          case measure => simp [intOf] <;> omega
      · have hlt2 : ¬ (k : Int) < ((1 : Nat) : Int) := by omega
        have z0 := Y.c0
        have hbw := Y.bel
        have e : M.take k = M := List.take_of_length_le (by omega)
        rw [e]
        obtain ⟨S, hS⟩ : ∃ S, S = M.any (oneT op c) := ⟨_, rfl⟩
        rw [← hS]
        have hRo := HR.out
        rw [← hS] at hRo
        have HRO : Hid _ := hRo
        clear hRo HR hS Y
        go_wp2_with fail
        go_ret
        exact ⟨ret_bool (by rw [HRO.out, ← op_two]; generalize (op == 2) = b; cases S <;> cases b <;> rfl), hbw⟩
  · have hM' : M = L := by
      rw [hM]
      by_cases hL0 : L = []
      · rw [if_pos hL0, if_pos (by rcases Decidable.em (op = 9) with h | h; exact h; exact absurd ⟨hL0, h⟩ hB), hL0]
      · rw [if_neg hL0]
    clear hM
    subst hM'
    have HRM : Hid (ReadV _ _ _) := HR1.out
    obtain ⟨Wm, hWm⟩ : ∃ Wm, Wm = w1 := ⟨_, rfl⟩
    subst hWm
    obtain ⟨gM, hgM⟩ : ∃ gM, gM = g1 := ⟨_, rfl⟩
    subst hgM
    have XM := X1
    clear HR1 X1
    by_cases hL0 : M = []
    · have e9 : (op == 9) = true := by rcases Decidable.em (op = 9) with h | h; simp [h]; exact absurd ⟨hL0, h⟩ hB
      have e9' : (op != 9) = false := by rcases Decidable.em (op = 9) with h | h; simp [h]; exact absurd ⟨hL0, h⟩ hB
      have hl0 : ((M.length : Int) == 0) = true := by rw [hL0]; rfl
      clear hB hL0
      go_wp2_with fail
      go_loopw [6, 7] (fun s i wr => ∃ k : Nat, k ≤ M.length ∧ i = .int .i64 k ∧ s = .bool ((M.take k).any (oneT op c)) ∧ Below Wm.heap.size Wm wr) (fun _ i _ => M.length - (intOf i).toNat)
      case atStart => exact ⟨0, Nat.zero_le _, rfl, by simp, Below.refl _ _⟩
      case round =>
        obtain ⟨k, hk, rfl, rfl, hbel⟩ := hrel
        have Y := XM.step hbel
        have hlY : w.heap.size < wr.heap.size := Nat.lt_of_succ_lt Y.lt
        by_cases hlt : k < M.length
        · have RR := HRM.out.next hbel
          obtain ⟨x0, x1, x2⟩ := RR.cells k hlt
          have hgr := RR.lt
          have hlt2 : (k : Int) < ((M.length : Nat) : Int) := by omega
          have q0 : ∀ u : Under wr, u.x.cell? ⟨w.heap.size, 0, none⟩ = some (.int .i64 op) := fun u => (u.h.cell hlY).trans Y.c0
          have q1 : ∀ u : Under wr, u.x.cell? ⟨w.heap.size, 1, none⟩ = some (.string p) := fun u => (u.h.cell hlY).trans Y.c1
          have q2 : ∀ u : Under wr, u.x.cell? ⟨w.heap.size, 2, none⟩ = some (.int .i64 c.k) := fun u => (u.h.cell hlY).trans Y.c2
          have q3 : ∀ u : Under wr, u.x.cell? ⟨w.heap.size, 3, none⟩ = some (.int .i64 c.n) := fun u => (u.h.cell hlY).trans Y.c3
          have q4 : ∀ u : Under wr, u.x.cell? ⟨w.heap.size, 4, none⟩ = some (.string c.t) := fun u => (u.h.cell hlY).trans Y.c4
          have y0 : ∀ u : Under wr, u.x.cell? ⟨gM, k * 3, none⟩ = some (.int .i64 M[k].k) := fun u => (u.h.cell hgr).trans x0
          have y1 : ∀ u : Under wr, u.x.cell? ⟨gM, k * 3 + 1, none⟩ = some (.int .i64 M[k].n) := fun u => (u.h.cell hgr).trans x1
          have y2 : ∀ u : Under wr, u.x.cell? ⟨gM, k * 3 + 2, none⟩ = some (.string M[k].t) := fun u => (u.h.cell hgr).trans x2
          have hnu : Nonempty (Under wr) := ⟨⟨wr, Below.refl _ _⟩⟩
          have HC1 : Hid (∀ W : World, Calls _ _ _ W _) := fun W => l03One_any op p c M[k] W HOP.out H7.out HC.out (HMO.out M[k] (List.getElem_mem _))
          have hsucc : (M.take (k + 1)).any (oneT op c) = ((M.take k).any (oneT op c) || oneT op c M[k]) := by rw [List.take_succ_eq_append_getElem hlt, List.any_append]; simp
          obtain ⟨S, hS⟩ : ∃ S, S = (M.take k).any (oneT op c) := ⟨_, rfl⟩
          obtain ⟨O, hO⟩ : ∃ O, O = oneT op c M[k] := ⟨_, rfl⟩
          rw [← hS, ← hO] at hsucc
          rw [← hS]
          rw [← hO] at HC1
          have HSU : Hid _ := hsucc
          clear hsucc hS hO RR x0 x1 x2
          cases S
          · go_wp2_with fail
            refine wp_region_under (by kernel_rfl) (by kernel_rfl) ?_
            repeat (go_big_quiet_step ((go_at_call 322; exact calls_under _ (HC1.out _))))
            refine wpQuiet_nil ?_
            rintro _ ⟨u, rfl⟩
            have hbu := hbel.trans (u.h.mono hbel.size)
            clear q0 q1 q2 q3 q4 y0 y1 y2 hnu
            go_wp2_with fail
            go_roundw
            case rel => exact ⟨k + 1, by omega, by go_num, by rw [HSU.out]; simp, hbu⟩
            case measure => simp [intOf] <;> omega
          · go_wp2_with fail
            refine wp_region_under (by kernel_rfl) (by kernel_rfl) ?_
            repeat (go_big_quiet_step (fail))
            refine wpQuiet_nil ?_
            rintro _ ⟨u, rfl⟩
            have hbu := hbel.trans (u.h.mono hbel.size)
            clear q0 q1 q2 q3 q4 y0 y1 y2 hnu
            go_wp2_with fail
            go_roundw
            case rel => exact ⟨k + 1, by omega, by go_num, by rw [HSU.out]; simp, hbu⟩
            case measure => simp [intOf] <;> omega
        · have hlt2 : ¬ (k : Int) < ((M.length : Nat) : Int) := by omega
          have z0 := Y.c0
          have hbw := Y.bel
          have e : M.take k = M := List.take_of_length_le (by omega)
          rw [e]
          obtain ⟨S, hS⟩ : ∃ S, S = M.any (oneT op c) := ⟨_, rfl⟩
          rw [← hS]
          have hRo := HR.out
          rw [← hS] at hRo
          have HRO : Hid _ := hRo
          clear hRo HR hS Y
          go_wp2_with fail
          go_ret
          exact ⟨ret_bool (by rw [HRO.out, ← op_two]; generalize (op == 2) = b; cases S <;> cases b <;> rfl), hbw⟩
    · have hl0 : ((M.length : Int) == 0) = false := beq_eq_false_iff_ne.mpr (fun e => hL0 (List.eq_nil_of_length_eq_zero (by omega)))
      clear hB hL0
      go_wp2_with fail
      go_loopw [6, 7] (fun s i wr => ∃ k : Nat, k ≤ M.length ∧ i = .int .i64 k ∧ s = .bool ((M.take k).any (oneT op c)) ∧ Below Wm.heap.size Wm wr) (fun _ i _ => M.length - (intOf i).toNat)
      case atStart => exact ⟨0, Nat.zero_le _, rfl, by simp, Below.refl _ _⟩
      case round =>
        obtain ⟨k, hk, rfl, rfl, hbel⟩ := hrel
        have Y := XM.step hbel
        have hlY : w.heap.size < wr.heap.size := Nat.lt_of_succ_lt Y.lt
        by_cases hlt : k < M.length
        · have RR := HRM.out.next hbel
          obtain ⟨x0, x1, x2⟩ := RR.cells k hlt
          have hgr := RR.lt
          have hlt2 : (k : Int) < ((M.length : Nat) : Int) := by omega
          have q0 : ∀ u : Under wr, u.x.cell? ⟨w.heap.size, 0, none⟩ = some (.int .i64 op) := fun u => (u.h.cell hlY).trans Y.c0
          have q1 : ∀ u : Under wr, u.x.cell? ⟨w.heap.size, 1, none⟩ = some (.string p) := fun u => (u.h.cell hlY).trans Y.c1
          have q2 : ∀ u : Under wr, u.x.cell? ⟨w.heap.size, 2, none⟩ = some (.int .i64 c.k) := fun u => (u.h.cell hlY).trans Y.c2
          have q3 : ∀ u : Under wr, u.x.cell? ⟨w.heap.size, 3, none⟩ = some (.int .i64 c.n) := fun u => (u.h.cell hlY).trans Y.c3
          have q4 : ∀ u : Under wr, u.x.cell? ⟨w.heap.size, 4, none⟩ = some (.string c.t) := fun u => (u.h.cell hlY).trans Y.c4
          have y0 : ∀ u : Under wr, u.x.cell? ⟨gM, k * 3, none⟩ = some (.int .i64 M[k].k) := fun u => (u.h.cell hgr).trans x0
          have y1 : ∀ u : Under wr, u.x.cell? ⟨gM, k * 3 + 1, none⟩ = some (.int .i64 M[k].n) := fun u => (u.h.cell hgr).trans x1
          have y2 : ∀ u : Under wr, u.x.cell? ⟨gM, k * 3 + 2, none⟩ = some (.string M[k].t) := fun u => (u.h.cell hgr).trans x2
          have hnu : Nonempty (Under wr) := ⟨⟨wr, Below.refl _ _⟩⟩
          have HC1 : Hid (∀ W : World, Calls _ _ _ W _) := fun W => l03One_any op p c M[k] W HOP.out H7.out HC.out (HMO.out M[k] (List.getElem_mem _))
          have hsucc : (M.take (k + 1)).any (oneT op c) = ((M.take k).any (oneT op c) || oneT op c M[k]) := by rw [List.take_succ_eq_append_getElem hlt, List.any_append]; simp
          obtain ⟨S, hS⟩ : ∃ S, S = (M.take k).any (oneT op c) := ⟨_, rfl⟩
          obtain ⟨O, hO⟩ : ∃ O, O = oneT op c M[k] := ⟨_, rfl⟩
          rw [← hS, ← hO] at hsucc
          rw [← hS]
          rw [← hO] at HC1
          have HSU : Hid _ := hsucc
          clear hsucc hS hO RR x0 x1 x2
          cases S
          · go_wp2_with fail
            refine wp_region_under (by kernel_rfl) (by kernel_rfl) ?_
            repeat (go_big_quiet_step ((go_at_call 322; exact calls_under _ (HC1.out _))))
            refine wpQuiet_nil ?_
            rintro _ ⟨u, rfl⟩
            have hbu := hbel.trans (u.h.mono hbel.size)
            clear q0 q1 q2 q3 q4 y0 y1 y2 hnu
            go_wp2_with fail
            go_roundw
            case rel => exact ⟨k + 1, by omega, by go_num, by rw [HSU.out]; simp, hbu⟩
            case measure => simp [intOf] <;> omega
          · go_wp2_with fail
            refine wp_region_under (by kernel_rfl) (by kernel_rfl) ?_
            repeat (go_big_quiet_step (fail))
            refine wpQuiet_nil ?_
            rintro _ ⟨u, rfl⟩
            have hbu := hbel.trans (u.h.mono hbel.size)
            clear q0 q1 q2 q3 q4 y0 y1 y2 hnu
            go_wp2_with fail
            go_roundw
            case rel => exact ⟨k + 1, by omega, by go_num, by rw [HSU.out]; simp, hbu⟩
            case measure => simp [intOf] <;> omega
        · have hlt2 : ¬ (k : Int) < ((M.length : Nat) : Int) := by omega
          have z0 := Y.c0
          have hbw := Y.bel
          have e : M.take k = M := List.take_of_length_le (by omega)
          rw [e]
          obtain ⟨S, hS⟩ : ∃ S, S = M.any (oneT op c) := ⟨_, rfl⟩
          rw [← hS]
          have hRo := HR.out
          rw [← hS] at hRo
          have HRO : Hid _ := hRo
          clear hRo HR hS Y
          go_wp2_with fail
          go_ret
          exact ⟨ret_bool (by rw [HRO.out, ← op_two]; generalize (op == 2) = b; cases S <;> cases b <;> rfl), hbw⟩

end Go.Proofs.YtkeghknceccdmaaGreatDoor

/- Whether a value is a right document: what the program and the specification answer. -/
namespace Go.Proofs.YtkeghknceccdmaaGreatDoor
open Go.RowKit
set_option linter.unusedVariables false

theorem docB_ok (v : Val) (h : docB v = true) : okB v = true := by unfold docB at h; rw [Bool.and_eq_true] at h; exact h.2

set_option maxRecDepth 4000 in
set_option maxHeartbeats 1000000 in
theorem documentOK_any (v : Val) (w : World) (hs : v.t.size ≤ 1048576) :
    Calls Tryz.prog 59 #[.agg #[.int .i64 v.k, .int .i64 v.n, .string v.t]] w fun e w' => e = .returned (.bool (docB v)) ∧ Below w.heap.size w w' := by
  have X0 := Boxed.start w (.int .i64 v.k) (.int .i64 v.n) (.string v.t) 28
  unfold docB
  by_cases h5 : v.k = 5
  · have e5 : (v.k == 5) = true := by simp [h5]
    rw [decide_eq_true h5, Bool.true_and]
    clear h5
    go_enter Tryz.func59, Tryz.ntmps59
    go_wp2_with fail
    refine (valueOK_any v.k v.n v.t _ (by unfold maxLen; omega)).mono ?_
    rintro e w1 ⟨rfl, hb⟩
    have hbw := (X0.step hb).bel
    clear hb
    go_wp2_with fail
    go_ret
    exact ⟨rfl, hbw⟩
  · have e5 : (v.k == 5) = false := beq_eq_false_iff_ne.mpr h5
    rw [decide_eq_false h5, Bool.false_and]
    clear h5
    go_enter Tryz.func59, Tryz.ntmps59
    go_wp2_with fail
    go_ret
    exact ⟨rfl, X0.bel⟩
set_option maxRecDepth 4000 in
set_option maxHeartbeats 1000000 in
theorem l03Doc_any (v : Val) (w : World) (hs : v.t.size ≤ 1048576) :
    Calls Tryz.prog 237 #[.agg #[.int .i64 v.k, .int .i64 v.n, .string v.t]] w fun e w' => e = .returned (.bool (docB v)) ∧ Below w.heap.size w w' := by
  have X0 := Boxed.start w (.int .i64 v.k) (.int .i64 v.n) (.string v.t) 28
  have HC : Hid (∀ W : World, Calls _ _ _ W _) := fun W => specValueOK_any v.k v.n v.t W hs
  have hd : docB v = (okB v && (v.k == 5)) := by unfold docB; rw [Bool.and_comm]; congr 1
  rw [hd]
  have ho : okB ⟨v.k, v.n, v.t⟩ = okB v := rfl
  rw [ho] at HC
  clear hd ho
  obtain ⟨O, hO⟩ : ∃ O, O = okB v := ⟨_, rfl⟩
  rw [← hO] at HC ⊢
  clear hO
  cases O
  · go_enter Tryz.func237, Tryz.ntmps237
    go_wp2_with fail
    refine (HC.out _).mono ?_
    rintro e w1 ⟨rfl, hb⟩
    have hbw := (X0.step hb).bel
    clear hb
    go_wp2_with fail
    go_ret
    exact ⟨rfl, hbw⟩
  · go_enter Tryz.func237, Tryz.ntmps237
    go_wp2_with fail
    refine (HC.out _).mono ?_
    rintro e w1 ⟨rfl, hb⟩
    have X1 := X0.step hb
    have a0 := X1.c0
    have hbw := X1.bel
    clear hb
    go_wp2_with fail
    go_ret
    exact ⟨ret_bool (by simp), hbw⟩

end Go.Proofs.YtkeghknceccdmaaGreatDoor

/- What the two functions that hold a document to a term answer, for every term and every value. -/
namespace Go.Proofs.YtkeghknceccdmaaGreatDoor
open Go.RowKit
set_option linter.unusedVariables false

/-- What holding a document to a term comes to. -/
def matchP (op : Int) (p : ByteArray) (c doc : Val) : Bool × Int := if termB op p c = true ∧ docB doc = true then (termL op p c doc, 0) else (false, 1)
theorem termB_parts (op : Int) (p : ByteArray) (c : Val) (h : termB op p c = true) : p.size ≤ 50 ∧ okB c = true ∧ (1 ≤ op ∧ op ≤ 10) ∧ (op = 7 → c.k = 4) := by
  unfold termB at h
  rw [Bool.and_eq_true, Bool.and_eq_true] at h
  obtain ⟨hp, hc, ht⟩ := h
  refine ⟨?_, hc, ?_, ?_⟩
  · rcases Nat.lt_or_ge 50 p.size with h' | h'
    · rw [pathB_long p h'] at hp; cases hp
    · exact h'
  · unfold takesT at ht
    by_cases h1 : 1 ≤ op ∧ op ≤ 10
    · exact h1
    · rw [if_neg (by omega), if_neg (by omega), if_neg (by omega), if_neg (by omega), if_neg (by omega)] at ht; cases ht
  · intro h7
    subst h7
    unfold takesT at ht
    simpa using ht

set_option maxRecDepth 4000 in
set_option maxHeartbeats 1000000 in
theorem termMatches_any (op : Int) (p : ByteArray) (c doc : Val) (w : World) (hp : p.size ≤ 1048576) (hs : c.t.size ≤ 1048576) (hd : doc.t.size ≤ 1048576) :
    Calls Tryz.prog 18 #[.agg #[.int .i64 op, .string p, .int .i64 c.k, .int .i64 c.n, .string c.t], .agg #[.int .i64 doc.k, .int .i64 doc.n, .string doc.t]] w fun e w' => e = .returned (.tuple #[.bool (matchP op p c doc).1, .int .i64 (matchP op p c doc).2]) ∧ Below w.heap.size w w' := by
  have X0 := B53.start w (.int .i64 op) (.string p) (.int .i64 c.k) (.int .i64 c.n) (.string c.t) (.int .i64 doc.k) (.int .i64 doc.n) (.string doc.t) 34 28
  have HT : Hid (∀ W : World, Calls _ _ _ W _) := fun W => termOK_any op p c.k c.n c.t W hp hs
  have ho : termB op p ⟨c.k, c.n, c.t⟩ = termB op p c := rfl
  rw [ho] at HT
  clear ho
  cases hT : termB op p c
  · have e : matchP op p c doc = (false, 1) := by unfold matchP; rw [if_neg (by rw [hT]; simp)]
    rw [e]
    rw [hT] at HT
    clear e hT
    go_enter Tryz.func18, Tryz.ntmps18
    go_wp2_with fail
    refine (HT.out _).mono ?_
    rintro e w1 ⟨rfl, hb⟩
    have hbw := (X0.step hb).bel
    clear hb
    go_wp2_with fail
    go_ret2
    exact ⟨rfl, hbw⟩
  have HTT : Hid _ := hT
  rw [hT] at HT
  have HD : Hid (∀ W : World, Calls _ _ _ W _) := fun W => documentOK_any doc W hd
  cases hD : docB doc
  · have e : matchP op p c doc = (false, 1) := by unfold matchP; rw [if_neg (by rw [hD]; simp)]
    rw [e]
    rw [hD] at HD
    clear e hT hD
    go_enter Tryz.func18, Tryz.ntmps18
    go_wp2_with fail
    refine (HT.out _).mono ?_
    rintro e w1 ⟨rfl, hb⟩
    have X1 := X0.step hb
    have b0 := X1.d0
    have b1 := X1.d1
    have b2 := X1.d2
    clear hb X0
    go_wp2_with fail
    refine (HD.out _).mono ?_
    rintro e w2 ⟨rfl, hb⟩
    have hbw := (X1.step hb).bel
    clear hb
    go_wp2_with fail
    go_ret2
    exact ⟨rfl, hbw⟩
  have e : matchP op p c doc = (termL op p c doc, 0) := by unfold matchP; rw [if_pos ⟨hT, hD⟩]
  rw [e]
  rw [hD] at HD
  obtain ⟨t1, t2, t3, t4⟩ := termB_parts op p c hT
  have HL : Hid (∀ W : World, Calls _ _ _ W _) := fun W => termLets_any op p c doc W (by omega) t3 t4 t2 (docB_ok doc hD)
  obtain ⟨R, hR⟩ : ∃ R, R = termL op p c doc := ⟨_, rfl⟩
  rw [← hR] at HL ⊢
  clear e hT hD t1 t2 t3 t4 hR
  go_enter Tryz.func18, Tryz.ntmps18
  go_wp2_with fail
  refine (HT.out _).mono ?_
  rintro e w1 ⟨rfl, hb⟩
  have X1 := X0.step hb
  have b0 := X1.d0
  have b1 := X1.d1
  have b2 := X1.d2
  clear hb X0
  go_wp2_with fail
  refine (HD.out _).mono ?_
  rintro e w2 ⟨rfl, hb⟩
  have X2 := X1.step hb
  clear hb X1 b0 b1 b2
  have a0 := X2.c0
  have a1 := X2.c1
  have a2 := X2.c2
  have a3 := X2.c3
  have a4 := X2.c4
  have b0 := X2.d0
  have b1 := X2.d1
  have b2 := X2.d2
  go_wp2_with fail
  refine (HL.out _).mono ?_
  rintro e w3 ⟨rfl, hb⟩
  have hbw := (X2.step hb).bel
  clear hb
  go_wp2_with fail
  go_ret2
  exact ⟨rfl, hbw⟩

end Go.Proofs.YtkeghknceccdmaaGreatDoor
