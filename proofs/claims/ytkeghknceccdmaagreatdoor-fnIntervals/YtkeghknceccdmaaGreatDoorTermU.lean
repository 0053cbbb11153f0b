/- What the program's trial of a document by a term answers, for every right term and document. -/
import Derived.Test.YtkeghknceccdmaaGreatDoorTrialC
import Derived.Test.YtkeghknceccdmaaGreatDoorComeJ
import Derived.Test.YtkeghknceccdmaaGreatDoorCutS
import Derived.Deep.DeepCutAuto
import Derived.Deep.RegionHeld3
namespace Go.Proofs.YtkeghknceccdmaaGreatDoor
open Go.RowKit
set_option linter.unusedVariables false

/-- Some block holds four cells. -/
structure Lies4 (U : World) (b : Nat) (x y z t : Value) : Prop where
  lt : b < U.heap.size
  c0 : U.cell? ⟨b, 0, none⟩ = some x
  c1 : U.cell? ⟨b, 1, none⟩ = some y
  c2 : U.cell? ⟨b, 2, none⟩ = some z
  c3 : U.cell? ⟨b, 3, none⟩ = some t
theorem alloc_lt (w : World) (o : Obj) : w.heap.size < (w.alloc o).heap.size := by simp
theorem blk4 {W w1 : World} {a b c d : Value} {T : TypeId} (h : Below (W.alloc (.cells #[a, b, c, d] T)).heap.size (W.alloc (.cells #[a, b, c, d] T)) w1) :
    w1.cell? ⟨W.heap.size, 0, none⟩ = some a ∧ w1.cell? ⟨W.heap.size, 1, none⟩ = some b ∧ w1.cell? ⟨W.heap.size, 2, none⟩ = some c ∧ w1.cell? ⟨W.heap.size, 3, none⟩ = some d ∧ w1.frozen? ⟨W.heap.size, 0, none⟩ = false ∧ w1.frozen? ⟨W.heap.size, 1, none⟩ = false ∧ w1.frozen? ⟨W.heap.size, 2, none⟩ = false ∧ w1.frozen? ⟨W.heap.size, 3, none⟩ = false ∧ W.heap.size < w1.heap.size :=
  have hl := alloc_lt W (.cells #[a, b, c, d] T)
  ⟨(h.cell hl).trans (by simp [go_sem]), (h.cell hl).trans (by simp [go_sem]), (h.cell hl).trans (by simp [go_sem]), (h.cell hl).trans (by simp [go_sem]), (h.frozen hl).trans (by simp [go_sem]), (h.frozen hl).trans (by simp [go_sem]), (h.frozen hl).trans (by simp [go_sem]), (h.frozen hl).trans (by simp [go_sem]), Nat.lt_of_lt_of_le hl h.size⟩
theorem blk4d {W w1 : World} {a b c d : Value} {T : TypeId} (h : Below (W.drew.alloc (.cells #[a, b, c, d] T)).heap.size (W.drew.alloc (.cells #[a, b, c, d] T)) w1) :
    w1.cell? ⟨W.heap.size, 0, none⟩ = some a ∧ w1.cell? ⟨W.heap.size, 1, none⟩ = some b ∧ w1.cell? ⟨W.heap.size, 2, none⟩ = some c ∧ w1.cell? ⟨W.heap.size, 3, none⟩ = some d ∧ w1.frozen? ⟨W.heap.size, 0, none⟩ = false ∧ w1.frozen? ⟨W.heap.size, 1, none⟩ = false ∧ w1.frozen? ⟨W.heap.size, 2, none⟩ = false ∧ w1.frozen? ⟨W.heap.size, 3, none⟩ = false ∧ W.heap.size < w1.heap.size := blk4 (W := W.drew) h
theorem keepT {w W0 U : World} {a b c d e x y z : Value} (X : B53 w W0 a b c d e x y z) (hb : Below W0.heap.size W0 U) :
    U.cell? ⟨w.heap.size, 1, none⟩ = some b ∧ U.cell? ⟨w.heap.size, 2, none⟩ = some c ∧ U.cell? ⟨w.heap.size, 3, none⟩ = some d ∧ U.cell? ⟨w.heap.size, 4, none⟩ = some e ∧ U.cell? ⟨w.heap.size + 1, 0, none⟩ = some x ∧ U.cell? ⟨w.heap.size + 1, 1, none⟩ = some y ∧ U.cell? ⟨w.heap.size + 1, 2, none⟩ = some z :=
  have Y := X.step hb
  ⟨Y.c1, Y.c2, Y.c3, Y.c4, Y.d0, Y.d1, Y.d2⟩
theorem grown_setT {w : World} {g o : Nat} {v : Value} : w.grownBy (w.setCell ⟨g, o, none⟩ v) (some g) := by
  refine ⟨rfl, rfl, rfl, by simp [World.setCell], ?_⟩
  intro k hk hne
  have : g ≠ k := fun e => hne (by rw [e])
  simp [World.setCell, Array.getElem?_modify, this]
theorem grown_set4 {w : World} {g : Nat} {a b c d : Value} : w.grownBy ((((w.setCell ⟨g, 0, none⟩ a).setCell ⟨g, 1, none⟩ b).setCell ⟨g, 2, none⟩ c).setCell ⟨g, 3, none⟩ d) (some g) :=
  ((grown_setT.trans grown_setT).trans grown_setT).trans grown_setT
theorem RowV.far {w U : World} {q s : Option Addr} {l : List Val} {tb n c : Nat} (h : RowV w q l) (ht : w.cell? ⟨tb, 0, none⟩ = some (.slice s n c)) (hg : w.grownBy U (some tb)) : RowV U q l := by
  rcases h with h | ⟨g, hp, R⟩
  · exact .inl h
  · cases l with
    | nil => exact .inl rfl
    | cons v l =>
      refine .inr ⟨g, hp, R.grown hg (fun e => ?_)⟩
      injection e with e
      have := (R.cells 0 (by simp)).1
      rw [Nat.zero_mul, e, ht] at this
      cases this
theorem keepR {U V : World} {b a0 : Nat} {x y z t o : Value} (Y : Lies4 U b x y z t) (hl : a0 < U.heap.size) (h0 : U.cell? ⟨a0, 0, none⟩ = some o) (hb : Below U.heap.size U V) :
    V.cell? ⟨b, 0, none⟩ = some x ∧ V.cell? ⟨b, 1, none⟩ = some y ∧ V.cell? ⟨b, 2, none⟩ = some z ∧ V.cell? ⟨b, 3, none⟩ = some t ∧ V.cell? ⟨a0, 0, none⟩ = some o :=
  ⟨(hb.cell Y.lt).trans Y.c0, (hb.cell Y.lt).trans Y.c1, (hb.cell Y.lt).trans Y.c2, (hb.cell Y.lt).trans Y.c3, (hb.cell hl).trans h0⟩
theorem RowV.below {w w' : World} {p : Option Addr} {l : List Val} (h : RowV w p l) (hb : Below w.heap.size w w') : RowV w' p l := h.next hb

set_option maxRecDepth 8000 in
set_option maxHeartbeats 4000000 in
theorem termLets_any (op : Int) (p : ByteArray) (c doc : Val) (w : World) (hp : p.size ≤ 300) (hop : 1 ≤ op ∧ op ≤ 10) (h7 : op = 7 → c.k = 4) (hc : okB c = true) (hd : okB doc = true) :
    Calls Tryz.prog 60 #[.agg #[.int .i64 op, .string p, .int .i64 c.k, .int .i64 c.n, .string c.t], .agg #[.int .i64 doc.k, .int .i64 doc.n, .string doc.t]] w fun e w' => e = .returned (.bool (termL op p c doc)) ∧ Below w.heap.size w w' := by
  have X0 := B53.start w (.int .i64 op) (.string p) (.int .i64 c.k) (.int .i64 c.n) (.string c.t) (.int .i64 doc.k) (.int .i64 doc.n) (.string doc.t) 34 28
  have hgl := getP_len (pieces p) doc
  have hsd := ok_size doc hd
  have hpl := pieces_len_le p
  have hLO := getP_ok (pieces p) doc hd
  have HCM : Hid (ComeAt (pieces p)) := come_at (pieces p) (by omega)
  have HDO : Hid (okB doc = true) := hd
  have HSD : Hid (doc.t.size ≤ 300) := hsd
  have hps : p.size ≤ 1048576 := by omega
  have HPS : Hid (p.size ≤ 1048576) := hps
  clear hps
  unfold termL
  obtain ⟨L, hL⟩ : ∃ L, L = getP (pieces p) doc := ⟨_, rfl⟩
  rw [← hL] at hgl hLO ⊢
  obtain ⟨RR, hRR⟩ : ∃ RR, RR = letsT op c L := ⟨_, rfl⟩
  rw [← hRR]
  have HRR : Hid _ := hRR
  clear hRR
  have HL : Hid _ := hL
  have HC : Hid (okB c = true) := hc
  have H7 : Hid _ := h7
  have HLO : Hid _ := hLO
  clear hc hd hL h7 hLO
  go_enter Tryz.func60, Tryz.ntmps60
  go_wp2_with fail
  generalize (w.alloc (.cells #[.int .i64 op, .string p, .int .i64 c.k, .int .i64 c.n, .string c.t] 34)).alloc (.cells #[.int .i64 doc.k, .int .i64 doc.n, .string doc.t] 28) = W0 at X0 ⊢
  have a1 := X0.c1
  have a2 := X0.c2
  have a3 := X0.c3
  have a4 := X0.c4
  have b0 := X0.d0
  have b1 := X0.d1
  have b2 := X0.d2
  have hlt0 := X0.lt
  have hz0 := X0.bel.size
  go_cut [5] (fun s5 wx => ∃ (b : Nat) (q : Option Addr) (qc : Nat), s5 = .pointer (some ⟨b, 0, none⟩) ∧ Lies4 wx b (.slice q L.length qc) (.int .i64 c.k) (.int .i64 c.n) (.string c.t) ∧ RowV wx q L ∧ Below W0.heap.size W0 wx)
  case first =>
    have hltw : w.heap.size < W0.heap.size := Nat.lt_of_succ_lt hlt0
    clear hgl hsd hz0 hop
    go_region_held3 (fun w0 => w0.cell? ⟨w.heap.size, 1, none⟩ = some (.string p) ∧ w0.cell? ⟨w.heap.size, 2, none⟩ = some (.int .i64 c.k) ∧ w0.cell? ⟨w.heap.size, 3, none⟩ = some (.int .i64 c.n) ∧ w0.cell? ⟨w.heap.size, 4, none⟩ = some (.string c.t) ∧ w0.cell? ⟨w.heap.size + 1, 0, none⟩ = some (.int .i64 doc.k) ∧ w0.cell? ⟨w.heap.size + 1, 1, none⟩ = some (.int .i64 doc.n) ∧ w0.cell? ⟨w.heap.size + 1, 2, none⟩ = some (.string doc.t)) ((refine keepT X0 ?_; (repeat (first | (with_reducible exact Below.refl _ _) | (with_reducible assumption) | (with_reducible apply below_drewN) | (with_reducible apply Below.drew) | ((with_reducible refine Below.setCell ?_ ?_ _); rotate_left; focus (first | (simp; done) | (simp; omega) | omega)) | ((with_reducible refine Below.alloc ?_ ?_ _); rotate_left; focus (first | (simp; done) | (simp; omega) | omega)))))) (first | (go_at_call 125; refine (namesOfC_any p _ HPS.out).mono ?_; rintro e w1 ⟨⟨g, cap, rfl, hcap, R⟩, hb⟩; have hB1 : Below W0.heap.size W0 w1 := (show Below W0.heap.size W0 _ by (repeat (first | (with_reducible exact Below.refl _ _) | (with_reducible assumption) | (with_reducible apply below_drewN) | (with_reducible apply Below.drew) | ((with_reducible refine Below.setCell ?_ ?_ _); rotate_left; focus (first | (simp; done) | (simp; omega) | omega)) | ((with_reducible refine Below.alloc ?_ ?_ _); rotate_left; focus (first | (simp; done) | (simp; omega) | omega))))).trans (hb.mono (by simp)); have hzb1 := hB1.size; have hn1 := Nat.lt_of_lt_of_le hltw hzb1; have ho1 := Nat.lt_of_lt_of_le hlt0 hzb1; (try have T1 := blk4d (W := W0) hb); (try obtain ⟨t0, t1, t2, t3, s0, s1, s2, s3, s4⟩ := T1); have HR : Hid (ReadS _ _ _ _) := R; clear R hb) | (go_at_call 124; refine (HCM.out 5 doc g 0 cap _ HDO.out HSD.out hcap (HR.out.next (by (repeat (first | (with_reducible exact Below.refl _ _) | (with_reducible assumption) | (with_reducible apply below_drewN) | (with_reducible apply Below.drew) | ((with_reducible refine Below.setCell ?_ ?_ _); rotate_left; focus (first | (simp; done) | (simp; omega) | omega)) | ((with_reducible refine Below.alloc ?_ ?_ _); rotate_left; focus (first | (simp; done) | (simp; omega) | omega))))))).mono ?_; rintro e w2 ⟨hO, hb⟩; rw [← HL.out] at hO; obtain ⟨q, qc, rfl, RV⟩ := hO.row; have hB2 : Below W0.heap.size W0 w2 := hB1.trans ((show Below w1.heap.size w1 w2 from (show Below w1.heap.size w1 _ by (repeat (first | (with_reducible exact Below.refl _ _) | (with_reducible assumption) | (with_reducible apply below_drewN) | (with_reducible apply Below.drew) | ((with_reducible refine Below.setCell ?_ ?_ _); rotate_left; focus (first | (simp; done) | (simp; omega) | omega)) | ((with_reducible refine Below.alloc ?_ ?_ _); rotate_left; focus (first | (simp; done) | (simp; omega) | omega))))).trans (hb.mono (by simp))).mono hB1.size); have hzb2 := hB2.size; have hn2 := Nat.lt_of_lt_of_le hltw hzb2; have ho2 := Nat.lt_of_lt_of_le hlt0 hzb2; (try have T2 := blk4 (W := w1) hb); (try obtain ⟨u0, u1, u2, u3, v0, v1, v2, v3, v4⟩ := T2); (try have q0 := (hb.cell s4).trans t0); (try have q1 := (hb.cell s4).trans t1); (try have q2 := (hb.cell s4).trans t2); (try have q3 := (hb.cell s4).trans t3); (try have q4 := (hb.frozen s4).trans s0); (try have q5 := (hb.frozen s4).trans s1); (try have q6 := (hb.frozen s4).trans s2); (try have q7 := (hb.frozen s4).trans s3); (try have q8 := Nat.lt_of_lt_of_le s4 hb.size); have HRV : Hid (RowV _ _ _) := RV; clear RV hO hb))
    all_goals
      try go_wp2_with fail
      go_meet
      refine ⟨_, q, qc, rfl, ⟨?_, ?_, ?_, ?_, ?_⟩, ?_, ?_⟩
      · simp; try omega
      · simp [go_sem, *]
      · simp [go_sem, *]
      · simp [go_sem, *]
      · simp [go_sem, *]
      · first | (refine HRV.out.next ?_; (repeat (first | (with_reducible exact Below.refl _ _) | (with_reducible assumption) | (with_reducible apply below_drewN) | (with_reducible apply Below.drew) | ((with_reducible refine Below.setCell ?_ ?_ _); rotate_left; focus (first | (simp; done) | (simp; omega) | omega)) | ((with_reducible refine Below.alloc ?_ ?_ _); rotate_left; focus (first | (simp; done) | (simp; omega) | omega)))); done) | (refine RowV.far (s := none) (n := 0) (c := 0) HRV.out ?_ grown_set4; assumption)
      · (repeat (first | (with_reducible exact Below.refl _ _) | (with_reducible assumption) | (with_reducible apply below_drewN) | (with_reducible apply Below.drew) | ((with_reducible refine Below.setCell ?_ ?_ _); rotate_left; focus (first | (simp; done) | (simp; omega) | omega)) | ((with_reducible refine Below.alloc ?_ ?_ _); rotate_left; focus (first | (simp; done) | (simp; omega) | omega))))
  case rest =>
    obtain ⟨b, q, qc, rfl, Y, RV, hbc⟩ := hcut
    have X := X0.step hbc
    have g0 := X.c0
    have hbw := X.bel
    have y0 := Y.c0
    have y1 := Y.c1
    have y2 := Y.c2
    have y3 := Y.c3
    have hyl := Y.lt
    have hxl : w.heap.size < wc.heap.size := Nat.lt_of_succ_lt X.lt
    have HRV : Hid (RowV _ _ _) := RV
    clear RV a1 a2 a3 a4 b0 b1 b2 hlt0 hz0
    by_cases h8 : op = 8
    · subst h8
      go_wp2_with fail
      refine (presence_exists q qc L c _).mono ?_
      rintro e w1 ⟨rfl, hb⟩
      have hbz := hbw.trans (hb.mono hbw.size)
      clear hb
      go_wp2_with fail
      go_ret
      exact ⟨ret_bool (by rw [HRR.out]; unfold letsT; rw [if_pos rfl]; simp), hbz⟩
    have hRo : RR = ((heldT op L).any (oneT op c) != decide (op = 2)) := by rw [HRR.out]; unfold letsT; rw [if_neg h8]
    clear HRR
    by_cases h9 : op = 9
    · subst h9
      have h92 : decide ((9 : Int) = 2) = false := by decide
      have hM : heldT 9 L = L := by unfold heldT; by_cases h : L = [] <;> simp [h]
      rw [hM, h92] at hRo
      have HRO : Hid _ := hRo
      clear hM h92 hRo
      go_wp2_with fail
      refine (presence_type q qc L c _ HRV.out (by omega)).mono ?_
      rintro e w1 ⟨rfl, hb⟩
      have hbz := hbw.trans (hb.mono hbw.size)
      clear hb
      go_wp2_with fail
      go_ret
      exact ⟨ret_bool (by rw [HRO.out]; simp), hbz⟩
    have hMO := heldT_ok op L HLO.out
    rw [heldT_Z op L h9] at hMO hRo
    have hMl : (withZ L).length ≤ 1048576 := by unfold withZ; split; (simp); omega
    have HMO : Hid _ := hMO
    have e8 : (op == 8) = false := beq_eq_false_iff_ne.mpr h8
    have e9 : (op == 9) = false := beq_eq_false_iff_ne.mpr h9
    clear hMO
    by_cases ho : op = 3 ∨ op = 4 ∨ op = 5 ∨ op = 6
    · have HOL : Hid (∀ (q' : Option Addr) (qc' : Nat) (W : World), RowV W q' (withZ L) → Calls _ _ _ W _) := fun q' qc' W hW => order_lets op ho q' qc' (withZ L) c W HC.out HMO.out hW hMl
      rw [← hRo] at HOL
      clear hRo
      rcases ho with rfl | rfl | rfl | rfl
      · go_wp2_with fail
        go_region_held3 (fun w0 => w0.cell? ⟨b, 0, none⟩ = some (.slice q L.length qc) ∧ w0.cell? ⟨b, 1, none⟩ = some (.int .i64 c.k) ∧ w0.cell? ⟨b, 2, none⟩ = some (.int .i64 c.n) ∧ w0.cell? ⟨b, 3, none⟩ = some (.string c.t) ∧ w0.cell? ⟨w.heap.size, 0, none⟩ = some (.int .i64 3)) ((refine keepR Y hxl g0 ?_; (repeat (first | (with_reducible exact Below.refl _ _) | (with_reducible assumption) | (with_reducible apply below_drewN) | (with_reducible apply Below.drew) | ((with_reducible refine Below.setCell ?_ ?_ _); rotate_left; focus (first | (simp; done) | (simp; omega) | omega)) | ((with_reducible refine Below.alloc ?_ ?_ _); rotate_left; focus (first | (simp; done) | (simp; omega) | omega)))))) (first | (go_at_call 127; refine (withNull_any q qc L c _ (HRV.out.next (by (repeat (first | (with_reducible exact Below.refl _ _) | (with_reducible assumption) | (with_reducible apply below_drewN) | (with_reducible apply Below.drew) | ((with_reducible refine Below.setCell ?_ ?_ _); rotate_left; focus (first | (simp; done) | (simp; omega) | omega)) | ((with_reducible refine Below.alloc ?_ ?_ _); rotate_left; focus (first | (simp; done) | (simp; omega) | omega))))))).mono ?_; rintro e w1 ⟨⟨q', qc', rfl, RV'⟩, hb⟩; have HRV' : Hid (RowV _ _ _) := RV'; have hB1 : Below wc.heap.size wc w1 := (show Below wc.heap.size wc _ by (repeat (first | (with_reducible exact Below.refl _ _) | (with_reducible assumption) | (with_reducible apply below_drewN) | (with_reducible apply Below.drew) | ((with_reducible refine Below.setCell ?_ ?_ _); rotate_left; focus (first | (simp; done) | (simp; omega) | omega)) | ((with_reducible refine Below.alloc ?_ ?_ _); rotate_left; focus (first | (simp; done) | (simp; omega) | omega))))).trans (hb.mono (by simp)); have hzb1 := hB1.size; clear RV' hb) | (go_at_call 128; refine (HOL.out q' qc' _ HRV'.out).mono ?_; rintro e w2 ⟨rfl, hb⟩; have hB2 := hB1.trans (hb.mono hB1.size); have hzb2 := hB2.size; clear hb))
        all_goals
          have hbz := hbw.trans (hB2.mono hbw.size)
          go_wp2_with fail
          go_ret
          exact ⟨rfl, hbz⟩
      · go_wp2_with fail
        go_region_held3 (fun w0 => w0.cell? ⟨b, 0, none⟩ = some (.slice q L.length qc) ∧ w0.cell? ⟨b, 1, none⟩ = some (.int .i64 c.k) ∧ w0.cell? ⟨b, 2, none⟩ = some (.int .i64 c.n) ∧ w0.cell? ⟨b, 3, none⟩ = some (.string c.t) ∧ w0.cell? ⟨w.heap.size, 0, none⟩ = some (.int .i64 4)) ((refine keepR Y hxl g0 ?_; (repeat (first | (with_reducible exact Below.refl _ _) | (with_reducible assumption) | (with_reducible apply below_drewN) | (with_reducible apply Below.drew) | ((with_reducible refine Below.setCell ?_ ?_ _); rotate_left; focus (first | (simp; done) | (simp; omega) | omega)) | ((with_reducible refine Below.alloc ?_ ?_ _); rotate_left; focus (first | (simp; done) | (simp; omega) | omega)))))) (first | (go_at_call 127; refine (withNull_any q qc L c _ (HRV.out.next (by (repeat (first | (with_reducible exact Below.refl _ _) | (with_reducible assumption) | (with_reducible apply below_drewN) | (with_reducible apply Below.drew) | ((with_reducible refine Below.setCell ?_ ?_ _); rotate_left; focus (first | (simp; done) | (simp; omega) | omega)) | ((with_reducible refine Below.alloc ?_ ?_ _); rotate_left; focus (first | (simp; done) | (simp; omega) | omega))))))).mono ?_; rintro e w1 ⟨⟨q', qc', rfl, RV'⟩, hb⟩; have HRV' : Hid (RowV _ _ _) := RV'; have hB1 : Below wc.heap.size wc w1 := (show Below wc.heap.size wc _ by (repeat (first | (with_reducible exact Below.refl _ _) | (with_reducible assumption) | (with_reducible apply below_drewN) | (with_reducible apply Below.drew) | ((with_reducible refine Below.setCell ?_ ?_ _); rotate_left; focus (first | (simp; done) | (simp; omega) | omega)) | ((with_reducible refine Below.alloc ?_ ?_ _); rotate_left; focus (first | (simp; done) | (simp; omega) | omega))))).trans (hb.mono (by simp)); have hzb1 := hB1.size; clear RV' hb) | (go_at_call 128; refine (HOL.out q' qc' _ HRV'.out).mono ?_; rintro e w2 ⟨rfl, hb⟩; have hB2 := hB1.trans (hb.mono hB1.size); have hzb2 := hB2.size; clear hb))
        all_goals
          have hbz := hbw.trans (hB2.mono hbw.size)
          go_wp2_with fail
          go_ret
          exact ⟨rfl, hbz⟩
      · go_wp2_with fail
        go_region_held3 (fun w0 => w0.cell? ⟨b, 0, none⟩ = some (.slice q L.length qc) ∧ w0.cell? ⟨b, 1, none⟩ = some (.int .i64 c.k) ∧ w0.cell? ⟨b, 2, none⟩ = some (.int .i64 c.n) ∧ w0.cell? ⟨b, 3, none⟩ = some (.string c.t) ∧ w0.cell? ⟨w.heap.size, 0, none⟩ = some (.int .i64 5)) ((refine keepR Y hxl g0 ?_; (repeat (first | (with_reducible exact Below.refl _ _) | (with_reducible assumption) | (with_reducible apply below_drewN) | (with_reducible apply Below.drew) | ((with_reducible refine Below.setCell ?_ ?_ _); rotate_left; focus (first | (simp; done) | (simp; omega) | omega)) | ((with_reducible refine Below.alloc ?_ ?_ _); rotate_left; focus (first | (simp; done) | (simp; omega) | omega)))))) (first | (go_at_call 127; refine (withNull_any q qc L c _ (HRV.out.next (by (repeat (first | (with_reducible exact Below.refl _ _) | (with_reducible assumption) | (with_reducible apply below_drewN) | (with_reducible apply Below.drew) | ((with_reducible refine Below.setCell ?_ ?_ _); rotate_left; focus (first | (simp; done) | (simp; omega) | omega)) | ((with_reducible refine Below.alloc ?_ ?_ _); rotate_left; focus (first | (simp; done) | (simp; omega) | omega))))))).mono ?_; rintro e w1 ⟨⟨q', qc', rfl, RV'⟩, hb⟩; have HRV' : Hid (RowV _ _ _) := RV'; have hB1 : Below wc.heap.size wc w1 := (show Below wc.heap.size wc _ by (repeat (first | (with_reducible exact Below.refl _ _) | (with_reducible assumption) | (with_reducible apply below_drewN) | (with_reducible apply Below.drew) | ((with_reducible refine Below.setCell ?_ ?_ _); rotate_left; focus (first | (simp; done) | (simp; omega) | omega)) | ((with_reducible refine Below.alloc ?_ ?_ _); rotate_left; focus (first | (simp; done) | (simp; omega) | omega))))).trans (hb.mono (by simp)); have hzb1 := hB1.size; clear RV' hb) | (go_at_call 128; refine (HOL.out q' qc' _ HRV'.out).mono ?_; rintro e w2 ⟨rfl, hb⟩; have hB2 := hB1.trans (hb.mono hB1.size); have hzb2 := hB2.size; clear hb))
        all_goals
          have hbz := hbw.trans (hB2.mono hbw.size)
          go_wp2_with fail
          go_ret
          exact ⟨rfl, hbz⟩
      · go_wp2_with fail
        go_region_held3 (fun w0 => w0.cell? ⟨b, 0, none⟩ = some (.slice q L.length qc) ∧ w0.cell? ⟨b, 1, none⟩ = some (.int .i64 c.k) ∧ w0.cell? ⟨b, 2, none⟩ = some (.int .i64 c.n) ∧ w0.cell? ⟨b, 3, none⟩ = some (.string c.t) ∧ w0.cell? ⟨w.heap.size, 0, none⟩ = some (.int .i64 6)) ((refine keepR Y hxl g0 ?_; (repeat (first | (with_reducible exact Below.refl _ _) | (with_reducible assumption) | (with_reducible apply below_drewN) | (with_reducible apply Below.drew) | ((with_reducible refine Below.setCell ?_ ?_ _); rotate_left; focus (first | (simp; done) | (simp; omega) | omega)) | ((with_reducible refine Below.alloc ?_ ?_ _); rotate_left; focus (first | (simp; done) | (simp; omega) | omega)))))) (first | (go_at_call 127; refine (withNull_any q qc L c _ (HRV.out.next (by (repeat (first | (with_reducible exact Below.refl _ _) | (with_reducible assumption) | (with_reducible apply below_drewN) | (with_reducible apply Below.drew) | ((with_reducible refine Below.setCell ?_ ?_ _); rotate_left; focus (first | (simp; done) | (simp; omega) | omega)) | ((with_reducible refine Below.alloc ?_ ?_ _); rotate_left; focus (first | (simp; done) | (simp; omega) | omega))))))).mono ?_; rintro e w1 ⟨⟨q', qc', rfl, RV'⟩, hb⟩; have HRV' : Hid (RowV _ _ _) := RV'; have hB1 : Below wc.heap.size wc w1 := (show Below wc.heap.size wc _ by (repeat (first | (with_reducible exact Below.refl _ _) | (with_reducible assumption) | (with_reducible apply below_drewN) | (with_reducible apply Below.drew) | ((with_reducible refine Below.setCell ?_ ?_ _); rotate_left; focus (first | (simp; done) | (simp; omega) | omega)) | ((with_reducible refine Below.alloc ?_ ?_ _); rotate_left; focus (first | (simp; done) | (simp; omega) | omega))))).trans (hb.mono (by simp)); have hzb1 := hB1.size; clear RV' hb) | (go_at_call 128; refine (HOL.out q' qc' _ HRV'.out).mono ?_; rintro e w2 ⟨rfl, hb⟩; have hB2 := hB1.trans (hb.mono hB1.size); have hzb2 := hB2.size; clear hb))
        all_goals
          have hbz := hbw.trans (hB2.mono hbw.size)
          go_wp2_with fail
          go_ret
          exact ⟨rfl, hbz⟩
    · have hov : op = 1 ∨ op = 2 ∨ op = 7 ∨ op = 10 := by omega
      have HOL : Hid (∀ (q' : Option Addr) (qc' : Nat) (W : World), RowV W q' (withZ L) → Calls _ _ _ W _) := fun q' qc' W hW => value_lets op hov q' qc' (withZ L) c W HC.out H7.out HMO.out hW hMl
      rw [← hRo] at HOL
      clear hRo
      rcases hov with rfl | rfl | rfl | rfl
      · go_wp2_with fail
        go_region_held3 (fun w0 => w0.cell? ⟨b, 0, none⟩ = some (.slice q L.length qc) ∧ w0.cell? ⟨b, 1, none⟩ = some (.int .i64 c.k) ∧ w0.cell? ⟨b, 2, none⟩ = some (.int .i64 c.n) ∧ w0.cell? ⟨b, 3, none⟩ = some (.string c.t) ∧ w0.cell? ⟨w.heap.size, 0, none⟩ = some (.int .i64 1)) ((refine keepR Y hxl g0 ?_; (repeat (first | (with_reducible exact Below.refl _ _) | (with_reducible assumption) | (with_reducible apply below_drewN) | (with_reducible apply Below.drew) | ((with_reducible refine Below.setCell ?_ ?_ _); rotate_left; focus (first | (simp; done) | (simp; omega) | omega)) | ((with_reducible refine Below.alloc ?_ ?_ _); rotate_left; focus (first | (simp; done) | (simp; omega) | omega)))))) (first | (go_at_call 127; refine (withNull_any q qc L c _ (HRV.out.next (by (repeat (first | (with_reducible exact Below.refl _ _) | (with_reducible assumption) | (with_reducible apply below_drewN) | (with_reducible apply Below.drew) | ((with_reducible refine Below.setCell ?_ ?_ _); rotate_left; focus (first | (simp; done) | (simp; omega) | omega)) | ((with_reducible refine Below.alloc ?_ ?_ _); rotate_left; focus (first | (simp; done) | (simp; omega) | omega))))))).mono ?_; rintro e w1 ⟨⟨q', qc', rfl, RV'⟩, hb⟩; have HRV' : Hid (RowV _ _ _) := RV'; have hB1 : Below wc.heap.size wc w1 := (show Below wc.heap.size wc _ by (repeat (first | (with_reducible exact Below.refl _ _) | (with_reducible assumption) | (with_reducible apply below_drewN) | (with_reducible apply Below.drew) | ((with_reducible refine Below.setCell ?_ ?_ _); rotate_left; focus (first | (simp; done) | (simp; omega) | omega)) | ((with_reducible refine Below.alloc ?_ ?_ _); rotate_left; focus (first | (simp; done) | (simp; omega) | omega))))).trans (hb.mono (by simp)); have hzb1 := hB1.size; clear RV' hb) | (go_at_call 129; refine (HOL.out q' qc' _ HRV'.out).mono ?_; rintro e w2 ⟨rfl, hb⟩; have hB2 := hB1.trans (hb.mono hB1.size); have hzb2 := hB2.size; clear hb))
        all_goals
          have hbz := hbw.trans (hB2.mono hbw.size)
          go_wp2_with fail
          go_ret
          exact ⟨rfl, hbz⟩
      · go_wp2_with fail
        go_region_held3 (fun w0 => w0.cell? ⟨b, 0, none⟩ = some (.slice q L.length qc) ∧ w0.cell? ⟨b, 1, none⟩ = some (.int .i64 c.k) ∧ w0.cell? ⟨b, 2, none⟩ = some (.int .i64 c.n) ∧ w0.cell? ⟨b, 3, none⟩ = some (.string c.t) ∧ w0.cell? ⟨w.heap.size, 0, none⟩ = some (.int .i64 2)) ((refine keepR Y hxl g0 ?_; (repeat (first | (with_reducible exact Below.refl _ _) | (with_reducible assumption) | (with_reducible apply below_drewN) | (with_reducible apply Below.drew) | ((with_reducible refine Below.setCell ?_ ?_ _); rotate_left; focus (first | (simp; done) | (simp; omega) | omega)) | ((with_reducible refine Below.alloc ?_ ?_ _); rotate_left; focus (first | (simp; done) | (simp; omega) | omega)))))) (first | (go_at_call 127; refine (withNull_any q qc L c _ (HRV.out.next (by (repeat (first | (with_reducible exact Below.refl _ _) | (with_reducible assumption) | (with_reducible apply below_drewN) | (with_reducible apply Below.drew) | ((with_reducible refine Below.setCell ?_ ?_ _); rotate_left; focus (first | (simp; done) | (simp; omega) | omega)) | ((with_reducible refine Below.alloc ?_ ?_ _); rotate_left; focus (first | (simp; done) | (simp; omega) | omega))))))).mono ?_; rintro e w1 ⟨⟨q', qc', rfl, RV'⟩, hb⟩; have HRV' : Hid (RowV _ _ _) := RV'; have hB1 : Below wc.heap.size wc w1 := (show Below wc.heap.size wc _ by (repeat (first | (with_reducible exact Below.refl _ _) | (with_reducible assumption) | (with_reducible apply below_drewN) | (with_reducible apply Below.drew) | ((with_reducible refine Below.setCell ?_ ?_ _); rotate_left; focus (first | (simp; done) | (simp; omega) | omega)) | ((with_reducible refine Below.alloc ?_ ?_ _); rotate_left; focus (first | (simp; done) | (simp; omega) | omega))))).trans (hb.mono (by simp)); have hzb1 := hB1.size; clear RV' hb) | (go_at_call 129; refine (HOL.out q' qc' _ HRV'.out).mono ?_; rintro e w2 ⟨rfl, hb⟩; have hB2 := hB1.trans (hb.mono hB1.size); have hzb2 := hB2.size; clear hb))
        all_goals
          have hbz := hbw.trans (hB2.mono hbw.size)
          go_wp2_with fail
          go_ret
          exact ⟨rfl, hbz⟩
      · go_wp2_with fail
        go_region_held3 (fun w0 => w0.cell? ⟨b, 0, none⟩ = some (.slice q L.length qc) ∧ w0.cell? ⟨b, 1, none⟩ = some (.int .i64 c.k) ∧ w0.cell? ⟨b, 2, none⟩ = some (.int .i64 c.n) ∧ w0.cell? ⟨b, 3, none⟩ = some (.string c.t) ∧ w0.cell? ⟨w.heap.size, 0, none⟩ = some (.int .i64 7)) ((refine keepR Y hxl g0 ?_; (repeat (first | (with_reducible exact Below.refl _ _) | (with_reducible assumption) | (with_reducible apply below_drewN) | (with_reducible apply Below.drew) | ((with_reducible refine Below.setCell ?_ ?_ _); rotate_left; focus (first | (simp; done) | (simp; omega) | omega)) | ((with_reducible refine Below.alloc ?_ ?_ _); rotate_left; focus (first | (simp; done) | (simp; omega) | omega)))))) (first | (go_at_call 127; refine (withNull_any q qc L c _ (HRV.out.next (by (repeat (first | (with_reducible exact Below.refl _ _) | (with_reducible assumption) | (with_reducible apply below_drewN) | (with_reducible apply Below.drew) | ((with_reducible refine Below.setCell ?_ ?_ _); rotate_left; focus (first | (simp; done) | (simp; omega) | omega)) | ((with_reducible refine Below.alloc ?_ ?_ _); rotate_left; focus (first | (simp; done) | (simp; omega) | omega))))))).mono ?_; rintro e w1 ⟨⟨q', qc', rfl, RV'⟩, hb⟩; have HRV' : Hid (RowV _ _ _) := RV'; have hB1 : Below wc.heap.size wc w1 := (show Below wc.heap.size wc _ by (repeat (first | (with_reducible exact Below.refl _ _) | (with_reducible assumption) | (with_reducible apply below_drewN) | (with_reducible apply Below.drew) | ((with_reducible refine Below.setCell ?_ ?_ _); rotate_left; focus (first | (simp; done) | (simp; omega) | omega)) | ((with_reducible refine Below.alloc ?_ ?_ _); rotate_left; focus (first | (simp; done) | (simp; omega) | omega))))).trans (hb.mono (by simp)); have hzb1 := hB1.size; clear RV' hb) | (go_at_call 129; refine (HOL.out q' qc' _ HRV'.out).mono ?_; rintro e w2 ⟨rfl, hb⟩; have hB2 := hB1.trans (hb.mono hB1.size); have hzb2 := hB2.size; clear hb))
        all_goals
          have hbz := hbw.trans (hB2.mono hbw.size)
          go_wp2_with fail
          go_ret
          exact ⟨rfl, hbz⟩
      · go_wp2_with fail
        go_region_held3 (fun w0 => w0.cell? ⟨b, 0, none⟩ = some (.slice q L.length qc) ∧ w0.cell? ⟨b, 1, none⟩ = some (.int .i64 c.k) ∧ w0.cell? ⟨b, 2, none⟩ = some (.int .i64 c.n) ∧ w0.cell? ⟨b, 3, none⟩ = some (.string c.t) ∧ w0.cell? ⟨w.heap.size, 0, none⟩ = some (.int .i64 10)) ((refine keepR Y hxl g0 ?_; (repeat (first | (with_reducible exact Below.refl _ _) | (with_reducible assumption) | (with_reducible apply below_drewN) | (with_reducible apply Below.drew) | ((with_reducible refine Below.setCell ?_ ?_ _); rotate_left; focus (first | (simp; done) | (simp; omega) | omega)) | ((with_reducible refine Below.alloc ?_ ?_ _); rotate_left; focus (first | (simp; done) | (simp; omega) | omega)))))) (first | (go_at_call 127; refine (withNull_any q qc L c _ (HRV.out.next (by (repeat (first | (with_reducible exact Below.refl _ _) | (with_reducible assumption) | (with_reducible apply below_drewN) | (with_reducible apply Below.drew) | ((with_reducible refine Below.setCell ?_ ?_ _); rotate_left; focus (first | (simp; done) | (simp; omega) | omega)) | ((with_reducible refine Below.alloc ?_ ?_ _); rotate_left; focus (first | (simp; done) | (simp; omega) | omega))))))).mono ?_; rintro e w1 ⟨⟨q', qc', rfl, RV'⟩, hb⟩; have HRV' : Hid (RowV _ _ _) := RV'; have hB1 : Below wc.heap.size wc w1 := (show Below wc.heap.size wc _ by (repeat (first | (with_reducible exact Below.refl _ _) | (with_reducible assumption) | (with_reducible apply below_drewN) | (with_reducible apply Below.drew) | ((with_reducible refine Below.setCell ?_ ?_ _); rotate_left; focus (first | (simp; done) | (simp; omega) | omega)) | ((with_reducible refine Below.alloc ?_ ?_ _); rotate_left; focus (first | (simp; done) | (simp; omega) | omega))))).trans (hb.mono (by simp)); have hzb1 := hB1.size; clear RV' hb) | (go_at_call 129; refine (HOL.out q' qc' _ HRV'.out).mono ?_; rintro e w2 ⟨rfl, hb⟩; have hB2 := hB1.trans (hb.mono hB1.size); have hzb2 := hB2.size; clear hb))
        all_goals
          have hbz := hbw.trans (hB2.mono hbw.size)
          go_wp2_with fail
          go_ret
          exact ⟨rfl, hbz⟩

end Go.Proofs.YtkeghknceccdmaaGreatDoor
