/- The law's own walk of SameReply. -/
import Derived.Test.YtpfbepbmiillbaaRplS
namespace Go.Proofs.Ytpfbepbmiillbaa.Rp
open Go.RowKit
set_option linter.unusedVariables false

/-- The boxes of the two arguments, through later worlds. -/
structure Bx33 (w W : World) (as_ bs : Array Value) (T : TypeId) : Prop where
  bel : Below w.heap.size w W
  lt : w.heap.size + 1 < W.heap.size
  pa : W.heap[w.heap.size]? = some (.cells as_ T (0, 0))
  pb : W.heap[w.heap.size + 1]? = some (.cells bs T (0, 0))
theorem Bx33.next {w W W' : World} {as_ bs : Array Value} {T : TypeId} (h : Bx33 w W as_ bs T) (hb : Below W.heap.size W W') : Bx33 w W' as_ bs T := by
  have := h.lt
  exact ⟨h.bel.trans (hb.mono h.bel.size), Nat.lt_of_lt_of_le h.lt hb.size, (hb.block _ (by omega)).trans h.pa, (hb.block _ h.lt).trans h.pb⟩
theorem Bx33.start (w : World) (as_ bs : Array Value) (T : TypeId) : Bx33 w ((w.alloc (.cells as_ T)).alloc (.cells bs T)) as_ bs T := by
  obtain ⟨W1, h1⟩ : ∃ W, W = w.alloc (.cells as_ T) := ⟨_, rfl⟩
  have s1 : W1.heap.size = w.heap.size + 1 := by rw [h1]; simp
  have b2 : Below W1.heap.size W1 (W1.alloc (.cells bs T)) := (Below.refl _ _).alloc (Nat.le_refl _) _
  have n1 : W1.heap[w.heap.size]? = some (.cells as_ T) := by rw [h1]; exact alloc_newR w _
  have n2 : (W1.alloc (.cells bs T)).heap[w.heap.size + 1]? = some (.cells bs T) := by rw [← s1]; exact alloc_newR W1 _
  have bw : Below w.heap.size w W1 := by rw [h1]; exact (Below.refl _ _).alloc (Nat.le_refl _) _
  rw [← h1]
  exact ⟨bw.trans (b2.mono (by omega)), by simp [s1], (b2.block _ (by omega)).trans n1, n2⟩
theorem keepIn {w W w0 : World} {a0 a1 a2 b0 b1 b2 : Value} {T : TypeId} (X : Bx33 w W #[a0, a1, a2] #[b0, b1, b2] T) (hb : Below W.heap.size W w0) :
    w0.cell? ⟨w.heap.size, 0, none⟩ = some a0 ∧ w0.cell? ⟨w.heap.size, 1, none⟩ = some a1 ∧ w0.cell? ⟨w.heap.size, 2, none⟩ = some a2 ∧ w0.cell? ⟨w.heap.size + 1, 0, none⟩ = some b0 ∧ w0.cell? ⟨w.heap.size + 1, 1, none⟩ = some b1 ∧ w0.cell? ⟨w.heap.size + 1, 2, none⟩ = some b2 := by
  have Y := X.next hb
  obtain ⟨x0, x1, x2⟩ := threeR Y.pa
  obtain ⟨y0, y1, y2⟩ := threeR Y.pb
  exact ⟨x0, x1, x2, y0, y1, y2⟩
theorem keepRp {w W w0 : World} {a0 a1 a2 b0 b1 b2 d0 d1 d2 e0 e1 e2 : Value} {T U V : TypeId} {ba bb : Nat} (X : Bx33 w W #[a0, a1, a2] #[b0, b1, b2] T) (ma : ba < W.heap.size) (mb : bb < W.heap.size) (ya : W.heap[ba]? = some (.cells #[d0, d1, d2] U (0, 0))) (yb : W.heap[bb]? = some (.cells #[e0, e1, e2] V (0, 0))) (hb : Below W.heap.size W w0) :
    w0.cell? ⟨w.heap.size, 0, none⟩ = some a0 ∧ w0.cell? ⟨w.heap.size, 1, none⟩ = some a1 ∧ w0.cell? ⟨w.heap.size, 2, none⟩ = some a2 ∧ w0.cell? ⟨w.heap.size + 1, 0, none⟩ = some b0 ∧ w0.cell? ⟨w.heap.size + 1, 1, none⟩ = some b1 ∧ w0.cell? ⟨w.heap.size + 1, 2, none⟩ = some b2 ∧ w0.cell? ⟨ba, 0, none⟩ = some d0 ∧ w0.cell? ⟨ba, 1, none⟩ = some d1 ∧ w0.cell? ⟨ba, 2, none⟩ = some d2 ∧ w0.cell? ⟨bb, 0, none⟩ = some e0 ∧ w0.cell? ⟨bb, 1, none⟩ = some e1 ∧ w0.cell? ⟨bb, 2, none⟩ = some e2 := by
  obtain ⟨x0, x1, x2, y0, y1, y2⟩ := keepIn X hb
  obtain ⟨z0, z1, z2⟩ := threeR ((hb.block _ ma).trans ya)
  obtain ⟨u0, u1, u2⟩ := threeR ((hb.block _ mb).trans yb)
  exact ⟨x0, x1, x2, y0, y1, y2, z0, z1, z2, u0, u1, u2⟩
end Go.Proofs.Ytpfbepbmiillbaa.Rp
namespace Go.Proofs.Ytpfbepbmiillbaa.SameRpf
open Go.RowKit Rp
set_option linter.unusedVariables false

set_option maxRecDepth 8000 in
set_option maxHeartbeats 8000000 in
theorem walk (p1 : Option Addr) (c1 : Nat) (a : Rpl) (hma : a.ds.length ≤ maxLen ∧ ∀ v ∈ a.ds, v.t.size ≤ maxLen) (p2 : Option Addr) (c2 : Nat) (b : Rpl) (hmb : b.ds.length ≤ maxLen ∧ ∀ v ∈ b.ds, v.t.size ≤ maxLen) (w : World) (hin1 : InV w p1 a.ds) (hin2 : InV w p2 b.ds) :
    Calls Try.prog 3 #[.agg #[.int .i64 a.code, .slice p1 a.ds.length c1, .int .i64 a.n], .agg #[.int .i64 b.code, .slice p2 b.ds.length c2, .int .i64 b.n]] w fun e w' => e = .returned (.bool true) ∧ Below w.heap.size w w' := by
  have X0 := Bx33.start w #[.int .i64 a.code, .slice p1 a.ds.length c1, .int .i64 a.n] #[.int .i64 b.code, .slice p2 b.ds.length c2, .int .i64 b.n] 24
  have HZA : Hid (∀ W : World, Below w.heap.size w W → Calls _ _ _ W _) := fun W hW => szReply_any p1 c1 a 1048576 W (hin1.step hW) hma.1 hma.2 (by omega) (by omega)
  have HZB : Hid (∀ (L : Int) (W : World), 0 ≤ L → L ≤ 1048576 → Below w.heap.size w W → Calls _ _ _ W _) := fun L W h0 h1 hW => szReply_any p2 c2 b L W (hin2.step hW) hmb.1 hmb.2 h0 h1
  have HIN : Hid (InV w p1 a.ds ∧ InV w p2 b.ds) := ⟨hin1, hin2⟩
  clear hma hmb hin1 hin2
  obtain ⟨x0, x1, x2, x3, x4, x5⟩ := keepIn X0 (Below.refl _ _)
  go_enter Try.func3, Try.ntmps3
  go_wp2_with fail
  refine (HZA.out _ X0.bel).mono ?_
  rintro e w1 ⟨⟨r1, rfl, hr⟩, hb⟩
  have X1 := X0.next hb
  clear hb HZA X0 x0 x1 x2 x3 x4 x5
  obtain ⟨x0, x1, x2, x3, x4, x5⟩ := keepIn X1 (Below.refl _ _)
  have hb0 := X1.bel
  rcases hr with hneg | ⟨q0, q1, q2, q3⟩
  · go_wp2_with fail
    go_ret
    exact ⟨rfl, hb0⟩
  have hn1 : ¬ r1 < 0 := by omega
  have HLa : Hid (a.ds.length ≤ 1048576) := q2
  clear q3 q2
  go_wp2_with fail
  refine (HZB.out r1 _ q0 q1 X1.bel).mono ?_
  rintro e w2 ⟨⟨r2, rfl, hr⟩, hb⟩
  have X2 := X1.next hb
  clear hb HZB X1 x0 x1 x2 x3 x4 x5 hb0
  obtain ⟨x0, x1, x2, x3, x4, x5⟩ := keepIn X2 (Below.refl _ _)
  have hb0 := X2.bel
  rcases hr with hneg | ⟨s0, s1, s2, s3⟩
  · go_wp2_with fail
    go_ret
    exact ⟨rfl, hb0⟩
  have hn2 : ¬ r2 < 0 := by omega
  have HLb : Hid (b.ds.length ≤ 1048576) := s2
  have HTa : Hid (∀ W : World, Below w.heap.size w W → Calls _ _ _ W _) := fun W hW => toReply_any p1 c1 a W (HIN.out.1.step hW) HLa.out
  have HTb : Hid (∀ W : World, Below w.heap.size w W → Calls _ _ _ W _) := fun W hW => toReply_any p2 c2 b W (HIN.out.2.step hW) HLb.out
  have HS : Hid (∀ (g h : Nat) (W : World), ReadV W g a.ds → ReadV W h b.ds → Calls _ _ _ W _) := fun g h W hA hB => specSame_any g h a.ds.length b.ds.length a b W hA hB HLa.out HLb.out
  have HI : Hid (∀ (g h : Nat) (W : World), ReadV W g a.ds → ReadV W h b.ds → Calls _ _ _ W _) := fun g h W hA hB => implSame_any g h a.ds.length b.ds.length a b W hA hB HLa.out HLb.out
  obtain ⟨P, hP⟩ : ∃ P, P = sameB a b := ⟨_, rfl⟩
  rw [← hP] at HS HI
  clear s3 s2 hP q0 q1 s0 s1
  go_wp2_with fail
  go_region_held3 (fun w0 => w0.cell? ⟨w.heap.size, 0, none⟩ = some (.int .i64 a.code) ∧ w0.cell? ⟨w.heap.size, 1, none⟩ = some (.slice p1 a.ds.length c1) ∧ w0.cell? ⟨w.heap.size, 2, none⟩ = some (.int .i64 a.n) ∧ w0.cell? ⟨w.heap.size + 1, 0, none⟩ = some (.int .i64 b.code) ∧ w0.cell? ⟨w.heap.size + 1, 1, none⟩ = some (.slice p2 b.ds.length c2) ∧ w0.cell? ⟨w.heap.size + 1, 2, none⟩ = some (.int .i64 b.n)) ((refine keepIn X2 ?_; (repeat (first | (with_reducible exact Below.refl _ _) | (with_reducible assumption) | (with_reducible apply below_drewN) | (with_reducible apply Below.drew) | ((with_reducible refine Below.setCell ?_ ?_ _); rotate_left; focus (first | (simp; done) | (simp; omega) | omega)) | ((with_reducible refine Below.alloc ?_ ?_ _); rotate_left; focus (first | (simp; done) | (simp; omega) | omega)))))) (first | (go_at_call 6; (with_reducible show Calls _ _ #[.agg #[.int .i64 a.code, _, _]] _ _); refine (HTa.out _ (X2.bel.trans ((show Below w2.heap.size w2 _ by (repeat (first | (with_reducible exact Below.refl _ _) | (with_reducible assumption) | (with_reducible apply below_drewN) | (with_reducible apply Below.drew) | ((with_reducible refine Below.setCell ?_ ?_ _); rotate_left; focus (first | (simp; done) | (simp; omega) | omega)) | ((with_reducible refine Below.alloc ?_ ?_ _); rotate_left; focus (first | (simp; done) | (simp; omega) | omega))))).mono X2.bel.size))).mono ?_; rintro e wa ⟨⟨ga1, rfl, O⟩, hb⟩; have hBA : Below w2.heap.size w2 wa := (show Below w2.heap.size w2 _ by (repeat (first | (with_reducible exact Below.refl _ _) | (with_reducible assumption) | (with_reducible apply below_drewN) | (with_reducible apply Below.drew) | ((with_reducible refine Below.setCell ?_ ?_ _); rotate_left; focus (first | (simp; done) | (simp; omega) | omega)) | ((with_reducible refine Below.alloc ?_ ?_ _); rotate_left; focus (first | (simp; done) | (simp; omega) | omega))))).trans (hb.mono (by first | (simp; done) | (simp; omega) | omega)); have HOA : Hid (ReadV wa ga1 a.ds) := O; clear hb O) | (go_at_call 6; refine (HTb.out _ (X2.bel.trans ((show Below w2.heap.size w2 _ by (repeat (first | (with_reducible exact Below.refl _ _) | (with_reducible assumption) | (with_reducible apply below_drewN) | (with_reducible apply Below.drew) | ((with_reducible refine Below.setCell ?_ ?_ _); rotate_left; focus (first | (simp; done) | (simp; omega) | omega)) | ((with_reducible refine Below.alloc ?_ ?_ _); rotate_left; focus (first | (simp; done) | (simp; omega) | omega))))).mono X2.bel.size))).mono ?_; rintro e wb ⟨⟨gb1, rfl, O⟩, hb⟩; have hAB : Below wa.heap.size wa wb := (show Below wa.heap.size wa _ by (repeat (first | (with_reducible exact Below.refl _ _) | (with_reducible assumption) | (with_reducible apply below_drewN) | (with_reducible apply Below.drew) | ((with_reducible refine Below.setCell ?_ ?_ _); rotate_left; focus (first | (simp; done) | (simp; omega) | omega)) | ((with_reducible refine Below.alloc ?_ ?_ _); rotate_left; focus (first | (simp; done) | (simp; omega) | omega))))).trans (hb.mono (by first | (simp; done) | (simp; omega) | omega)); have hBB : Below w2.heap.size w2 wb := hBA.trans (hAB.mono hBA.size); have HOB : Hid (ReadV wb ga1 a.ds ∧ ReadV wb gb1 b.ds) := ⟨HOA.out.step hAB HOA.out.lt, O⟩; clear hb O) | (go_at_call 5; refine (HS.out _ _ _ HOB.out.1 HOB.out.2).mono ?_; rintro e wc ⟨rfl, hb⟩; have hBC : Below w2.heap.size w2 wc := hBB.trans (hb.mono hBB.size); clear hb))
  have X3 := X2.next hBC
  clear hBC hBB hBA hAB HOA HOB X2 x0 x1 x2 x3 x4 x5 hb0
  obtain ⟨x0, x1, x2, x3, x4, x5⟩ := keepIn X3 (Below.refl _ _)
  go_wp2_with fail
  refine (HTa.out _ X3.bel).mono ?_
  rintro e w4 ⟨⟨ga, rfl, O4⟩, hb⟩
  have X4 := X3.next hb
  have bA : Below w4.heap.size w4 (w4.alloc (.cells #[.int .i64 a.code, .slice (some ⟨ga, 0, none⟩) a.ds.length a.ds.length, .int .i64 a.n] 29)) := (Below.refl _ _).alloc (Nat.le_refl _) _
  have X5 := X4.next bA
  have Ra5 : ReadV _ ga a.ds := O4.step bA O4.lt
  have ya5 : (w4.alloc (.cells #[.int .i64 a.code, .slice (some ⟨ga, 0, none⟩) a.ds.length a.ds.length, .int .i64 a.n] 29)).heap[w4.heap.size]? = _ := alloc_newR w4 _
  have ma5 : w4.heap.size < (w4.alloc (.cells #[.int .i64 a.code, .slice (some ⟨ga, 0, none⟩) a.ds.length a.ds.length, .int .i64 a.n] 29)).heap.size := by simp
  clear hb X3 X4 O4 bA x0 x1 x2 x3 x4 x5
  obtain ⟨x0, x1, x2, x3, x4, x5⟩ := keepIn X5 (Below.refl _ _)
  go_wp2_with fail
  generalize w4.alloc (.cells #[.int .i64 a.code, .slice (some ⟨ga, 0, none⟩) a.ds.length a.ds.length, .int .i64 a.n] 29) = w5 at X5 Ra5 ya5 ma5 x0 x1 x2 x3 x4 x5 ⊢
  obtain ⟨ba, hba⟩ : ∃ ba, ba = w4.heap.size := ⟨_, rfl⟩
  rw [← hba] at ya5 ma5 ⊢
  clear hba
  refine (HTb.out _ X5.bel).mono ?_
  rintro e w6 ⟨⟨gb, rfl, O6⟩, hb⟩
  have X6 := X5.next hb
  have Ra6 := Ra5.step hb Ra5.lt
  have ya6 := (hb.block _ ma5).trans ya5
  have ma6 := Nat.lt_of_lt_of_le ma5 hb.size
  have bA : Below w6.heap.size w6 (w6.alloc (.cells #[.int .i64 b.code, .slice (some ⟨gb, 0, none⟩) b.ds.length b.ds.length, .int .i64 b.n] 29)) := (Below.refl _ _).alloc (Nat.le_refl _) _
  have X7 := X6.next bA
  have Rb7 : ReadV _ gb b.ds := O6.step bA O6.lt
  have Ra7 : ReadV _ ga a.ds := Ra6.step bA Ra6.lt
  have ya7 := (bA.block _ ma6).trans ya6
  have ma7 := Nat.lt_of_lt_of_le ma6 bA.size
  have yb7 : (w6.alloc (.cells #[.int .i64 b.code, .slice (some ⟨gb, 0, none⟩) b.ds.length b.ds.length, .int .i64 b.n] 29)).heap[w6.heap.size]? = _ := alloc_newR w6 _
  have mb7 : w6.heap.size < (w6.alloc (.cells #[.int .i64 b.code, .slice (some ⟨gb, 0, none⟩) b.ds.length b.ds.length, .int .i64 b.n] 29)).heap.size := by simp
  clear hb X5 X6 O6 bA Ra5 Ra6 ya5 ya6 ma5 ma6 x0 x1 x2 x3 x4 x5
  obtain ⟨u0, u1, u2⟩ := threeR ya7
  obtain ⟨v0, v1, v2⟩ := threeR yb7
  go_wp2_with fail
  generalize w6.alloc (.cells #[.int .i64 b.code, .slice (some ⟨gb, 0, none⟩) b.ds.length b.ds.length, .int .i64 b.n] 29) = w7 at X7 Ra7 Rb7 ya7 yb7 ma7 mb7 u0 u1 u2 v0 v1 v2 ⊢
  obtain ⟨bb, hbb⟩ : ∃ bb, bb = w6.heap.size := ⟨_, rfl⟩
  rw [← hbb] at yb7 mb7 v0 v1 v2 ⊢
  clear hbb
  refine (HI.out ga gb _ Ra7 Rb7).mono ?_
  rintro e w8 ⟨rfl, hb⟩
  have X8 := X7.next hb
  have Ra8 := Ra7.step hb Ra7.lt
  have Rb8 := Rb7.step hb Rb7.lt
  have ya8 := (hb.block _ ma7).trans ya7
  have yb8 := (hb.block _ mb7).trans yb7
  have ma8 := Nat.lt_of_lt_of_le ma7 hb.size
  have mb8 := Nat.lt_of_lt_of_le mb7 hb.size
  clear hb X7 Ra7 Rb7 ya7 yb7 ma7 mb7 u0 u1 u2 v0 v1 v2
  have hpp : (P != P) = false := by cases P <;> rfl
  have HX9 : Hid (ReadV _ _ _) := Ra8
  go_wp2_with fail
  go_region_held3 (fun w0 => w0.cell? ⟨w.heap.size, 0, none⟩ = some (.int .i64 a.code) ∧ w0.cell? ⟨w.heap.size, 1, none⟩ = some (.slice p1 a.ds.length c1) ∧ w0.cell? ⟨w.heap.size, 2, none⟩ = some (.int .i64 a.n) ∧ w0.cell? ⟨w.heap.size + 1, 0, none⟩ = some (.int .i64 b.code) ∧ w0.cell? ⟨w.heap.size + 1, 1, none⟩ = some (.slice p2 b.ds.length c2) ∧ w0.cell? ⟨w.heap.size + 1, 2, none⟩ = some (.int .i64 b.n) ∧ w0.cell? ⟨ba, 0, none⟩ = some (.int .i64 a.code) ∧ w0.cell? ⟨ba, 1, none⟩ = some (.slice (some ⟨ga, 0, none⟩) a.ds.length a.ds.length) ∧ w0.cell? ⟨ba, 2, none⟩ = some (.int .i64 a.n) ∧ w0.cell? ⟨bb, 0, none⟩ = some (.int .i64 b.code) ∧ w0.cell? ⟨bb, 1, none⟩ = some (.slice (some ⟨gb, 0, none⟩) b.ds.length b.ds.length) ∧ w0.cell? ⟨bb, 2, none⟩ = some (.int .i64 b.n)) ((refine keepRp X8 ma8 mb8 ya8 yb8 ?_; (repeat (first | (with_reducible exact Below.refl _ _) | (with_reducible assumption) | (with_reducible apply below_drewN) | (with_reducible apply Below.drew) | ((with_reducible refine Below.setCell ?_ ?_ _); rotate_left; focus (first | (simp; done) | (simp; omega) | omega)) | ((with_reducible refine Below.alloc ?_ ?_ _); rotate_left; focus (first | (simp; done) | (simp; omega) | omega)))))) (first | (go_at_call 6; refine (HTa.out _ (X8.bel.trans ((show Below w8.heap.size w8 _ by (repeat (first | (with_reducible exact Below.refl _ _) | (with_reducible assumption) | (with_reducible apply below_drewN) | (with_reducible apply Below.drew) | ((with_reducible refine Below.setCell ?_ ?_ _); rotate_left; focus (first | (simp; done) | (simp; omega) | omega)) | ((with_reducible refine Below.alloc ?_ ?_ _); rotate_left; focus (first | (simp; done) | (simp; omega) | omega))))).mono X8.bel.size))).mono ?_; rintro e v9 ⟨⟨g9, rfl, O9⟩, hb⟩; have hC9 : Below w8.heap.size w8 v9 := (show Below w8.heap.size w8 _ by (repeat (first | (with_reducible exact Below.refl _ _) | (with_reducible assumption) | (with_reducible apply below_drewN) | (with_reducible apply Below.drew) | ((with_reducible refine Below.setCell ?_ ?_ _); rotate_left; focus (first | (simp; done) | (simp; omega) | omega)) | ((with_reducible refine Below.alloc ?_ ?_ _); rotate_left; focus (first | (simp; done) | (simp; omega) | omega))))).trans (hb.mono (by first | (simp; done) | (simp; omega) | omega)); have HO9 : Hid (ReadV v9 g9 a.ds) := O9; clear hb O9) | (go_at_call 8; refine (eqReply_same _ _ _ _ a _ (HX9.out.step hC9 HX9.out.lt) HO9.out HLa.out).mono ?_; rintro e u9 ⟨rfl, hb⟩; have hD9 : Below w8.heap.size w8 u9 := hC9.trans (hb.mono hC9.size); clear hb))
  have X10 := X8.next hD9
  have Ra10 := Ra8.step hD9 Ra8.lt
  have Rb10 := Rb8.step hD9 Rb8.lt
  have ya10 := (hD9.block _ ma8).trans ya8
  have yb10 := (hD9.block _ mb8).trans yb8
  have ma10 := Nat.lt_of_lt_of_le ma8 hD9.size
  have mb10 := Nat.lt_of_lt_of_le mb8 hD9.size
  clear X8 Ra8 Rb8 ya8 yb8 ma8 mb8 hD9 hC9 HO9 HX9
  generalize hU : u9 = w10 at X10 Ra10 Rb10 ya10 yb10 ma10 mb10 ⊢
  clear hU
  have HX11 : Hid (ReadV _ _ _) := Rb10
  go_wp2_with fail
  go_region_held3 (fun w0 => w0.cell? ⟨w.heap.size, 0, none⟩ = some (.int .i64 a.code) ∧ w0.cell? ⟨w.heap.size, 1, none⟩ = some (.slice p1 a.ds.length c1) ∧ w0.cell? ⟨w.heap.size, 2, none⟩ = some (.int .i64 a.n) ∧ w0.cell? ⟨w.heap.size + 1, 0, none⟩ = some (.int .i64 b.code) ∧ w0.cell? ⟨w.heap.size + 1, 1, none⟩ = some (.slice p2 b.ds.length c2) ∧ w0.cell? ⟨w.heap.size + 1, 2, none⟩ = some (.int .i64 b.n) ∧ w0.cell? ⟨ba, 0, none⟩ = some (.int .i64 a.code) ∧ w0.cell? ⟨ba, 1, none⟩ = some (.slice (some ⟨ga, 0, none⟩) a.ds.length a.ds.length) ∧ w0.cell? ⟨ba, 2, none⟩ = some (.int .i64 a.n) ∧ w0.cell? ⟨bb, 0, none⟩ = some (.int .i64 b.code) ∧ w0.cell? ⟨bb, 1, none⟩ = some (.slice (some ⟨gb, 0, none⟩) b.ds.length b.ds.length) ∧ w0.cell? ⟨bb, 2, none⟩ = some (.int .i64 b.n)) ((refine keepRp X10 ma10 mb10 ya10 yb10 ?_; (repeat (first | (with_reducible exact Below.refl _ _) | (with_reducible assumption) | (with_reducible apply below_drewN) | (with_reducible apply Below.drew) | ((with_reducible refine Below.setCell ?_ ?_ _); rotate_left; focus (first | (simp; done) | (simp; omega) | omega)) | ((with_reducible refine Below.alloc ?_ ?_ _); rotate_left; focus (first | (simp; done) | (simp; omega) | omega)))))) (first | (go_at_call 6; refine (HTb.out _ (X10.bel.trans ((show Below w10.heap.size w10 _ by (repeat (first | (with_reducible exact Below.refl _ _) | (with_reducible assumption) | (with_reducible apply below_drewN) | (with_reducible apply Below.drew) | ((with_reducible refine Below.setCell ?_ ?_ _); rotate_left; focus (first | (simp; done) | (simp; omega) | omega)) | ((with_reducible refine Below.alloc ?_ ?_ _); rotate_left; focus (first | (simp; done) | (simp; omega) | omega))))).mono X10.bel.size))).mono ?_; rintro e v11 ⟨⟨g11, rfl, O11⟩, hb⟩; have hC11 : Below w10.heap.size w10 v11 := (show Below w10.heap.size w10 _ by (repeat (first | (with_reducible exact Below.refl _ _) | (with_reducible assumption) | (with_reducible apply below_drewN) | (with_reducible apply Below.drew) | ((with_reducible refine Below.setCell ?_ ?_ _); rotate_left; focus (first | (simp; done) | (simp; omega) | omega)) | ((with_reducible refine Below.alloc ?_ ?_ _); rotate_left; focus (first | (simp; done) | (simp; omega) | omega))))).trans (hb.mono (by first | (simp; done) | (simp; omega) | omega)); have HO11 : Hid (ReadV v11 g11 b.ds) := O11; clear hb O11) | (go_at_call 8; refine (eqReply_same _ _ _ _ b _ (HX11.out.step hC11 HX11.out.lt) HO11.out HLb.out).mono ?_; rintro e u11 ⟨rfl, hb⟩; have hD11 : Below w10.heap.size w10 u11 := hC11.trans (hb.mono hC11.size); clear hb))
  have hbw := (X10.next hD11).bel
  go_wp2_with fail
  go_ret
  exact ⟨rfl, hbw⟩

end Go.Proofs.Ytpfbepbmiillbaa.SameRpf
