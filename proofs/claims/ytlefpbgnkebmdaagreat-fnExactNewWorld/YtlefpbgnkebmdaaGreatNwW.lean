/- A new world: the law's own walk. -/
import Derived.Test.YtlefpbgnkebmdaaGreatNwV
namespace Go.Proofs.YtlefpbgnkebmdaaGreat.NewWorldf
open Go.RowKit Tr Co Ns Nw
set_option linter.unusedVariables false

set_option maxRecDepth 4000 in
set_option maxHeartbeats 1000000 in
theorem markPastS_nil (p : Option Addr) (c : Nat) (k : Int) (w : World) : Calls Tryz.prog 17 #[.slice p 0 c, .int .i64 k] w fun e w' => e = .returned (.int .i64 k) ∧ w' = w := by
  go_enter Tryz.func17, Tryz.ntmps17
  go_wp2_with fail
  go_loopw [1, 5] (fun u i wr => u = .int .i64 k ∧ i = .int .i64 0 ∧ wr = w) (fun _ _ _ => 0)
  case atStart => exact ⟨rfl, rfl, rfl⟩
  case round =>
    obtain ⟨rfl, rfl, rfl⟩ := hrel
    go_wp2_with fail
    go_ret
    exact ⟨rfl, rfl⟩
set_option maxRecDepth 4000 in
set_option maxHeartbeats 1000000 in
theorem heldPastS_nil (p : Option Addr) (c : Nat) (k : Int) (w : World) : Calls Tryz.prog 19 #[.slice p 0 c, .int .i64 k] w fun e w' => e = .returned (.int .i64 k) ∧ w' = w := by
  go_enter Tryz.func19, Tryz.ntmps19
  go_wp2_with fail
  go_loopw [1, 5] (fun u i wr => u = .int .i64 k ∧ i = .int .i64 0 ∧ wr = w) (fun _ _ _ => 0)
  case atStart => exact ⟨rfl, rfl, rfl⟩
  case round =>
    obtain ⟨rfl, rfl, rfl⟩ := hrel
    go_wp2_with fail
    go_ret
    exact ⟨rfl, rfl⟩
set_option maxRecDepth 4000 in
set_option maxHeartbeats 2000000 in
theorem eqWorld_new {p1 t1 q1 r1 p2 t2 q2 r2 : Option Addr} {c1 x1 y1 s1 g1 z1 c2 x2 y2 s2 g2 z2 : Nat} {n1 n2 : List NC} {l1 l2 : List ZP} (w : World) (h1 : InN3 w p1 n1) (h2 : InN3 w p2 n2) (hn : n1.map NC.n = n2.map NC.n) (hl : n1.length ≤ 3)
    (k1 : InZ w (some ⟨g1, 0, none⟩) l1) (k2 : InZ w (some ⟨g2, 0, none⟩) l2) (e1 : l1.length = 4) (e2 : l2.length = 4) (hz1 : ∀ x ∈ l1, ZP.zero x) (hz2 : ∀ x ∈ l2, ZP.zero x) :
    Calls Tryz.prog 6 #[.agg #[.slice p1 n1.length c1, .slice t1 0 x1, .slice q1 0 y1, .int .i64 0, .slice (some ⟨g1, 0, none⟩) 4 z1, .slice r1 0 s1], .agg #[.slice p2 n2.length c2, .slice t2 0 x2, .slice q2 0 y2, .int .i64 0, .slice (some ⟨g2, 0, none⟩) 4 z2, .slice r2 0 s2]] w fun e w' => e = .returned (.bool true) ∧ Below w.heap.size w w' := by
  have X0 : S6 (((w.alloc (.cells #[.slice p1 n1.length c1, .slice t1 0 x1, .slice q1 0 y1, .int .i64 0, .slice (some ⟨g1, 0, none⟩) 4 z1, .slice r1 0 s1] 29)).alloc (.cells #[.slice p2 n2.length c2, .slice t2 0 x2, .slice q2 0 y2, .int .i64 0, .slice (some ⟨g2, 0, none⟩) 4 z2, .slice r2 0 s2] 29))) w.heap.size _ _ _ _ _ _ := (S6.new w (.slice p1 n1.length c1) (.slice t1 0 x1) (.slice q1 0 y1) (.int .i64 0) (.slice (some ⟨g1, 0, none⟩) 4 z1) (.slice r1 0 s1)).al _
  have Y0 := S6.new (w.alloc (.cells #[.slice p1 n1.length c1, .slice t1 0 x1, .slice q1 0 y1, .int .i64 0, .slice (some ⟨g1, 0, none⟩) 4 z1, .slice r1 0 s1] 29)) (.slice p2 n2.length c2) (.slice t2 0 x2) (.slice q2 0 y2) (.int .i64 0) (.slice (some ⟨g2, 0, none⟩) 4 z2) (.slice r2 0 s2)
  rw [heap_size_alloc] at Y0
  have B0 : Below w.heap.size w (((w.alloc (.cells #[.slice p1 n1.length c1, .slice t1 0 x1, .slice q1 0 y1, .int .i64 0, .slice (some ⟨g1, 0, none⟩) 4 z1, .slice r1 0 s1] 29)).alloc (.cells #[.slice p2 n2.length c2, .slice t2 0 x2, .slice q2 0 y2, .int .i64 0, .slice (some ⟨g2, 0, none⟩) 4 z2, .slice r2 0 s2] 29))) := by (repeat (first | (with_reducible exact Below.refl _ _) | (with_reducible assumption) | (with_reducible apply below_drewN) | (with_reducible apply Below.drew) | ((with_reducible refine Below.setCell ?_ ?_ _); rotate_left; focus (first | (simp; done) | (simp; omega) | omega)) | ((with_reducible refine Below.alloc ?_ ?_ _); rotate_left; focus (first | (simp; done) | (simp; omega) | omega))))
  have HS : Hid (∀ W : World, Below w.heap.size w W → Calls _ _ _ W _) := fun W hW => eqStore_new p1 p2 t1 t2 q1 q2 c1 c2 x1 x2 y1 y2 n1 n2 W (h1.step hW) (h2.step hW) hn (by omega)
  have HP0 := fun (W : World) (hW : Below w.heap.size w W) => eqPastS_zero (some ⟨g1, 0, none⟩) (some ⟨g2, 0, none⟩) z1 z2 l1 l2 W (k1.step hW) (k2.step hW) (by rw [e1, e2]) hz1 hz2 (by omega)
  rw [e1, e2] at HP0
  have HP : Hid (∀ W : World, Below w.heap.size w W → Calls _ _ _ W _) := HP0
  have HN : Hid (∀ W : World, Calls _ _ _ W _) := fun W => eqPastS_zero r1 r2 s1 s2 [] [] W (.inl rfl) (.inl rfl) rfl (fun x h => by simp at h) (fun x h => by simp at h) (by simp)
  clear h1 h2 hn k1 k2 e1 e2 hz1 hz2 HP0
  go_enter Tryz.func6, Tryz.ntmps6
  go_wp2_with fail
  generalize ((w.alloc (.cells #[.slice p1 n1.length c1, .slice t1 0 x1, .slice q1 0 y1, .int .i64 0, .slice (some ⟨g1, 0, none⟩) 4 z1, .slice r1 0 s1] 29)).alloc (.cells #[.slice p2 n2.length c2, .slice t2 0 x2, .slice q2 0 y2, .int .i64 0, .slice (some ⟨g2, 0, none⟩) 4 z2, .slice r2 0 s2] 29)) = W0 at X0 Y0 B0 ⊢
  refine (HS.out _ B0).mono ?_
  rintro e w1 ⟨rfl, hb⟩
  have X1 := X0.step hb
  have Y1 := Y0.step hb
  have B1 := B0.trans (hb.mono B0.size)
  obtain ⟨xl, xc0, xc1, xc2, xc3, xc4, xc5, _, _, _, _, _, _⟩ := X1.all
  obtain ⟨yl, yc0, yc1, yc2, yc3, yc4, yc5, _, _, _, _, _, _⟩ := Y1.all
  clear X0 Y0 B0 hb HS
  go_wp2_with fail
  refine (HP.out _ B1).mono ?_
  rintro e w2 ⟨rfl, hb⟩
  have X2 := X1.step hb
  have Y2 := Y1.step hb
  have B2 := B1.trans (hb.mono B1.size)
  clear xl xc0 xc1 xc2 xc3 xc4 xc5 yl yc0 yc1 yc2 yc3 yc4 yc5
  obtain ⟨xl, xc0, xc1, xc2, xc3, xc4, xc5, _, _, _, _, _, _⟩ := X2.all
  obtain ⟨yl, yc0, yc1, yc2, yc3, yc4, yc5, _, _, _, _, _, _⟩ := Y2.all
  clear X1 Y1 B1 hb HP
  go_wp2_with fail
  refine (HN.out _).mono ?_
  rintro e w3 ⟨rfl, hb⟩
  have B3 := B2.trans (hb.mono B2.size)
  clear hb B2 X2 Y2
  go_wp2_with fail
  go_ret
  exact ⟨rfl, B3⟩
set_option maxRecDepth 4000 in
set_option maxHeartbeats 2000000 in
theorem markWorld_new {p1 t1 q1 r1 : Option Addr} {c1 x1 y1 s1 g1 z1 : Nat} {n1 : List NC} {l1 : List ZP} (base Q : Nat) (w : World) (hown : OwnN w base (.slice p1 n1.length c1) n1) (hoz : OwnZ w base (.slice (some ⟨g1, 0, none⟩) 4 z1) l1) (hbase : base ≤ w.heap.size) (hl : n1.length ≤ 3) (e1 : l1.length = 4) (hne : (Value.slice p1 n1.length c1).ownBlock ≠ some g1) (hQ : Q = 1 + n1.length + 4 * l1.length) :
    Calls Tryz.prog 7 #[.agg #[.slice p1 n1.length c1, .slice t1 0 x1, .slice q1 0 y1, .int .i64 0, .slice (some ⟨g1, 0, none⟩) 4 z1, .slice r1 0 s1], .int .i64 1] w fun e w' => e = .returned (.int .i64 (Q : Int)) ∧ OwnN w' base (.slice p1 n1.length c1) (markMixC 1 n1 n1.length) ∧ OwnZ w' base (.slice (some ⟨g1, 0, none⟩) 4 z1) (markMixZ (1 + n1.length) l1 l1.length) ∧ ∃ wm, w.grownBy wm (Value.slice p1 n1.length c1).ownBlock ∧ wm.grownBy w' (some g1) := by
  have X0 := S6.new w (.slice p1 n1.length c1) (.slice t1 0 x1) (.slice q1 0 y1) (.int .i64 0) (.slice (some ⟨g1, 0, none⟩) 4 z1) (.slice r1 0 s1)
  have hA : Below w.heap.size w (w.alloc (.cells #[.slice p1 n1.length c1, .slice t1 0 x1, .slice q1 0 y1, .int .i64 0, .slice (some ⟨g1, 0, none⟩) 4 z1, .slice r1 0 s1] 29)) := (Below.refl _ _).alloc (Nat.le_refl _) _
  have HL : Hid (∀ g, (Value.slice p1 n1.length c1).ownBlock = some g → g < w.heap.size) := fun g h => (World.ownsRow.lt hown g h).2
  have hgl : g1 < w.heap.size := (World.ownsRow.lt hoz g1 rfl).2
  have HS : Hid (Calls _ _ _ _ _) := markStore_new base p1 t1 q1 c1 x1 y1 n1 (w.alloc (.cells #[.slice p1 n1.length c1, .slice t1 0 x1, .slice q1 0 y1, .int .i64 0, .slice (some ⟨g1, 0, none⟩) 4 z1, .slice r1 0 s1] 29)) (owns_below hown hA) (Nat.le_trans hbase hA.size) (by omega)
  have HZ : Hid (OwnZ _ _ _ _) := owns_below hoz hA
  have HNE : Hid _ := hne
  have HQ : Hid (Q = 1 + n1.length + 4 * l1.length) := hQ
  clear hown hoz hne hQ
  go_enter Tryz.func7, Tryz.ntmps7
  go_wp2_with fail
  refine HS.out.mono ?_
  rintro e w1 ⟨rfl, O1, hg⟩
  have X1 := X0.out hg (fun e => by have := HL.out _ e.symm; omega)
  obtain ⟨xl, xc0, xc1, xc2, xc3, xc4, xc5, _, _, _, _, _, _⟩ := X1.all
  have HO : Hid (OwnN _ _ _ _) := O1
  have Z1 : OwnZ w1 base (.slice (some ⟨g1, 0, none⟩) 4 z1) l1 := World.ownsRow.kept HZ.out hg (.inr (fun e => HNE.out e.symm))
  have HG : Hid (World.grownBy w w1 _) := grown_trans (grown_below hA) hg
  have HP0 := markPastS_zero base (.slice (some ⟨g1, 0, none⟩) 4 z1) l1 (1 + n1.length) w1 Z1 (by omega) (by omega) (by omega)
  rw [← HQ.out] at HP0
  have HP : Hid (Calls _ _ _ _ _) := HP0
  have hz1 : w.heap.size < w1.heap.size := xl
  clear O1 hg X0 HS hA HP0 Z1 HZ
  go_wp2_with fail
  refine HP.out.mono ?_
  rintro e w2 ⟨rfl, Z2, hg⟩
  have X2 := X1.out hg (fun e => by injection e with e; dsimp only at e; omega)
  clear xl xc0 xc1 xc2 xc3 xc4 xc5
  obtain ⟨xl, xc0, xc1, xc2, xc3, xc4, xc5, _, _, _, _, _, _⟩ := X2.all
  have HO2 : Hid (OwnN _ _ _ _) := (World.ownsRow.kept HO.out hg (.inr HNE.out) : OwnN w2 base _ _)
  have HZ2 : Hid (OwnZ _ _ _ _) := Z2
  have HG2 : Hid (World.grownBy w1 w2 _) := hg
  clear hg Z2 HP X1 HO
  go_wp2_with fail
  refine (markPastS_nil r1 s1 _ _).mono ?_
  rintro e w3 ⟨rfl, rfl⟩
  clear X2
  go_wp2_with fail
  go_ret
  exact ⟨rfl, HO2.out, HZ2.out, w1, HG.out, HG2.out⟩
set_option maxRecDepth 4000 in
set_option maxHeartbeats 2000000 in
theorem heldWorld_new {p1 t1 q1 r1 : Option Addr} {c1 x1 y1 s1 g1 z1 : Nat} {n1 : List NC} {l1 : List ZP} (Q : Nat) (w : World) (hin : InN3 w p1 (markMixC 1 n1 n1.length)) (hiz : InZ w (some ⟨g1, 0, none⟩) (markMixZ (1 + n1.length) l1 l1.length)) (hl : n1.length ≤ 3) (e1 : l1.length = 4) (hQ : Q = 1 + n1.length + 4 * l1.length) :
    Calls Tryz.prog 8 #[.agg #[.slice p1 n1.length c1, .slice t1 0 x1, .slice q1 0 y1, .int .i64 0, .slice (some ⟨g1, 0, none⟩) 4 z1, .slice r1 0 s1], .int .i64 1] w fun e w' => e = .returned (.int .i64 (Q : Int)) ∧ Below w.heap.size w w' := by
  have X0 := S6.new w (.slice p1 n1.length c1) (.slice t1 0 x1) (.slice q1 0 y1) (.int .i64 0) (.slice (some ⟨g1, 0, none⟩) 4 z1) (.slice r1 0 s1)
  have hA : Below w.heap.size w (w.alloc (.cells #[.slice p1 n1.length c1, .slice t1 0 x1, .slice q1 0 y1, .int .i64 0, .slice (some ⟨g1, 0, none⟩) 4 z1, .slice r1 0 s1] 29)) := (Below.refl _ _).alloc (Nat.le_refl _) _
  have HS : Hid (Calls _ _ _ _ _) := heldStore_new p1 t1 q1 c1 x1 y1 n1 (w.alloc (.cells #[.slice p1 n1.length c1, .slice t1 0 x1, .slice q1 0 y1, .int .i64 0, .slice (some ⟨g1, 0, none⟩) 4 z1, .slice r1 0 s1] 29)) (hin.step hA) (by omega)
  have HP0 := fun (W : World) (hW : Below w.heap.size w W) => heldPastS_zero (some ⟨g1, 0, none⟩) z1 l1 (1 + n1.length) W (hiz.step hW) (by omega) (by omega) (by omega)
  rw [← hQ, e1] at HP0
  have HP : Hid (∀ W : World, Below w.heap.size w W → Calls _ _ _ W _) := HP0
  have hk1 : ¬ (((1 + n1.length : Nat) : Int) < 0) := by omega
  have hk2 : ¬ (1 + (n1.length : Int) < 0) := by omega
  have hk3 : ¬ ((Q : Int) < 0) := by omega
  clear hin hiz HP0 hQ
  go_enter Tryz.func8, Tryz.ntmps8
  go_wp2_with fail
  refine HS.out.mono ?_
  rintro e w1 ⟨rfl, hb⟩
  have X1 := X0.step hb
  have B1 := hA.trans (hb.mono hA.size)
  obtain ⟨xl, xc0, xc1, xc2, xc3, xc4, xc5, _, _, _, _, _, _⟩ := X1.all
  clear X0 hA hb HS
  go_wp2_with fail
  refine (HP.out _ B1).mono ?_
  rintro e w2 ⟨rfl, rfl⟩
  go_wp2_with fail
  refine (heldPastS_nil r1 s1 _ _).mono ?_
  rintro e w3 ⟨rfl, rfl⟩
  go_wp2_with fail
  go_ret
  exact ⟨rfl, B1⟩
set_option maxRecDepth 8000 in
set_option maxHeartbeats 4000000 in
theorem walk (w : World) :
    Calls Tryz.prog 3 #[] w fun e w' => e = .returned (.bool true) ∧ Below w.heap.size w w' := by
  go_enter Tryz.func3, Tryz.ntmps3
  go_wp2_with fail
  refine (specNewWorld_any w).mono ?_
  rintro e w1 ⟨⟨p1, c1, t1, x1, q1, y1, n1, g1, z1, r1, s1, l1, rfl, hm1, ho1, hl1, hz1, hoz1, hne1⟩, hb1⟩
  have X1 := S6.new w1 (.slice p1 n1.length c1) (.slice t1 0 x1) (.slice q1 0 y1) (.int .i64 0) (.slice (some ⟨g1, 0, none⟩) 4 z1) (.slice r1 0 s1)
  have HB1 : Hid (Below w.heap.size w (w1.alloc (.cells #[.slice p1 n1.length c1, .slice t1 0 x1, .slice q1 0 y1, .int .i64 0, .slice (some ⟨g1, 0, none⟩) 4 z1, .slice r1 0 s1] 29))) := hb1.alloc hb1.size _
  have HLN1 : Hid (n1.length = 2) := by have := congrArg List.length hm1; exact (by simpa using this : n1.length = 2)
  have HI1 : Hid (InN3 _ _ _) := (OwnN.in3 ho1).step ((Below.refl _ _).alloc (Nat.le_refl _) _ : Below w1.heap.size w1 (w1.alloc (.cells #[.slice p1 n1.length c1, .slice t1 0 x1, .slice q1 0 y1, .int .i64 0, .slice (some ⟨g1, 0, none⟩) 4 z1, .slice r1 0 s1] 29)))
  have HK1 : Hid (InZ _ _ _) := (OwnZ.inZ hoz1).step ((Below.refl _ _).alloc (Nat.le_refl _) _ : Below w1.heap.size w1 (w1.alloc (.cells #[.slice p1 n1.length c1, .slice t1 0 x1, .slice q1 0 y1, .int .i64 0, .slice (some ⟨g1, 0, none⟩) 4 z1, .slice r1 0 s1] 29)))
  have HM1 : Hid (n1.map NC.n = [wA, wB]) := hm1
  have HZ1 : Hid (∀ x ∈ l1, ZP.zero x) := hz1
  clear hb1 ho1 hoz1 hm1 hz1 hne1
  go_wp2_with fail
  generalize (w1.alloc (.cells #[.slice p1 n1.length c1, .slice t1 0 x1, .slice q1 0 y1, .int .i64 0, .slice (some ⟨g1, 0, none⟩) 4 z1, .slice r1 0 s1] 29)) = W1 at X1 HB1 HI1 HK1 ⊢
  obtain ⟨b1, hb1e⟩ : ∃ b, b = w1.heap.size := ⟨_, rfl⟩
  rw [← hb1e] at X1 ⊢
  clear hb1e
  refine (implNewWorld_any W1).mono ?_
  rintro e w2 ⟨⟨p2, c2, t2, x2, q2, y2, n2, g2, z2, r2, s2, l2, rfl, hm2, ho2, hl2, hz2, hoz2, hne2⟩, hb2⟩
  have hA2 : Below w2.heap.size w2 (w2.alloc (.cells #[.slice p2 n2.length c2, .slice t2 0 x2, .slice q2 0 y2, .int .i64 0, .slice (some ⟨g2, 0, none⟩) 4 z2, .slice r2 0 s2] 29)) := (Below.refl _ _).alloc (Nat.le_refl _) _
  have hb2' : Below W1.heap.size W1 (w2.alloc (.cells #[.slice p2 n2.length c2, .slice t2 0 x2, .slice q2 0 y2, .int .i64 0, .slice (some ⟨g2, 0, none⟩) 4 z2, .slice r2 0 s2] 29)) := hb2.trans (hA2.mono hb2.size)
  have X2 := X1.step hb2'
  have Y2 := S6.new w2 (.slice p2 n2.length c2) (.slice t2 0 x2) (.slice q2 0 y2) (.int .i64 0) (.slice (some ⟨g2, 0, none⟩) 4 z2) (.slice r2 0 s2)
  have HLN2 : Hid (n2.length = 2) := by have := congrArg List.length hm2; exact (by simpa using this : n2.length = 2)
  have HO2 : Hid (OwnN _ _ _ _) := owns_below ho2 hA2
  have HOZ2 : Hid (OwnZ _ _ _ _) := owns_below hoz2 hA2
  have HM2 : Hid (n2.map NC.n = [wA, wB]) := hm2
  have HZ2 : Hid (∀ x ∈ l2, ZP.zero x) := hz2
  have HNE : Hid _ := hne2
  have HL2 : Hid (∀ g, (Value.slice p2 n2.length c2).ownBlock = some g → W1.heap.size ≤ g ∧ g < w2.heap.size) := fun g h => World.ownsRow.lt ho2 g h
  have hg2 : W1.heap.size ≤ g2 ∧ g2 < w2.heap.size := World.ownsRow.lt hoz2 g2 rfl
  have hbl : b1 < W1.heap.size := X1.lt
  have hW12 : W1.heap.size ≤ w2.heap.size := hb2.size
  have HC2 : Hid (Below W1.heap.size W1 _) := hb2'
  have X2' := X1.step hb2
  obtain ⟨xl, xc0, xc1, xc2, xc3, xc4, xc5, xf0, xf1, xf2, xf3, xf4, xf5⟩ := X2'.all
  clear X2'
  clear hb2 hA2 hb2' ho2 hoz2 hm2 hz2 hne2 X1
  go_wp2_with fail
  generalize (w2.alloc (.cells #[.slice p2 n2.length c2, .slice t2 0 x2, .slice q2 0 y2, .int .i64 0, .slice (some ⟨g2, 0, none⟩) 4 z2, .slice r2 0 s2] 29)) = W2 at X2 Y2 HO2 HOZ2 HC2 ⊢
  obtain ⟨b2, hb2e⟩ : ∃ b, b = w2.heap.size := ⟨_, rfl⟩
  rw [← hb2e] at Y2 HL2 hg2 hW12 ⊢
  clear hb2e
  clear xl xc0 xc1 xc2 xc3 xc4 xc5 xf0 xf1 xf2 xf3 xf4 xf5
  refine (eqWorld_new W2 (OwnN.in3 HO2.out) (HI1.out.step HC2.out) (by rw [HM1.out, HM2.out]) (by have := HLN2.out; omega) (OwnZ.inZ HOZ2.out) (HK1.out.step HC2.out) hl2 hl1 HZ2.out HZ1.out).mono ?_
  rintro e w3 ⟨rfl, hb⟩
  have X3 := X2.step hb
  have Y3 := Y2.step hb
  have HC3 : Hid (Below W1.heap.size W1 w3) := HC2.out.trans (hb.mono HC2.out.size)
  have HO3 : Hid (OwnN _ _ _ _) := owns_below HO2.out hb
  have HOZ3 : Hid (OwnZ _ _ _ _) := owns_below HOZ2.out hb
  obtain ⟨Q, hQ0⟩ : ∃ Q : Nat, Q = 1 + n2.length + 4 * l2.length := ⟨_, rfl⟩
  have HQ : Hid (Q = 1 + n2.length + 4 * l2.length) := hQ0
  have hQn : ¬ ((Q : Int) < 0) := by omega
  clear hQ0
  have hz3 : W1.heap.size ≤ w3.heap.size := HC3.out.size
  have HMK : Hid (Calls _ _ _ _ _) := markWorld_new (p1 := p2) (t1 := t2) (q1 := q2) (r1 := r2) (c1 := c2) (x1 := x2) (y1 := y2) (s1 := s2) (g1 := g2) (z1 := z2) W1.heap.size Q w3 HO3.out HOZ3.out hz3 (by have := HLN2.out; omega) hl2 HNE.out HQ.out
  skip
  clear X2 Y2 hb HO2 HOZ2 HC2
  obtain ⟨xl, xc0, xc1, xc2, xc3, xc4, xc5, xf0, xf1, xf2, xf3, xf4, xf5⟩ := X3.all
  obtain ⟨yl, yc0, yc1, yc2, yc3, yc4, yc5, yf0, yf1, yf2, yf3, yf4, yf5⟩ := Y3.all
  go_wp2_with fail
  refine HMK.out.mono ?_
  rintro e w4 ⟨rfl, O4, Z4, wm, hg, hg'⟩
  have hX : ∀ b, b < W1.heap.size ∨ b = b2 → some b ≠ (Value.slice p2 n2.length c2).ownBlock ∧ some b ≠ some g2 := by
    intro b hb
    refine ⟨fun e => ?_, fun e => ?_⟩
    · have := HL2.out _ e.symm; omega
    · injection e with e; omega
  have X4 := (X3.out hg (hX b1 (.inl hbl)).1).out hg' (hX b1 (.inl hbl)).2
  have Y4 := (Y3.out hg (hX b2 (.inr rfl)).1).out hg' (hX b2 (.inr rfl)).2
  have HC4 : Hid (Below W1.heap.size W1 w4) := (HC3.out.grown hg hz3 (fun k hk => (HL2.out k hk).1)).grown hg' (Nat.le_trans hz3 hg.size) (fun k hk => by injection hk with hk; omega)
  have HO4 : Hid (OwnN w4 W1.heap.size (.slice p2 n2.length c2) (markMixC 1 n2 n2.length)) := O4
  have HZ4 : Hid (OwnZ w4 W1.heap.size (.slice (some ⟨g2, 0, none⟩) 4 z2) (markMixZ (1 + n2.length) l2 l2.length)) := Z4
  have HH : Hid (Calls _ _ _ _ _) := heldWorld_new (p1 := p2) (t1 := t2) (q1 := q2) (r1 := r2) (c1 := c2) (x1 := x2) (y1 := y2) (s1 := s2) (g1 := g2) (z1 := z2) Q w4 (OwnN.in3 HO4.out) (OwnZ.inZ HZ4.out) (by have := HLN2.out; omega) hl2 HQ.out
  clear xl xc0 xc1 xc2 xc3 xc4 xc5 xf0 xf1 xf2 xf3 xf4 xf5 yl yc0 yc1 yc2 yc3 yc4 yc5 yf0 yf1 yf2 yf3 yf4 yf5
  clear X3 Y3 hg hg' hX O4 Z4 HMK HO3 HOZ3 HC3 HL2 HNE
  obtain ⟨xl, xc0, xc1, xc2, xc3, xc4, xc5, xf0, xf1, xf2, xf3, xf4, xf5⟩ := X4.all
  obtain ⟨yl, yc0, yc1, yc2, yc3, yc4, yc5, yf0, yf1, yf2, yf3, yf4, yf5⟩ := Y4.all
  go_wp2_with fail
  refine HH.out.mono ?_
  rintro e w5 ⟨rfl, hb⟩
  have X5 := X4.step hb
  have Y5 := Y4.step hb
  have HC5 : Hid (Below W1.heap.size W1 w5) := HC4.out.trans (hb.mono HC4.out.size)
  have HO5 : Hid (OwnN _ _ _ _) := owns_below HO4.out hb
  have HZ5 : Hid (OwnZ _ _ _ _) := owns_below HZ4.out hb
  clear xl xc0 xc1 xc2 xc3 xc4 xc5 xf0 xf1 xf2 xf3 xf4 xf5 yl yc0 yc1 yc2 yc3 yc4 yc5 yf0 yf1 yf2 yf3 yf4 yf5
  clear X4 Y4 hb HO4 HZ4 HC4 HH
  obtain ⟨xl, xc0, xc1, xc2, xc3, xc4, xc5, xf0, xf1, xf2, xf3, xf4, xf5⟩ := X5.all
  obtain ⟨yl, yc0, yc1, yc2, yc3, yc4, yc5, yf0, yf1, yf2, yf3, yf4, yf5⟩ := Y5.all
  go_wp2_with fail
  refine (implNewWorld_any w5).mono ?_
  rintro e w6 ⟨⟨p3, c3, t3, x3, q3, y3, n3, g3, z3, r3, s3, l3, rfl, hm3, ho3, hl3, hzl3, hoz3, hne3⟩, hb3⟩
  have hA3 : Below w6.heap.size w6 (w6.alloc (.cells #[.slice p3 n3.length c3, .slice t3 0 x3, .slice q3 0 y3, .int .i64 0, .slice (some ⟨g3, 0, none⟩) 4 z3, .slice r3 0 s3] 29)) := (Below.refl _ _).alloc (Nat.le_refl _) _
  have hb3' : Below w5.heap.size w5 (w6.alloc (.cells #[.slice p3 n3.length c3, .slice t3 0 x3, .slice q3 0 y3, .int .i64 0, .slice (some ⟨g3, 0, none⟩) 4 z3, .slice r3 0 s3] 29)) := hb3.trans (hA3.mono hb3.size)
  have X6' := X5.step hb3
  have X6 := X5.step hb3'
  have Y6 := Y5.step hb3'
  have V6 := S6.new w6 (.slice p3 n3.length c3) (.slice t3 0 x3) (.slice q3 0 y3) (.int .i64 0) (.slice (some ⟨g3, 0, none⟩) 4 z3) (.slice r3 0 s3)
  have HLN3 : Hid (n3.length = 2) := by have := congrArg List.length hm3; exact (by simpa using this : n3.length = 2)
  have HC6 : Hid (Below W1.heap.size W1 _) := HC5.out.trans (hb3'.mono HC5.out.size)
  have HO6 : Hid (OwnN _ _ _ _) := owns_below HO5.out hb3'
  have HZ6 : Hid (OwnZ _ _ _ _) := owns_below HZ5.out hb3'
  have HOn : Hid (OwnN _ _ _ _) := owns_below ho3 hA3
  have HZn : Hid (OwnZ _ _ _ _) := owns_below hoz3 hA3
  have HM3 : Hid (n3.map NC.n = [wA, wB]) := hm3
  have HZ3 : Hid (∀ x ∈ l3, ZP.zero x) := hzl3
  clear xl xc0 xc1 xc2 xc3 xc4 xc5 xf0 xf1 xf2 xf3 xf4 xf5 yl yc0 yc1 yc2 yc3 yc4 yc5 yf0 yf1 yf2 yf3 yf4 yf5
  obtain ⟨xl, xc0, xc1, xc2, xc3, xc4, xc5, xf0, xf1, xf2, xf3, xf4, xf5⟩ := X6'.all
  clear X6'
  clear X5 Y5 hb3 hA3 hb3' ho3 hoz3 hm3 hzl3 hne3 HO5 HZ5 HC5
  go_wp2_with fail
  generalize (w6.alloc (.cells #[.slice p3 n3.length c3, .slice t3 0 x3, .slice q3 0 y3, .int .i64 0, .slice (some ⟨g3, 0, none⟩) 4 z3, .slice r3 0 s3] 29)) = W6 at X6 Y6 V6 HC6 HO6 HZ6 HOn HZn ⊢
  clear xl xc0 xc1 xc2 xc3 xc4 xc5 xf0 xf1 xf2 xf3 xf4 xf5
  refine (eqWorld_new W6 (OwnN.in3 HOn.out) (HI1.out.step HC6.out) (by rw [HM1.out, HM3.out]) (by have := HLN3.out; omega) (OwnZ.inZ HZn.out) (HK1.out.step HC6.out) hl3 hl1 HZ3.out HZ1.out).mono ?_
  rintro e w7 ⟨rfl, hb⟩
  have Y7 := Y6.step hb
  have HC7 : Hid (Below W1.heap.size W1 w7) := HC6.out.trans (hb.mono HC6.out.size)
  have HH : Hid (Calls _ _ _ _ _) := heldWorld_new (p1 := p2) (t1 := t2) (q1 := q2) (r1 := r2) (c1 := c2) (x1 := x2) (y1 := y2) (s1 := s2) (g1 := g2) (z1 := z2) Q w7 (OwnN.in3 (owns_below HO6.out hb)) (OwnZ.inZ (owns_below HZ6.out hb)) (by have := HLN2.out; omega) hl2 HQ.out
  skip
  clear X6 Y6 V6 hb HO6 HZ6 HOn HZn HC6
  obtain ⟨yl, yc0, yc1, yc2, yc3, yc4, yc5, yf0, yf1, yf2, yf3, yf4, yf5⟩ := Y7.all
  go_wp2_with fail
  refine HH.out.mono ?_
  rintro e w8 ⟨rfl, hb⟩
  have hBf : Below w.heap.size w w8 := HB1.out.trans ((HC7.out.trans (hb.mono HC7.out.size)).mono HB1.out.size)
  clear hb HH Y7
  go_wp2_with fail
  go_ret
  exact ⟨rfl, hBf⟩

end Go.Proofs.YtlefpbgnkebmdaaGreat.NewWorldf
