/- The law's own walk of NewStore. -/
import Derived.Test.YtbplmgmajmomcaaNsI
import Derived.Test.YtbplmgmajmomcaaNsT
namespace Go.Proofs.Ytbplmgmajmomcaa.NewStoref
open Go.RowKit Tr Co Ns
set_option linter.unusedVariables false

theorem own_ne {w : World} {base n c b : Nat} {p : Option Addr} {l : List NC} (h : OwnN w base (.slice p n c) l) (hb : b < base) : (Value.slice p n c).ownBlock = none ∨ (Value.slice p n c).ownBlock ≠ some b := by
  cases hv : (Value.slice p n c).ownBlock with
  | none => exact .inl rfl
  | some g => exact .inr (fun e => by injection e with e; have := (World.ownsRow.lt h g hv).1; omega)
set_option maxRecDepth 8000 in
set_option maxHeartbeats 4000000 in
theorem walk (a : Option Addr) (cap : Nat) (l : List ByteArray) (hl : l.length ≤ maxLen) (hm : ∀ v ∈ l, v.size ≤ maxLen) (w : World) (hin : InS w a l) :
    Calls Try.prog 3 #[.slice a l.length cap] w fun e w' => e = .returned (.bool true) ∧ Below w.heap.size w w' := by
  have HZ : Hid (Calls _ _ _ _ _) := szStringS_any a cap l w hin hl hm
  go_enter Try.func3, Try.ntmps3
  go_wp2_with fail
  refine HZ.out.mono ?_
  rintro e w1 ⟨⟨r, rfl, hr⟩, hb1⟩
  clear HZ
  rcases hr with hneg | ⟨hr0, hr2, hr3⟩
  · go_wp2_with fail
    go_ret
    exact ⟨rfl, hb1⟩
  have hnn : ¬ r < 0 := by omega
  have HTO : Hid (∀ W : World, Below w.heap.size w W → Calls _ _ _ W _) := fun W hW => toStringS_own a cap l W (hin.step hW) hr2
  have HEQ : Hid (∀ (g1 g2 : Nat) (W : World), ReadS W g1 0 l → ReadS W g2 0 l → Calls _ _ _ W _) := fun g1 g2 W x y => eqStringS_same g1 l.length g2 l.length l W x y hr2
  have HS0 := fun (g : Nat) (W : World) (hW : ReadS W g 0 l) => specNewStore_any g l.length l W hW hr2 hr3
  have HI0 := fun (g : Nat) (W : World) (hW : ReadS W g 0 l) => implNewStore_any g l.length l W hW hr2 hr3
  have hE : (nsL l).length ≤ 3 := by
    unfold nsL
    split
    · rename_i h
      unfold nsC at h
      split at h
      · cases h
      split at h
      · cases h
      · omega
    · exact Nat.zero_le _
  obtain ⟨E, hEe⟩ : ∃ E, E = nsL l := ⟨_, rfl⟩
  obtain ⟨C, hCe⟩ : ∃ C, C = nsC l := ⟨_, rfl⟩
  unfold NsR at HS0 HI0
  rw [← hEe, ← hCe] at HS0 HI0
  rw [← hEe] at hE
  have HS : Hid (∀ (g : Nat) (W : World), ReadS W g 0 l → Calls Try.prog 5 #[.slice (some ⟨g, 0, none⟩) l.length l.length] W fun e w' => (∃ p c t x q y ns, e = .returned (.tuple #[.agg #[.slice p ns.length c, .slice t 0 x, .slice q 0 y, .int .i64 0], .int .i64 C]) ∧ ns.map NC.n = E ∧ OwnN w' W.heap.size (.slice p ns.length c) ns) ∧ Below W.heap.size W w') := HS0
  have HI : Hid (∀ (g : Nat) (W : World), ReadS W g 0 l → Calls Try.prog 7 #[.slice (some ⟨g, 0, none⟩) l.length l.length] W fun e w' => (∃ p c t x q y ns, e = .returned (.tuple #[.agg #[.slice p ns.length c, .slice t 0 x, .slice q 0 y, .int .i64 0], .int .i64 C]) ∧ ns.map NC.n = E ∧ OwnN w' W.heap.size (.slice p ns.length c) ns) ∧ Below W.heap.size W w') := HI0
  have HB1 : Hid (Below w.heap.size w w1) := hb1
  have z1 := hb1.size
  clear HS0 HI0 hEe hCe hin hr3 hm hb1
  go_wp2_with fail
  refine (HTO.out _ HB1.out).mono ?_
  rintro e w2 ⟨⟨g2, rfl, _, O2, _⟩, hb⟩
  have z2 := hb.size
  have HB2 : Hid (Below w.heap.size w w2) := HB1.out.trans (hb.mono z1)
  have HO2 : Hid (ReadS _ _ _ _) := O2
  clear hb O2 HB1
  go_wp2_with fail
  refine (HS.out g2 _ HO2.out).mono ?_
  rintro e w3 ⟨⟨p1, c1, t1, x1, q1, y1, n1, rfl, hn1, P1⟩, hb⟩
  have z3 := hb.size
  have hb3 : Below w.heap.size w w3 := HB2.out.trans (hb.mono (by omega))
  have X1 := S4.new w3 (.slice p1 n1.length c1) (.slice t1 0 x1) (.slice q1 0 y1) (.int .i64 0)
  have hl1 : ∀ g, (Value.slice p1 n1.length c1).ownBlock = some g → g < w3.heap.size := fun g h => (World.ownsRow.lt P1 g h).2
  have HN1 : Hid (n1.map NC.n = E) := hn1
  have hn1l : n1.length ≤ 3 := by have := congrArg List.length hn1; simp at this; omega
  have HL1 : Hid (∀ g, (Value.slice p1 n1.length c1).ownBlock = some g → g < w3.heap.size) := hl1
  have hB3 : Below w.heap.size w (w3.alloc (.cells #[.slice p1 n1.length c1, .slice t1 0 x1, .slice q1 0 y1, .int .i64 0] 28)) := hb3.alloc (by omega) _
  have P1' : OwnN (w3.alloc (.cells #[.slice p1 n1.length c1, .slice t1 0 x1, .slice q1 0 y1, .int .i64 0] 28)) w2.heap.size (.slice p1 n1.length c1) n1 := World.ownsRow.alloc P1 _
  have hsz3 : (w3.alloc (.cells #[.slice p1 n1.length c1, .slice t1 0 x1, .slice q1 0 y1, .int .i64 0] 28)).heap.size = w3.heap.size + 1 := by simp
  obtain ⟨b1, hb1e⟩ : ∃ b1, b1 = w3.heap.size := ⟨_, rfl⟩
  clear hb hb3 P1 hn1 hl1 HO2 HB2
  go_wp2_with fail
  generalize w3.alloc (.cells #[.slice p1 n1.length c1, .slice t1 0 x1, .slice q1 0 y1, .int .i64 0] 28) = W3 at X1 hB3 P1' hsz3 ⊢
  rw [← hb1e] at X1 hsz3 HL1 z3 ⊢
  have HB3 : Hid (Below w.heap.size w W3) := hB3
  have HP1 : Hid (OwnN W3 w2.heap.size (.slice p1 n1.length c1) n1) := P1'
  have HX1 : Hid (S4 W3 b1 _ _ _ _) := X1
  clear hB3 P1' X1 hb1e
  refine (HTO.out _ HB3.out).mono ?_
  rintro e w4 ⟨⟨g4, rfl, hg4, O4, Q4⟩, hb⟩
  have z4 := hb.size
  have hg4l : g4 < w4.heap.size := O4.lt
  have HB34 : Hid (Below W3.heap.size W3 w4) := hb
  have HO4 : Hid (ReadS _ _ _ _) := O4
  have HQ4 : Hid (OwnS w4 W3.heap.size (.slice (some ⟨g4, 0, none⟩) l.length l.length) l) := Q4
  clear hb O4 Q4
  go_wp2_with fail
  refine (HI.out g4 _ HO4.out).mono ?_
  rintro e w5 ⟨⟨p2, c2, t2, x2, q2, y2, n2, rfl, hn2, P2⟩, hb⟩
  have z5 := hb.size
  have hA : Below w5.heap.size w5 (w5.alloc (.cells #[.slice p2 n2.length c2, .slice t2 0 x2, .slice q2 0 y2, .int .i64 0] 28)) := (Below.refl _ _).alloc (Nat.le_refl _) _
  have X2 := S4.new w5 (.slice p2 n2.length c2) (.slice t2 0 x2) (.slice q2 0 y2) (.int .i64 0)
  have hl2 : ∀ g, (Value.slice p2 n2.length c2).ownBlock = some g → w4.heap.size ≤ g ∧ g < w5.heap.size := World.ownsRow.lt P2
  have HN2 : Hid (n2.map NC.n = E) := hn2
  have hn2l : n2.length ≤ 3 := by have := congrArg List.length hn2; simp at this; omega
  have HL2 : Hid (∀ g, (Value.slice p2 n2.length c2).ownBlock = some g → w4.heap.size ≤ g ∧ g < w5.heap.size) := hl2
  have P2' : OwnN (w5.alloc (.cells #[.slice p2 n2.length c2, .slice t2 0 x2, .slice q2 0 y2, .int .i64 0] 28)) w4.heap.size (.slice p2 n2.length c2) n2 := World.ownsRow.alloc P2 _
  have hB45 : Below w4.heap.size w4 (w5.alloc (.cells #[.slice p2 n2.length c2, .slice t2 0 x2, .slice q2 0 y2, .int .i64 0] 28)) := hb.trans (hA.mono z5)
  have hsz5 : (w5.alloc (.cells #[.slice p2 n2.length c2, .slice t2 0 x2, .slice q2 0 y2, .int .i64 0] 28)).heap.size = w5.heap.size + 1 := by simp
  obtain ⟨b2, hb2e⟩ : ∃ b2, b2 = w5.heap.size := ⟨_, rfl⟩
  have X1w := HX1.out.step HB34.out
  have k1 := (X1w.step hb).all
  obtain ⟨kl, k0, k1, k2, k3, _, _, _, _⟩ := k1
  clear hb hA P2 hn2 hl2
  go_wp2_with fail
  generalize w5.alloc (.cells #[.slice p2 n2.length c2, .slice t2 0 x2, .slice q2 0 y2, .int .i64 0] 28) = W5 at X2 P2' hB45 hsz5 ⊢
  rw [← hb2e] at X2 hsz5 HL2 z5 ⊢
  have HB45 : Hid (Below w4.heap.size w4 W5) := hB45
  have HP2 : Hid (OwnN W5 w4.heap.size (.slice p2 n2.length c2) n2) := P2'
  have HX2 : Hid (S4 W5 b2 _ _ _ _) := X2
  have HX1' : Hid (S4 W5 b1 _ _ _ _) := X1w.step hB45
  have HP1' : Hid (OwnN W5 w2.heap.size (.slice p1 n1.length c1) n1) := owns_below (owns_below HP1.out HB34.out) hB45
  clear hB45 P2' X2 hb2e X1w kl k0 k1 k2 k3 HX1 HP1
  have HQ5 : Hid (Calls _ _ _ _ _) := eqStore_new p2 p1 t2 t1 q2 q1 c2 c1 x2 x1 y2 y1 n2 n1 W5 HP2.out.in3 HP1'.out.in3 (by rw [HN2.out, HN1.out]) (by omega)
  refine HQ5.out.mono ?_
  rintro e w6 ⟨rfl, hb⟩
  have z6 := hb.size
  have HB56 : Hid (Below W5.heap.size W5 w6) := hb
  clear hb HQ5
  go_wp2_with fail
  refine (HTO.out _ (HB3.out.trans ((HB34.out.trans ((HB45.out.trans (HB56.out.mono (by omega))).mono z4)).mono (by omega)))).mono ?_
  rintro e w7 ⟨⟨g7, rfl, _, O7, _⟩, hb⟩
  have z7 := hb.size
  have HB57 : Hid (Below W5.heap.size W5 w7) := HB56.out.trans (hb.mono z6)
  have HB47 : Hid (Below w4.heap.size w4 w7) := HB45.out.trans (HB57.out.mono (by omega))
  have HO7 : Hid (ReadS _ _ _ _) := O7
  clear hb O7 HB56
  go_wp2_with fail
  refine (HEQ.out g4 g7 _ (HO4.out.next HB47.out) HO7.out).mono ?_
  rintro e w8 ⟨rfl, hb⟩
  have z8 := hb.size
  have HB58 : Hid (Below W5.heap.size W5 w8) := HB57.out.trans (hb.mono (by omega))
  have HB48 : Hid (Below w4.heap.size w4 w8) := HB47.out.trans (hb.mono (by omega))
  have HM8 : Hid (Calls _ _ _ _ _) := markStringS_any W3.heap.size _ l 1 w8 (owns_below HQ4.out HB48.out) (by omega) (by omega) hr2
  clear hb HB57 HB47 HO7 HEQ
  go_wp2_with fail
  refine HM8.out.mono ?_
  rintro e w9 ⟨rfl, _, hg9⟩
  have hk9 : ¬ (((1 + l.length : Nat) : Int) < 0) := by omega
  have z9 := hg9.size
  have X1 := (HX1'.out.step HB58.out).out hg9 (fun e => by injection e with e; dsimp only at e; omega)
  have X2 := (HX2.out.step HB58.out).out hg9 (fun e => by injection e with e; dsimp only at e; omega)
  have P1 : OwnN w9 w2.heap.size (.slice p1 n1.length c1) n1 := World.ownsRow.kept (owns_below HP1'.out HB58.out) hg9 (by
    cases h : (Value.slice p1 n1.length c1).ownBlock with
    | none => exact .inl rfl
    | some g =>
      refine .inr (fun h2 => ?_)
      have a1 := HL1.out g h
      injection h2 with h2
      dsimp only at h2
      omega)
  have P2 : OwnN w9 w4.heap.size (.slice p2 n2.length c2) n2 := World.ownsRow.kept (owns_below HP2.out HB58.out) hg9 (own_ne HP2.out hg4l)
  have HB9 : Hid (Below w.heap.size w w9) := ((HB3.out.trans ((HB34.out.trans (HB48.out.mono z4)).mono (by omega))).grown hg9 (by omega) (fun k hk => by injection hk with hk; dsimp only at hk; omega))
  have HQ9 : Hid (Calls _ _ _ _ _) := eqStore_new p2 p1 t2 t1 q2 q1 c2 c1 x2 x1 y2 y1 n2 n1 w9 P2.in3 P1.in3 (by rw [HN2.out, HN1.out]) (by omega)
  obtain ⟨kl, k0, k1, k2, k3, _, _, _, _⟩ := X1.all
  obtain ⟨ml, m0, m1, m2, m3, _, _, _, _⟩ := X2.all
  have HP1 : Hid (OwnN w9 w2.heap.size (.slice p1 n1.length c1) n1) := P1
  have HP2' : Hid (OwnN w9 w4.heap.size (.slice p2 n2.length c2) n2) := P2
  have HY1 : Hid (S4 w9 b1 _ _ _ _) := X1
  have HY2 : Hid (S4 w9 b2 _ _ _ _) := X2
  clear hg9 X1 X2 P1 P2 HM8 HB58 HB48 HO4 HP2 HP1' HX1' HX2 HQ4 HB3 HB34 HB45
  go_wp2_with fail
  refine HQ9.out.mono ?_
  rintro e w10 ⟨rfl, hb⟩
  have z10 := hb.size
  have HB10 : Hid (Below w.heap.size w w10) := HB9.out.trans (hb.mono (by omega))
  have Y2 := HY2.out.step hb
  have HY1' : Hid (S4 w10 b1 _ _ _ _) := HY1.out.step hb
  have HY2' : Hid (S4 w10 b2 _ _ _ _) := Y2
  have HP1' : Hid (OwnN w10 w2.heap.size (.slice p1 n1.length c1) n1) := owns_below HP1.out hb
  have HK : Hid (Calls _ _ _ _ _) := markStore_new w4.heap.size p2 t2 q2 c2 x2 y2 n2 w10 (owns_below HP2'.out hb) (by omega) (by omega)
  clear kl k0 k1 k2 k3 ml m0 m1 m2 m3
  obtain ⟨ml, m0, m1, m2, m3, _, _, _, _⟩ := Y2.all
  clear hb HQ9 HB9 HY1 HY2 HP1 HP2' Y2
  go_wp2_with fail
  refine HK.out.mono ?_
  rintro e w11 ⟨rfl, K5, hg⟩
  have z11 := hg.size
  have HHm : Hid (∀ g, (Value.slice p2 n2.length c2).ownBlock = some g → w4.heap.size ≤ g ∧ g < b2) := HL2.out
  have Y1 := HY1'.out.out hg (fun e => by have := (HHm.out _ e.symm).1; omega)
  have Y2 := HY2'.out.out hg (fun e => by have := (HHm.out _ e.symm).2; omega)
  have K3 : OwnN w11 w2.heap.size (.slice p1 n1.length c1) n1 := World.ownsRow.kept HP1'.out hg (by
    cases h : (Value.slice p1 n1.length c1).ownBlock with
    | none => exact .inl rfl
    | some g =>
      refine .inr (fun h2 => ?_)
      have a1 := HL1.out g h
      have a2 := (HHm.out g h2.symm).1
      omega)
  have HB11 : Hid (Below w.heap.size w w11) := HB10.out.grown hg (by omega) (fun k hk => by have := (HHm.out k hk).1; omega)
  have HH : Hid (Calls _ _ _ _ _) := heldStore_new p2 t2 q2 c2 x2 y2 n2 w11 (K5.in3) (by omega)
  have HK5 : Hid (OwnN w11 w4.heap.size (.slice p2 n2.length c2) (markMixC 1 n2 n2.length)) := K5
  have HK3 : Hid (OwnN w11 w2.heap.size (.slice p1 n1.length c1) n1) := K3
  have HY1 : Hid (S4 w11 b1 _ _ _ _) := Y1
  have HY2 : Hid (S4 w11 b2 _ _ _ _) := Y2
  clear ml m0 m1 m2 m3
  obtain ⟨ml, m0, m1, m2, m3, _, _, _, _⟩ := Y2.all
  clear hg K3 K5 HK HB10 Y1 Y2 HY1' HY2' HP1' HHm
  go_wp2_with fail
  refine HH.out.mono ?_
  rintro e w12 ⟨rfl, hb⟩
  have hk12 : ¬ (((1 + n2.length : Nat) : Int) < 0) := by omega
  have z12 := hb.size
  have HB12 : Hid (Below w.heap.size w w12) := HB11.out.trans (hb.mono (by omega))
  have HR5 : Hid (OwnN w12 w4.heap.size (.slice p2 n2.length c2) (markMixC 1 n2 n2.length)) := owns_below HK5.out hb
  have HR3 : Hid (OwnN w12 w2.heap.size (.slice p1 n1.length c1) n1) := owns_below HK3.out hb
  have HZ1 : Hid (S4 w12 b1 _ _ _ _) := HY1.out.step hb
  have HZ2 : Hid (S4 w12 b2 _ _ _ _) := HY2.out.step hb
  clear hb HH HK5 HK3 HB11 HY1 HY2 ml m0 m1 m2 m3
  go_wp2_with fail
  refine (HTO.out _ HB12.out).mono ?_
  rintro e w13 ⟨⟨g13, rfl, _, O13, _⟩, hb⟩
  have z13 := hb.size
  have HB13 : Hid (Below w12.heap.size w12 w13) := hb
  have HO13 : Hid (ReadS _ _ _ _) := O13
  clear hb O13
  go_wp2_with fail
  refine (HI.out g13 _ HO13.out).mono ?_
  rintro e w14 ⟨⟨p3, c3, t3, x3, q3, y3, n3, rfl, hn3, P3⟩, hb⟩
  have z14 := hb.size
  have hA : Below w14.heap.size w14 (w14.alloc (.cells #[.slice p3 n3.length c3, .slice t3 0 x3, .slice q3 0 y3, .int .i64 0] 28)) := (Below.refl _ _).alloc (Nat.le_refl _) _
  have HB14 : Hid (Below w12.heap.size w12 (w14.alloc (.cells #[.slice p3 n3.length c3, .slice t3 0 x3, .slice q3 0 y3, .int .i64 0] 28))) := (HB13.out.trans (hb.mono z13)).trans (hA.mono (by omega))
  have hn3l : n3.length ≤ 3 := by have := congrArg List.length hn3; simp at this; omega
  have HN3 : Hid (n3.map NC.n = E) := hn3
  have P3' : OwnN (w14.alloc (.cells #[.slice p3 n3.length c3, .slice t3 0 x3, .slice q3 0 y3, .int .i64 0] 28)) w13.heap.size (.slice p3 n3.length c3) n3 := World.ownsRow.alloc P3 _
  have Z1 := HZ1.out.step HB14.out
  have Z2 := HZ2.out.step HB14.out
  have HQ : Hid (Calls _ _ _ _ _) := eqStore_new p3 p1 t3 t1 q3 q1 c3 c1 x3 x1 y3 y1 n3 n1 _ P3'.in3 (OwnN.in3 (owns_below HR3.out HB14.out)) (by rw [HN3.out, HN1.out]) (by omega)
  have hsz14 : (w14.alloc (.cells #[.slice p3 n3.length c3, .slice t3 0 x3, .slice q3 0 y3, .int .i64 0] 28)).heap.size = w14.heap.size + 1 := by simp
  have V1 := HZ1.out.step (HB13.out.trans (hb.mono z13))
  obtain ⟨kl, k0, k1, k2, k3, _, _, _, _⟩ := V1.all
  have V2 := HZ2.out.step (HB13.out.trans (hb.mono z13))
  obtain ⟨ml, m0, m1, m2, m3, _, _, _, _⟩ := V2.all
  clear hb hA hn3 P3 P3' HB13 HO13 V1 V2 HZ1 HZ2
  go_wp2_with fail
  refine HQ.out.mono ?_
  rintro e w15 ⟨rfl, hb⟩
  have z15 := hb.size
  have hB15 : Below w12.heap.size w12 w15 := HB14.out.trans (hb.mono (by omega))
  have HB15 : Hid (Below w.heap.size w w15) := HB12.out.trans (hB15.mono (by omega))
  have HQ2 : Hid (Calls _ _ _ _ _) := heldStore_new p2 t2 q2 c2 x2 y2 n2 w15 (OwnN.in3 (owns_below HR5.out hB15)) (by omega)
  clear kl k0 k1 k2 k3 ml m0 m1 m2 m3
  obtain ⟨ml, m0, m1, m2, m3, _, _, _, _⟩ := (Z2.step hb).all
  clear hb hB15 HQ HB14 HR3 HR5 Z1 Z2
  go_wp2_with fail
  refine HQ2.out.mono ?_
  rintro e w16 ⟨rfl, hb⟩
  have HB16 : Hid (Below w.heap.size w w16) := HB15.out.trans (hb.mono (by omega))
  clear hb HQ2 HB15 HB12
  go_wp2_with fail
  go_ret
  exact ⟨rfl, HB16.out⟩

end Go.Proofs.Ytbplmgmajmomcaa.NewStoref
