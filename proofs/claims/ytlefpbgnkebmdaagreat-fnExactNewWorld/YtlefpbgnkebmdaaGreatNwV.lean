/- A new world: what the specification answers, in all. -/
import Derived.Test.YtlefpbgnkebmdaaGreatNwU
namespace Go.Proofs.YtlefpbgnkebmdaaGreat.Nw
open Go.RowKit Tr Co Ns
set_option linter.unusedVariables false

theorem s6_put0 {U : World} {b : Nat} {a0 a1 a2 a3 a4 a5 : Value} (h : S6 U b a0 a1 a2 a3 a4 a5) (v : Value) : S6 (U.setCell ⟨b, 0, none⟩ v) b v a1 a2 a3 a4 a5 := ⟨by simpa [World.setCell] using h.lt, by simp [World.setCell, Array.getElem?_modify, h.cb]⟩
theorem s6_put1 {U : World} {b : Nat} {a0 a1 a2 a3 a4 a5 : Value} (h : S6 U b a0 a1 a2 a3 a4 a5) (v : Value) : S6 (U.setCell ⟨b, 1, none⟩ v) b a0 v a2 a3 a4 a5 := ⟨by simpa [World.setCell] using h.lt, by simp [World.setCell, Array.getElem?_modify, h.cb]⟩
theorem s6_put2 {U : World} {b : Nat} {a0 a1 a2 a3 a4 a5 : Value} (h : S6 U b a0 a1 a2 a3 a4 a5) (v : Value) : S6 (U.setCell ⟨b, 2, none⟩ v) b a0 a1 v a3 a4 a5 := ⟨by simpa [World.setCell] using h.lt, by simp [World.setCell, Array.getElem?_modify, h.cb]⟩
theorem s6_put3 {U : World} {b : Nat} {a0 a1 a2 a3 a4 a5 : Value} (h : S6 U b a0 a1 a2 a3 a4 a5) (v : Value) : S6 (U.setCell ⟨b, 3, none⟩ v) b a0 a1 a2 v a4 a5 := ⟨by simpa [World.setCell] using h.lt, by simp [World.setCell, Array.getElem?_modify, h.cb]⟩
theorem s6_put4 {U : World} {b : Nat} {a0 a1 a2 a3 a4 a5 : Value} (h : S6 U b a0 a1 a2 a3 a4 a5) (v : Value) : S6 (U.setCell ⟨b, 4, none⟩ v) b a0 a1 a2 a3 v a5 := ⟨by simpa [World.setCell] using h.lt, by simp [World.setCell, Array.getElem?_modify, h.cb]⟩
theorem s6_off {U : World} {b d k : Nat} {a0 a1 a2 a3 a4 a5 : Value} (h : S6 U b a0 a1 a2 a3 a4 a5) (v : Value) (hne : b ≠ d) : S6 (U.setCell ⟨d, k, none⟩ v) b a0 a1 a2 a3 a4 a5 := ⟨by simpa [World.setCell] using h.lt, by simp [World.setCell, Array.getElem?_modify, h.cb, Ne.symm hne]⟩
theorem sz_set (W : World) (a : Addr) (x : Value) : (W.setCell a x).heap.size = W.heap.size := by simp [World.setCell]
set_option maxRecDepth 4000 in
set_option maxHeartbeats 2000000 in
theorem l13Own_new (p t q gp pp : Option Addr) (c x y gc pc : Nat) (ns : List NC) (w : World) (hin : InN3 w p ns) (hl : ns.length ≤ 3) (hiz : InZ w gp (List.replicate 4 zp0)) :
    Calls Tryz.prog 9 #[.agg #[.slice p ns.length c, .slice t 0 x, .slice q 0 y, .int .i64 0, .slice gp 4 gc, .slice pp 0 pc]] w (NwA (ns.map NC.n) w) := by
  have X0 : S6 ((w.alloc (.cells #[.slice p ns.length c, .slice t 0 x, .slice q 0 y, .int .i64 0, .slice gp 4 gc, .slice pp 0 pc] 29)).alloc (.cells #[.slice none 0 0, .slice none 0 0, .slice none 0 0, .int .i64 0, .slice none 0 0, .slice none 0 0] 29)) w.heap.size _ _ _ _ _ _ := (S6.new w (.slice p ns.length c) (.slice t 0 x) (.slice q 0 y) (.int .i64 0) (.slice gp 4 gc) (.slice pp 0 pc)).al _
  have R0 : S6 ((w.alloc (.cells #[.slice p ns.length c, .slice t 0 x, .slice q 0 y, .int .i64 0, .slice gp 4 gc, .slice pp 0 pc] 29)).alloc (.cells #[.slice none 0 0, .slice none 0 0, .slice none 0 0, .int .i64 0, .slice none 0 0, .slice none 0 0] 29)) (w.heap.size + 1) (.slice none 0 0) (.slice none 0 0) (.slice none 0 0) (.int .i64 0) (.slice none 0 0) (.slice none 0 0) := by
    have h := S6.new (w.alloc (.cells #[.slice p ns.length c, .slice t 0 x, .slice q 0 y, .int .i64 0, .slice gp 4 gc, .slice pp 0 pc] 29)) (.slice none 0 0) (.slice none 0 0) (.slice none 0 0) (.int .i64 0) (.slice none 0 0) (.slice none 0 0)
    rw [heap_size_alloc] at h
    exact h
  have B0 : Below w.heap.size w ((w.alloc (.cells #[.slice p ns.length c, .slice t 0 x, .slice q 0 y, .int .i64 0, .slice gp 4 gc, .slice pp 0 pc] 29)).alloc (.cells #[.slice none 0 0, .slice none 0 0, .slice none 0 0, .int .i64 0, .slice none 0 0, .slice none 0 0] 29)) := by (repeat (first | (with_reducible exact Below.refl _ _) | (with_reducible assumption) | (with_reducible apply below_drewN) | (with_reducible apply Below.drew) | ((with_reducible refine Below.setCell ?_ ?_ _); rotate_left; focus (first | (simp; done) | (simp; omega) | omega)) | ((with_reducible refine Below.alloc ?_ ?_ _); rotate_left; focus (first | (simp; done) | (simp; omega) | omega))))
  go_enter Tryz.func9, Tryz.ntmps9
  go_wp2_with fail
  generalize ((w.alloc (.cells #[.slice p ns.length c, .slice t 0 x, .slice q 0 y, .int .i64 0, .slice gp 4 gc, .slice pp 0 pc] 29)).alloc (.cells #[.slice none 0 0, .slice none 0 0, .slice none 0 0, .int .i64 0, .slice none 0 0, .slice none 0 0] 29)) = W0 at X0 R0 B0 ⊢
  have HIZ : Hid (InZ w _ _) := hiz
  have hz0 : w.heap.size + 2 ≤ W0.heap.size := by have := R0.lt; omega
  refine (l11Own_new p t q c x y ns W0 (hin.step B0) hl).mono ?_
  rintro e w1 ⟨⟨p1, c1, t1, x1, q1, y1, n1, rfl, hm1, ho1⟩, hb1⟩
  have X1 := X0.step hb1
  have R1 := R0.step hb1
  have B1 := B0.trans (hb1.mono B0.size)
  have hz1 := hb1.size
  have HM : Hid (n1.map NC.n = ns.map NC.n) := hm1
  obtain ⟨xl, xc0, xc1, xc2, xc3, xc4, xc5, xf0, xf1, xf2, xf3, xf4, xf5⟩ := X1.all
  have X2 := s6_put3 (s6_put2 (s6_put1 (s6_put0 X1 (.slice p1 n1.length c1)) (.slice t1 0 x1)) (.slice q1 0 y1)) (.int .i64 0)
  have R2 := s6_off (d := w.heap.size) (k := 3) (s6_off (d := w.heap.size) (k := 2) (s6_off (d := w.heap.size) (k := 1) (s6_off (d := w.heap.size) (k := 0) R1 (.slice p1 n1.length c1) (by omega)) (.slice t1 0 x1) (by omega)) (.slice q1 0 y1) (by omega)) (.int .i64 0) (by omega)
  have O2 : OwnN ((((w1.setCell ⟨w.heap.size, 0, none⟩ (.slice p1 n1.length c1)).setCell ⟨w.heap.size, 1, none⟩ (.slice t1 0 x1)).setCell ⟨w.heap.size, 2, none⟩ (.slice q1 0 y1)).setCell ⟨w.heap.size, 3, none⟩ (.int .i64 0)) W0.heap.size (.slice p1 n1.length c1) n1 := kept1 (kept1 (kept1 (kept1 ho1 (by omega)) (by omega)) (by omega)) (by omega)
  have B2 : Below w.heap.size w ((((w1.setCell ⟨w.heap.size, 0, none⟩ (.slice p1 n1.length c1)).setCell ⟨w.heap.size, 1, none⟩ (.slice t1 0 x1)).setCell ⟨w.heap.size, 2, none⟩ (.slice q1 0 y1)).setCell ⟨w.heap.size, 3, none⟩ (.int .i64 0)) := by (repeat (first | (with_reducible exact Below.refl _ _) | (with_reducible assumption) | (with_reducible apply below_drewN) | (with_reducible apply Below.drew) | ((with_reducible refine Below.setCell ?_ ?_ _); rotate_left; focus (first | (simp; done) | (simp; omega) | omega)) | ((with_reducible refine Below.alloc ?_ ?_ _); rotate_left; focus (first | (simp; done) | (simp; omega) | omega))))
  have hs2 : ((((w1.setCell ⟨w.heap.size, 0, none⟩ (.slice p1 n1.length c1)).setCell ⟨w.heap.size, 1, none⟩ (.slice t1 0 x1)).setCell ⟨w.heap.size, 2, none⟩ (.slice q1 0 y1)).setCell ⟨w.heap.size, 3, none⟩ (.int .i64 0)).heap.size = w1.heap.size := by simp only [sz_set]
  have hlt1 : ∀ g, (Value.slice p1 n1.length c1).ownBlock = some g → g < w1.heap.size := fun g h => (World.ownsRow.lt ho1 g h).2
  have HLT : Hid _ := hlt1
  clear X0 R0 B0 hb1 X1 R1 B1 ho1 hm1 hin hiz hlt1
  go_wp2_with fail
  generalize ((((w1.setCell ⟨w.heap.size, 0, none⟩ (.slice p1 n1.length c1)).setCell ⟨w.heap.size, 1, none⟩ (.slice t1 0 x1)).setCell ⟨w.heap.size, 2, none⟩ (.slice q1 0 y1)).setCell ⟨w.heap.size, 3, none⟩ (.int .i64 0)) = W2 at X2 R2 O2 B2 hs2 ⊢
  clear xl xc0 xc1 xc2 xc3 xc4 xc5 xf0 xf1 xf2 xf3 xf4 xf5
  refine (l13Pasts_zero gp gc 4 W2 (HIZ.out.step B2) (by omega)).mono ?_
  rintro e w3 ⟨⟨p3, c3, l3, rfl, hl3, hzl, hoz⟩, hb3⟩
  obtain ⟨gz, cz, hsl, hgz, hgl⟩ := Ns.rowAt (n := 4) (xs := flatZ l3) (by have h := hoz; unfold OwnZ at h; rw [hl3] at h; exact h) (by omega)
  injection hsl with e1 e2 e3
  subst e1
  have X3 := X2.step hb3
  have R3 := R2.step hb3
  have B3 := B2.trans (hb3.mono B2.size)
  have O3 := owns_below O2 hb3
  obtain ⟨xl, xc0, xc1, xc2, xc3, xc4, xc5, xf0, xf1, xf2, xf3, xf4, xf5⟩ := X3.all
  have X4 := s6_put4 X3 (.slice (some ⟨gz, 0, none⟩) 4 c3)
  have R4 := s6_off (d := w.heap.size) (k := 4) R3 (.slice (some ⟨gz, 0, none⟩) 4 c3) (by omega)
  have O4 : OwnN (w3.setCell ⟨w.heap.size, 4, none⟩ (.slice (some ⟨gz, 0, none⟩) 4 c3)) W0.heap.size (.slice p1 n1.length c1) n1 := kept1 O3 (by omega)
  have Z4 : OwnZ (w3.setCell ⟨w.heap.size, 4, none⟩ (.slice (some ⟨gz, 0, none⟩) 4 c3)) W2.heap.size (.slice (some ⟨gz, 0, none⟩) 4 c3) l3 := kept1 hoz (by omega)
  have B4 : Below w.heap.size w (w3.setCell ⟨w.heap.size, 4, none⟩ (.slice (some ⟨gz, 0, none⟩) 4 c3)) := B3.setCell (Nat.le_refl _) _
  have hs4 : (w3.setCell ⟨w.heap.size, 4, none⟩ (.slice (some ⟨gz, 0, none⟩) 4 c3)).heap.size = w3.heap.size := sz_set _ _ _
  have HZL : Hid (∀ x ∈ l3, ZP.zero x) := hzl
  have HL3 : Hid (l3.length = 4) := hl3
  have hz3 := hb3.size
  clear X2 R2 O2 B2 hb3 X3 R3 B3 O3 hoz hzl hl3 e2 e3
  go_wp2_with fail
  generalize w3.setCell ⟨w.heap.size, 4, none⟩ (.slice (some ⟨gz, 0, none⟩) 4 c3) = W4 at X4 R4 O4 Z4 B4 hs4 ⊢
  clear xl xc0 xc1 xc2 xc3 xc4 xc5 xf0 xf1 xf2 xf3 xf4 xf5
  refine (l13Pasts_zero pp pc 0 W4 (.inl rfl) (by omega)).mono ?_
  rintro e w5 ⟨⟨p5, c5, l5, rfl, hl5, hzl5, hoz5⟩, hb5⟩
  have X5 := X4.step hb5
  have R5 := R4.step hb5
  have B5 := B4.trans (hb5.mono B4.size)
  have HO5 : Hid (OwnN _ _ _ _) := owns_below O4 hb5
  have HZ5 : Hid (OwnZ _ _ _ _) := owns_below Z4 hb5
  obtain ⟨xl, xc0, xc1, xc2, xc3, xc4, xc5, xf0, xf1, xf2, xf3, xf4, xf5⟩ := X5.all
  obtain ⟨rl, rc0, rc1, rc2, rc3, rc4, rc5, rf0, rf1, rf2, rf3, rf4, rf5⟩ := R5.all
  clear X4 R4 O4 Z4 B4 hb5 X5 R5 hoz5 hzl5 hl5
  go_wp2_with fail
  refine bodyPost_ret (v := .agg #[.slice p1 n1.length c1, .slice t1 0 x1, .slice q1 0 y1, .int .i64 0, .slice (some ⟨gz, 0, none⟩) 4 c3, .slice p5 0 c5]) (by simp [results, Tryz.results9, go_sem, *]) rfl ⟨⟨p1, c1, t1, x1, q1, y1, n1, gz, c3, p5, c5, l3, rfl, HM.out, ?_, HL3.out, HZL.out, ?_, ?_⟩, ?_⟩
  · exact owns_mono (kept6 (kept1 (o := 5) HO5.out (by omega)) (own_not HO5.out (by omega))) (by omega)
  · exact owns_mono (kept6 (kept1 (o := 5) HZ5.out (by omega)) (own_not HZ5.out (by omega))) (by omega)
  · exact fun e => by have := HLT.out _ e; omega
  · (repeat (first | (with_reducible exact Below.refl _ _) | (with_reducible assumption) | (with_reducible apply below_drewN) | (with_reducible apply Below.drew) | ((with_reducible refine Below.setCell ?_ ?_ _); rotate_left; focus (first | (simp; done) | (simp; omega) | omega)) | ((with_reducible refine Below.alloc ?_ ?_ _); rotate_left; focus (first | (simp; done) | (simp; omega) | omega))))
set_option maxRecDepth 4000 in
set_option maxHeartbeats 2000000 in
theorem l13Names_two (w : World) : Calls Tryz.prog 11 #[] w fun e w' => (∃ g, e = .returned (.slice (some ⟨g, 0, none⟩) 2 2) ∧ ReadS w' g 0 [wA, wB]) ∧ Below w.heap.size w w' := by
  have hb : Below w.heap.size w (w.alloc (.cells #[.string wA, .string wB] 9)) := (Below.refl _ _).alloc (Nat.le_refl _) _
  have ho : (w.alloc (.cells #[.string wA, .string wB] 9)).ownsRow w.heap.size 9 1 (.slice (some ⟨w.heap.size, 0, none⟩) 2 2) 2 (strs [wA, wB]) :=
    ⟨rfl, .inr ⟨w.heap.size, 2, _, rfl, Nat.le_refl _, heap_alloc_new w _, Nat.le_refl _, by unfold maxLen; omega, rfl, rfl⟩⟩
  have HR : Hid (ReadS _ _ _ _) := readS_own ho
  have HB : Hid (Below _ _ _) := hb
  clear ho hb
  go_enter Tryz.func11, Tryz.ntmps11
  go_wp2_with fail
  go_ret
  exact ⟨⟨w.heap.size, rfl, HR.out⟩, HB.out⟩
set_option maxRecDepth 4000 in
set_option maxHeartbeats 2000000 in
theorem specNewWorld_any (w : World) : Calls Tryz.prog 4 #[] w (NwA [wA, wB] w) := by
  have R0 := S6.new w (.slice none 0 0) (.slice none 0 0) (.slice none 0 0) (.int .i64 0) (.slice none 0 0) (.slice none 0 0)
  have B0 : Below w.heap.size w (w.alloc (.cells #[.slice none 0 0, .slice none 0 0, .slice none 0 0, .int .i64 0, .slice none 0 0, .slice none 0 0] 29)) := (Below.refl _ _).alloc (Nat.le_refl _) _
  go_enter Tryz.func4, Tryz.ntmps4
  go_wp2_with fail
  generalize w.alloc (.cells #[.slice none 0 0, .slice none 0 0, .slice none 0 0, .int .i64 0, .slice none 0 0, .slice none 0 0] 29) = W0 at R0 B0 ⊢
  refine (l13Names_two _).mono ?_
  rintro e w1 ⟨⟨g, rfl, hr⟩, hb⟩
  have R1 := R0.step hb
  have B1 := B0.trans (hb.mono B0.size)
  have HN : Hid (Calls _ _ _ _ _) := l11New_any g 2 [wA, wB] w1 hr (by decide)
  clear R0 B0 hb hr
  go_wp2_with fail
  refine HN.out.mono ?_
  rintro e w2 ⟨⟨p, c, t, x, q, y, ns, rfl, hm, ho⟩, hb⟩
  have hln : ns.length = 2 := by have := congrArg List.length hm; simpa using this
  have R2 := (R1.step hb).al (.cells #[.int .i64 0, .int .i64 0, .slice none 0 0, .slice none 0 0, .bool false, .bool false, .slice none 0 0, .int .i64 0, .int .i64 0, .slice none 0 0, .slice none 0 0, .bool false, .bool false, .slice none 0 0, .int .i64 0, .int .i64 0, .slice none 0 0, .slice none 0 0, .bool false, .bool false, .slice none 0 0, .int .i64 0, .int .i64 0, .slice none 0 0, .slice none 0 0, .bool false, .bool false, .slice none 0 0] 44)
  have B2 := B1.trans (hb.mono B1.size)
  have B3 : Below w.heap.size w (w2.alloc (.cells #[.int .i64 0, .int .i64 0, .slice none 0 0, .slice none 0 0, .bool false, .bool false, .slice none 0 0, .int .i64 0, .int .i64 0, .slice none 0 0, .slice none 0 0, .bool false, .bool false, .slice none 0 0, .int .i64 0, .int .i64 0, .slice none 0 0, .slice none 0 0, .bool false, .bool false, .slice none 0 0, .int .i64 0, .int .i64 0, .slice none 0 0, .slice none 0 0, .bool false, .bool false, .slice none 0 0] 44)) := B2.alloc B2.size _
  have hin : InN3 (w2.alloc (.cells #[.int .i64 0, .int .i64 0, .slice none 0 0, .slice none 0 0, .bool false, .bool false, .slice none 0 0, .int .i64 0, .int .i64 0, .slice none 0 0, .slice none 0 0, .bool false, .bool false, .slice none 0 0, .int .i64 0, .int .i64 0, .slice none 0 0, .slice none 0 0, .bool false, .bool false, .slice none 0 0, .int .i64 0, .int .i64 0, .slice none 0 0, .slice none 0 0, .bool false, .bool false, .slice none 0 0] 44)) p ns := by
    have h : OwnN w2 w1.heap.size (.slice p ns.length c) ns := by unfold OwnN; rw [hln]; have h := ho; unfold OwnN at h; rw [hln] at h; exact h
    exact (h.in3).step ((Below.refl _ _).alloc (Nat.le_refl _) _)
  have hiz : InZ (w2.alloc (.cells #[.int .i64 0, .int .i64 0, .slice none 0 0, .slice none 0 0, .bool false, .bool false, .slice none 0 0, .int .i64 0, .int .i64 0, .slice none 0 0, .slice none 0 0, .bool false, .bool false, .slice none 0 0, .int .i64 0, .int .i64 0, .slice none 0 0, .slice none 0 0, .bool false, .bool false, .slice none 0 0, .int .i64 0, .int .i64 0, .slice none 0 0, .slice none 0 0, .bool false, .bool false, .slice none 0 0] 44)) (some ⟨w2.heap.size, 0, none⟩) (List.replicate 4 zp0) := (own_zs w2 (M := #[.int .i64 0, .int .i64 0, .slice none 0 0, .slice none 0 0, .bool false, .bool false, .slice none 0 0, .int .i64 0, .int .i64 0, .slice none 0 0, .slice none 0 0, .bool false, .bool false, .slice none 0 0, .int .i64 0, .int .i64 0, .slice none 0 0, .slice none 0 0, .bool false, .bool false, .slice none 0 0, .int .i64 0, .int .i64 0, .slice none 0 0, .slice none 0 0, .bool false, .bool false, .slice none 0 0]) (by rfl) (base := 0) (Nat.zero_le _)).inZ
  have HC := l13Own_new p t q (some ⟨w2.heap.size, 0, none⟩) none c x y 4 0 ns _ hin (by omega) hiz
  rw [hm] at HC
  rw [hln] at HC
  have HC2 : Hid (Calls _ _ _ _ _) := HC
  clear HC hin hiz ho R1 B1 B2 hb HN hm
  go_wp2_with fail
  generalize w2.alloc (.cells #[.int .i64 0, .int .i64 0, .slice none 0 0, .slice none 0 0, .bool false, .bool false, .slice none 0 0, .int .i64 0, .int .i64 0, .slice none 0 0, .slice none 0 0, .bool false, .bool false, .slice none 0 0, .int .i64 0, .int .i64 0, .slice none 0 0, .slice none 0 0, .bool false, .bool false, .slice none 0 0, .int .i64 0, .int .i64 0, .slice none 0 0, .slice none 0 0, .bool false, .bool false, .slice none 0 0] 44) = W3 at R2 B3 HC2 ⊢
  refine HC2.out.mono ?_
  rintro e w4 ⟨⟨p4, c4, t4, x4, q4, y4, n4, gz, cz, pp, cp, l, rfl, hm4, ho4, hl4, hz4, hoz4, hne⟩, hb⟩
  have R4 := R2.step hb
  have B4 := B3.trans (hb.mono B3.size)
  have hlt := R2.lt
  obtain ⟨rl, rc0, rc1, rc2, rc3, rc4, rc5, rf0, rf1, rf2, rf3, rf4, rf5⟩ := R4.all
  have HO : Hid (OwnN _ _ _ _) := ho4
  have HZ : Hid (OwnZ _ _ _ _) := hoz4
  have HM : Hid (n4.map NC.n = [wA, wB]) := hm4
  have HL : Hid (l.length = 4) := hl4
  have HZZ : Hid (∀ x ∈ l, ZP.zero x) := hz4
  have HNE : Hid _ := hne
  have hzs := B3.size
  clear R2 B3 hb R4 ho4 hoz4 hm4 hl4 hz4 hne HC2
  go_wp2_with fail
  refine bodyPost_ret (v := .agg #[.slice p4 n4.length c4, .slice t4 0 x4, .slice q4 0 y4, .int .i64 0, .slice (some ⟨gz, 0, none⟩) 4 cz, .slice pp 0 cp]) (by simp [results, Tryz.results4, go_sem, *]) rfl ⟨⟨p4, c4, t4, x4, q4, y4, n4, gz, cz, pp, cp, l, rfl, HM.out, ?_, HL.out, HZZ.out, ?_, HNE.out⟩, ?_⟩
  · exact owns_mono (kept6 HO.out (own_not HO.out (by omega))) hzs
  · exact owns_mono (kept6 HZ.out (own_not HZ.out (by omega))) hzs
  · (repeat (first | (with_reducible exact Below.refl _ _) | (with_reducible assumption) | (with_reducible apply below_drewN) | (with_reducible apply Below.drew) | ((with_reducible refine Below.setCell ?_ ?_ _); rotate_left; focus (first | (simp; done) | (simp; omega) | omega)) | ((with_reducible refine Below.alloc ?_ ?_ _); rotate_left; focus (first | (simp; done) | (simp; omega) | omega))))

end Go.Proofs.YtlefpbgnkebmdaaGreat.Nw
