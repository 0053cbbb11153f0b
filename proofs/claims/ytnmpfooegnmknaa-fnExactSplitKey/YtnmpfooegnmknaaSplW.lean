/- What the comparison of both partings of a text into keys leans on. -/
import Derived.Test.YtnmpfooegnmknaaSplU
namespace Go.Proofs.Ytnmpfooegnmknaa.Tr
open Go.RowKit
set_option linter.unusedVariables false

theorem splitK_len (f : Nat) : ∀ (n : Nat) (s : ByteArray) (r : List ByteArray × ByteArray), splitK f n s = some r → r.1.length = n
  | 0, s, r, h => by rw [splitK] at h; injection h with h; rw [← h]; rfl
  | n + 1, s, r, h => by
    rw [splitK] at h
    split at h
    · cases h
    · rw [Option.map_eq_some_iff] at h
      obtain ⟨q, h1, h2⟩ := h
      rw [← h2]
      show (_ :: q.1).length = n + 1
      rw [List.length_cons, splitK_len f n _ q h1]
theorem splL_len (s : ByteArray) (n : Int) : (splL s n).length ≤ 8 := by
  unfold splL
  split
  · simp
  split
  · rename_i hn
    cases hb : splB s n.toNat with
    | none => simp
    | some l =>
      show l.length ≤ 8
      unfold splB at hb
      rw [Option.bind_eq_some_iff] at hb
      obtain ⟨r, h1, h2⟩ := hb
      have := splitK_len _ _ _ _ h1
      split at h2
      · injection h2 with h2; rw [← h2]; omega
      · cases h2
  · simp

set_option maxRecDepth 4000 in
set_option maxHeartbeats 2000000 in
theorem splitLaw (s : ByteArray) (n : Int) (w : World) (hm : ∃ m, w.cell? ⟨Try.laysCut_ren.g 1, 0, none⟩ = some (.int .i64 m)) :
    Calls Try.prog 6 #[.string s, .int .i64 n] w fun e w' => e = .returned (.bool true) ∧ Below w.heap.size w w' := by
  obtain ⟨m, hm⟩ := hm
  have hg : Try.laysCut_ren.g 1 < w.heap.size := by
    have h0 := hm
    unfold World.cell? at h0
    cases hh : w.heap[Try.laysCut_ren.g 1]? with
    | none => simp [hh] at h0
    | some o => exact (Array.getElem?_eq_some_iff.1 hh).1
  by_cases hbig : 1048576 < s.size
  · go_enter Try.func6, Try.ntmps6
    go_wp2
    go_ret
    exact ⟨rfl, Below.refl _ _⟩
  have hs : s.size ≤ 1048576 := by omega
  have hlen := splL_len s n
  have HS0 := fun W => specSplit_any s n W hs
  have HI0 : ∀ W : World, Below w.heap.size w W → Calls Try.prog 12 #[.string s, .int .i64 n] W fun e w' => SplR s n W e w' := fun W hb => implSplit_any s n m W hs (Nat.lt_of_lt_of_le hg hb.size) ((hb.cell hg).trans hm)
  have HR : Hid (∀ (W : World) (e : Ending) (w' : World), SplR s n W e w' → ∃ p c, e = .returned (.tuple #[.slice p (splL s n).length c, .int .i64 (splC s n)]) ∧ OwnS w' W.heap.size (.slice p (splL s n).length c) (splL s n) ∧ InT1 w' p (splL s n) ∧ Below W.heap.size W w') := by
    intro W e w' h
    obtain ⟨⟨v, h1, h2⟩, h3⟩ := h
    obtain ⟨p, c, rfl, h4⟩ := h2.in1
    exact ⟨p, c, h1, h2, h4, h3⟩
  have HS : Hid (∀ W, Calls _ _ _ W _) := HS0
  have HI : Hid (∀ W : World, Below w.heap.size w W → Calls _ _ _ W _) := HI0
  clear HS0 HI0 hm hg
  obtain ⟨l, hl⟩ : ∃ l, l = splL s n := ⟨_, rfl⟩
  obtain ⟨C, hC⟩ : ∃ C, C = splC s n := ⟨_, rfl⟩
  rw [← hl, ← hC] at HR
  rw [← hl] at hlen
  clear hl hC
  go_enter Try.func6, Try.ntmps6
  go_wp2_with (go_at_call 29; refine (HS.out _).mono ?_; intro e w1 h1; obtain ⟨p1, c1, rfl, o1, i1, b1⟩ := HR.out _ _ _ h1; clear h1)
  refine (HI.out _ b1).mono ?_
  intro e w2 h2
  obtain ⟨p2, c2, rfl, o2, i2, b2⟩ := HR.out _ _ _ h2
  clear h2
  have I1 : Hid (InT1 _ _ _) := i1
  have O1 : Hid (OwnS _ _ _ _) := o1
  have O2 : Hid (OwnS _ _ _ _) := o2
  have I2 : Hid (InT1 _ _ _) := i2
  have z1 := b1.size
  have z2 := b2.size
  have B2 : Below w.heap.size w w2 := b1.trans (b2.mono z1)
  have B12 : Below w1.heap.size w1 w2 := b2
  clear i1 o1 o2 i2 b1 b2
  go_wp2_with (go_at_call 30; refine (eqStrings_any p2 p1 c2 c1 l _ I2.out (I1.out.step B12) (by omega)).mono ?_; rintro e w3 ⟨rfl, b3⟩)
  have z3 := b3.size
  have B3 : Below w.heap.size w w3 := B2.trans (b3.mono B2.size)
  have B13 : Below w1.heap.size w1 w3 := B12.trans (b3.mono z2)
  have O3 : Hid (OwnS w3 w1.heap.size (.slice p2 l.length c2) l) := owns_below O2.out b3
  clear b3 B2 B12
  refine (markStringS_any w1.heap.size _ l 1 _ O3.out (by omega) (by omega) (by omega)).mono ?_
  rintro e w4 ⟨rfl, o4, g4⟩
  have hrow : ∀ g, (Value.slice p2 l.length c2).ownBlock = some g → w1.heap.size ≤ g := fun g hg => (World.ownsRow.lt O3.out g hg).1
  have z4 := g4.size
  have B14 : Below w1.heap.size w1 w4 := Below.grown B13 g4 (by omega) hrow
  have B4 : Below w.heap.size w w4 := Below.grown B3 g4 (by have := B3.size; omega) (fun g hg => by have := hrow g hg; omega)
  obtain ⟨p4, c4, e4, i4⟩ := OwnS.in1 o4
  rw [marksS_len] at e4
  injection e4 with e41 e42 e43
  subst e41
  have I4 : Hid (InT1 _ _ _) := i4
  clear o4 g4 B3 B13 hrow i4 e42 e43
  go_wp2_with (go_at_call 32; refine (heldStringS_any p2 c2 l.length 1 _ I4.out (by omega) (by omega) (by omega)).mono ?_; rintro e w5 ⟨rfl, b5⟩)
  have z5 := b5.size
  have B15 : Below w1.heap.size w1 w5 := B14.trans (b5.mono (by have := B14.size; omega))
  have B5 : Below w.heap.size w w5 := B4.trans (b5.mono B4.size)
  have I5 : Hid (InT1 _ _ _) := I4.out.step b5
  clear b5 B14 B4 I4
  refine (HI.out _ B5).mono ?_
  intro e w6 h6
  obtain ⟨p6, c6, rfl, o6, i6, b6⟩ := HR.out _ _ _ h6
  have z6 := b6.size
  have B16 : Below w1.heap.size w1 w6 := B15.trans (b6.mono (by have := B15.size; omega))
  have B6 : Below w.heap.size w w6 := B5.trans (b6.mono B5.size)
  have I6 : Hid (InT1 _ _ _) := i6
  have J6 : Hid (InT1 _ _ _) := I5.out.step b6
  clear h6 o6 i6 b6 B15 B5 I5
  go_wp2_with (go_at_call 30; refine (eqStrings_any p6 p1 c6 c1 l _ I6.out (I1.out.step B16) (by omega)).mono ?_; rintro e w7 ⟨rfl, b7⟩)
  have J7 : Hid (InT1 _ _ _) := J6.out.step b7
  have B7 : Below w.heap.size w w7 := B6.trans (b7.mono B6.size)
  clear b7 B16 B6 J6
  refine (heldStringS_any p2 c2 l.length 1 _ J7.out (by omega) (by omega) (by omega)).mono ?_
  rintro e w8 ⟨rfl, b8⟩
  have B8 : Below w.heap.size w w8 := B7.trans (b8.mono B7.size)
  clear b8 B7
  go_wp2_with fail
  go_ret
  exact ⟨rfl, B8⟩

end Go.Proofs.Ytnmpfooegnmknaa.Tr
