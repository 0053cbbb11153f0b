/- The laws' own helpers on transactions: their size, one made, and that one equals itself. -/
import Derived.Test.YtpfbepbmiillbaaGreatDoorWrsVR
import Derived.Test.YtpfbepbmiillbaaGreatDoorReaRR
namespace Go.Proofs.YtpfbepbmiillbaaGreatDoor.Tx
open Go.RowKit Tr Co Rea Ce
set_option linter.unusedVariables false

/-- A block of four cells. -/
structure BxTn (w W : World) (a b c d : Value) : Prop where
  bel : Below w.heap.size w W
  lt : w.heap.size < W.heap.size
  c0 : W.cell? ⟨w.heap.size, 0, none⟩ = some a
  c1 : W.cell? ⟨w.heap.size, 1, none⟩ = some b
  c2 : W.cell? ⟨w.heap.size, 2, none⟩ = some c
  c3 : W.cell? ⟨w.heap.size, 3, none⟩ = some d
theorem BxTn.start (w : World) (a b c d : Value) (T : TypeId) : BxTn w (w.alloc (.cells #[a, b, c, d] T)) a b c d :=
  ⟨(Below.refl _ _).alloc (Nat.le_refl _) _, by simp, by simp [go_sem], by simp [go_sem], by simp [go_sem], by simp [go_sem]⟩
theorem BxTn.step {w W W' : World} {a b c d : Value} (h : BxTn w W a b c d) (hb : Below W.heap.size W W') : BxTn w W' a b c d :=
  ⟨h.bel.trans (hb.mono h.bel.size), Nat.lt_of_lt_of_le h.lt hb.size, (hb.cell h.lt).trans h.c0, (hb.cell h.lt).trans h.c1, (hb.cell h.lt).trans h.c2, (hb.cell h.lt).trans h.c3⟩
/-- What sizes a committed one has when it is small enough. -/
structure SzTn (rs : List Rdg) (cs : List Wrt) : Prop where
  r0 : rs.length ≤ 1048576
  r1 : ∀ v ∈ rs, szRd v
  s0 : cs.length ≤ 1048576
  s1 : ∀ v ∈ cs, szWs v
structure MaxTn (rs : List Rdg) (cs : List Wrt) : Prop where
  r0 : rs.length ≤ maxLen
  r1 : ∀ v ∈ rs, maxRd v
  s0 : cs.length ≤ maxLen
  s1 : ∀ v ∈ cs, maxWs v

theorem fourTn {W : World} {b : Nat} {T : TypeId} {v0 v1 v2 v3 : Value} (h : W.heap[b]? = some (.cells #[v0, v1, v2, v3] T)) :
    W.cell? ⟨b, 0, none⟩ = some v0 ∧ W.cell? ⟨b, 1, none⟩ = some v1 ∧ W.cell? ⟨b, 2, none⟩ = some v2 ∧ W.cell? ⟨b, 3, none⟩ = some v3 := by
  refine ⟨?_, ?_, ?_, ?_⟩ <;> simp [World.cell?, h]
theorem softTn {W : World} {b : Nat} {T : TypeId} {vs : Array Value} (h : W.heap[b]? = some (.cells vs T)) (o : Nat) : W.frozen? ⟨b, o, none⟩ = false := by simp [World.frozen?, h]
/-- The three blocks of toTxn: what came in, the answer, what is made. -/
structure MkTn (w W : World) (as_ os : Array Value) (T U : TypeId) : Prop where
  bel : Below w.heap.size w W
  lt : w.heap.size + 2 < W.heap.size
  pb : W.heap[w.heap.size]? = some (.cells as_ T)
  rb : W.heap[w.heap.size + 1]? = some (.cells #[.int .i64 0, .int .i64 0, .slice none 0 0, .slice none 0 0] U)
  ob : W.heap[w.heap.size + 2]? = some (.cells os U)
theorem MkTn.next {w W W' : World} {as_ os : Array Value} {T U : TypeId} (h : MkTn w W as_ os T U) (hb : Below W.heap.size W W') : MkTn w W' as_ os T U := by
  have := h.lt
  exact ⟨h.bel.trans (hb.mono h.bel.size), Nat.lt_of_lt_of_le h.lt hb.size, (hb.block _ (by omega)).trans h.pb, (hb.block _ (by omega)).trans h.rb, (hb.block _ h.lt).trans h.ob⟩
theorem MkTn.set {w W : World} {as_ os : Array Value} {T U : TypeId} (h : MkTn w W as_ os T U) (o : Nat) (v : Value) : MkTn w (W.setCell ⟨w.heap.size + 2, o, none⟩ v) as_ (os.setIfInBounds o v) T U := by
  have := h.lt
  have hg : W.grownBy (W.setCell ⟨w.heap.size + 2, o, none⟩ v) (some (w.heap.size + 2)) := grown_setC
  refine ⟨h.bel.setCell (by show w.heap.size ≤ w.heap.size + 2; omega) _, by simpa using h.lt, (hg.block _ (by omega) (fun e => by injection e; omega)).trans h.pb, (hg.block _ (by omega) (fun e => by injection e; omega)).trans h.rb, ?_⟩
  simp [World.setCell, Array.getElem?_modify, h.ob]
theorem MkTn.start (w : World) (a0 a1 a2 a3 : Value) (T U : TypeId) : MkTn w (((w.alloc (.cells #[a0, a1, a2, a3] T)).alloc (.cells #[.int .i64 0, .int .i64 0, .slice none 0 0, .slice none 0 0] U)).alloc (.cells #[.int .i64 0, .int .i64 0, .slice none 0 0, .slice none 0 0] U)) #[a0, a1, a2, a3] #[.int .i64 0, .int .i64 0, .slice none 0 0, .slice none 0 0] T U := by
  obtain ⟨W1, h1⟩ : ∃ W, W = w.alloc (.cells #[a0, a1, a2, a3] T) := ⟨_, rfl⟩
  obtain ⟨O, hO⟩ : ∃ O, O = Obj.cells #[.int .i64 0, .int .i64 0, .slice none 0 0, .slice none 0 0] U := ⟨_, rfl⟩
  have s1 : W1.heap.size = w.heap.size + 1 := by rw [h1]; simp
  have s2 : (W1.alloc O).heap.size = w.heap.size + 2 := by simp [s1]
  have b2 : Below W1.heap.size W1 (W1.alloc O) := (Below.refl _ _).alloc (Nat.le_refl _) _
  have b3 : Below (W1.alloc O).heap.size (W1.alloc O) ((W1.alloc O).alloc O) := (Below.refl _ _).alloc (Nat.le_refl _) _
  have n1 : W1.heap[w.heap.size]? = some (.cells #[a0, a1, a2, a3] T) := by rw [h1]; exact heap_alloc_new w _
  have n2 : (W1.alloc O).heap[w.heap.size + 1]? = some O := by rw [← s1]; exact heap_alloc_new W1 _
  have n3 : ((W1.alloc O).alloc O).heap[w.heap.size + 2]? = some O := by rw [← s2]; exact heap_alloc_new _ _
  have bw : Below w.heap.size w W1 := by rw [h1]; exact (Below.refl _ _).alloc (Nat.le_refl _) _
  rw [← h1, ← hO]
  refine ⟨(bw.trans (b2.mono (by omega))).trans (b3.mono (by omega)), by simp [s1], ?_, ?_, ?_⟩
  · exact (b3.block _ (by omega)).trans ((b2.block _ (by omega)).trans n1)
  · rw [← hO]; exact (b3.block _ (by omega)).trans n2
  · rw [← hO]; exact n3

set_option maxRecDepth 4000 in
set_option maxHeartbeats 2000000 in
theorem eqTxn_same (sn sp : Int) (g1 g2 k1 k2 c1 c2 d1 d2 b1 b2 : Nat) (rs : List Rdg) (cs : List Wrt) (w : World) (h1 : MadeRd w b1 g1 rs) (h2 : MadeRd w b2 k1 rs) (h3 : InWs w (some ⟨g2, 0, none⟩) cs) (h4 : InWs w (some ⟨k2, 0, none⟩) cs) (hz : SzTn rs cs) :
    Calls Tryz.prog 80 #[.agg #[.int .i64 sn, .int .i64 sp, .slice (some ⟨g1, 0, none⟩) rs.length c1, .slice (some ⟨g2, 0, none⟩) cs.length c2], .agg #[.int .i64 sn, .int .i64 sp, .slice (some ⟨k1, 0, none⟩) rs.length d1, .slice (some ⟨k2, 0, none⟩) cs.length d2]] w fun e w' => e = .returned (.bool true) ∧ Below w.heap.size w w' := by
  have X0 := (BxTn.start w (.int .i64 sn) (.int .i64 sp) (.slice (some ⟨g1, 0, none⟩) rs.length c1) (.slice (some ⟨g2, 0, none⟩) cs.length c2) 75).step ((Below.refl _ _).alloc (Nat.le_refl _) (.cells #[.int .i64 sn, .int .i64 sp, .slice (some ⟨k1, 0, none⟩) rs.length d1, .slice (some ⟨k2, 0, none⟩) cs.length d2] 75))
  have Y0 := BxTn.start (w.alloc (.cells #[.int .i64 sn, .int .i64 sp, .slice (some ⟨g1, 0, none⟩) rs.length c1, .slice (some ⟨g2, 0, none⟩) cs.length c2] 75)) (.int .i64 sn) (.int .i64 sp) (.slice (some ⟨k1, 0, none⟩) rs.length d1) (.slice (some ⟨k2, 0, none⟩) cs.length d2) 75
  have HA : Hid (∀ W : World, Below w.heap.size w W → Calls _ _ _ W _) := fun W hW => eqReadS_same g1 k1 c1 d1 b1 b2 rs W (h1.next hW) (h2.next hW) hz.r0 hz.r1
  have HB : Hid (∀ W : World, Below w.heap.size w W → Calls _ _ _ W _) := fun W hW => eqWriteS_same (some ⟨g2, 0, none⟩) (some ⟨k2, 0, none⟩) c2 d2 cs W (h3.step hW) (h4.step hW) hz.s0
  clear h1 h2 h3 h4 hz
  go_enter Tryz.func80, Tryz.ntmps80
  go_wp2_with fail
  refine (HA.out _ X0.bel).mono ?_
  rintro e w1 ⟨rfl, hb⟩
  have X1 := X0.step hb
  have Y1 := Y0.step hb
  clear hb X0 Y0 HA
  have x3 := X1.c3
  have y3 := Y1.c3
  rw [World.size_alloc] at y3
  go_wp2_with fail
  refine (HB.out _ X1.bel).mono ?_
  rintro e w2 ⟨rfl, hb⟩
  have X2 := X1.step hb
  have Y2 := Y1.step hb
  clear hb X1 Y1 HB x3 y3
  have hbw := X2.bel
  clear X2 Y2
  go_wp2_with fail
  go_ret
  exact ⟨rfl, hbw⟩
theorem readWs_set {w : World} {g b o : Nat} {v : Value} {l : List Wrt} (h : ReadWs w g l) (hne : g ≠ b) : ReadWs (w.setCell ⟨b, o, none⟩ v) g l := by
  have hg : w.grownBy (w.setCell ⟨b, o, none⟩ v) (some b) := grown_setC
  exact h.grown hg (fun e => hne (by injection e))
theorem MkTn.start2 (w : World) (a0 a1 a2 a3 o0 o1 o2 o3 : Value) (T U : TypeId) : MkTn w (((w.alloc (.cells #[a0, a1, a2, a3] T)).alloc (.cells #[.int .i64 0, .int .i64 0, .slice none 0 0, .slice none 0 0] U)).alloc (.cells #[o0, o1, o2, o3] U)) #[a0, a1, a2, a3] #[o0, o1, o2, o3] T U := by
  obtain ⟨W1, h1⟩ : ∃ W, W = w.alloc (.cells #[a0, a1, a2, a3] T) := ⟨_, rfl⟩
  obtain ⟨O, hO⟩ : ∃ O, O = Obj.cells #[.int .i64 0, .int .i64 0, .slice none 0 0, .slice none 0 0] U := ⟨_, rfl⟩
  obtain ⟨O', hO'⟩ : ∃ O, O = Obj.cells #[o0, o1, o2, o3] U := ⟨_, rfl⟩
  have s1 : W1.heap.size = w.heap.size + 1 := by rw [h1]; simp
  have s2 : (W1.alloc O).heap.size = w.heap.size + 2 := by simp [s1]
  have b2 : Below W1.heap.size W1 (W1.alloc O) := (Below.refl _ _).alloc (Nat.le_refl _) _
  have b3 : Below (W1.alloc O).heap.size (W1.alloc O) ((W1.alloc O).alloc O') := (Below.refl _ _).alloc (Nat.le_refl _) _
  have n1 : W1.heap[w.heap.size]? = some (.cells #[a0, a1, a2, a3] T) := by rw [h1]; exact heap_alloc_new w _
  have n2 : (W1.alloc O).heap[w.heap.size + 1]? = some O := by rw [← s1]; exact heap_alloc_new W1 _
  have n3 : ((W1.alloc O).alloc O').heap[w.heap.size + 2]? = some O' := by rw [← s2]; exact heap_alloc_new _ _
  have bw : Below w.heap.size w W1 := by rw [h1]; exact (Below.refl _ _).alloc (Nat.le_refl _) _
  rw [← h1, ← hO, ← hO']
  refine ⟨(bw.trans (b2.mono (by omega))).trans (b3.mono (by omega)), by simp [s1], ?_, ?_, ?_⟩
  · exact (b3.block _ (by omega)).trans ((b2.block _ (by omega)).trans n1)
  · rw [← hO]; exact (b3.block _ (by omega)).trans n2
  · rw [← hO']; exact n3

end Go.Proofs.YtpfbepbmiillbaaGreatDoor.Tx
