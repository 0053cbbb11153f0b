/- Stores of the laws: their sizes, one made, and that one equals itself. -/
import Derived.Test.YtpfbepbmiillbaaGreatDoorClsRR
import Derived.Test.YtpfbepbmiillbaaGreatDoorTxnRR
import Derived.Test.YtpfbepbmiillbaaGreatDoorDnsRR
namespace Go.Proofs.YtpfbepbmiillbaaGreatDoor.Tx
open Go.RowKit Tr Co Rea Ce
set_option linter.unusedVariables false

/-- A store, its texts as bytes. -/
structure Sto where
  cs : List Col
  ts : List Tn
  ds : List Dn
  clk : Int
structure InSto (W : World) (p q r : Option Addr) (s : Sto) : Prop where
  c : InCs W p s.cs
  t : InTn W q s.ts
  d : InDn W r s.ds
theorem InSto.step {W W' : World} {p q r : Option Addr} {s : Sto} (h : InSto W p q r s) (hb : Below W.heap.size W W') : InSto W' p q r s := ⟨h.c.step hb, h.t.step hb, h.d.step hb⟩
structure MaxSto (s : Sto) : Prop where
  c0 : s.cs.length ≤ maxLen
  c1 : ∀ v ∈ s.cs, maxCs v
  t0 : s.ts.length ≤ maxLen
  t1 : ∀ v ∈ s.ts, maxTn v
  d0 : s.ds.length ≤ maxLen
  d1 : ∀ v ∈ s.ds, maxDn v
structure SzSto (s : Sto) : Prop where
  c0 : s.cs.length ≤ 1048576
  c1 : ∀ v ∈ s.cs, szCs v
  t0 : s.ts.length ≤ 1048576
  t1 : ∀ v ∈ s.ts, szTn v
  d0 : s.ds.length ≤ 1048576
  d1 : ∀ v ∈ s.ds, szDn v
/-- A store that was made. -/
structure MadeSto (W : World) (base gc gt gd : Nat) (s : Sto) : Prop where
  c : MadeCs W base gc s.cs
  t : MadeTn W base gt s.ts
  d : MadeDn W base gd s.ds
theorem MadeSto.next {W W' : World} {base gc gt gd : Nat} {s : Sto} (h : MadeSto W base gc gt gd s) (hb : Below W.heap.size W W') : MadeSto W' base gc gt gd s := ⟨h.c.next hb, h.t.next hb, h.d.next hb⟩
theorem MadeCs.set {w : World} {base g b o : Nat} {v : Value} {l : List Col} (h : MadeCs w base g l) (hb : b < base) : MadeCs (w.setCell ⟨b, o, none⟩ v) base g l := by
  have hg : w.grownBy (w.setCell ⟨b, o, none⟩ v) (some b) := grown_setC
  have hne : some g ≠ some b := fun e => by injection e; have := h.ge; omega
  refine ⟨h.ge, Nat.lt_of_lt_of_le h.lt hg.size, fun i hi => ?_⟩
  obtain ⟨gr, gc, ⟨x0, x1, x2⟩, y, z, u⟩ := h.cells i hi
  have hk : ∀ o, (w.setCell ⟨b, _, none⟩ v).cell? ⟨g, o, none⟩ = w.cell? ⟨g, o, none⟩ := fun o => World.cell?_of_block (hg.block g h.lt hne)
  exact ⟨gr, gc, ⟨(hk _).trans x0, (hk _).trans x1, (hk _).trans x2⟩, y.set hb, z.set hb, u⟩
theorem MadeTn.set {w : World} {base g b o : Nat} {v : Value} {l : List Tn} (h : MadeTn w base g l) (hb : b < base) : MadeTn (w.setCell ⟨b, o, none⟩ v) base g l := by
  have hg : w.grownBy (w.setCell ⟨b, o, none⟩ v) (some b) := grown_setC
  have hne : some g ≠ some b := fun e => by injection e; have := h.ge; omega
  refine ⟨h.ge, Nat.lt_of_lt_of_le h.lt hg.size, fun i hi => ?_⟩
  obtain ⟨gr, gc, ⟨x0, x1, x2, x3⟩, y, z, u⟩ := h.cells i hi
  have hk : ∀ o, (w.setCell ⟨b, _, none⟩ v).cell? ⟨g, o, none⟩ = w.cell? ⟨g, o, none⟩ := fun o => World.cell?_of_block (hg.block g h.lt hne)
  exact ⟨gr, gc, ⟨(hk _).trans x0, (hk _).trans x1, (hk _).trans x2, (hk _).trans x3⟩, y.set hb, readWs_set z (by omega), u⟩
theorem madeDn_set {w : World} {base g b o : Nat} {v : Value} {l : List Dn} (h : MadeDn w base g l) (hb : b < base) : MadeDn (w.setCell ⟨b, o, none⟩ v) base g l := by
  have hg : w.grownBy (w.setCell ⟨b, o, none⟩ v) (some b) := grown_setC
  have hne : some g ≠ some b := fun e => by injection e; have := h.ge; omega
  refine ⟨h.ge, Nat.lt_of_lt_of_le h.lt hg.size, fun i hi => ?_⟩
  obtain ⟨gr, gc, ⟨x0, x1, x2, x3, x4, x5⟩, y, z, u⟩ := h.cells i hi
  have hk : ∀ o, (w.setCell ⟨b, _, none⟩ v).cell? ⟨g, o, none⟩ = w.cell? ⟨g, o, none⟩ := fun o => World.cell?_of_block (hg.block g h.lt hne)
  exact ⟨gr, gc, ⟨(hk _).trans x0, (hk _).trans x1, (hk _).trans x2, (hk _).trans x3, (hk _).trans x4, (hk _).trans x5⟩, y.set hb, readCg_set z (by omega), u⟩

/-- The three blocks of toStore: what came in, the answer, what is made. -/
structure MkSt (w W : World) (as_ os : Array Value) (T U : TypeId) : Prop where
  bel : Below w.heap.size w W
  lt : w.heap.size + 2 < W.heap.size
  pb : W.heap[w.heap.size]? = some (.cells as_ T (0, 0))
  rb : W.heap[w.heap.size + 1]? = some (.cells #[.slice none 0 0, .slice none 0 0, .slice none 0 0, .int .i64 0] U (0, 0))
  ob : W.heap[w.heap.size + 2]? = some (.cells os U (0, 0))
theorem MkSt.next {w W W' : World} {as_ os : Array Value} {T U : TypeId} (h : MkSt w W as_ os T U) (hb : Below W.heap.size W W') : MkSt w W' as_ os T U := by
  have := h.lt
  exact ⟨h.bel.trans (hb.mono h.bel.size), Nat.lt_of_lt_of_le h.lt hb.size, (hb.block _ (by omega)).trans h.pb, (hb.block _ (by omega)).trans h.rb, (hb.block _ h.lt).trans h.ob⟩
theorem MkSt.set {w W : World} {as_ os : Array Value} {T U : TypeId} (h : MkSt w W as_ os T U) (o : Nat) (v : Value) : MkSt w (W.setCell ⟨w.heap.size + 2, o, none⟩ v) as_ (os.setIfInBounds o v) T U := by
  have := h.lt
  have hg : W.grownBy (W.setCell ⟨w.heap.size + 2, o, none⟩ v) (some (w.heap.size + 2)) := grown_setC
  refine ⟨h.bel.setCell (by show w.heap.size ≤ w.heap.size + 2; omega) _, by simpa using h.lt, (hg.block _ (by omega) (fun e => by injection e; omega)).trans h.pb, (hg.block _ (by omega) (fun e => by injection e; omega)).trans h.rb, ?_⟩
  simp [World.setCell, Array.getElem?_modify, h.ob]
theorem MkSt.start (w : World) (vs : Array Value) (T U : TypeId) : MkSt w (((w.alloc (.cells vs T)).alloc (.cells #[.slice none 0 0, .slice none 0 0, .slice none 0 0, .int .i64 0] U)).alloc (.cells #[.slice none 0 0, .slice none 0 0, .slice none 0 0, .int .i64 0] U)) vs #[.slice none 0 0, .slice none 0 0, .slice none 0 0, .int .i64 0] T U := by
  obtain ⟨W1, h1⟩ : ∃ W, W = w.alloc (.cells vs T) := ⟨_, rfl⟩
  obtain ⟨O, hO⟩ : ∃ O, O = Obj.cells #[.slice none 0 0, .slice none 0 0, .slice none 0 0, .int .i64 0] U := ⟨_, rfl⟩
  have s1 : W1.heap.size = w.heap.size + 1 := by rw [h1]; simp
  have s2 : (W1.alloc O).heap.size = w.heap.size + 2 := by simp [s1]
  have b2 : Below W1.heap.size W1 (W1.alloc O) := (Below.refl _ _).alloc (Nat.le_refl _) _
  have b3 : Below (W1.alloc O).heap.size (W1.alloc O) ((W1.alloc O).alloc O) := (Below.refl _ _).alloc (Nat.le_refl _) _
  have n1 : W1.heap[w.heap.size]? = some (.cells vs T) := by rw [h1]; exact heap_alloc_new w _
  have n2 : (W1.alloc O).heap[w.heap.size + 1]? = some O := by rw [← s1]; exact heap_alloc_new W1 _
  have n3 : ((W1.alloc O).alloc O).heap[w.heap.size + 2]? = some O := by rw [← s2]; exact heap_alloc_new _ _
  have bw : Below w.heap.size w W1 := by rw [h1]; exact (Below.refl _ _).alloc (Nat.le_refl _) _
  rw [← h1, ← hO]
  refine ⟨(bw.trans (b2.mono (by omega))).trans (b3.mono (by omega)), by simp [s1], ?_, ?_, ?_⟩
  · exact (b3.block _ (by omega)).trans ((b2.block _ (by omega)).trans n1)
  · rw [← hO]; exact (b3.block _ (by omega)).trans n2
  · rw [← hO]; exact n3

set_option maxRecDepth 4000 in
set_option maxHeartbeats 2000000 in
theorem eqStore_same (gc1 gt1 gd1 b1 gc2 gt2 gd2 b2 : Nat) (s : Sto) (w : World) (h1 : MadeSto w b1 gc1 gt1 gd1 s) (h2 : MadeSto w b2 gc2 gt2 gd2 s) (hz : SzSto s) :
    Calls Tryz.prog 12 #[.agg #[.slice (some ⟨gc1, 0, none⟩) s.cs.length s.cs.length, .slice (some ⟨gt1, 0, none⟩) s.ts.length s.ts.length, .slice (some ⟨gd1, 0, none⟩) s.ds.length s.ds.length, .int .i64 s.clk], .agg #[.slice (some ⟨gc2, 0, none⟩) s.cs.length s.cs.length, .slice (some ⟨gt2, 0, none⟩) s.ts.length s.ts.length, .slice (some ⟨gd2, 0, none⟩) s.ds.length s.ds.length, .int .i64 s.clk]] w fun e w' => e = .returned (.bool true) ∧ Below w.heap.size w w' := by
  have X0 := (BxTn.start w (.slice (some ⟨gc1, 0, none⟩) s.cs.length s.cs.length) (.slice (some ⟨gt1, 0, none⟩) s.ts.length s.ts.length) (.slice (some ⟨gd1, 0, none⟩) s.ds.length s.ds.length) (.int .i64 s.clk) 33).step ((Below.refl _ _).alloc (Nat.le_refl _) (.cells #[.slice (some ⟨gc2, 0, none⟩) s.cs.length s.cs.length, .slice (some ⟨gt2, 0, none⟩) s.ts.length s.ts.length, .slice (some ⟨gd2, 0, none⟩) s.ds.length s.ds.length, .int .i64 s.clk] 33))
  have Y0 := BxTn.start (w.alloc (.cells #[.slice (some ⟨gc1, 0, none⟩) s.cs.length s.cs.length, .slice (some ⟨gt1, 0, none⟩) s.ts.length s.ts.length, .slice (some ⟨gd1, 0, none⟩) s.ds.length s.ds.length, .int .i64 s.clk] 33)) (.slice (some ⟨gc2, 0, none⟩) s.cs.length s.cs.length) (.slice (some ⟨gt2, 0, none⟩) s.ts.length s.ts.length) (.slice (some ⟨gd2, 0, none⟩) s.ds.length s.ds.length) (.int .i64 s.clk) 33
  have HC : Hid (∀ W : World, Below w.heap.size w W → Calls _ _ _ W _) := fun W hW => eqCollS_same gc1 gc2 s.cs.length s.cs.length b1 b2 s.cs W (h1.c.next hW) (h2.c.next hW) hz.c0 hz.c1
  have HT : Hid (∀ W : World, Below w.heap.size w W → Calls _ _ _ W _) := fun W hW => eqTxnS_same gt1 gt2 s.ts.length s.ts.length b1 b2 s.ts W (h1.t.next hW) (h2.t.next hW) hz.t0 hz.t1
  have HD : Hid (∀ W : World, Below w.heap.size w W → Calls _ _ _ W _) := fun W hW => eqDoneS_same gd1 gd2 s.ds.length s.ds.length b1 b2 s.ds W (h1.d.next hW) (h2.d.next hW) hz.d0 hz.d1
  clear h1 h2 hz
  go_enter Tryz.func12, Tryz.ntmps12
  go_wp2_with fail
  refine (HC.out _ X0.bel).mono ?_
  rintro e w1 ⟨rfl, hb⟩
  have X1 := X0.step hb
  have Y1 := Y0.step hb
  clear hb X0 Y0 HC
  have x1 := X1.c1
  have y1 := Y1.c1
  rw [World.size_alloc] at y1
  go_wp2_with fail
  refine (HT.out _ X1.bel).mono ?_
  rintro e w2 ⟨rfl, hb⟩
  have X2 := X1.step hb
  have Y2 := Y1.step hb
  clear hb X1 Y1 HT x1 y1
  have x2 := X2.c2
  have y2 := Y2.c2
  rw [World.size_alloc] at y2
  go_wp2_with fail
  refine (HD.out _ X2.bel).mono ?_
  rintro e w3 ⟨rfl, hb⟩
  have X3 := X2.step hb
  have Y3 := Y2.step hb
  clear hb X2 Y2 HD x2 y2
  have x3 := X3.c3
  have y3 := Y3.c3
  rw [World.size_alloc] at y3
  have hbw := X3.bel
  clear X3 Y3
  go_wp2_with fail
  go_ret
  exact ⟨rfl, hbw⟩

end Go.Proofs.YtpfbepbmiillbaaGreatDoor.Tx
