/- Stores of the laws: their sizes, one made, and that one equals itself. -/
import Derived.Test.YtpfbepbmiillbaaGreatDoorClsRQ
import Derived.Test.YtpfbepbmiillbaaGreatDoorTxnRQ
import Derived.Test.YtpfbepbmiillbaaGreatDoorDnsRQ
namespace Go.Proofs.YtpfbepbmiillbaaGreatDoor.Tx
open Go.RowKit Tr Co Rea Ce
set_option linter.unusedVariables false

/-- A store, its texts as bytes. -/
structure Sto where
  cs : List Col
  ts : List Tn
  ds : List Dn
  clk : Int
structure InSto (W : World) (p q r : Option Addr) (s : Sto) : Prop where
  c : InCs W p s.cs
  t : InTn W q s.ts
  d : InDn W r s.ds
theorem InSto.step {W W' : World} {p q r : Option Addr} {s : Sto} (h : InSto W p q r s) (hb : Below W.heap.size W W') : InSto W' p q r s := ⟨h.c.step hb, h.t.step hb, h.d.step hb⟩
structure MaxSto (s : Sto) : Prop where
  c0 : s.cs.length ≤ maxLen
  c1 : ∀ v ∈ s.cs, maxCs v
  t0 : s.ts.length ≤ maxLen
  t1 : ∀ v ∈ s.ts, maxTn v
  d0 : s.ds.length ≤ maxLen
  d1 : ∀ v ∈ s.ds, maxDn v
structure SzSto (s : Sto) : Prop where
  c0 : s.cs.length ≤ 1048576
  c1 : ∀ v ∈ s.cs, szCs v
  t0 : s.ts.length ≤ 1048576
  t1 : ∀ v ∈ s.ts, szTn v
  d0 : s.ds.length ≤ 1048576
  d1 : ∀ v ∈ s.ds, szDn v
/-- A store that was made. -/
structure MadeSto (W : World) (base gc gt gd : Nat) (s : Sto) : Prop where
  c : MadeCs W base gc s.cs
  t : MadeTn W base gt s.ts
  d : MadeDn W base gd s.ds
theorem MadeSto.next {W W' : World} {base gc gt gd : Nat} {s : Sto} (h : MadeSto W base gc gt gd s) (hb : Below W.heap.size W W') : MadeSto W' base gc gt gd s := ⟨h.c.next hb, h.t.next hb, h.d.next hb⟩
theorem MadeCs.set {w : World} {base g b o : Nat} {v : Value} {l : List Col} (h : MadeCs w base g l) (hb : b < base) : MadeCs (w.setCell ⟨b, o, none⟩ v) base g l := by
  have hg : w.grownBy (w.setCell ⟨b, o, none⟩ v) (some b) := grown_setC
  have hne : some g ≠ some b := fun e => by injection e; have := h.ge; omega
  refine ⟨h.ge, Nat.lt_of_lt_of_le h.lt hg.size, fun i hi => ?_⟩
  obtain ⟨gr, gc, ⟨x0, x1, x2⟩, y, z, u⟩ := h.cells i hi
  have hk : ∀ o, (w.setCell ⟨b, _, none⟩ v).cell? ⟨g, o, none⟩ = w.cell? ⟨g, o, none⟩ := fun o => World.cell?_of_block (hg.block g h.lt hne)
  exact ⟨gr, gc, ⟨(hk _).trans x0, (hk _).trans x1, (hk _).trans x2⟩, y.set hb, z.set hb, u⟩
theorem MadeTn.set {w : World} {base g b o : Nat} {v : Value} {l : List Tn} (h : MadeTn w base g l) (hb : b < base) : MadeTn (w.setCell ⟨b, o, none⟩ v) base g l := by
  have hg : w.grownBy (w.setCell ⟨b, o, none⟩ v) (some b) := grown_setC
  have hne : some g ≠ some b := fun e => by injection e; have := h.ge; omega
  refine ⟨h.ge, Nat.lt_of_lt_of_le h.lt hg.size, fun i hi => ?_⟩
  obtain ⟨gr, gc, ⟨x0, x1, x2, x3⟩, y, z, u⟩ := h.cells i hi
  have hk : ∀ o, (w.setCell ⟨b, _, none⟩ v).cell? ⟨g, o, none⟩ = w.cell? ⟨g, o, none⟩ := fun o => World.cell?_of_block (hg.block g h.lt hne)
  exact ⟨gr, gc, ⟨(hk _).trans x0, (hk _).trans x1, (hk _).trans x2, (hk _).trans x3⟩, y.set hb, readWs_set z (by omega), u⟩
theorem madeDn_set {w : World} {base g b o : Nat} {v : Value} {l : List Dn} (h : MadeDn w base g l) (hb : b < base) : MadeDn (w.setCell ⟨b, o, none⟩ v) base g l := by
  have hg : w.grownBy (w.setCell ⟨b, o, none⟩ v) (some b) := grown_setC
  have hne : some g ≠ some b := fun e => by injection e; have := h.ge; omega
  refine ⟨h.ge, Nat.lt_of_lt_of_le h.lt hg.size, fun i hi => ?_⟩
  obtain ⟨gr, gc, ⟨x0, x1, x2, x3, x4, x5⟩, y, z, u⟩ := h.cells i hi
  have hk : ∀ o, (w.setCell ⟨b, _, none⟩ v).cell? ⟨g, o, none⟩ = w.cell? ⟨g, o, none⟩ := fun o => World.cell?_of_block (hg.block g h.lt hne)
  exact ⟨gr, gc, ⟨(hk _).trans x0, (hk _).trans x1, (hk _).trans x2, (hk _).trans x3, (hk _).trans x4, (hk _).trans x5⟩, y.set hb, readCg_set z (by omega), u⟩

set_option maxRecDepth 4000 in
set_option maxHeartbeats 2000000 in
theorem szStore_any (p q r : Option Addr) (cp cq cr : Nat) (s : Sto) (c0 : Int) (w : World) (hin : InSto w p q r s) (hm : MaxSto s) (hc0 : 0 ≤ c0) (hc1 : c0 ≤ 1048576) :
    Calls Tryz.prog 8 #[.agg #[.slice p s.cs.length cp, .slice q s.ts.length cq, .slice r s.ds.length cr, .int .i64 s.clk], .int .i64 c0] w fun e w' => (∃ r : Int, e = .returned (.int .i64 r) ∧ (r < 0 ∨ (0 ≤ r ∧ r ≤ c0 ∧ SzSto s))) ∧ Below w.heap.size w w' := by
  have X0 := BxTn.start w (.slice p s.cs.length cp) (.slice q s.ts.length cq) (.slice r s.ds.length cr) (.int .i64 s.clk) 26
  have HC : Hid (Calls _ _ _ _ _) := szCollS_any p cp s.cs c0 _ (hin.c.step X0.bel) hm.c0 hm.c1 hc0 hc1
  have HT : Hid (∀ (L : Int) (W : World), 0 ≤ L → L ≤ 1048576 → Below w.heap.size w W → Calls _ _ _ W _) := fun L W h0 h1 hW => szTxnS_any q cq s.ts L W (hin.t.step hW) hm.t0 hm.t1 h0 h1
  have HD : Hid (∀ (L : Int) (W : World), 0 ≤ L → L ≤ 1048576 → Below w.heap.size w W → Calls _ _ _ W _) := fun L W h0 h1 hW => szDoneS_any r cr s.ds L W (hin.d.step hW) hm.d0 hm.d1 h0 h1
  clear hin hm
  go_enter Tryz.func8, Tryz.ntmps8
  go_wp2_with fail
  refine HC.out.mono ?_
  rintro e w1 ⟨⟨r1, rfl, hr1⟩, hb⟩
  have X1 := X0.step hb
  have k1 := X1.c1
  have B1 := X1.bel
  clear hb X0 HC
  rcases hr1 with hneg | ⟨q0, q1, q2, q3⟩
  · go_wp2_with fail
    go_ret
    exact ⟨⟨-1, rfl, .inl (by omega)⟩, B1⟩
  have hn1 : ¬ r1 < 0 := by omega
  have HP : Hid (s.cs.length ≤ 1048576 ∧ ∀ v ∈ s.cs, szCs v) := ⟨q2, q3⟩
  clear q2 q3
  go_wp2_with fail
  refine (HT.out r1 _ q0 (by omega) X1.bel).mono ?_
  rintro e w2 ⟨⟨r2, rfl, hr2⟩, hb⟩
  have X2 := X1.step hb
  have k2 := X2.c2
  have B2 := X2.bel
  clear hb X1 HT k1 B1
  rcases hr2 with hneg | ⟨s0, s1, s2, s3⟩
  · go_wp2_with fail
    go_ret
    exact ⟨⟨-1, rfl, .inl (by omega)⟩, B2⟩
  have hn2 : ¬ r2 < 0 := by omega
  have HP2 : Hid (s.ts.length ≤ 1048576 ∧ ∀ v ∈ s.ts, szTn v) := ⟨s2, s3⟩
  clear s2 s3
  go_wp2_with fail
  refine (HD.out r2 _ s0 (by omega) X2.bel).mono ?_
  rintro e w3 ⟨⟨r3, rfl, hr3⟩, hb⟩
  have B3 := (X2.step hb).bel
  clear hb X2 HD k2 B2
  rcases hr3 with hneg | ⟨u0, u1, u2, u3⟩
  · go_wp2_with fail
    go_ret
    exact ⟨⟨-1, rfl, .inl (by omega)⟩, B3⟩
  have hn3 : ¬ r3 < 0 := by omega
  have HP3 : Hid (s.ds.length ≤ 1048576 ∧ ∀ v ∈ s.ds, szDn v) := ⟨u2, u3⟩
  clear u2 u3
  go_wp2_with fail
  go_ret
  exact ⟨⟨r3, rfl, .inr ⟨by omega, by omega, ⟨HP.out.1, HP.out.2, HP2.out.1, HP2.out.2, HP3.out.1, HP3.out.2⟩⟩⟩, B3⟩

/-- The three blocks of toStore: what came in, the answer, what is made. -/
structure MkSt (w W : World) (as_ os : Array Value) (T U : TypeId) : Prop where
  bel : Below w.heap.size w W
  lt : w.heap.size + 2 < W.heap.size
  pb : W.heap[w.heap.size]? = some (.cells as_ T (0, 0))
  rb : W.heap[w.heap.size + 1]? = some (.cells #[.slice none 0 0, .slice none 0 0, .slice none 0 0, .int .i64 0] U (0, 0))
  ob : W.heap[w.heap.size + 2]? = some (.cells os U (0, 0))
theorem MkSt.next {w W W' : World} {as_ os : Array Value} {T U : TypeId} (h : MkSt w W as_ os T U) (hb : Below W.heap.size W W') : MkSt w W' as_ os T U := by
  have := h.lt
  exact ⟨h.bel.trans (hb.mono h.bel.size), Nat.lt_of_lt_of_le h.lt hb.size, (hb.block _ (by omega)).trans h.pb, (hb.block _ (by omega)).trans h.rb, (hb.block _ h.lt).trans h.ob⟩
theorem MkSt.set {w W : World} {as_ os : Array Value} {T U : TypeId} (h : MkSt w W as_ os T U) (o : Nat) (v : Value) : MkSt w (W.setCell ⟨w.heap.size + 2, o, none⟩ v) as_ (os.setIfInBounds o v) T U := by
  have := h.lt
  have hg : W.grownBy (W.setCell ⟨w.heap.size + 2, o, none⟩ v) (some (w.heap.size + 2)) := grown_setC
  refine ⟨h.bel.setCell (by show w.heap.size ≤ w.heap.size + 2; omega) _, by simpa using h.lt, (hg.block _ (by omega) (fun e => by injection e; omega)).trans h.pb, (hg.block _ (by omega) (fun e => by injection e; omega)).trans h.rb, ?_⟩
  simp [World.setCell, Array.getElem?_modify, h.ob]
theorem MkSt.start (w : World) (vs : Array Value) (T U : TypeId) : MkSt w (((w.alloc (.cells vs T)).alloc (.cells #[.slice none 0 0, .slice none 0 0, .slice none 0 0, .int .i64 0] U)).alloc (.cells #[.slice none 0 0, .slice none 0 0, .slice none 0 0, .int .i64 0] U)) vs #[.slice none 0 0, .slice none 0 0, .slice none 0 0, .int .i64 0] T U := by
  obtain ⟨W1, h1⟩ : ∃ W, W = w.alloc (.cells vs T) := ⟨_, rfl⟩
  obtain ⟨O, hO⟩ : ∃ O, O = Obj.cells #[.slice none 0 0, .slice none 0 0, .slice none 0 0, .int .i64 0] U := ⟨_, rfl⟩
  have s1 : W1.heap.size = w.heap.size + 1 := by rw [h1]; simp
  have s2 : (W1.alloc O).heap.size = w.heap.size + 2 := by simp [s1]
  have b2 : Below W1.heap.size W1 (W1.alloc O) := (Below.refl _ _).alloc (Nat.le_refl _) _
  have b3 : Below (W1.alloc O).heap.size (W1.alloc O) ((W1.alloc O).alloc O) := (Below.refl _ _).alloc (Nat.le_refl _) _
  have n1 : W1.heap[w.heap.size]? = some (.cells vs T) := by rw [h1]; exact heap_alloc_new w _
  have n2 : (W1.alloc O).heap[w.heap.size + 1]? = some O := by rw [← s1]; exact heap_alloc_new W1 _
  have n3 : ((W1.alloc O).alloc O).heap[w.heap.size + 2]? = some O := by rw [← s2]; exact heap_alloc_new _ _
  have bw : Below w.heap.size w W1 := by rw [h1]; exact (Below.refl _ _).alloc (Nat.le_refl _) _
  rw [← h1, ← hO]
  refine ⟨(bw.trans (b2.mono (by omega))).trans (b3.mono (by omega)), by simp [s1], ?_, ?_, ?_⟩
  · exact (b3.block _ (by omega)).trans ((b2.block _ (by omega)).trans n1)
  · rw [← hO]; exact (b3.block _ (by omega)).trans n2
  · rw [← hO]; exact n3

set_option maxRecDepth 8000 in
set_option maxHeartbeats 4000000 in
theorem toStore_any (p q r : Option Addr) (cp cq cr : Nat) (s : Sto) (w : World) (hin : InSto w p q r s) (hz : SzSto s) :
    Calls Tryz.prog 10 #[.agg #[.slice p s.cs.length cp, .slice q s.ts.length cq, .slice r s.ds.length cr, .int .i64 s.clk]] w fun e w' => (∃ gc gt gd, e = .returned (.agg #[.slice (some ⟨gc, 0, none⟩) s.cs.length s.cs.length, .slice (some ⟨gt, 0, none⟩) s.ts.length s.ts.length, .slice (some ⟨gd, 0, none⟩) s.ds.length s.ds.length, .int .i64 s.clk]) ∧ MadeSto w' w.heap.size gc gt gd s) ∧ Below w.heap.size w w' := by
  have M0 := MkSt.start w #[.slice p s.cs.length cp, .slice q s.ts.length cq, .slice r s.ds.length cr, .int .i64 s.clk] 26 33
  have HI : Hid (InSto w p q r s) := hin
  have HZ : Hid (SzSto s) := hz
  clear hin hz
  go_enter Tryz.func10, Tryz.ntmps10
  go_wp2_with fail
  generalize ((w.alloc _).alloc _).alloc _ = W0 at M0 ⊢
  have hw0 := M0.lt
  refine (toCollS_any p cp s.cs _ (HI.out.c.step M0.bel) HZ.out.c0 HZ.out.c1).mono ?_
  rintro e w1 ⟨⟨gc, rfl, hC⟩, hb⟩
  have M1 := M0.next hb
  have HC1 : Hid (MadeCs w1 (w.heap.size + 3) gc s.cs) := hC.mono (by omega)
  obtain ⟨p0, p1, p2, p3⟩ := fourTn M1.pb
  obtain ⟨o0, o1, o2, o3⟩ := fourTn M1.ob
  have z0 := softTn M1.ob 0
  have hlt := M1.lt
  have hlp : w.heap.size < w1.heap.size := by omega
  have M1' : MkSt w _ #[.slice p s.cs.length cp, .slice q s.ts.length cq, .slice r s.ds.length cr, .int .i64 s.clk] #[.slice (some ⟨gc, 0, none⟩) s.cs.length s.cs.length, .slice none 0 0, .slice none 0 0, .int .i64 0] 26 33 := M1.set 0 (.slice (some ⟨gc, 0, none⟩) s.cs.length s.cs.length)
  have HC1' : Hid (MadeCs _ (w.heap.size + 3) gc s.cs) := HC1.out.set (b := w.heap.size + 2) (o := 0) (v := .slice (some ⟨gc, 0, none⟩) s.cs.length s.cs.length) (by omega)
  have HTC : Hid (Calls _ _ _ _ _) := toTxnS_any q cq s.ts _ (HI.out.t.step M1'.bel) HZ.out.t0 HZ.out.t1
  have hm1 := M1'.lt
  clear hb M0 hC M1 HC1 hw0
  go_wp2_with fail
  refine HTC.out.mono ?_
  rintro e w2 ⟨⟨gt, rfl, hT⟩, hb⟩
  have M2 := M1'.next hb
  have HC2 : Hid (MadeCs w2 (w.heap.size + 3) gc s.cs) := HC1'.out.next hb
  have HT2 : Hid (MadeTn w2 (w.heap.size + 3) gt s.ts) := hT.mono (by omega)
  clear hb hT HC1' M1' HTC p0 p1 p2 p3 o0 o1 o2 o3 z0 hlt hlp hm1
  obtain ⟨p0, p1, p2, p3⟩ := fourTn M2.pb
  obtain ⟨o0, o1, o2, o3⟩ := fourTn M2.ob
  have z1 := softTn M2.ob 1
  have hlt := M2.lt
  have hlp : w.heap.size < w2.heap.size := by omega
  have M2' : MkSt w _ #[.slice p s.cs.length cp, .slice q s.ts.length cq, .slice r s.ds.length cr, .int .i64 s.clk] #[.slice (some ⟨gc, 0, none⟩) s.cs.length s.cs.length, .slice (some ⟨gt, 0, none⟩) s.ts.length s.ts.length, .slice none 0 0, .int .i64 0] 26 33 := M2.set 1 (.slice (some ⟨gt, 0, none⟩) s.ts.length s.ts.length)
  have HC2' : Hid (MadeCs _ (w.heap.size + 3) gc s.cs) := HC2.out.set (b := w.heap.size + 2) (o := 1) (v := .slice (some ⟨gt, 0, none⟩) s.ts.length s.ts.length) (by omega)
  have HT2' : Hid (MadeTn _ (w.heap.size + 3) gt s.ts) := HT2.out.set (b := w.heap.size + 2) (o := 1) (v := .slice (some ⟨gt, 0, none⟩) s.ts.length s.ts.length) (by omega)
  have HTD : Hid (Calls _ _ _ _ _) := toDoneS_any r cr s.ds _ (HI.out.d.step M2'.bel) HZ.out.d0 HZ.out.d1
  have hm2 := M2'.lt
  clear M2 HC2 HT2
  go_wp2_with fail
  refine HTD.out.mono ?_
  rintro e w3 ⟨⟨gd, rfl, hD⟩, hb⟩
  have M3 := M2'.next hb
  have HC3 : Hid (MadeCs w3 (w.heap.size + 3) gc s.cs) := HC2'.out.next hb
  have HT3 : Hid (MadeTn w3 (w.heap.size + 3) gt s.ts) := HT2'.out.next hb
  have HD3 : Hid (MadeDn w3 (w.heap.size + 3) gd s.ds) := hD.mono (by omega)
  clear hb hD HC2' HT2' M2' HTD p0 p1 p2 p3 o0 o1 o2 o3 z1 hlt hlp hm2
  obtain ⟨p0, p1, p2, p3⟩ := fourTn M3.pb
  obtain ⟨o0, o1, o2, o3⟩ := fourTn M3.ob
  obtain ⟨r0, r1, r2, r3⟩ := fourTn M3.rb
  have y0 := softTn M3.rb 0
  have y1 := softTn M3.rb 1
  have y2 := softTn M3.rb 2
  have y3 := softTn M3.rb 3
  have z2 := softTn M3.ob 2
  have z3 := softTn M3.ob 3
  have hlt := M3.lt
  have hlp : w.heap.size < w3.heap.size := by omega
  have hbw := M3.bel
  clear M3
  go_wp2_with fail
  refine bodyPost_ret (v := .agg #[.slice (some ⟨gc, 0, none⟩) s.cs.length s.cs.length, .slice (some ⟨gt, 0, none⟩) s.ts.length s.ts.length, .slice (some ⟨gd, 0, none⟩) s.ds.length s.ds.length, .int .i64 s.clk]) (by simp [results, Tryz.results10, go_sem, *]) rfl ⟨⟨gc, gt, gd, rfl, ?_⟩, ?_⟩
  · refine ⟨MadeCs.mono (base := w.heap.size + 3) ?_ (by omega), MadeTn.mono (base := w.heap.size + 3) ?_ (by omega), MadeDn.mono (base := w.heap.size + 3) ?_ (by omega)⟩
    · repeat (first | (with_reducible exact HC3.out) | (with_reducible refine MadeCs.set ?_ (by omega)))
    · repeat (first | (with_reducible exact HT3.out) | (with_reducible refine MadeTn.set ?_ (by omega)))
    · repeat (first | (with_reducible exact HD3.out) | (with_reducible refine madeDn_set ?_ (by omega)))
  · (repeat (first | (with_reducible exact Below.refl _ _) | (with_reducible assumption) | (with_reducible apply below_drewN) | (with_reducible apply Below.drew) | ((with_reducible refine Below.setCell ?_ ?_ _); rotate_left; focus (first | (simp; done) | (simp; omega) | omega)) | ((with_reducible refine Below.alloc ?_ ?_ _); rotate_left; focus (first | (simp; done) | (simp; omega) | omega))))

set_option maxRecDepth 4000 in
set_option maxHeartbeats 2000000 in
theorem eqStore_same (gc1 gt1 gd1 b1 gc2 gt2 gd2 b2 : Nat) (s : Sto) (w : World) (h1 : MadeSto w b1 gc1 gt1 gd1 s) (h2 : MadeSto w b2 gc2 gt2 gd2 s) (hz : SzSto s) :
    Calls Tryz.prog 12 #[.agg #[.slice (some ⟨gc1, 0, none⟩) s.cs.length s.cs.length, .slice (some ⟨gt1, 0, none⟩) s.ts.length s.ts.length, .slice (some ⟨gd1, 0, none⟩) s.ds.length s.ds.length, .int .i64 s.clk], .agg #[.slice (some ⟨gc2, 0, none⟩) s.cs.length s.cs.length, .slice (some ⟨gt2, 0, none⟩) s.ts.length s.ts.length, .slice (some ⟨gd2, 0, none⟩) s.ds.length s.ds.length, .int .i64 s.clk]] w fun e w' => e = .returned (.bool true) ∧ Below w.heap.size w w' := by
  have X0 := (BxTn.start w (.slice (some ⟨gc1, 0, none⟩) s.cs.length s.cs.length) (.slice (some ⟨gt1, 0, none⟩) s.ts.length s.ts.length) (.slice (some ⟨gd1, 0, none⟩) s.ds.length s.ds.length) (.int .i64 s.clk) 33).step ((Below.refl _ _).alloc (Nat.le_refl _) (.cells #[.slice (some ⟨gc2, 0, none⟩) s.cs.length s.cs.length, .slice (some ⟨gt2, 0, none⟩) s.ts.length s.ts.length, .slice (some ⟨gd2, 0, none⟩) s.ds.length s.ds.length, .int .i64 s.clk] 33))
  have Y0 := BxTn.start (w.alloc (.cells #[.slice (some ⟨gc1, 0, none⟩) s.cs.length s.cs.length, .slice (some ⟨gt1, 0, none⟩) s.ts.length s.ts.length, .slice (some ⟨gd1, 0, none⟩) s.ds.length s.ds.length, .int .i64 s.clk] 33)) (.slice (some ⟨gc2, 0, none⟩) s.cs.length s.cs.length) (.slice (some ⟨gt2, 0, none⟩) s.ts.length s.ts.length) (.slice (some ⟨gd2, 0, none⟩) s.ds.length s.ds.length) (.int .i64 s.clk) 33
  have HC : Hid (∀ W : World, Below w.heap.size w W → Calls _ _ _ W _) := fun W hW => eqCollS_same gc1 gc2 s.cs.length s.cs.length b1 b2 s.cs W (h1.c.next hW) (h2.c.next hW) hz.c0 hz.c1
  have HT : Hid (∀ W : World, Below w.heap.size w W → Calls _ _ _ W _) := fun W hW => eqTxnS_same gt1 gt2 s.ts.length s.ts.length b1 b2 s.ts W (h1.t.next hW) (h2.t.next hW) hz.t0 hz.t1
  have HD : Hid (∀ W : World, Below w.heap.size w W → Calls _ _ _ W _) := fun W hW => eqDoneS_same gd1 gd2 s.ds.length s.ds.length b1 b2 s.ds W (h1.d.next hW) (h2.d.next hW) hz.d0 hz.d1
  clear h1 h2 hz
  go_enter Tryz.func12, Tryz.ntmps12
  go_wp2_with fail
  refine (HC.out _ X0.bel).mono ?_
  rintro e w1 ⟨rfl, hb⟩
  have X1 := X0.step hb
  have Y1 := Y0.step hb
  clear hb X0 Y0 HC
  have x1 := X1.c1
  have y1 := Y1.c1
  rw [World.size_alloc] at y1
  go_wp2_with fail
  refine (HT.out _ X1.bel).mono ?_
  rintro e w2 ⟨rfl, hb⟩
  have X2 := X1.step hb
  have Y2 := Y1.step hb
  clear hb X1 Y1 HT x1 y1
  have x2 := X2.c2
  have y2 := Y2.c2
  rw [World.size_alloc] at y2
  go_wp2_with fail
  refine (HD.out _ X2.bel).mono ?_
  rintro e w3 ⟨rfl, hb⟩
  have X3 := X2.step hb
  have Y3 := Y2.step hb
  clear hb X2 Y2 HD x2 y2
  have x3 := X3.c3
  have y3 := Y3.c3
  rw [World.size_alloc] at y3
  have hbw := X3.bel
  clear X3 Y3
  go_wp2_with fail
  go_ret
  exact ⟨rfl, hbw⟩

end Go.Proofs.YtpfbepbmiillbaaGreatDoor.Tx
