/- The laws' own helpers on queries: what they answer. -/
import Derived.Test.YtbplmgmajmomcaaGreatDoorQryIQ
import Derived.Test.YtbplmgmajmomcaaGreatDoorRowDQ
import Derived.Test.YtbplmgmajmomcaaGreatDoorDefSQ
namespace Go.Proofs.YtbplmgmajmomcaaGreatDoor.Qr
open Go.RowKit
open Tr
set_option linter.unusedVariables false

/-- Where the rows of a query that comes in lie. -/
structure InQ (W : World) (af as_ ak : Option Addr) (q : Qry) : Prop where
  f : InCl W af q.f
  s : InD W as_ q.so
  k : InS W ak q.keep
theorem InQ.step {W W' : World} {af as_ ak : Option Addr} {q : Qry} (h : InQ W af as_ ak q) (hb : Below W.heap.size W W') : InQ W' af as_ ak q := ⟨h.f.step hb, h.s.step hb, h.k.step hb⟩
structure MaxQ (q : Qry) : Prop where
  f0 : q.f.length ≤ maxLen
  f1 : ∀ l ∈ q.f, maxC l
  s0 : q.so.length ≤ maxLen
  s1 : ∀ v ∈ q.so, maxPt v
  k0 : q.keep.length ≤ maxLen
  k1 : ∀ v ∈ q.keep, v.size ≤ maxLen
  h0 : q.hint.size ≤ maxLen

set_option maxRecDepth 4000 in
set_option maxHeartbeats 1000000 in
theorem szStringS_at (a : Option Addr) (cap : Nat) (l : List ByteArray) (c0 : Int) (w : World) (hin : InS w a l) (hl : l.length ≤ maxLen) (hs : ∀ v ∈ l, v.size ≤ maxLen) (h0 : 0 ≤ c0) (h1 : c0 ≤ 1048576) :
    Calls Tryz.prog 102 #[.slice a l.length cap, .int .i64 c0] w fun e w' => (∃ r : Int, e = .returned (.int .i64 r) ∧ (r < 0 ∨ (0 ≤ r ∧ r ≤ c0 ∧ l.length ≤ 1048576 ∧ ∀ v ∈ l, v.size ≤ 1048576))) ∧ Below w.heap.size w w' := by
  unfold maxLen at hl
  have HI : Hid _ := hin
  have HS : Hid _ := hs
  clear hin hs
  by_cases hbig : c0 < (l.length : Int)
  · have hneg : c0 - (l.length : Int) < 0 := by omega
    go_enter Tryz.func102, Tryz.ntmps102
    go_wp2_with fail
    go_ret
    exact ⟨⟨-1, rfl, .inl (by omega)⟩, Below.refl _ _⟩
  · have hpos0 : ¬ c0 - (l.length : Int) < 0 := by omega
    go_enter Tryz.func102, Tryz.ntmps102
    go_wp2_with fail
    go_loopw [1, 5] (fun u i wr => ∃ k : Nat, k ≤ l.length ∧ i = .int .i64 k ∧ ∃ c : Int, u = .int .i64 c ∧ 0 ≤ c ∧ c ≤ c0 ∧ (∀ v ∈ l.take k, v.size ≤ 1048576) ∧ wr = w) (fun _ i _ => l.length - (intOf i).toNat)
    case atStart => exact ⟨0, Nat.zero_le _, rfl, _, rfl, by omega, by omega, fun v hv => by simp at hv, rfl⟩
    case round =>
      obtain ⟨k, hk, rfl, c, rfl, hc0, hc1, hall, rfl⟩ := hrel
      have HA : Hid _ := hall
      clear hall
      by_cases hlt : k < l.length
      · rcases HI.out with h0 | ⟨b, off, rfl, hbl, hcell⟩
        · omega
        · have x0 := hcell k hlt
          have hsz := HS.out l[k] (List.getElem_mem _)
          unfold maxLen at hsz
          clear hcell
          by_cases hover : c < (l[k].size : Int)
          · have hneg : c - (l[k].size : Int) < 0 := by omega
            go_wp2_with fail
            go_ret
            exact ⟨⟨-1, rfl, .inl (by omega)⟩, Below.refl _ _⟩
          · have hpos : ¬ (c - (l[k].size : Int) < 0) := by omega
            go_wp2_with fail
            go_roundw
            case rel => exact ⟨k + 1, by omega, by go_num, c - l[k].size, rfl, by omega, by omega, take_allS _ l k hlt HA.out (by omega), trivial⟩
            case measure => simp [intOf]; omega
      · go_wp2_with fail
        go_ret
        exact ⟨⟨c, rfl, .inr ⟨hc0, by omega, by omega, by have := HA.out; rw [List.take_of_length_le (by omega)] at this; exact this⟩⟩, Below.refl _ _⟩

set_option maxRecDepth 4000 in
set_option maxHeartbeats 2000000 in
theorem szQuery_any (af as_ ak : Option Addr) (cf cs ck : Nat) (q : Qry) (w : World) (hin : InQ w af as_ ak q) (hm : MaxQ q) :
    Calls Tryz.prog 50 #[.agg #[.slice af q.f.length cf, .slice as_ q.so.length cs, .int .i64 q.skip, .int .i64 q.lim, .slice ak q.keep.length ck, .string q.hint], .int .i64 1048576] w fun e w' => (∃ r : Int, e = .returned (.int .i64 r) ∧ (r < 0 ∨ (0 ≤ r ∧ SzQ q))) ∧ Below w.heap.size w w' := by
  have X0 := Bx6.start w (.slice af q.f.length cf) (.slice as_ q.so.length cs) (.int .i64 q.skip) (.int .i64 q.lim) (.slice ak q.keep.length ck) (.string q.hint) 45
  have HIN : Hid (InQ w af as_ ak q) := hin
  have HM : Hid (MaxQ q) := hm
  have hhm : q.hint.size ≤ maxLen := hm.h0
  unfold maxLen at hhm
  clear hin hm
  go_enter Tryz.func50, Tryz.ntmps50
  go_wp2_with fail
  refine (szFilter_any af cf q.f 1048576 _ (HIN.out.step X0.bel).f HM.out.f0 HM.out.f1 (by omega) (by omega)).mono ?_
  rintro e w1 ⟨⟨r1, rfl, hr1⟩, hb⟩
  have X1 := X0.step hb
  have c1 := X1.c1
  have B1 := X1.bel
  clear hb X0
  rcases hr1 with hneg | ⟨p0, p1, p2, p3⟩
  · go_wp2_with fail
    go_ret
    exact ⟨⟨-1, rfl, .inl (by omega)⟩, B1⟩
  have hn1 : ¬ r1 < 0 := by omega
  have HP : Hid (∀ l ∈ q.f, szC l) := p3
  clear p3
  go_wp2_with fail
  refine (szPartS_any as_ cs q.so r1 _ (HIN.out.step X1.bel).s HM.out.s0 HM.out.s1 p0 (by omega)).mono ?_
  rintro e w2 ⟨⟨r2, rfl, hr2⟩, hb⟩
  have X2 := X1.step hb
  have c4 := X2.c4
  have c5 := X2.c5
  have B2 := X2.bel
  clear hb X1 c1 B1
  rcases hr2 with hneg | ⟨s0, s1, s2, s3⟩
  · go_wp2_with fail
    go_ret
    exact ⟨⟨-1, rfl, .inl (by omega)⟩, B2⟩
  have hn2 : ¬ r2 < 0 := by omega
  have HS : Hid (∀ v ∈ q.so, szPt v) := s3
  clear s3
  go_wp2_with fail
  refine (szStringS_at ak ck q.keep r2 _ (HIN.out.step X2.bel).k HM.out.k0 HM.out.k1 s0 (by omega)).mono ?_
  rintro e w3 ⟨⟨r3, rfl, hr3⟩, hb⟩
  have X3 := X2.step hb
  have c5 := X3.c5
  have B3 := X3.bel
  clear hb X2 c4 B2
  rcases hr3 with hneg | ⟨k0, k1, k2, k3⟩
  · go_wp2_with fail
    go_ret
    exact ⟨⟨-1, rfl, .inl (by omega)⟩, B3⟩
  have hn3 : ¬ r3 < 0 := by omega
  have HK : Hid (∀ v ∈ q.keep, v.size ≤ 1048576) := k3
  clear k3
  by_cases hh : r3 < (q.hint.size : Int)
  · have hneg : r3 - (q.hint.size : Int) < 0 := by omega
    go_wp2_with fail
    go_ret
    exact ⟨⟨-1, rfl, .inl (by omega)⟩, B3⟩
  · have hneg : ¬ r3 - (q.hint.size : Int) < 0 := by omega
    go_wp2_with fail
    go_ret
    exact ⟨⟨r3 - (q.hint.size : Int), rfl, .inr ⟨by omega, ⟨p2, HP.out, s2, HS.out, k2, HK.out, by omega⟩⟩⟩, B3⟩

theorem madeC_next {w w' : World} {base g : Nat} {f : List (List Trm)} (h : MadeC w base g f) (hb : Below w.heap.size w w') : MadeC w' base g f :=
  ⟨h.ge, Nat.lt_of_lt_of_le h.lt hb.size, fun i hi => by
    obtain ⟨gi, cap, h1, h2, h3⟩ := h.cells i hi
    exact ⟨gi, cap, (hb.cell h.lt).trans h1, h2, h3.next hb⟩⟩
theorem madeC_mono {w : World} {base base' g : Nat} {f : List (List Trm)} (h : MadeC w base g f) (hb : base' ≤ base) : MadeC w base' g f :=
  ⟨Nat.le_trans hb h.ge, h.lt, fun i hi => by
    obtain ⟨gi, cap, h1, h2, h3⟩ := h.cells i hi
    exact ⟨gi, cap, h1, Nat.le_trans hb h2, h3⟩⟩
set_option maxRecDepth 4000 in
set_option maxHeartbeats 1000000 in
theorem toFilter_made (a : Option Addr) (cap : Nat) (f : List (List Trm)) (w : World) (hin : InCl w a f) (hlen : f.length ≤ 1048576) (hs : ∀ l ∈ f, l.length ≤ 1048576) :
    Calls Tryz.prog 109 #[.agg #[.slice a f.length cap]] w fun e w' => (∃ g, e = .returned (.agg #[.slice (some ⟨g, 0, none⟩) f.length f.length]) ∧ MadeC w' w.heap.size g f) ∧ Below w.heap.size w w' := by
  have hb0 : Below w.heap.size w (((w.alloc (.cells #[.slice a f.length cap] 41)).alloc (.cells #[.slice none 0 0] 56)).alloc (.cells #[.slice none 0 0] 56)) := (((Below.refl _ _).alloc (Nat.le_refl _) _).alloc (by simp) _).alloc (by simp; omega) _
  have HC : Hid (Calls _ _ _ _ _) := toClauseS_any a cap f _ (hin.step hb0) hlen hs
  clear hin hs
  go_enter Tryz.func109, Tryz.ntmps109
  go_wp2_with fail
  refine HC.out.mono ?_
  rintro e w1 ⟨⟨g, rfl, hR⟩, hb⟩
  obtain ⟨hc, hf⟩ := Go.Proofs.YtbplmgmajmomcaaGreatDoor.bcell hb
  have hz : w.heap.size + 2 < w1.heap.size := by have := hb.size; simp at this; omega
  have hbw : Below w.heap.size w w1 := hb0.trans (hb.mono (by simp; omega))
  simp at hR
  have HR : Hid (MadeC _ _ _ _) := hR
  clear hb HC hR hb0
  go_wp2_with fail
  refine bodyPost_ret (v := .agg #[.slice (some ⟨g, 0, none⟩) f.length f.length]) (by simp [results, Tryz.results109, go_sem, *]) rfl ⟨⟨g, rfl, ?_⟩, ?_⟩
  · exact madeC_mono ((HR.out.set (by omega)).set (by omega)) (by omega)
  · (repeat (first | (with_reducible exact Below.refl _ _) | (with_reducible assumption) | (with_reducible apply below_drewN) | (with_reducible apply Below.drew) | ((with_reducible refine Below.setCell ?_ ?_ _); rotate_left; focus (first | (simp; done) | (simp; omega) | omega)) | ((with_reducible refine Below.alloc ?_ ?_ _); rotate_left; focus (first | (simp; done) | (simp; omega) | omega))))

theorem size_alloc (w : World) (o : Obj) : (w.alloc o).heap.size = w.heap.size + 1 := by simp
theorem six {W : World} {b : Nat} {T : TypeId} {v0 v1 v2 v3 v4 v5 : Value} (h : W.heap[b]? = some (.cells #[v0, v1, v2, v3, v4, v5] T)) :
    W.cell? ⟨b, 0, none⟩ = some v0 ∧ W.cell? ⟨b, 1, none⟩ = some v1 ∧ W.cell? ⟨b, 2, none⟩ = some v2 ∧ W.cell? ⟨b, 3, none⟩ = some v3 ∧ W.cell? ⟨b, 4, none⟩ = some v4 ∧ W.cell? ⟨b, 5, none⟩ = some v5 := by
  refine ⟨?_, ?_, ?_, ?_, ?_, ?_⟩ <;> simp [World.cell?, h]
theorem soft {W : World} {b : Nat} {T : TypeId} {vs : Array Value} (h : W.heap[b]? = some (.cells vs T)) (o : Nat) : W.frozen? ⟨b, o, none⟩ = false := by simp [World.frozen?, h]
/-- The three blocks of toQuery: what came in, the answer, what is made. -/
structure MkQ (w W : World) (as_ os : Array Value) (T U : TypeId) : Prop where
  bel : Below w.heap.size w W
  lt : w.heap.size + 2 < W.heap.size
  pb : W.heap[w.heap.size]? = some (.cells as_ T)
  rb : W.heap[w.heap.size + 1]? = some (.cells #[.slice none 0 0, .slice none 0 0, .int .i64 0, .int .i64 0, .slice none 0 0, .string em] U)
  ob : W.heap[w.heap.size + 2]? = some (.cells os U)
theorem MkQ.next {w W W' : World} {as_ os : Array Value} {T U : TypeId} (h : MkQ w W as_ os T U) (hb : Below W.heap.size W W') : MkQ w W' as_ os T U := by
  have := h.lt
  exact ⟨h.bel.trans (hb.mono h.bel.size), Nat.lt_of_lt_of_le h.lt hb.size, (hb.block _ (by omega)).trans h.pb, (hb.block _ (by omega)).trans h.rb, (hb.block _ h.lt).trans h.ob⟩
theorem MkQ.set {w W : World} {as_ os : Array Value} {T U : TypeId} (h : MkQ w W as_ os T U) (o : Nat) (v : Value) : MkQ w (W.setCell ⟨w.heap.size + 2, o, none⟩ v) as_ (os.setIfInBounds o v) T U := by
  have := h.lt
  have hg : W.grownBy (W.setCell ⟨w.heap.size + 2, o, none⟩ v) (some (w.heap.size + 2)) := Tr.grown_set
  refine ⟨h.bel.setCell (by show w.heap.size ≤ w.heap.size + 2; omega) _, by simpa using h.lt, (hg.block _ (by omega) (fun e => by injection e; omega)).trans h.pb, (hg.block _ (by omega) (fun e => by injection e; omega)).trans h.rb, ?_⟩
  simp [World.setCell, Array.getElem?_modify, h.ob]
theorem MkQ.start (w : World) (a0 a1 a2 a3 a4 a5 : Value) (T U : TypeId) : MkQ w (((w.alloc (.cells #[a0, a1, a2, a3, a4, a5] T)).alloc (.cells #[.slice none 0 0, .slice none 0 0, .int .i64 0, .int .i64 0, .slice none 0 0, .string em] U)).alloc (.cells #[.slice none 0 0, .slice none 0 0, .int .i64 0, .int .i64 0, .slice none 0 0, .string em] U)) #[a0, a1, a2, a3, a4, a5] #[.slice none 0 0, .slice none 0 0, .int .i64 0, .int .i64 0, .slice none 0 0, .string em] T U := by
  obtain ⟨W1, h1⟩ : ∃ W, W = w.alloc (.cells #[a0, a1, a2, a3, a4, a5] T) := ⟨_, rfl⟩
  obtain ⟨O, hO⟩ : ∃ O, O = Obj.cells #[.slice none 0 0, .slice none 0 0, .int .i64 0, .int .i64 0, .slice none 0 0, .string em] U := ⟨_, rfl⟩
  have s1 : W1.heap.size = w.heap.size + 1 := by rw [h1]; simp
  have s2 : (W1.alloc O).heap.size = w.heap.size + 2 := by simp [s1]
  have b2 : Below W1.heap.size W1 (W1.alloc O) := (Below.refl _ _).alloc (Nat.le_refl _) _
  have b3 : Below (W1.alloc O).heap.size (W1.alloc O) ((W1.alloc O).alloc O) := (Below.refl _ _).alloc (Nat.le_refl _) _
  have n1 : W1.heap[w.heap.size]? = some (.cells #[a0, a1, a2, a3, a4, a5] T) := by rw [h1]; exact heap_alloc_new w _
  have n2 : (W1.alloc O).heap[w.heap.size + 1]? = some O := by rw [← s1]; exact heap_alloc_new W1 _
  have n3 : ((W1.alloc O).alloc O).heap[w.heap.size + 2]? = some O := by rw [← s2]; exact heap_alloc_new _ _
  have bw : Below w.heap.size w W1 := by rw [h1]; exact (Below.refl _ _).alloc (Nat.le_refl _) _
  rw [← h1, ← hO]
  refine ⟨(bw.trans (b2.mono (by omega))).trans (b3.mono (by omega)), by simp [s1], ?_, ?_, ?_⟩
  · exact (b3.block _ (by omega)).trans ((b2.block _ (by omega)).trans n1)
  · rw [← hO]; exact (b3.block _ (by omega)).trans n2
  · rw [← hO]; exact n3
theorem readS_set {w : World} {g b o : Nat} {v : Value} {l : List ByteArray} (h : ReadS w g 0 l) (hne : g ≠ b) : ReadS (w.setCell ⟨b, o, none⟩ v) g 0 l :=
  have hg : w.grownBy (w.setCell ⟨b, o, none⟩ v) (some b) := Tr.grown_set
  ⟨Nat.lt_of_lt_of_le h.lt hg.size, fun i hi => (World.cell?_of_block (hg.block g h.lt (fun e => hne (Option.some.inj e)))).trans (h.cells i hi)⟩
theorem ownD_set {w : World} {base b o : Nat} {v u : Value} {l : List Prt} (h : OwnD w base u l) (hb : b < base) : OwnD (w.setCell ⟨b, o, none⟩ v) base u l := by
  refine World.ownsRow.kept h Tr.grown_set ?_
  by_cases hn : u.ownBlock = none
  · exact .inl hn
  · right
    intro e
    have := (World.ownsRow.lt h b e).1
    omega

set_option maxRecDepth 8000 in
set_option maxHeartbeats 4000000 in
theorem toQuery_any (af as_ ak : Option Addr) (cf cs ck : Nat) (q : Qry) (w : World) (hin : InQ w af as_ ak q) (hz : SzQ q) :
    Calls Tryz.prog 60 #[.agg #[.slice af q.f.length cf, .slice as_ q.so.length cs, .int .i64 q.skip, .int .i64 q.lim, .slice ak q.keep.length ck, .string q.hint]] w fun e w' => (∃ gf gs gk, e = .returned (.agg #[.slice (some ⟨gf, 0, none⟩) q.f.length q.f.length, .slice (some ⟨gs, 0, none⟩) q.so.length q.so.length, .int .i64 q.skip, .int .i64 q.lim, .slice (some ⟨gk, 0, none⟩) q.keep.length q.keep.length, .string q.hint]) ∧ RdQ w' (some ⟨gf, 0, none⟩) (some ⟨gs, 0, none⟩) gk q) ∧ Below w.heap.size w w' := by
  have M0 := MkQ.start w (.slice af q.f.length cf) (.slice as_ q.so.length cs) (.int .i64 q.skip) (.int .i64 q.lim) (.slice ak q.keep.length ck) (.string q.hint) 45 59
  have HIN : Hid (InQ w af as_ ak q) := hin
  have HZ : Hid (SzQ q) := hz
  clear hin hz
  go_enter Tryz.func60, Tryz.ntmps60
  go_wp2_with fail
  refine (toFilter_made af cf q.f _ (HIN.out.step M0.bel).f HZ.out.f0 (fun l hl => (HZ.out.f1 l hl).1)).mono ?_
  rintro e w1 ⟨⟨gf, rfl, hM1⟩, hb⟩
  have M1 := M0.next hb
  have hbase1 : w.heap.size + 3 ≤ (((w.alloc (.cells #[.slice af q.f.length cf, .slice as_ q.so.length cs, .int .i64 q.skip, .int .i64 q.lim, .slice ak q.keep.length ck, .string q.hint] 45)).alloc (.cells #[.slice none 0 0, .slice none 0 0, .int .i64 0, .int .i64 0, .slice none 0 0, .string em] 59)).alloc (.cells #[.slice none 0 0, .slice none 0 0, .int .i64 0, .int .i64 0, .slice none 0 0, .string em] 59)).heap.size := by simp
  have HF1 : Hid (MadeC _ _ _ _) := madeC_mono hM1 hbase1
  obtain ⟨p0, p1, p2, p3, p4, p5⟩ := six M1.pb
  obtain ⟨o0, o1, o2, o3, o4, o5⟩ := six M1.ob
  have z0 := soft M1.ob 0
  have z1 := soft M1.ob 1
  have z2 := soft M1.ob 2
  have z3 := soft M1.ob 3
  have z4 := soft M1.ob 4
  have z5 := soft M1.ob 5
  have hlt := M1.lt
  have hlp : w.heap.size < w1.heap.size := by omega
  have M1' := M1.set 0 (.slice (some ⟨gf, 0, none⟩) q.f.length q.f.length)
  have HF1' : Hid (MadeC _ _ _ _) := HF1.out.set (b := w.heap.size + 2) (o := 0) (v := .slice (some ⟨gf, 0, none⟩) q.f.length q.f.length) (by omega)
  clear hb M0 hM1 hbase1 M1 HF1
  go_wp2_with fail
  refine (toPartS_any as_ cs q.so _ (HIN.out.step M1'.bel).s HZ.out.s0).mono ?_
  rintro e w2 ⟨⟨gs, rfl, hO2⟩, hb⟩
  have M2 := M1'.next hb
  have HF2 : Hid (MadeC _ _ _ _) := madeC_next HF1'.out hb
  have hO2' := owns_mono hO2 (base' := w.heap.size + 3) (by have := M1'.lt; omega)
  clear hb hO2 HF1' M1' p0 p1 p2 p3 p4 p5 o0 o1 o2 o3 o4 o5 z0 z1 z2 z3 z4 z5 hlt hlp
  obtain ⟨p0, p1, p2, p3, p4, p5⟩ := six M2.pb
  obtain ⟨o0, o1, o2, o3, o4, o5⟩ := six (show w2.heap[w.heap.size + 2]? = some (.cells #[.slice (some ⟨gf, 0, none⟩) q.f.length q.f.length, .slice none 0 0, .int .i64 0, .int .i64 0, .slice none 0 0, .string em] _) from M2.ob)
  have z0 := soft M2.ob 0
  have z1 := soft M2.ob 1
  have z2 := soft M2.ob 2
  have z3 := soft M2.ob 3
  have z4 := soft M2.ob 4
  have z5 := soft M2.ob 5
  have hlt := M2.lt
  have hlp : w.heap.size < w2.heap.size := by omega
  have M2' := ((M2.set 1 (.slice (some ⟨gs, 0, none⟩) q.so.length q.so.length)).set 2 (.int .i64 q.skip)).set 3 (.int .i64 q.lim)
  have HF2' : Hid (MadeC _ _ _ _) := ((HF2.out.set (b := w.heap.size + 2) (o := 1) (v := .slice (some ⟨gs, 0, none⟩) q.so.length q.so.length) (by omega)).set (b := w.heap.size + 2) (o := 2) (v := .int .i64 q.skip) (by omega)).set (b := w.heap.size + 2) (o := 3) (v := .int .i64 q.lim) (by omega)
  have HO2' : Hid (OwnD _ _ _ _) := ownD_set (b := w.heap.size + 2) (o := 3) (v := .int .i64 q.lim) (ownD_set (b := w.heap.size + 2) (o := 2) (v := .int .i64 q.skip) (ownD_set (b := w.heap.size + 2) (o := 1) (v := .slice (some ⟨gs, 0, none⟩) q.so.length q.so.length) hO2' (by omega)) (by omega)) (by omega)
  clear M2 HF2 hO2'
  go_wp2_with fail
  refine (toStringS_any ak ck q.keep _ (HIN.out.step M2'.bel).k HZ.out.k0).mono ?_
  rintro e w3 ⟨⟨gk, rfl, hg3, hR3⟩, hb⟩
  have M3 := M2'.next hb
  have HF3 : Hid (MadeC _ _ _ _) := madeC_next HF2'.out hb
  have HO3 : Hid (OwnD _ _ _ _) := owns_below HO2'.out hb
  have HK3 : Hid (ReadS _ _ _ _) := hR3
  have hgk : w.heap.size + 3 ≤ gk := by have := M2'.lt; omega
  clear hb hR3 hg3 HF2' HO2' M2' p0 p1 p2 p3 p4 p5 o0 o1 o2 o3 o4 o5 z0 z1 z2 z3 z4 z5 hlt hlp
  obtain ⟨p0, p1, p2, p3, p4, p5⟩ := six M3.pb
  obtain ⟨o0, o1, o2, o3, o4, o5⟩ := six (show w3.heap[w.heap.size + 2]? = some (.cells #[.slice (some ⟨gf, 0, none⟩) q.f.length q.f.length, .slice (some ⟨gs, 0, none⟩) q.so.length q.so.length, .int .i64 q.skip, .int .i64 q.lim, .slice none 0 0, .string em] _) from M3.ob)
  obtain ⟨r0, r1, r2, r3, r4, r5⟩ := six M3.rb
  have y0 := soft M3.rb 0
  have y1 := soft M3.rb 1
  have y2 := soft M3.rb 2
  have y3 := soft M3.rb 3
  have y4 := soft M3.rb 4
  have y5 := soft M3.rb 5
  have z4 := soft M3.ob 4
  have z5 := soft M3.ob 5
  have hlt := M3.lt
  have hlp : w.heap.size < w3.heap.size := by omega
  have hbw := M3.bel
  clear M3
  go_wp2_with fail
  refine bodyPost_ret (v := .agg #[.slice (some ⟨gf, 0, none⟩) q.f.length q.f.length, .slice (some ⟨gs, 0, none⟩) q.so.length q.so.length, .int .i64 q.skip, .int .i64 q.lim, .slice (some ⟨gk, 0, none⟩) q.keep.length q.keep.length, .string q.hint]) (by simp [results, Tryz.results60, go_sem, *]) rfl ⟨⟨gf, gs, gk, rfl, ?_⟩, ?_⟩
  · refine ⟨.inr ⟨gf, rfl, MadeC.read (base := w.heap.size + 3) ?_⟩, OwnD.rowD (base := w.heap.size + 3) (n := q.so.length) (cap := q.so.length) ?_ rfl, ?_⟩
    · repeat (first | (with_reducible exact HF3.out) | (with_reducible refine MadeC.set ?_ (by omega)))
    · repeat (first | (with_reducible exact HO3.out) | (with_reducible refine ownD_set ?_ (by omega)))
    · repeat (first | (with_reducible exact HK3.out) | (with_reducible refine readS_set ?_ (by omega)))
  · (repeat (first | (with_reducible exact Below.refl _ _) | (with_reducible assumption) | (with_reducible apply below_drewN) | (with_reducible apply Below.drew) | ((with_reducible refine Below.setCell ?_ ?_ _); rotate_left; focus (first | (simp; done) | (simp; omega) | omega)) | ((with_reducible refine Below.alloc ?_ ?_ _); rotate_left; focus (first | (simp; done) | (simp; omega) | omega))))

set_option maxRecDepth 4000 in
set_option maxHeartbeats 2000000 in
theorem eqQuery_same (pf ps pf' ps' : Option Addr) (gk gk' cf cs ck cf' cs' ck' : Nat) (q : Qry) (w : World) (h1 : RdQ w pf ps gk q) (h2 : RdQ w pf' ps' gk' q) (hi1 : InD w ps q.so) (hi2 : InD w ps' q.so) (hz : SzQ q) :
    Calls Tryz.prog 67 #[.agg #[.slice pf q.f.length cf, .slice ps q.so.length cs, .int .i64 q.skip, .int .i64 q.lim, .slice (some ⟨gk, 0, none⟩) q.keep.length ck, .string q.hint], .agg #[.slice pf' q.f.length cf', .slice ps' q.so.length cs', .int .i64 q.skip, .int .i64 q.lim, .slice (some ⟨gk', 0, none⟩) q.keep.length ck', .string q.hint]] w fun e w' => e = .returned (.bool true) ∧ Below w.heap.size w w' := by
  have X0 := (Bx6.start w (.slice pf q.f.length cf) (.slice ps q.so.length cs) (.int .i64 q.skip) (.int .i64 q.lim) (.slice (some ⟨gk, 0, none⟩) q.keep.length ck) (.string q.hint) 59).step ((Below.refl _ _).alloc (Nat.le_refl _) (.cells #[.slice pf' q.f.length cf', .slice ps' q.so.length cs', .int .i64 q.skip, .int .i64 q.lim, .slice (some ⟨gk', 0, none⟩) q.keep.length ck', .string q.hint] 59))
  have Y0 := Bx6.start (w.alloc (.cells #[.slice pf q.f.length cf, .slice ps q.so.length cs, .int .i64 q.skip, .int .i64 q.lim, .slice (some ⟨gk, 0, none⟩) q.keep.length ck, .string q.hint] 59)) (.slice pf' q.f.length cf') (.slice ps' q.so.length cs') (.int .i64 q.skip) (.int .i64 q.lim) (.slice (some ⟨gk', 0, none⟩) q.keep.length ck') (.string q.hint) 59
  have HF : Hid (∀ W : World, Below w.heap.size w W → Calls _ _ _ W _) := fun W hW => eqFilter_same pf pf' cf cf' q.f W (h1.next hW).f (h2.next hW).f hz.f0 (fun l hl => (hz.f1 l hl).1)
  have HS : Hid (∀ W : World, Below w.heap.size w W → Calls _ _ _ W _) := fun W hW => eqPartS_same ps ps' cs cs' q.so W (hi1.step hW) (hi2.step hW) hz.s0
  have HK : Hid (∀ W : World, Below w.heap.size w W → Calls _ _ _ W _) := fun W hW => eqStringS_same gk ck gk' ck' q.keep W (h1.next hW).k (h2.next hW).k hz.k0
  clear h1 h2 hi1 hi2 hz
  go_enter Tryz.func67, Tryz.ntmps67
  go_wp2_with fail
  refine (HF.out _ X0.bel).mono ?_
  rintro e w1 ⟨rfl, hb⟩
  have X1 := X0.step hb
  have Y1 := Y0.step hb
  clear hb X0 Y0 HF
  have c1 := X1.c1
  have d1 := Y1.c1
  rw [size_alloc] at d1
  go_wp2_with fail
  refine (HS.out _ X1.bel).mono ?_
  rintro e w2 ⟨rfl, hb⟩
  have X2 := X1.step hb
  have Y2 := Y1.step hb
  clear hb X1 Y1 HS c1 d1
  have c2 := X2.c2
  have d2 := Y2.c2
  have c3 := X2.c3
  have d3 := Y2.c3
  have c4 := X2.c4
  have d4 := Y2.c4
  rw [size_alloc] at d2 d3 d4
  go_wp2_with fail
  refine (HK.out _ X2.bel).mono ?_
  rintro e w3 ⟨rfl, hb⟩
  have X3 := X2.step hb
  have Y3 := Y2.step hb
  clear hb X2 Y2 HK c2 d2 c3 d3 c4 d4
  have c5 := X3.c5
  have d5 := Y3.c5
  rw [size_alloc] at d5
  have hbw := X3.bel
  go_wp2_with fail
  go_ret
  exact ⟨rfl, hbw⟩
end Go.Proofs.YtbplmgmajmomcaaGreatDoor.Qr
