/- Replies: their sizes, one made, that one equals itself, and whether two are the same, on both sides. -/
import Derived.Test.YtpfbepbmiillbaaRowV
import Derived.BigQuiet
import Derived.Deep.RegionHeld3
namespace Go.Proofs.Ytpfbepbmiillbaa.Rp
open Go.RowKit
set_option linter.unusedVariables false

theorem ret_b {a b : Bool} (h : a = b) : Ending.returned (.bool a) = .returned (.bool b) := by rw [h]
theorem grown_setR {w : World} {g o : Nat} {v : Value} : w.grownBy (w.setCell ⟨g, o, none⟩ v) (some g) := by
  refine ⟨rfl, rfl, rfl, by simp [World.setCell], ?_⟩
  intro k hk hne
  have : g ≠ k := fun e => hne (by rw [e])
  simp [World.setCell, Array.getElem?_modify, this]
/-- A reply. -/
structure Rpl where
  code : Int
  ds : List Val
  n : Int
def vEq (a b : Val) : Bool := a.k == b.k && (a.n == b.n && a.t.toList == b.t.toList)
def lEq : List Val → List Val → Bool
  | [], [] => true
  | x :: l, y :: m => vEq x y && lEq l m
  | _, _ => false
/-- Are two replies the same. -/
def rEq (a b : Rpl) : Bool := decide (a.code = b.code) && (decide (a.n = b.n) && (decide (a.ds.length = b.ds.length) && lEq a.ds b.ds))
def sameB (a b : Rpl) : Bool := decide (a.ds.length ≤ 4096) && (decide (b.ds.length ≤ 4096) && rEq a b)
theorem lEq_step (l m : List Val) (k : Nat) (h1 : k < l.length) (h2 : k < m.length) : lEq (l.drop k) (m.drop k) = (vEq l[k] m[k] && lEq (l.drop (k + 1)) (m.drop (k + 1))) := by
  rw [List.drop_eq_getElem_cons h1, List.drop_eq_getElem_cons h2]; rfl
theorem lEq_end (l m : List Val) (k : Nat) (h1 : l.length ≤ k) (h2 : m.length ≤ k) : lEq (l.drop k) (m.drop k) = true := by
  rw [List.drop_of_length_le h1, List.drop_of_length_le h2]; rfl
theorem vEq_ways (a b : Val) : (vEq a b = true ∧ (a.k == b.k) = true ∧ (a.n == b.n) = true ∧ (a.t.toList == b.t.toList) = true) ∨ (vEq a b = false ∧ ((a.k == b.k) = false ∨ ((a.k == b.k) = true ∧ (a.n == b.n) = false) ∨ ((a.k == b.k) = true ∧ (a.n == b.n) = true ∧ (a.t.toList == b.t.toList) = false))) := by
  unfold vEq
  cases (a.k == b.k) <;> cases (a.n == b.n) <;> cases (a.t.toList == b.t.toList) <;> simp
theorem readV_set {w : World} {g b o : Nat} {v : Value} {l : List Val} (h : ReadV w g l) (hne : g ≠ b) : ReadV (w.setCell ⟨b, o, none⟩ v) g l := by
  have hg : w.grownBy (w.setCell ⟨b, o, none⟩ v) (some b) := grown_setR
  have hn : some g ≠ some b := fun e => hne (by injection e)
  have hk : ∀ o, (w.setCell ⟨b, _, none⟩ v).cell? ⟨g, o, none⟩ = w.cell? ⟨g, o, none⟩ := fun o => World.cell?_of_block (hg.block g h.lt hn)
  exact ⟨Nat.lt_of_lt_of_le h.lt hg.size, fun i hi => ⟨(hk _).trans (h.cells i hi).1, (hk _).trans (h.cells i hi).2.1, (hk _).trans (h.cells i hi).2.2⟩⟩
theorem threeR {W : World} {b : Nat} {T : TypeId} {v0 v1 v2 : Value} (h : W.heap[b]? = some (.cells #[v0, v1, v2] T)) :
    W.cell? ⟨b, 0, none⟩ = some v0 ∧ W.cell? ⟨b, 1, none⟩ = some v1 ∧ W.cell? ⟨b, 2, none⟩ = some v2 := by
  refine ⟨?_, ?_, ?_⟩ <;> simp [World.cell?, h]
theorem softR {W : World} {b : Nat} {T : TypeId} {vs : Array Value} (h : W.heap[b]? = some (.cells vs T)) (o : Nat) : W.frozen? ⟨b, o, none⟩ = false := by simp [World.frozen?, h]
theorem alloc_newR (w : World) (o : Obj) : (w.alloc o).heap[w.heap.size]? = some o := heap_alloc_new w o

set_option maxRecDepth 4000 in
set_option maxHeartbeats 1000000 in
theorem szValueS_at (a : Option Addr) (cap : Nat) (l : List Val) (c0 : Int) (w : World) (hin : InV w a l) (hl : l.length ≤ maxLen) (hs : ∀ v ∈ l, v.t.size ≤ maxLen) (h0 : 0 ≤ c0) (h1 : c0 ≤ 1048576) :
    Calls Try.prog 9 #[.slice a l.length cap, .int .i64 c0] w fun e w' => (∃ r : Int, e = .returned (.int .i64 r) ∧ (r < 0 ∨ (0 ≤ r ∧ r ≤ c0 ∧ l.length ≤ 1048576 ∧ ∀ v ∈ l, v.t.size ≤ 1048576))) ∧ Below w.heap.size w w' := by
  unfold maxLen at hl
  have HI : Hid _ := hin
  have HS : Hid _ := hs
  clear hin hs
  by_cases hbig : c0 < (l.length : Int)
  · go_enter Try.func9, Try.ntmps9
    go_wp2_with fail
    go_ret
    exact ⟨⟨-1, rfl, .inl (by omega)⟩, Below.refl _ _⟩
  · go_enter Try.func9, Try.ntmps9
    go_wp2_with fail
    go_loopw [1, 5] (fun u i wr => ∃ k : Nat, k ≤ l.length ∧ i = .int .i64 k ∧ ∃ c : Int, u = .int .i64 c ∧ 0 ≤ c ∧ c ≤ c0 ∧ (∀ v ∈ l.take k, v.t.size ≤ 1048576) ∧ Below w.heap.size w wr) (fun _ i _ => l.length - (intOf i).toNat)
    case atStart => exact ⟨0, Nat.zero_le _, rfl, _, rfl, by omega, by omega, fun v hv => by simp at hv, Below.refl _ _⟩
    case round =>
      obtain ⟨k, hk, rfl, c, rfl, hc0, hc1, hall, hbel⟩ := hrel
      have HA : Hid _ := hall
      clear hall
      by_cases hlt : k < l.length
      · rcases HI.out with h0 | ⟨b, off, rfl, hbl, hcell⟩
        · omega
        · have x0 := (hbel.cell hbl).trans (hcell k hlt).1
          have x1 := (hbel.cell hbl).trans (hcell k hlt).2.1
          have x2 := (hbel.cell hbl).trans (hcell k hlt).2.2
          have hsz := HS.out l[k] (List.getElem_mem _)
          clear hcell
          by_cases hover : c < (l[k].t.size : Int)
          · go_wp2_with (go_at_call 14; refine (szValue_any _ _ _ c _ hsz hc0 (by omega)).mono ?_; rintro e w1 ⟨rfl, hb⟩; rw [if_pos hover])
            go_ret
            exact ⟨⟨-1, rfl, .inl (by omega)⟩, hbel.trans (hb.mono hbel.size)⟩
          · have hpos : ¬ (c - (l[k].t.size : Int) < 0) := by omega
            have hnn : (0 : Int) ≤ (l[k].t.size : Int) := by omega
            have hsz2 : l[k].t.size ≤ 1048576 := by omega
            have hcc : c ≤ 1048576 := by omega
            go_wp2_with (go_at_call 14; refine (szValue_any _ _ _ c _ hsz hc0 hcc).mono ?_; rintro e w1 ⟨rfl, hb⟩; rw [if_neg hover])
            go_roundw
            case rel => exact ⟨k + 1, by omega, by go_num, c - l[k].t.size, rfl, by omega, by omega, take_all _ l k hlt HA.out hsz2, hbel.trans (hb.mono hbel.size)⟩
            case measure => simp [intOf]; omega
      · go_wp2_with fail
        go_ret
        exact ⟨⟨c, rfl, .inr ⟨hc0, hc1, by omega, by have := HA.out; rw [List.take_of_length_le (by omega)] at this; exact this⟩⟩, hbel⟩

set_option maxRecDepth 4000 in
set_option maxHeartbeats 1000000 in
theorem szReply_any (p : Option Addr) (cp : Nat) (x : Rpl) (c0 : Int) (w : World) (hin : InV w p x.ds) (hl : x.ds.length ≤ maxLen) (hs : ∀ v ∈ x.ds, v.t.size ≤ maxLen) (h0 : 0 ≤ c0) (h1 : c0 ≤ 1048576) :
    Calls Try.prog 4 #[.agg #[.int .i64 x.code, .slice p x.ds.length cp, .int .i64 x.n], .int .i64 c0] w fun e w' => (∃ r : Int, e = .returned (.int .i64 r) ∧ (r < 0 ∨ (0 ≤ r ∧ r ≤ c0 ∧ x.ds.length ≤ 1048576 ∧ ∀ v ∈ x.ds, v.t.size ≤ 1048576))) ∧ Below w.heap.size w w' := by
  have X0 := Boxed.start w (.int .i64 x.code) (.slice p x.ds.length cp) (.int .i64 x.n) 24
  have HZ : Hid (Calls _ _ _ _ _) := szValueS_at p cp x.ds c0 _ (hin.step X0.bel) hl hs h0 h1
  clear hin hs
  go_enter Try.func4, Try.ntmps4
  go_wp2_with fail
  refine HZ.out.mono ?_
  rintro e w1 ⟨⟨r, rfl, hr⟩, hb⟩
  have B1 := (X0.step hb).bel
  clear hb X0 HZ
  rcases hr with hneg | ⟨q0, q1, q2, q3⟩
  · go_wp2_with fail
    go_ret
    exact ⟨⟨-1, rfl, .inl (by omega)⟩, B1⟩
  have hn1 : ¬ r < 0 := by omega
  have HP : Hid (∀ v ∈ x.ds, v.t.size ≤ 1048576) := q3
  clear q3
  go_wp2_with fail
  go_ret
  exact ⟨⟨r, rfl, .inr ⟨q0, q1, q2, HP.out⟩⟩, B1⟩

/-- The three blocks of toReply: what came in, the answer, what is made. -/
structure MkRp (w W : World) (as_ os : Array Value) (T U : TypeId) : Prop where
  bel : Below w.heap.size w W
  lt : w.heap.size + 2 < W.heap.size
  pb : W.heap[w.heap.size]? = some (.cells as_ T (0, 0))
  rb : W.heap[w.heap.size + 1]? = some (.cells #[.int .i64 0, .slice none 0 0, .int .i64 0] U (0, 0))
  ob : W.heap[w.heap.size + 2]? = some (.cells os U (0, 0))
theorem MkRp.next {w W W' : World} {as_ os : Array Value} {T U : TypeId} (h : MkRp w W as_ os T U) (hb : Below W.heap.size W W') : MkRp w W' as_ os T U := by
  have := h.lt
  exact ⟨h.bel.trans (hb.mono h.bel.size), Nat.lt_of_lt_of_le h.lt hb.size, (hb.block _ (by omega)).trans h.pb, (hb.block _ (by omega)).trans h.rb, (hb.block _ h.lt).trans h.ob⟩
theorem MkRp.start (w : World) (vs os : Array Value) (T U : TypeId) : MkRp w (((w.alloc (.cells vs T)).alloc (.cells #[.int .i64 0, .slice none 0 0, .int .i64 0] U)).alloc (.cells os U)) vs os T U := by
  obtain ⟨W1, h1⟩ : ∃ W, W = w.alloc (.cells vs T) := ⟨_, rfl⟩
  obtain ⟨O, hO⟩ : ∃ O, O = Obj.cells #[.int .i64 0, .slice none 0 0, .int .i64 0] U := ⟨_, rfl⟩
  obtain ⟨O', hO'⟩ : ∃ O, O = Obj.cells os U := ⟨_, rfl⟩
  have s1 : W1.heap.size = w.heap.size + 1 := by rw [h1]; simp
  have s2 : (W1.alloc O).heap.size = w.heap.size + 2 := by simp [s1]
  have b2 : Below W1.heap.size W1 (W1.alloc O) := (Below.refl _ _).alloc (Nat.le_refl _) _
  have b3 : Below (W1.alloc O).heap.size (W1.alloc O) ((W1.alloc O).alloc O') := (Below.refl _ _).alloc (Nat.le_refl _) _
  have n1 : W1.heap[w.heap.size]? = some (.cells vs T) := by rw [h1]; exact alloc_newR w _
  have n2 : (W1.alloc O).heap[w.heap.size + 1]? = some O := by rw [← s1]; exact alloc_newR W1 _
  have n3 : ((W1.alloc O).alloc O').heap[w.heap.size + 2]? = some O' := by rw [← s2]; exact alloc_newR _ _
  have bw : Below w.heap.size w W1 := by rw [h1]; exact (Below.refl _ _).alloc (Nat.le_refl _) _
  rw [← h1, ← hO, ← hO']
  refine ⟨(bw.trans (b2.mono (by omega))).trans (b3.mono (by omega)), by simp [s1], ?_, ?_, ?_⟩
  · exact (b3.block _ (by omega)).trans ((b2.block _ (by omega)).trans n1)
  · rw [← hO]; exact (b3.block _ (by omega)).trans n2
  · rw [← hO']; exact n3

set_option maxRecDepth 4000 in
set_option maxHeartbeats 4000000 in
theorem toReply_any (p : Option Addr) (cp : Nat) (x : Rpl) (w : World) (hin : InV w p x.ds) (hl : x.ds.length ≤ 1048576) :
    Calls Try.prog 6 #[.agg #[.int .i64 x.code, .slice p x.ds.length cp, .int .i64 x.n]] w fun e w' => (∃ g, e = .returned (.agg #[.int .i64 x.code, .slice (some ⟨g, 0, none⟩) x.ds.length x.ds.length, .int .i64 x.n]) ∧ ReadV w' g x.ds) ∧ Below w.heap.size w w' := by
  have M0 := MkRp.start w #[.int .i64 x.code, .slice p x.ds.length cp, .int .i64 x.n] #[.int .i64 x.code, .slice none 0 0, .int .i64 0] 24 29
  have HI : Hid (InV _ _ _) := hin
  clear hin
  go_enter Try.func6, Try.ntmps6
  go_wp2_with fail
  generalize ((w.alloc _).alloc _).alloc _ = W0 at M0 ⊢
  have hw0 := M0.lt
  refine (toValueS_any p cp x.ds _ (HI.out.step M0.bel) hl).mono ?_
  rintro e w1 ⟨⟨g, rfl, hge, hR⟩, hb⟩
  have M1 := M0.next hb
  have HR : Hid (ReadV w1 g x.ds) := hR
  have hgg : w.heap.size + 3 ≤ g := by omega
  obtain ⟨q0, q1, q2⟩ := threeR M1.pb
  obtain ⟨o0, o1, o2⟩ := threeR M1.ob
  obtain ⟨r0, r1, r2⟩ := threeR M1.rb
  have y0 := softR M1.rb 0
  have y1 := softR M1.rb 1
  have y2 := softR M1.rb 2
  have z0 := softR M1.ob 0
  have z1 := softR M1.ob 1
  have z2 := softR M1.ob 2
  have hlt := M1.lt
  have hlp : w.heap.size < w1.heap.size := by omega
  have hbw := M1.bel
  clear hb M0 hR M1 hw0
  go_wp2_with fail
  refine bodyPost_ret (v := .agg #[.int .i64 x.code, .slice (some ⟨g, 0, none⟩) x.ds.length x.ds.length, .int .i64 x.n]) (by simp [results, Try.results6, go_sem, *]) rfl ⟨⟨g, rfl, ?_⟩, ?_⟩
  · repeat (first | (with_reducible exact HR.out) | (with_reducible refine readV_set ?_ (by omega)))
  · (repeat (first | (with_reducible exact Below.refl _ _) | (with_reducible assumption) | (with_reducible apply below_drewN) | (with_reducible apply Below.drew) | ((with_reducible refine Below.setCell ?_ ?_ _); rotate_left; focus (first | (simp; done) | (simp; omega) | omega)) | ((with_reducible refine Below.alloc ?_ ?_ _); rotate_left; focus (first | (simp; done) | (simp; omega) | omega))))

set_option maxRecDepth 4000 in
set_option maxHeartbeats 2000000 in
theorem eqReply_same (g1 g2 c1 c2 : Nat) (x : Rpl) (w : World) (h1 : ReadV w g1 x.ds) (h2 : ReadV w g2 x.ds) (hl : x.ds.length ≤ 1048576) :
    Calls Try.prog 8 #[.agg #[.int .i64 x.code, .slice (some ⟨g1, 0, none⟩) x.ds.length c1, .int .i64 x.n], .agg #[.int .i64 x.code, .slice (some ⟨g2, 0, none⟩) x.ds.length c2, .int .i64 x.n]] w fun e w' => e = .returned (.bool true) ∧ Below w.heap.size w w' := by
  have X0 := (Boxed.start w (.int .i64 x.code) (.slice (some ⟨g1, 0, none⟩) x.ds.length c1) (.int .i64 x.n) 29).step ((Below.refl _ _).alloc (Nat.le_refl _) (.cells #[.int .i64 x.code, .slice (some ⟨g2, 0, none⟩) x.ds.length c2, .int .i64 x.n] 29))
  have Y0 := Boxed.start (w.alloc (.cells #[.int .i64 x.code, .slice (some ⟨g1, 0, none⟩) x.ds.length c1, .int .i64 x.n] 29)) (.int .i64 x.code) (.slice (some ⟨g2, 0, none⟩) x.ds.length c2) (.int .i64 x.n) 29
  have HA : Hid (∀ W : World, Below w.heap.size w W → Calls _ _ _ W _) := fun W hW => eqValueS_same g1 c1 g2 c2 x.ds W (h1.step hW h1.lt) (h2.step hW h2.lt) hl
  clear h1 h2
  go_enter Try.func8, Try.ntmps8
  go_wp2_with fail
  refine (HA.out _ X0.bel).mono ?_
  rintro e w1 ⟨rfl, hb⟩
  have X1 := X0.step hb
  have Y1 := Y0.step hb
  clear hb X0 Y0 HA
  have x2 := X1.c2
  have y2 := Y1.c2
  rw [World.size_alloc] at y2
  have hbw := X1.bel
  clear X1 Y1
  go_wp2_with fail
  go_ret
  exact ⟨rfl, hbw⟩

end Go.Proofs.Ytpfbepbmiillbaa.Rp
