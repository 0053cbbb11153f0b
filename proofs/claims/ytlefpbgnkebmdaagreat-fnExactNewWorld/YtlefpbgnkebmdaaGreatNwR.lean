/- Rows of pasts without anything in them: what the laws' helpers answer. -/
import Derived.Test.YtlefpbgnkebmdaaGreatNsS
import Derived.Test.YtlefpbgnkebmdaaGreatNsT
namespace Go.Proofs.YtlefpbgnkebmdaaGreat.Nw
open Go.RowKit Tr Co Ns
set_option linter.unusedVariables false

/-- A past without reads, changes and steps: its numbers and words, where its empty lists lie. -/
structure ZP where
  sn : Int
  tm : Int
  pr : Option Addr
  cr : Nat
  pc : Option Addr
  cc : Nat
  i : Bool
  o : Bool
  ps : Option Addr
  cs : Nat
def rowZ (t : ZP) : List Value := [.int .i64 t.sn, .int .i64 t.tm, .slice t.pr 0 t.cr, .slice t.pc 0 t.cc, .bool t.i, .bool t.o, .slice t.ps 0 t.cs]
def flatZ (l : List ZP) : List Value := l.flatMap rowZ
theorem flatZ_cons (v : ZP) (l : List ZP) : flatZ (v :: l) = rowZ v ++ flatZ l := by unfold flatZ; simp
theorem flatZ_snoc (l : List ZP) (f : ZP) : flatZ (l ++ [f]) = flatZ l ++ rowZ f := by unfold flatZ; simp
theorem rowZ_len (v : ZP) : (rowZ v).length = 7 := rfl
theorem flatZ_len (l : List ZP) : (flatZ l).length = l.length * 7 := by
  induction l with
  | nil => rfl
  | cons v l ih => rw [flatZ_cons, List.length_append, ih, rowZ_len, List.length_cons]; omega
theorem flatZ_get : ∀ (l : List ZP) (i j : Nat) (h : i < l.length), j < 7 → (flatZ l)[i * 7 + j]? = (rowZ l[i])[j]?
  | v :: l, 0, j, _, hj => by
    rw [flatZ_cons, show 0 * 7 + j = j by omega, List.getElem?_append_left (by rw [rowZ_len]; exact hj)]; rfl
  | v :: l, i + 1, j, h, hj => by
    have ih := flatZ_get l i j (by simpa using h) hj
    rw [flatZ_cons, List.getElem?_append_right (by rw [rowZ_len]; omega), rowZ_len, show (i + 1) * 7 + j - 7 = i * 7 + j by omega, ih]
    rfl
theorem setZ (v : ZP) (A : List Value) (j : Nat) (x : Value) : (rowZ v ++ A).set (j + 7) x = rowZ v ++ A.set j x := by
  rw [List.set_append_right _ _ (by rw [rowZ_len]; omega), rowZ_len, Nat.add_sub_cancel]
theorem flatZ_set : ∀ (l : List ZP) (k : Nat) (a b : Int) (c d : Bool) (h : k < l.length), ((((flatZ l).set (k * 7) (.int .i64 a)).set (k * 7 + 1) (.int .i64 b)).set (k * 7 + 4) (.bool c)).set (k * 7 + 5) (.bool d) = flatZ (l.set k { l[k] with sn := a, tm := b, i := c, o := d })
  | [], k, _, _, _, _, h => by simp at h
  | u :: l, 0, _, _, _, _, _ => rfl
  | u :: l, k + 1, a, b, c, d, h => by
    rw [List.set_cons_succ, flatZ_cons, flatZ_cons, show (u :: l)[k + 1] = l[k]'(by simpa using h) from rfl, ← flatZ_set l k a b c d (by simpa using h)]
    rw [show (k + 1) * 7 = k * 7 + 7 by omega, show k * 7 + 7 + 1 = k * 7 + 1 + 7 by omega, show k * 7 + 7 + 4 = k * 7 + 4 + 7 by omega, show k * 7 + 7 + 5 = k * 7 + 5 + 7 by omega, setZ, setZ, setZ, setZ]
theorem infoZ : (Tryz.prog.info? 44).map (fun i => (i.zero, i.size, i.bytes)) = some (some (.agg #[.int .i64 0, .int .i64 0, .slice none 0 0, .slice none 0 0, .bool false, .bool false, .slice none 0 0]), 7, 96) := by kernel_rfl
def OwnZ (w : World) (base : Nat) (v : Value) (l : List ZP) : Prop := w.ownsRow base 44 7 v l.length (flatZ l)
def InZ (w : World) (a : Option Addr) (l : List ZP) : Prop := l.length = 0 ∨ ∃ g, a = some ⟨g, 0, none⟩ ∧ g < w.heap.size ∧ ∀ i (h : i < l.length) j u, (rowZ l[i])[j]? = some u → w.cell? ⟨g, i * 7 + j, none⟩ = some u
theorem InZ.step {w w' : World} {a : Option Addr} {l : List ZP} (h : InZ w a l) (hb : Below w.heap.size w w') : InZ w' a l := by
  rcases h with h | ⟨g, ha, hl, hc⟩
  · exact .inl h
  · exact .inr ⟨g, ha, Nat.lt_of_lt_of_le hl hb.size, fun i hi j u hj => (hb.cell hl).trans (hc i hi j u hj)⟩
theorem rowZ_lt {v : ZP} {j : Nat} {u : Value} (h : (rowZ v)[j]? = some u) : j < 7 := by
  have := (List.getElem?_eq_some_iff.1 h).1
  rwa [rowZ_len] at this
theorem OwnZ.form {w : World} {base : Nat} {v : Value} {l : List ZP} (h : OwnZ w base v l) : (v = .slice none 0 0 ∧ l = []) ∨ ∃ g cap, v = .slice (some ⟨g, 0, none⟩) l.length cap ∧ base ≤ g ∧ g < w.heap.size := by
  have hlt := World.ownsRow.lt h
  obtain ⟨h1, h2⟩ := h
  rcases h2 with ⟨hv, h0⟩ | ⟨g, cap, cur, hv, hg, hh, r⟩
  · exact .inl ⟨hv, List.length_eq_zero_iff.1 h0⟩
  · exact .inr ⟨g, cap, hv, hg, (hlt g (by rw [hv]; rfl)).2⟩
theorem OwnZ.inZ {w : World} {base n c : Nat} {p : Option Addr} {l : List ZP} (h : OwnZ w base (.slice p n c) l) : InZ w p l := by
  rcases h.form with ⟨e, rfl⟩ | ⟨g, cap, e, _, hg⟩
  · exact .inl rfl
  · injection e with e1 e2 e3
    subst e1
    exact .inr ⟨g, rfl, hg, fun i hi j u hj => owns_cell h _ _ ((flatZ_get l i j hi (rowZ_lt hj)).trans hj)⟩
/-- A past of zeros. -/
def ZP.zero (x : ZP) : Prop := x.sn = 0 ∧ x.tm = 0 ∧ x.i = false ∧ x.o = false
set_option maxRecDepth 4000 in
set_option maxHeartbeats 1000000 in
theorem markReadS_none (p : Option Addr) (c : Nat) (k : Int) (w : World) : Calls Tryz.prog 32 #[.slice p 0 c, .int .i64 k] w fun e w' => e = .returned (.int .i64 k) ∧ w' = w := by
  go_enter Tryz.func32, Tryz.ntmps32
  go_wp2_with fail
  go_loopw [1, 5] (fun u i wr => u = .int .i64 k ∧ i = .int .i64 0 ∧ wr = w) (fun _ _ _ => 0)
  case atStart => exact ⟨rfl, rfl, rfl⟩
  case round =>
    obtain ⟨rfl, rfl, rfl⟩ := hrel
    go_wp2_with fail
    go_ret
    exact ⟨rfl, rfl⟩
set_option maxRecDepth 4000 in
set_option maxHeartbeats 1000000 in
theorem heldReadS_none (p : Option Addr) (c : Nat) (k : Int) (w : World) : Calls Tryz.prog 38 #[.slice p 0 c, .int .i64 k] w fun e w' => e = .returned (.int .i64 k) ∧ w' = w := by
  go_enter Tryz.func38, Tryz.ntmps38
  go_wp2_with fail
  go_loopw [1, 5] (fun u i wr => u = .int .i64 k ∧ i = .int .i64 0 ∧ wr = w) (fun _ _ _ => 0)
  case atStart => exact ⟨rfl, rfl, rfl⟩
  case round =>
    obtain ⟨rfl, rfl, rfl⟩ := hrel
    go_wp2_with fail
    go_ret
    exact ⟨rfl, rfl⟩
set_option maxRecDepth 4000 in
set_option maxHeartbeats 1000000 in
theorem eqReadS_none (p1 p2 : Option Addr) (c1 c2 : Nat) (w : World) : Calls Tryz.prog 73 #[.slice p1 0 c1, .slice p2 0 c2] w fun e w' => e = .returned (.bool true) ∧ w' = w := by
  go_enter Tryz.func73, Tryz.ntmps73
  go_wp2_with fail
  go_loopw [5] (fun i wr => i = .int .i64 0 ∧ wr = w) (fun _ _ => 0)
  case atStart => exact ⟨rfl, rfl⟩
  case round =>
    obtain ⟨rfl, rfl⟩ := hrel
    go_wp2_with fail
    go_ret
    exact ⟨rfl, rfl⟩
set_option maxRecDepth 4000 in
set_option maxHeartbeats 1000000 in
theorem markChangeS_none (p : Option Addr) (c : Nat) (k : Int) (w : World) : Calls Tryz.prog 33 #[.slice p 0 c, .int .i64 k] w fun e w' => e = .returned (.int .i64 k) ∧ w' = w := by
  go_enter Tryz.func33, Tryz.ntmps33
  go_wp2_with fail
  go_loopw [1, 5] (fun u i wr => u = .int .i64 k ∧ i = .int .i64 0 ∧ wr = w) (fun _ _ _ => 0)
  case atStart => exact ⟨rfl, rfl, rfl⟩
  case round =>
    obtain ⟨rfl, rfl, rfl⟩ := hrel
    go_wp2_with fail
    go_ret
    exact ⟨rfl, rfl⟩
set_option maxRecDepth 4000 in
set_option maxHeartbeats 1000000 in
theorem heldChangeS_none (p : Option Addr) (c : Nat) (k : Int) (w : World) : Calls Tryz.prog 39 #[.slice p 0 c, .int .i64 k] w fun e w' => e = .returned (.int .i64 k) ∧ w' = w := by
  go_enter Tryz.func39, Tryz.ntmps39
  go_wp2_with fail
  go_loopw [1, 5] (fun u i wr => u = .int .i64 k ∧ i = .int .i64 0 ∧ wr = w) (fun _ _ _ => 0)
  case atStart => exact ⟨rfl, rfl, rfl⟩
  case round =>
    obtain ⟨rfl, rfl, rfl⟩ := hrel
    go_wp2_with fail
    go_ret
    exact ⟨rfl, rfl⟩
set_option maxRecDepth 4000 in
set_option maxHeartbeats 1000000 in
theorem eqChangeS_none (p1 p2 : Option Addr) (c1 c2 : Nat) (w : World) : Calls Tryz.prog 75 #[.slice p1 0 c1, .slice p2 0 c2] w fun e w' => e = .returned (.bool true) ∧ w' = w := by
  go_enter Tryz.func75, Tryz.ntmps75
  go_wp2_with fail
  go_loopw [5] (fun i wr => i = .int .i64 0 ∧ wr = w) (fun _ _ => 0)
  case atStart => exact ⟨rfl, rfl⟩
  case round =>
    obtain ⟨rfl, rfl⟩ := hrel
    go_wp2_with fail
    go_ret
    exact ⟨rfl, rfl⟩
set_option maxRecDepth 4000 in
set_option maxHeartbeats 1000000 in
theorem markStepS_none (p : Option Addr) (c : Nat) (k : Int) (w : World) : Calls Tryz.prog 34 #[.slice p 0 c, .int .i64 k] w fun e w' => e = .returned (.int .i64 k) ∧ w' = w := by
  go_enter Tryz.func34, Tryz.ntmps34
  go_wp2_with fail
  go_loopw [1, 5] (fun u i wr => u = .int .i64 k ∧ i = .int .i64 0 ∧ wr = w) (fun _ _ _ => 0)
  case atStart => exact ⟨rfl, rfl, rfl⟩
  case round =>
    obtain ⟨rfl, rfl, rfl⟩ := hrel
    go_wp2_with fail
    go_ret
    exact ⟨rfl, rfl⟩
set_option maxRecDepth 4000 in
set_option maxHeartbeats 1000000 in
theorem heldStepS_none (p : Option Addr) (c : Nat) (k : Int) (w : World) : Calls Tryz.prog 40 #[.slice p 0 c, .int .i64 k] w fun e w' => e = .returned (.int .i64 k) ∧ w' = w := by
  go_enter Tryz.func40, Tryz.ntmps40
  go_wp2_with fail
  go_loopw [1, 5] (fun u i wr => u = .int .i64 k ∧ i = .int .i64 0 ∧ wr = w) (fun _ _ _ => 0)
  case atStart => exact ⟨rfl, rfl, rfl⟩
  case round =>
    obtain ⟨rfl, rfl, rfl⟩ := hrel
    go_wp2_with fail
    go_ret
    exact ⟨rfl, rfl⟩
set_option maxRecDepth 4000 in
set_option maxHeartbeats 1000000 in
theorem eqStepS_none (p1 p2 : Option Addr) (c1 c2 : Nat) (w : World) : Calls Tryz.prog 50 #[.slice p1 0 c1, .slice p2 0 c2] w fun e w' => e = .returned (.bool true) ∧ w' = w := by
  go_enter Tryz.func50, Tryz.ntmps50
  go_wp2_with fail
  go_loopw [5] (fun i wr => i = .int .i64 0 ∧ wr = w) (fun _ _ => 0)
  case atStart => exact ⟨rfl, rfl⟩
  case round =>
    obtain ⟨rfl, rfl⟩ := hrel
    go_wp2_with fail
    go_ret
    exact ⟨rfl, rfl⟩
/-- A past in its block. -/
structure P7 (U : World) (b : Nat) (a0 a1 a2 a3 a4 a5 a6 : Value) : Prop where
  lt : b < U.heap.size
  cb : U.heap[b]? = some (.cells #[a0, a1, a2, a3, a4, a5, a6] 44)
theorem P7.new (U : World) (a0 a1 a2 a3 a4 a5 a6 : Value) : P7 (U.alloc (.cells #[a0, a1, a2, a3, a4, a5, a6] 44)) U.heap.size a0 a1 a2 a3 a4 a5 a6 := ⟨by simp, heap_alloc_new _ _⟩
theorem P7.step {U U' : World} {b : Nat} {a0 a1 a2 a3 a4 a5 a6 : Value} (h : P7 U b a0 a1 a2 a3 a4 a5 a6) (hb : Below U.heap.size U U') : P7 U' b a0 a1 a2 a3 a4 a5 a6 := ⟨Nat.lt_of_lt_of_le h.lt hb.size, (hb.block _ h.lt).trans h.cb⟩
theorem P7.c6 {U : World} {b : Nat} {a0 a1 a2 a3 a4 a5 a6 : Value} (h : P7 U b a0 a1 a2 a3 a4 a5 a6) : U.cell? ⟨b, 6, none⟩ = some a6 := by simp [World.cell?, h.cb]
set_option maxRecDepth 4000 in
set_option maxHeartbeats 2000000 in
theorem eqDone_zero (x y : ZP) (w : World) : Calls Tryz.prog 49 #[.agg #[.int .i64 0, .int .i64 0, .slice x.pr 0 x.cr, .slice x.pc 0 x.cc, .bool false, .bool false], .agg #[.int .i64 0, .int .i64 0, .slice y.pr 0 y.cr, .slice y.pc 0 y.cc, .bool false, .bool false]] w fun e w' => e = .returned (.bool true) ∧ Below w.heap.size w w' := by
  have HR : Hid (∀ W : World, Calls _ _ _ W _) := fun W => eqReadS_none x.pr y.pr x.cr y.cr W
  have HC : Hid (∀ W : World, Calls _ _ _ W _) := fun W => eqChangeS_none x.pc y.pc x.cc y.cc W
  go_enter Tryz.func49, Tryz.ntmps49
  go_wp2_with fail
  refine (HR.out _).mono ?_
  rintro e w1 ⟨rfl, rfl⟩
  go_wp2_with fail
  refine (HC.out _).mono ?_
  rintro e w2 ⟨rfl, rfl⟩
  go_wp2_with fail
  go_ret
  exact ⟨rfl, by (repeat (first | (with_reducible exact Below.refl _ _) | (with_reducible assumption) | (with_reducible apply below_drewN) | (with_reducible apply Below.drew) | ((with_reducible refine Below.setCell ?_ ?_ _); rotate_left; focus (first | (simp; done) | (simp; omega) | omega)) | ((with_reducible refine Below.alloc ?_ ?_ _); rotate_left; focus (first | (simp; done) | (simp; omega) | omega))))⟩
set_option maxRecDepth 4000 in
set_option maxHeartbeats 2000000 in
theorem eqPast_zero (x y : ZP) (w : World) : Calls Tryz.prog 28 #[.agg #[.int .i64 0, .int .i64 0, .slice x.pr 0 x.cr, .slice x.pc 0 x.cc, .bool false, .bool false, .slice x.ps 0 x.cs], .agg #[.int .i64 0, .int .i64 0, .slice y.pr 0 y.cr, .slice y.pc 0 y.cc, .bool false, .bool false, .slice y.ps 0 y.cs]] w fun e w' => e = .returned (.bool true) ∧ Below w.heap.size w w' := by
  have X0 := P7.new w (.int .i64 0) (.int .i64 0) (.slice x.pr 0 x.cr) (.slice x.pc 0 x.cc) (.bool false) (.bool false) (.slice x.ps 0 x.cs)
  have hA : Below w.heap.size w (w.alloc (.cells #[.int .i64 0, .int .i64 0, .slice x.pr 0 x.cr, .slice x.pc 0 x.cc, .bool false, .bool false, .slice x.ps 0 x.cs] 44)) := (Below.refl _ _).alloc (Nat.le_refl _) _
  have Y0 := P7.new (w.alloc (.cells #[.int .i64 0, .int .i64 0, .slice x.pr 0 x.cr, .slice x.pc 0 x.cc, .bool false, .bool false, .slice x.ps 0 x.cs] 44)) (.int .i64 0) (.int .i64 0) (.slice y.pr 0 y.cr) (.slice y.pc 0 y.cc) (.bool false) (.bool false) (.slice y.ps 0 y.cs)
  have hB : Below (w.alloc (.cells #[.int .i64 0, .int .i64 0, .slice x.pr 0 x.cr, .slice x.pc 0 x.cc, .bool false, .bool false, .slice x.ps 0 x.cs] 44)).heap.size (w.alloc (.cells #[.int .i64 0, .int .i64 0, .slice x.pr 0 x.cr, .slice x.pc 0 x.cc, .bool false, .bool false, .slice x.ps 0 x.cs] 44)) ((w.alloc (.cells #[.int .i64 0, .int .i64 0, .slice x.pr 0 x.cr, .slice x.pc 0 x.cc, .bool false, .bool false, .slice x.ps 0 x.cs] 44)).alloc (.cells #[.int .i64 0, .int .i64 0, .slice y.pr 0 y.cr, .slice y.pc 0 y.cc, .bool false, .bool false, .slice y.ps 0 y.cs] 44)) := (Below.refl _ _).alloc (Nat.le_refl _) _
  have X1 := X0.step hB
  have hAB := hA.trans (hB.mono hA.size)
  rw [show (w.alloc (.cells #[.int .i64 0, .int .i64 0, .slice x.pr 0 x.cr, .slice x.pc 0 x.cc, .bool false, .bool false, .slice x.ps 0 x.cs] 44)).heap.size = w.heap.size + 1 by simp] at Y0
  have HD : Hid (∀ W : World, Calls _ _ _ W _) := fun W => eqDone_zero x y W
  have HS : Hid (∀ W : World, Calls _ _ _ W _) := fun W => eqStepS_none x.ps y.ps x.cs y.cs W
  clear hA hB X0
  go_enter Tryz.func28, Tryz.ntmps28
  go_wp2_with fail
  refine (HD.out _).mono ?_
  rintro e w1 ⟨rfl, hb⟩
  have X2 := X1.step hb
  have Y2 := Y0.step hb
  have hbw := hAB.trans (hb.mono hAB.size)
  have el := X2.lt
  have ml := Y2.lt
  have x6 := X2.c6
  have y6 := Y2.c6
  clear hb X1 Y0 hAB X2 Y2
  go_wp2_with fail
  refine (HS.out _).mono ?_
  rintro e w2 ⟨rfl, rfl⟩
  go_wp2_with fail
  go_ret
  exact ⟨rfl, hbw⟩
theorem rowZ_zero {x : ZP} (h : x.zero) : rowZ x = [.int .i64 0, .int .i64 0, .slice x.pr 0 x.cr, .slice x.pc 0 x.cc, .bool false, .bool false, .slice x.ps 0 x.cs] := by
  obtain ⟨h1, h2, h3, h4⟩ := h
  unfold rowZ
  rw [h1, h2, h3, h4]
set_option maxRecDepth 4000 in
set_option maxHeartbeats 2000000 in
theorem eqPastS_zero (p1 p2 : Option Addr) (c1 c2 : Nat) (l1 l2 : List ZP) (w : World) (h1 : InZ w p1 l1) (h2 : InZ w p2 l2) (hn : l1.length = l2.length) (hz1 : ∀ x ∈ l1, x.zero) (hz2 : ∀ x ∈ l2, x.zero) (hlen : l1.length ≤ 1048576) :
    Calls Tryz.prog 15 #[.slice p1 l1.length c1, .slice p2 l2.length c2] w fun e w' => e = .returned (.bool true) ∧ Below w.heap.size w w' := by
  rw [← hn]
  have H1 : Hid (InZ _ _ _) := h1
  have H2 : Hid (InZ _ _ _) := h2
  have HZ1 : Hid _ := hz1
  have HZ2 : Hid _ := hz2
  clear h1 h2 hz1 hz2
  go_enter Tryz.func15, Tryz.ntmps15
  go_wp2_with fail
  go_loopw [5] (fun i wr => ∃ k : Nat, k ≤ l1.length ∧ i = .int .i64 k ∧ Below w.heap.size w wr) (fun i _ => l1.length - (intOf i).toNat)
  case atStart => exact ⟨0, Nat.zero_le _, rfl, Below.refl _ _⟩
  case round =>
    obtain ⟨k, hk, rfl, hbel⟩ := hrel
    by_cases hlt : k < l1.length
    · rcases H1.out.step hbel with h0 | ⟨g1, rfl, e1, x1⟩
      · omega
      rcases H2.out.step hbel with h0 | ⟨g2, rfl, e2, x2⟩
      · omega
      have hk1 : (k : Int) < (l1.length : Int) := by omega
      have y1 := x1 k hlt
      have y2 := x2 k (by omega)
      have za := rowZ_zero (HZ1.out l1[k] (List.getElem_mem _))
      have zb := rowZ_zero (HZ2.out (l2[k]'(by omega)) (List.getElem_mem _))
      obtain ⟨a, ha⟩ : ∃ a, a = l1[k] := ⟨_, rfl⟩
      obtain ⟨b, hb0⟩ : ∃ b, b = l2[k]'(by omega) := ⟨_, rfl⟩
      rw [← ha] at y1 za
      rw [← hb0] at y2 zb
      rw [za] at y1
      rw [zb] at y2
      have qa0 : ∀ u : Under wr, u.x.cell? ⟨g1, k * 7, none⟩ = some (.int .i64 0) := fun u => (u.h.cell e1).trans (y1 0 _ rfl)
      have qa1 : ∀ u : Under wr, u.x.cell? ⟨g1, k * 7 + 1, none⟩ = some (.int .i64 0) := fun u => (u.h.cell e1).trans (y1 1 _ rfl)
      have qa2 : ∀ u : Under wr, u.x.cell? ⟨g1, k * 7 + 2, none⟩ = some (.slice a.pr 0 a.cr) := fun u => (u.h.cell e1).trans (y1 2 _ rfl)
      have qa3 : ∀ u : Under wr, u.x.cell? ⟨g1, k * 7 + 3, none⟩ = some (.slice a.pc 0 a.cc) := fun u => (u.h.cell e1).trans (y1 3 _ rfl)
      have qa4 : ∀ u : Under wr, u.x.cell? ⟨g1, k * 7 + 4, none⟩ = some (.bool false) := fun u => (u.h.cell e1).trans (y1 4 _ rfl)
      have qa5 : ∀ u : Under wr, u.x.cell? ⟨g1, k * 7 + 5, none⟩ = some (.bool false) := fun u => (u.h.cell e1).trans (y1 5 _ rfl)
      have qa6 : ∀ u : Under wr, u.x.cell? ⟨g1, k * 7 + 6, none⟩ = some (.slice a.ps 0 a.cs) := fun u => (u.h.cell e1).trans (y1 6 _ rfl)
      have qb0 : ∀ u : Under wr, u.x.cell? ⟨g2, k * 7, none⟩ = some (.int .i64 0) := fun u => (u.h.cell e2).trans (y2 0 _ rfl)
      have qb1 : ∀ u : Under wr, u.x.cell? ⟨g2, k * 7 + 1, none⟩ = some (.int .i64 0) := fun u => (u.h.cell e2).trans (y2 1 _ rfl)
      have qb2 : ∀ u : Under wr, u.x.cell? ⟨g2, k * 7 + 2, none⟩ = some (.slice b.pr 0 b.cr) := fun u => (u.h.cell e2).trans (y2 2 _ rfl)
      have qb3 : ∀ u : Under wr, u.x.cell? ⟨g2, k * 7 + 3, none⟩ = some (.slice b.pc 0 b.cc) := fun u => (u.h.cell e2).trans (y2 3 _ rfl)
      have qb4 : ∀ u : Under wr, u.x.cell? ⟨g2, k * 7 + 4, none⟩ = some (.bool false) := fun u => (u.h.cell e2).trans (y2 4 _ rfl)
      have qb5 : ∀ u : Under wr, u.x.cell? ⟨g2, k * 7 + 5, none⟩ = some (.bool false) := fun u => (u.h.cell e2).trans (y2 5 _ rfl)
      have qb6 : ∀ u : Under wr, u.x.cell? ⟨g2, k * 7 + 6, none⟩ = some (.slice b.ps 0 b.cs) := fun u => (u.h.cell e2).trans (y2 6 _ rfl)
      have HQ : Hid (∀ W : World, Calls _ _ _ W _) := fun W => eqPast_zero a b W
      have hnu : Nonempty (Under wr) := ⟨⟨wr, Below.refl _ _⟩⟩
      clear x1 x2 y1 y2 ha hb0 za zb
      go_wp2_with fail
      refine wp_region_under (by kernel_rfl) (by kernel_rfl) ?_
      repeat (go_big_quiet_step ((go_at_call 28; exact calls_under _ (HQ.out _))))
      refine wpQuiet_nil ?_
      rintro _ ⟨u, rfl⟩
      go_wp2_with fail
      go_roundw
      case rel => exact ⟨k + 1, by omega, by go_num, hbel.trans (u.h.mono hbel.size)⟩
      case measure => simp [intOf]; omega
    · have hlt2 : ¬ (k : Int) < (l1.length : Int) := by omega
      go_wp2_with fail
      go_ret
      exact ⟨rfl, hbel⟩

/-- What marks leave. -/
def boolM (n : Int) : Bool := n % 3 == 0
def markP (E : Nat) (t : ZP) : ZP := { t with sn := (E : Int), tm := (E : Int) + 1, i := boolM ((E : Int) + 1 + 1), o := boolM ((E : Int) + 1 + 1 + 1) }
def markMixZ (q : Nat) (l : List ZP) (k : Nat) : List ZP := (List.range l.length).zipWith (fun i t => if i < k then markP (q + 4 * i) t else t) l
theorem markMixZ_len (q : Nat) (l : List ZP) (k : Nat) : (markMixZ q l k).length = l.length := by unfold markMixZ; simp
theorem markMixZ_get (q : Nat) (l : List ZP) (k i : Nat) (h : i < l.length) : (markMixZ q l k)[i]'(by rw [markMixZ_len]; exact h) = if i < k then markP (q + 4 * i) l[i] else l[i] := by unfold markMixZ; simp
theorem markMixZ_zero (q : Nat) (l : List ZP) : markMixZ q l 0 = l := by
  apply List.ext_getElem (markMixZ_len _ _ _)
  intro i h1 h2
  rw [markMixZ_get q l 0 i h2]; simp
theorem markMixZ_set (q : Nat) (l : List ZP) (k : Nat) (h : k < l.length) : (markMixZ q l k).set k (markP (q + 4 * k) ((markMixZ q l k)[k]'(by rw [markMixZ_len]; exact h))) = markMixZ q l (k + 1) := by
  apply List.ext_getElem (by simp [markMixZ_len])
  intro i h1 h2
  rw [List.getElem_set]
  have hi : i < l.length := by simpa [markMixZ_len] using h2
  rw [markMixZ_get q l (k + 1) i hi]
  by_cases e : k = i
  · subst e
    rw [if_pos rfl, if_pos (show k < k + 1 by omega)]
    simp [markMixZ_get q l k k hi]
  · rw [if_neg e, markMixZ_get q l k i hi]
    by_cases h3 : i < k
    · rw [if_pos h3, if_pos (by omega)]
    · rw [if_neg h3, if_neg (by omega)]
set_option maxRecDepth 4000 in
set_option maxHeartbeats 4000000 in
theorem markPastS_zero (base : Nat) (v : Value) (l : List ZP) (q : Nat) (w : World) (hown : OwnZ w base v l) (h1 : 1 ≤ q) (h2 : q + 4 * l.length ≤ 17592186044416) (hl : l.length ≤ 1048576) :
    Calls Tryz.prog 17 #[v, .int .i64 q] w fun e w' => e = .returned (.int .i64 ((q + 4 * l.length : Nat) : Int)) ∧ OwnZ w' base v (markMixZ q l l.length) ∧ w.grownBy w' v.ownBlock := by
  rcases hown.form with ⟨rfl, rfl⟩ | ⟨g, c, rfl, hgb, hgl⟩
  · have HO0 : Hid (OwnZ _ _ _ _) := hown
    clear hown
    go_enter Tryz.func17, Tryz.ntmps17
    go_wp2_with fail
    refine wp_loop_rounds 1 ?_
    rw [rounds_succ]
    go_wp2_with fail
    go_ret
    exact ⟨rfl, HO0.out, grown_refl _ _⟩
  · have HO0 : Hid (OwnZ _ _ _ _) := hown
    clear hown
    go_enter Tryz.func17, Tryz.ntmps17
    go_wp2_with fail
    go_loopw [1, 5] (fun x i wr => ∃ (k E : Nat), k ≤ l.length ∧ i = .int .i64 k ∧ x = .int .i64 (E : Int) ∧ E = q + 4 * k ∧ wr.ownsRow base 44 7 (.slice (some ⟨g, 0, none⟩) l.length c) l.length (flatZ (markMixZ q l k)) ∧ w.grownBy wr (some g)) (fun _ i _ => l.length - (intOf i).toNat)
    case atStart => exact ⟨0, q, Nat.zero_le _, rfl, rfl, by omega, by rw [markMixZ_zero]; exact HO0.out, grown_refl _ _⟩
    case round =>
      obtain ⟨k, E, hk, rfl, rfl, hE, hown, hgr⟩ := hrel
      have HB : Hid (World.grownBy _ _ _) := hgr
      have hz := hgr.size
      clear hgr HO0
      by_cases hlt : k < l.length
      · have hlt2 : (k : Int) < (l.length : Int) := by omega
        have hm := markMixZ_len q l k
        have hglr : g < wr.heap.size := (hown.lt g rfl).2
        obtain ⟨B2, hB2⟩ : ∃ B : Bool, B = boolM ((E : Int) + 1 + 1) := ⟨_, rfl⟩
        have kB2 : (((E : Int) + 1 + 1) % 3 == 0) = B2 := by rw [hB2]; rfl
        have tB2 : Int.tmod ((E : Int) + 1 + 1) 3 = ((E : Int) + 1 + 1) % 3 := Int.tmod_eq_emod_of_nonneg (by omega)
        obtain ⟨B3, hB3⟩ : ∃ B : Bool, B = boolM ((E : Int) + 1 + 1 + 1) := ⟨_, rfl⟩
        have kB3 : (((E : Int) + 1 + 1 + 1) % 3 == 0) = B3 := by rw [hB3]; rfl
        have tB3 : Int.tmod ((E : Int) + 1 + 1 + 1) 3 = ((E : Int) + 1 + 1 + 1) % 3 := Int.tmod_eq_emod_of_nonneg (by omega)
        obtain ⟨t, ht⟩ : ∃ t : ZP, t = (markMixZ q l k)[k]'(by rw [hm]; exact hlt) := ⟨_, rfl⟩
        have he : ((((flatZ (markMixZ q l k)).set (k * 7) (.int .i64 (E : Int))).set (k * 7 + 1) (.int .i64 ((E : Int) + 1))).set (k * 7 + 4) (.bool B2)).set (k * 7 + 5) (.bool B3) = flatZ (markMixZ q l (k + 1)) := by
          rw [flatZ_set _ _ _ _ _ _ (by rw [hm]; exact hlt), ← markMixZ_set q l k hlt, hB2, hB3, ← hE]; rfl
        have hrow : ∀ j u, (rowZ t)[j]? = some u → wr.cell? ⟨g, k * 7 + j, none⟩ = some u := fun j u hj => owns_cell hown _ _ ((flatZ_get _ k j (by rw [hm]; exact hlt) (rowZ_lt hj)).trans (by rw [← ht]; exact hj))
        have a2 : wr.cell? ⟨g, k * 7 + 2, none⟩ = some (.slice t.pr 0 t.cr) := hrow 2 _ rfl
        have a3 : wr.cell? ⟨g, k * 7 + 3, none⟩ = some (.slice t.pc 0 t.cc) := hrow 3 _ rfl
        have a6 : wr.cell? ⟨g, k * 7 + 6, none⟩ = some (.slice t.ps 0 t.cs) := hrow 6 _ rfl
        have a0 : wr.cell? ⟨g, k * 7, none⟩ = some (.int .i64 t.sn) := hrow 0 _ rfl
        have a1 : wr.cell? ⟨g, k * 7 + 1, none⟩ = some (.int .i64 t.tm) := hrow 1 _ rfl
        have a4 : wr.cell? ⟨g, k * 7 + 4, none⟩ = some (.bool t.i) := hrow 4 _ rfl
        have a5 : wr.cell? ⟨g, k * 7 + 5, none⟩ = some (.bool t.o) := hrow 5 _ rfl
        have f0 := World.ownsRow.frozenAt hown (k * 7)
        have f1 := World.ownsRow.frozenAt hown (k * 7 + 1)
        have f4 := World.ownsRow.frozenAt hown (k * 7 + 4)
        have f5 := World.ownsRow.frozenAt hown (k * 7 + 5)
        have hst := (World.ownsRow.stored (World.ownsRow.stored (World.ownsRow.stored (World.ownsRow.stored hown (k * 7) (.int .i64 (E : Int))).1 (k * 7 + 1) (.int .i64 ((E : Int) + 1))).1 (k * 7 + 4) (.bool B2)).1 (k * 7 + 5) (.bool B3)).1
        rw [he] at hst
        have HS : Hid (World.ownsRow _ _ _ _ _ _ _) := hst
        have HEQ : Hid (E = q + 4 * k) := hE
        have hEb : E + 4 ≤ 17592186044416 := by omega
        have hE1 : 1 ≤ E := by omega
        have HR : Hid (∀ (z : Int) (W : World), Calls _ _ _ W _) := fun z W => markReadS_none t.pr t.cr z W
        have HC : Hid (∀ (z : Int) (W : World), Calls _ _ _ W _) := fun z W => markChangeS_none t.pc t.cc z W
        have HT : Hid (∀ (z : Int) (W : World), Calls _ _ _ W _) := fun z W => markStepS_none t.ps t.cs z W
        clear hown he hB2 hB3 hE hm hst hrow ht
        go_wp2_with fail
        refine (HR.out _ _).mono ?_
        rintro e w2 ⟨rfl, rfl⟩
        go_wp2_with fail
        refine (HC.out _ _).mono ?_
        rintro e w3 ⟨rfl, rfl⟩
        go_wp2_with fail
        refine (HT.out _ _).mono ?_
        rintro e w4 ⟨rfl, rfl⟩
        go_wp2_with fail
        go_roundw
        case rel => exact ⟨k + 1, E + 4, by omega, by go_num, by go_num, by have := HEQ.out; omega, HS.out, grown_trans (grown_trans (grown_trans (grown_trans HB.out grown_set) grown_set) grown_set) grown_set⟩
        case measure => simp [intOf]; omega
      · obtain rfl : k = l.length := by omega
        have HO : Hid (World.ownsRow _ _ _ _ _ _ _) := hown
        clear hown
        subst hE
        go_wp2_with fail
        go_ret
        exact ⟨rfl, by unfold OwnZ; rw [markMixZ_len]; exact HO.out, HB.out⟩
set_option maxRecDepth 4000 in
set_option maxHeartbeats 4000000 in
theorem heldPastS_zero (a : Option Addr) (c : Nat) (l : List ZP) (q : Nat) (w : World) (hr : InZ w a (markMixZ q l l.length)) (h1 : 1 ≤ q) (h2 : q + 4 * l.length ≤ 17592186044416) (hl : l.length ≤ 1048576) :
    Calls Tryz.prog 19 #[.slice a l.length c, .int .i64 q] w fun e w' => e = .returned (.int .i64 ((q + 4 * l.length : Nat) : Int)) ∧ w' = w := by
  have HR : Hid (InZ _ _ _) := hr
  clear hr
  go_enter Tryz.func19, Tryz.ntmps19
  go_wp2_with fail
  go_loopw [1, 5] (fun x i wr => ∃ k E : Nat, k ≤ l.length ∧ i = .int .i64 k ∧ x = .int .i64 (E : Int) ∧ E = q + 4 * k ∧ wr = w) (fun _ i _ => l.length - (intOf i).toNat)
  case atStart => exact ⟨0, q, Nat.zero_le _, rfl, rfl, by omega, rfl⟩
  case round =>
    obtain ⟨k, E, hk, rfl, rfl, hE, rfl⟩ := hrel
    by_cases hlt : k < l.length
    · rcases HR.out with h0 | ⟨g, rfl, e1, x⟩
      · rw [markMixZ_len] at h0; omega
      have x' := x k (by rw [markMixZ_len]; exact hlt)
      rw [markMixZ_get q l l.length k hlt, if_pos hlt, ← hE] at x'
      obtain ⟨t, ht⟩ : ∃ t : ZP, t = l[k] := ⟨_, rfl⟩
      rw [← ht] at x'
      have hk1 : (k : Int) < (l.length : Int) := by omega
      obtain ⟨B2, hB2⟩ : ∃ B : Bool, B = boolM ((E : Int) + 1 + 1) := ⟨_, rfl⟩
      have kB2 : (((E : Int) + 1 + 1) % 3 == 0) = B2 := by rw [hB2]; rfl
      have tB2 : Int.tmod ((E : Int) + 1 + 1) 3 = ((E : Int) + 1 + 1) % 3 := Int.tmod_eq_emod_of_nonneg (by omega)
      obtain ⟨B3, hB3⟩ : ∃ B : Bool, B = boolM ((E : Int) + 1 + 1 + 1) := ⟨_, rfl⟩
      have kB3 : (((E : Int) + 1 + 1 + 1) % 3 == 0) = B3 := by rw [hB3]; rfl
      have tB3 : Int.tmod ((E : Int) + 1 + 1 + 1) 3 = ((E : Int) + 1 + 1 + 1) % 3 := Int.tmod_eq_emod_of_nonneg (by omega)
      have a0 : wr.cell? ⟨g, k * 7, none⟩ = some (.int .i64 (E : Int)) := x' 0 _ rfl
      have a1 : wr.cell? ⟨g, k * 7 + 1, none⟩ = some (.int .i64 ((E : Int) + 1)) := x' 1 _ rfl
      have a2 : wr.cell? ⟨g, k * 7 + 2, none⟩ = some (.slice t.pr 0 t.cr) := x' 2 _ rfl
      have a3 : wr.cell? ⟨g, k * 7 + 3, none⟩ = some (.slice t.pc 0 t.cc) := x' 3 _ rfl
      have a4 : wr.cell? ⟨g, k * 7 + 4, none⟩ = some (.bool B2) := by rw [hB2]; exact x' 4 _ rfl
      have a5 : wr.cell? ⟨g, k * 7 + 5, none⟩ = some (.bool B3) := by rw [hB3]; exact x' 5 _ rfl
      have a6 : wr.cell? ⟨g, k * 7 + 6, none⟩ = some (.slice t.ps 0 t.cs) := x' 6 _ rfl
      have HEQ : Hid (E = q + 4 * k) := hE
      have hEb : E + 4 ≤ 17592186044416 := by omega
      have hE1 : 1 ≤ E := by omega
      have n1 : ¬ ((E : Int) + 1 + 1 < 0) := by omega
      have n2 : ¬ ((E : Int) + 1 + 1 + 1 + 1 < 0) := by omega
      have HRd : Hid (∀ (z : Int) (W : World), Calls _ _ _ W _) := fun z W => heldReadS_none t.pr t.cr z W
      have HC : Hid (∀ (z : Int) (W : World), Calls _ _ _ W _) := fun z W => heldChangeS_none t.pc t.cc z W
      have HT : Hid (∀ (z : Int) (W : World), Calls _ _ _ W _) := fun z W => heldStepS_none t.ps t.cs z W
      clear x x' hB2 hB3 hE ht
      go_wp2_with fail
      refine (HRd.out _ _).mono ?_
      rintro e w2 ⟨rfl, rfl⟩
      go_wp2_with fail
      refine (HC.out _ _).mono ?_
      rintro e w3 ⟨rfl, rfl⟩
      go_wp2_with fail
      refine (HT.out _ _).mono ?_
      rintro e w4 ⟨rfl, rfl⟩
      go_wp2_with fail
      go_roundw
      case rel => exact ⟨k + 1, E + 4, by omega, by go_num, by go_num, by have := HEQ.out; omega, by first | rfl | trivial⟩
      case measure => simp [intOf]; omega
    · obtain rfl : k = l.length := by omega
      subst hE
      go_wp2_with fail
      go_ret
      exact ⟨rfl, rfl⟩

end Go.Proofs.YtlefpbgnkebmdaaGreat.Nw
