/- What the laws of trees lean on: drawn trees and entries out of codes, trees held against each other, whole ranges. -/
import Derived.Test.YtnmpfooegnmknaaDrwU
import Derived.Test.YtnmpfooegnmknaaTrH
import Derived.Test.YtnmpfooegnmknaaTrX
import Derived.Test.YtnmpfooegnmknaaOpenD
import Derived.Deep.DeepCutAuto
namespace Go.Proofs.Ytnmpfooegnmknaa.Tr
open Go.RowKit
set_option linter.unusedVariables false

/-- Two cells in a block. -/
structure B2 (W : World) (b : Nat) (x y : Value) : Prop where
  lt : b < W.heap.size
  c0 : W.cell? ⟨b, 0, none⟩ = some x
  c1 : W.cell? ⟨b, 1, none⟩ = some y
theorem B2.new (W : World) (x y : Value) (T : TypeId) : B2 (W.alloc (.cells #[x, y] T)) W.heap.size x y := ⟨by simp, by simp [go_sem], by simp [go_sem]⟩
theorem B2.next {W W' : World} {b : Nat} {x y : Value} (h : B2 W b x y) (hb : Below W.heap.size W W') : B2 W' b x y := ⟨Nat.lt_of_lt_of_le h.lt hb.size, (hb.cell h.lt).trans h.c0, (hb.cell h.lt).trans h.c1⟩
theorem OwnT.room {w : World} {base : Nat} {v : Value} {f : List Pg} (h : OwnT w base v f) (h0 : 0 < f.length) : ∃ g cap, v = .slice (some ⟨g, 0, none⟩) f.length cap ∧ f.length ≤ cap ∧ FullP w g f := by
  rcases h.form with ⟨rfl, rfl⟩ | ⟨g, cap, rfl, _⟩
  · simp at h0
  · refine ⟨g, cap, rfl, ?_, h.full⟩
    obtain ⟨vs, xs, hP⟩ := h
    obtain ⟨h1, h2⟩ := hP.row
    rcases h2 with ⟨e, _⟩ | ⟨g', cap', cur, hv, hg', hh, hc1, hc2, r⟩
    · cases e
    · injection hv with _ _ hc; rw [hc]; exact hc1
theorem tree_pos {f : List Pg} {next : Int} (h : treeB f next = true) : 0 < f.length := by have := ((treeB_iff f next).1 h).1; omega
theorem tree_le {f : List Pg} {next : Int} (h : treeB f next = true) : f.length ≤ 1048576 := by have := ((treeB_iff f next).1 h).1; omega

set_option maxRecDepth 4000 in
set_option maxHeartbeats 1000000 in
theorem sameEntries_any (p1 p2 : Option Addr) (c1 c2 : Nat) (l : List Ent) (w : World) (h1 : InE w p1 l) (h2 : InE w p2 l) (hlen : l.length ≤ 1048576) :
    Calls Try.prog 26 #[.slice p1 l.length c1, .slice p2 l.length c2] w fun e w' => e = .returned (.bool true) ∧ Below w.heap.size w w' := by
  have H1 : Hid (InE _ _ _) := h1
  have H2 : Hid (InE _ _ _) := h2
  clear h1 h2
  go_enter Try.func26, Try.ntmps26
  go_wp2_with fail
  go_loopw [5] (fun i wr => ∃ k : Nat, k ≤ l.length ∧ i = .int .i64 k ∧ Below w.heap.size w wr) (fun i _ => l.length - (intOf i).toNat)
  case atStart => exact ⟨0, Nat.zero_le _, rfl, Below.refl _ _⟩
  case round =>
    obtain ⟨k, hk, rfl, hbel⟩ := hrel
    by_cases hlt : k < l.length
    · rcases H1.out.step hbel with h0 | ⟨g1, o1, rfl, l1, x1⟩
      · omega
      rcases H2.out.step hbel with h0 | ⟨g2, o2, rfl, l2, x2⟩
      · omega
      have hk1 : (k : Int) < (l.length : Int) := by omega
      obtain ⟨e, he⟩ : ∃ e, e = l[k] := ⟨_, rfl⟩
      have q0 : ∀ u : Under wr, u.x.cell? ⟨g1, o1 + k * 2, none⟩ = some (.string e.key) := fun u => (u.h.cell l1).trans (by rw [he]; exact (x1 k hlt).1)
      have r0 : ∀ u : Under wr, u.x.cell? ⟨g2, o2 + k * 2, none⟩ = some (.string e.key) := fun u => (u.h.cell l2).trans (by rw [he]; exact (x2 k hlt).1)
      have q1 : ∀ u : Under wr, u.x.cell? ⟨g1, o1 + k * 2 + 1, none⟩ = some (.int .i64 e.id) := fun u => (u.h.cell l1).trans (by rw [he]; exact (x1 k hlt).2)
      have r1 : ∀ u : Under wr, u.x.cell? ⟨g2, o2 + k * 2 + 1, none⟩ = some (.int .i64 e.id) := fun u => (u.h.cell l2).trans (by rw [he]; exact (x2 k hlt).2)
      have nq := fun W : World => (neqEnt e e W).trans (by rw [show (e.key.toList == e.key.toList && e.id == e.id) = true by simp])
      have hnu : Nonempty (Under wr) := ⟨⟨wr, Below.refl _ _⟩⟩
      clear x1 x2 he
      go_wp2_with fail
      refine wp_region_under (by kernel_rfl) (by kernel_rfl) ?_
      repeat (go_big_quiet_step (fail))
      refine wpQuiet_nil ?_
      rintro _ ⟨u, rfl⟩
      go_wp2_with fail
      go_roundw
      case rel => exact ⟨k + 1, by omega, by go_num, hbel.trans (u.h.mono hbel.size)⟩
      case measure => simp [intOf]; omega
    · have hlt2 : ¬ (k : Int) < (l.length : Int) := by omega
      go_wp2_with fail
      go_ret
      exact ⟨rfl, hbel⟩

set_option maxRecDepth 4000 in
set_option maxHeartbeats 2000000 in
theorem sameTree_any (p1 p2 : Option Addr) (c1 c2 : Nat) (f : List Pg) (next : Int) (w : World) (h1 : RowP w p1 f) (h2 : RowP w p2 f) (hlen : f.length ≤ 1048576) (hs : ∀ l ∈ f, l.es.length ≤ 1048576) :
    Calls Try.prog 22 #[.agg #[.slice p1 f.length c1, .int .i64 next], .agg #[.slice p2 f.length c2, .int .i64 next]] w fun e w' => e = .returned (.bool true) ∧ Below w.heap.size w w' := by
  have X0 := (B2.new w (.slice p1 f.length c1) (.int .i64 next) 37).next ((Below.refl _ _).alloc (Nat.le_refl _) (.cells #[.slice p2 f.length c2, .int .i64 next] 37))
  have Y0 := B2.new (w.alloc (.cells #[.slice p1 f.length c1, .int .i64 next] 37)) (.slice p2 f.length c2) (.int .i64 next) 37
  have hbw : Below w.heap.size w ((w.alloc (.cells #[.slice p1 f.length c1, .int .i64 next] 37)).alloc (.cells #[.slice p2 f.length c2, .int .i64 next] 37)) := ((Below.refl _ _).alloc (Nat.le_refl _) _).alloc (by simp) _
  have hyz : (w.alloc (.cells #[.slice p1 f.length c1, .int .i64 next] 37)).heap.size = w.heap.size + 1 := by simp
  rw [hyz] at Y0
  have H1 : Hid (RowP _ _ _) := h1.next hbw
  have H2 : Hid (RowP _ _ _) := h2.next hbw
  have HS : Hid _ := hs
  clear h1 h2 hs hyz
  go_enter Try.func22, Try.ntmps22
  go_wp2_with fail
  generalize (w.alloc (.cells #[.slice p1 f.length c1, .int .i64 next] 37)).alloc (.cells #[.slice p2 f.length c2, .int .i64 next] 37) = W0 at X0 Y0 hbw H1 H2 ⊢
  go_loopw [5] (fun i wr => ∃ k : Nat, k ≤ f.length ∧ i = .int .i64 k ∧ Below W0.heap.size W0 wr) (fun i _ => f.length - (intOf i).toNat)
  case atStart => exact ⟨0, Nat.zero_le _, rfl, Below.refl _ _⟩
  case round =>
    obtain ⟨k, hk, rfl, hbel⟩ := hrel
    have X := X0.next hbel
    have Y := Y0.next hbel
    have a0 := X.c0
    have b0 := Y.c0
    by_cases hlt : k < f.length
    · rcases H1.out.next hbel with h0 | ⟨g1, rfl, R1⟩
      · subst h0; simp at hlt
      rcases H2.out.next hbel with h0 | ⟨g2, rfl, R2⟩
      · subst h0; simp at hlt
      obtain ⟨w1, pa, ca, x1, t1⟩ := R1.cells k hlt
      obtain ⟨w2, pb, cb, x2, t2⟩ := R2.cells k hlt
      have l1 := R1.lt
      have l2 := R2.lt
      have hk1 : (k : Int) < (f.length : Int) := by omega
      obtain ⟨m, hm⟩ : ∃ m, m = f[k].num := ⟨_, rfl⟩
      obtain ⟨n, hn⟩ : ∃ n, n = f[k].es.length := ⟨_, rfl⟩
      have q0 : ∀ u : Under wr, u.x.cell? ⟨g1, k * 2, none⟩ = some (.int .i64 m) := fun u => (u.h.cell l1).trans (by rw [hm]; exact w1)
      have r0 : ∀ u : Under wr, u.x.cell? ⟨g2, k * 2, none⟩ = some (.int .i64 m) := fun u => (u.h.cell l2).trans (by rw [hm]; exact w2)
      have q1 : ∀ u : Under wr, u.x.cell? ⟨g1, k * 2 + 1, none⟩ = some (.slice pa n ca) := fun u => (u.h.cell l1).trans (by rw [hn]; exact x1)
      have r1 : ∀ u : Under wr, u.x.cell? ⟨g2, k * 2 + 1, none⟩ = some (.slice pb n cb) := fun u => (u.h.cell l2).trans (by rw [hn]; exact x2)
      have s0 : ∀ u : Under wr, u.x.cell? ⟨w.heap.size, 0, none⟩ = some (.slice (some ⟨g1, 0, none⟩) f.length c1) := fun u => (X.next u.h).c0
      have s1 : ∀ u : Under wr, u.x.cell? ⟨w.heap.size + 1, 0, none⟩ = some (.slice (some ⟨g2, 0, none⟩) f.length c2) := fun u => (Y.next u.h).c0
      have HC : Hid (∀ u : Under wr, Calls Try.prog 26 #[.slice pa n ca, .slice pb n cb] u.x fun e w' => e = .returned (.bool true) ∧ Below u.x.heap.size u.x w') := by rw [hn]; exact fun u => sameEntries_any pa pb ca cb f[k].es u.x (t1.step u.h) (t2.step u.h) (HS.out f[k] (List.getElem_mem _))
      have hnu : Nonempty (Under wr) := ⟨⟨wr, Below.refl _ _⟩⟩
      clear x1 x2 w1 w2 R1 R2 t1 t2 hm hn X Y a0 b0
      have a0 := s0 ⟨wr, Below.refl _ _⟩
      go_wp2_with fail
      refine wp_region_under (by kernel_rfl) (by kernel_rfl) ?_
      repeat (go_big_quiet_step ((go_at_call 26; exact calls_under _ (HC.out _))))
      refine wpQuiet_nil ?_
      rintro _ ⟨u, rfl⟩
      go_wp2_with fail
      go_roundw
      case rel => exact ⟨k + 1, by omega, by go_num, hbel.trans (u.h.mono hbel.size)⟩
      case measure => simp [intOf]; omega
    · have hlt2 : ¬ (k : Int) < (f.length : Int) := by omega
      have hbz := hbw.trans (hbel.mono hbw.size)
      go_wp2_with fail
      go_ret
      exact ⟨rfl, hbz⟩

set_option maxRecDepth 4000 in
set_option maxHeartbeats 1000000 in
theorem drawnTree_any (x : Option Addr) (cap : Nat) (zs : List Int) (w : World) (h : InC w x zs) :
    Calls Try.prog 13 #[.slice x zs.length cap] w fun e' w' => (∃ (v : Value) (f : List Pg) (next : Int), e' = .returned (.agg #[v, .int .i64 next]) ∧ OwnT w' w.heap.size v f ∧ treeB f next = true ∧ f.length ≤ 24 ∧ next ≤ 25 ∧ ∀ e ∈ allE f, EntD e) ∧ Below w.heap.size w w' := by
  have hb0 : Below w.heap.size w (w.alloc (.cells #[.slice none 0 0, .int .i64 0] 37)) := (Below.refl _ _).alloc (Nat.le_refl _) _
  have hrb0 : (w.alloc (.cells #[.slice none 0 0, .int .i64 0] 37)).heap[w.heap.size]? = some (.cells #[.slice none 0 0, .int .i64 0] 37) := heap_alloc_new w _
  have HS : Hid (Calls _ _ _ _ _) := l00Source_any x cap zs _ (h.step hb0)
  have HB0 : Hid (Below _ _ _) := hb0
  have HRB : Hid ((w.alloc (.cells #[.slice none 0 0, .int .i64 0] 37)).heap[w.heap.size]? = _) := hrb0
  have HS0 : Hid ((w.alloc (.cells #[.slice none 0 0, .int .i64 0] 37)).heap.size = w.heap.size + 1) := by show _ = _; simp
  clear h hb0 hrb0
  go_enter Try.func13, Try.ntmps13
  go_wp2_with fail
  refine HS.out.mono ?_
  rintro e' w1 ⟨rfl, s1, b1⟩
  have HB1 : Hid (Below _ _ _) := b1
  have HS1 : Hid (SrcAt w1 (w.heap.size + 1) x cap zs 0) := by
    show SrcAt w1 (w.heap.size + 1) x cap zs 0
    rw [← HS0.out]; exact s1
  clear s1 b1 HS
  go_wp2_with fail
  refine (drawTree_any _ x cap zs 0 w1 HS1.out (by omega)).mono ?_
  rintro e' w2 ⟨⟨v, f, next, rfl, hO, hT, hl, hn, hA⟩, hd⟩
  obtain ⟨pv, cv, rfl⟩ := hO.shape
  have hsz1 : w.heap.size + 1 < w1.heap.size := HS1.out.lt
  have hrb : w2.heap[w.heap.size]? = some (.cells #[.slice none 0 0, .int .i64 0] 37) := (hd.1.block _ (by omega) (fun e => by injection e with e; omega)).trans ((HB1.out.block _ (by rw [HS0.out]; omega)).trans HRB.out)
  obtain ⟨r0, r1, q0, q1⟩ := two_cells hrb
  have hbw : Below w.heap.size w w2 := by
    have hg := (grown_below (row := none) (HB0.out.trans (HB1.out.mono HB0.out.size)))
    refine Below.grown (Below.refl _ _) (hg.andThen hd.1 (fun j hj => .inl ?_)) (Nat.le_refl _) (fun k h => by cases h)
    injection hj with hj; rw [← hj]; omega
  have hsz2 := hd.1.size
  have HO : Hid (OwnT _ _ _ _) := hO
  have HA : Hid _ := hA
  have hnn : w.heap.size < w2.heap.size := by omega
  clear hO hA hrb hd HB0 HB1 HRB
  go_wp2_with fail
  refine bodyPost_ret (v := .agg #[.slice pv f.length cv, .int .i64 next]) (by simp [results, Try.results13, go_sem, *]) rfl ⟨⟨_, f, next, rfl, ?_, hT, hl, hn, HA.out⟩, ?_⟩
  · exact OwnT.mono ((HO.out.grown grown_set (by omega)).grown grown_set (by omega)) (by omega)
  · (repeat (first | (with_reducible exact Below.refl _ _) | (with_reducible assumption) | (with_reducible apply below_drewN) | (with_reducible apply Below.drew) | ((with_reducible refine Below.setCell ?_ ?_ _); rotate_left; focus (first | (simp; done) | (simp; omega) | omega)) | ((with_reducible refine Below.alloc ?_ ?_ _); rotate_left; focus (first | (simp; done) | (simp; omega) | omega))))
set_option maxRecDepth 4000 in
set_option maxHeartbeats 1000000 in
theorem drawnEntry_any (x : Option Addr) (cap : Nat) (zs : List Int) (w : World) (h : InC w x zs) :
    Calls Try.prog 14 #[.slice x zs.length cap] w fun e' w' => (∃ e : Ent, e' = .returned (.agg #[.string e.key, .int .i64 e.id]) ∧ EntD e) ∧ Below w.heap.size w w' := by
  have hb0 : Below w.heap.size w (w.alloc (.cells #[.string em, .int .i64 0] 40)) := (Below.refl _ _).alloc (Nat.le_refl _) _
  have hrb0 : (w.alloc (.cells #[.string em, .int .i64 0] 40)).heap[w.heap.size]? = some (.cells #[.string em, .int .i64 0] 40) := heap_alloc_new w _
  have HS : Hid (Calls _ _ _ _ _) := l00Source_any x cap zs _ (h.step hb0)
  have HB0 : Hid (Below _ _ _) := hb0
  have HRB : Hid ((w.alloc (.cells #[.string em, .int .i64 0] 40)).heap[w.heap.size]? = _) := hrb0
  have HS0 : Hid ((w.alloc (.cells #[.string em, .int .i64 0] 40)).heap.size = w.heap.size + 1) := by show _ = _; simp
  clear h hb0 hrb0
  go_enter Try.func14, Try.ntmps14
  go_wp2_with fail
  refine HS.out.mono ?_
  rintro e' w1 ⟨rfl, s1, b1⟩
  have HB1 : Hid (Below _ _ _) := b1
  have HS1 : Hid (SrcAt w1 (w.heap.size + 1) x cap zs 0) := by
    show SrcAt w1 (w.heap.size + 1) x cap zs 0
    rw [← HS0.out]; exact s1
  clear s1 b1 HS
  go_wp2_with fail
  refine (drawEntry_any _ x cap zs 0 w1 HS1.out (by omega)).mono ?_
  rintro e' w2 ⟨⟨e, rfl, hE⟩, hd⟩
  have hsz1 : w.heap.size + 1 < w1.heap.size := HS1.out.lt
  have hrb : w2.heap[w.heap.size]? = some (.cells #[.string em, .int .i64 0] 40) := (hd.1.block _ (by omega) (fun e => by injection e with e; omega)).trans ((HB1.out.block _ (by rw [HS0.out]; omega)).trans HRB.out)
  obtain ⟨r0, r1, q0, q1⟩ := two_cells hrb
  have hbw : Below w.heap.size w w2 := by
    have hg := (grown_below (row := none) (HB0.out.trans (HB1.out.mono HB0.out.size)))
    refine Below.grown (Below.refl _ _) (hg.andThen hd.1 (fun j hj => .inl ?_)) (Nat.le_refl _) (fun k h => by cases h)
    injection hj with hj; rw [← hj]; omega
  have hsz2 := hd.1.size
  have hnn : w.heap.size < w2.heap.size := by omega
  clear hrb hd HB0 HB1 HRB
  go_wp2_with fail
  refine bodyPost_ret (v := .agg #[.string e.key, .int .i64 e.id]) (by simp [results, Try.results14, go_sem, *]) rfl ⟨⟨e, rfl, hE⟩, ?_⟩
  (repeat (first | (with_reducible exact Below.refl _ _) | (with_reducible assumption) | (with_reducible apply below_drewN) | (with_reducible apply Below.drew) | ((with_reducible refine Below.setCell ?_ ?_ _); rotate_left; focus (first | (simp; done) | (simp; omega) | omega)) | ((with_reducible refine Below.alloc ?_ ?_ _); rotate_left; focus (first | (simp; done) | (simp; omega) | omega))))

theorem tree_ahead {f : List Pg} {next : Int} (h : treeB f next = true) : ∀ x ∈ allE f, lessE e0 x = true := fun x hx => (((chainB_iff e0 (allE f)).1 ((treeB_iff f next).1 h).2.2.2.2).1 x hx).2
theorem place_first {f : List Pg} {next : Int} (h : treeB f next = true) : place f e0 = 0 := by
  rcases Nat.eq_zero_or_pos (place f e0) with h0 | h0
  · exact h0
  · exfalso
    have h1 := place_at f e0 h0
    have hk := place_lt f e0 (tree_pos h)
    unfold atN at h1
    rw [List.getElem?_eq_getElem hk] at h1
    dsimp only at h1
    unfold atB at h1
    split at h1
    · cases h1
    · rename_i x t hx
      have hm : x ∈ allE f := mem_allE.2 ⟨_, List.getElem_mem hk, by rw [hx]; exact List.mem_cons_self⟩
      rw [tree_ahead h x hm] at h1
      cases h1
def allIv : Ivl := ⟨em, em, true⟩
theorem hasI_all (k : ByteArray) : hasI allIv k = true := by
  unfold hasI allIv
  simp only [Bool.true_or, Bool.and_true]
  rw [less_total k.toList em.toList]
  have : em.toList = [] := by first | (simp [em]; done) | kernel_rfl | decide +kernel
  rw [this]; cases k.toList <;> simp [Op.bytesLess]
theorem while_all {α : Type} (P : α → Bool) : ∀ l : List α, (∀ x ∈ l, P x = true) → l.takeWhile P = l
  | [], _ => rfl
  | a :: t, h => by rw [List.takeWhile_cons, if_pos (h a List.mem_cons_self), while_all P t (fun x hx => h x (List.mem_cons_of_mem _ hx))]
theorem over_all {f : List Pg} {next : Int} (h : treeB f next = true) : overP f allIv = f := by
  have h0 : loP f allIv = 0 := place_first h
  unfold overP
  rw [h0]
  have : (f.drop (0 + 1)).takeWhile (goB allIv) = f.drop 1 := by
    exact while_all _ _ (fun p _ => by unfold goB allIv; simp)
  rw [this, List.drop_zero, List.take_append_drop]
theorem range_all {f : List Pg} {next : Int} (h : treeB f next = true) : rangeE f next allIv = allE f ∧ (rangeN f next allIv).length = f.length ∧ rangeC f next = 0 := by
  unfold rangeE rangeN rangeC
  rw [if_pos h, if_pos h, if_pos h, over_all h]
  refine ⟨?_, numsOf_len f, rfl⟩
  unfold entsOf
  rw [List.filter_eq_self.2 (fun e _ => hasI_all e.key)]; rfl
theorem once_at (P S : List Ent) (e : Ent) (hno : e ∉ P ++ S) : ∃ d, d < (P ++ e :: S).length ∧ ∀ j (h : j < (P ++ e :: S).length), (P ++ e :: S)[j] = e ↔ j = d := by
  refine ⟨P.length, by simp, fun j h => ⟨fun he => ?_, fun he => ?_⟩⟩
  · rcases Nat.lt_trichotomy j P.length with h1 | h1 | h1
    · rw [List.getElem_append_left h1] at he
      exact absurd (List.mem_append_left S (by rw [← he]; exact List.getElem_mem h1)) hno
    · exact h1
    · rw [List.getElem_append_right (by omega)] at he
      obtain ⟨m, hm⟩ : ∃ m, j - P.length = m + 1 := ⟨j - P.length - 1, by omega⟩
      simp only [hm, List.getElem_cons_succ] at he
      exact absurd (List.mem_append_right P (by rw [← he]; exact List.getElem_mem _)) hno
  · subst he
    rw [List.getElem_append_right (Nat.le_refl _)]; simp
theorem eqlEnt4 (a c : ByteArray) (b d : Int) (w : World) : (binOp .eql 40 (.agg #[.string a, .int .i64 b]) (.agg #[.string c, .int .i64 d])).run Try.prog w = .ok (.bool (a.toList == c.toList && b == d)) w := by
  rw [run_eql_struct, eqEnt]; rfl
end Go.Proofs.Ytnmpfooegnmknaa.Tr
