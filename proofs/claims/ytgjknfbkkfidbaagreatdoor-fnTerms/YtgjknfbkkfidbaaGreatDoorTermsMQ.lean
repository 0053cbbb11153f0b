import Derived.Test.YtgjknfbkkfidbaaGreatDoorEncUQ
import Derived.Test.YtgjknfbkkfidbaaGreatDoorRowTQ
import Derived.Test.YtgjknfbkkfidbaaGreatDoorTermUQ
import Derived.BigQuiet
import Derived.Test.YtgjknfbkkfidbaaGreatDoorLawBQ
import Derived.ProofKit
/- What the terms of one value say of each other, said plainly. Nothing of the program is used here. -/
namespace Go.Proofs.YtgjknfbkkfidbaaGreatDoor
open Go.RowKit
set_option linter.unusedVariables false

theorem any_split (l : List Val) (p q r : Val → Bool) (h : ∀ v ∈ l, p v = (q v || r v)) : l.any p = (l.any q || l.any r) := by
  induction l with
  | nil => rfl
  | cons v l ih =>
    rw [List.any_cons, List.any_cons, List.any_cons, h v (by simp), ih (fun u hu => h u (by simp [hu]))]
    cases q v <;> cases r v <;> cases l.any q <;> cases l.any r <;> rfl
theorem oneT_lte (c v : Val) (hc : okB c = true) (hv : okB v = true) : oneT 4 c v = (oneT 1 c v || oneT 3 c v) := by
  have e1 : oneT 1 c v = decide (v = c) := by simp [oneT]
  rw [oneT_ord 4 c v (by decide), oneT_ord 3 c v (by decide), e1]
  by_cases h : v = c
  · subst h
    rw [decide_eq_true rfl, decide_eq_true rfl, ordV_refl]; rfl
  · rw [decide_eq_false h, Bool.false_or]
    have hne : ordV 5 v c ≠ 0 := fun e => h (ordV_zero 5 v c hv hc e)
    congr 1
    show decide (ordV 5 v c ≤ 0) = decide (ordV 5 v c < 0)
    rw [Bool.eq_iff_iff]; simp; omega
theorem oneT_gte (c v : Val) (hc : okB c = true) (hv : okB v = true) : oneT 6 c v = (oneT 1 c v || oneT 5 c v) := by
  have e1 : oneT 1 c v = decide (v = c) := by simp [oneT]
  rw [oneT_ord 6 c v (by decide), oneT_ord 5 c v (by decide), e1]
  by_cases h : v = c
  · subst h
    rw [decide_eq_true rfl, decide_eq_true rfl, ordV_refl]; rfl
  · rw [decide_eq_false h, Bool.false_or]
    have hne : ordV 5 v c ≠ 0 := fun e => h (ordV_zero 5 v c hv hc e)
    congr 1
    show decide (0 ≤ ordV 5 v c) = decide (0 < ordV 5 v c)
    rw [Bool.eq_iff_iff]; simp; omega
theorem heldT_any (op : Int) (l : List Val) (h : op ≠ 9) : heldT op l = heldT 1 l := by unfold heldT; by_cases hl : l = [] <;> simp [hl, h]
theorem letsT_plain (op : Int) (c : Val) (l : List Val) (h8 : op ≠ 8) (h9 : op ≠ 9) (h2 : op ≠ 2) : letsT op c l = (heldT 1 l).any (oneT op c) := by
  unfold letsT; rw [if_neg h8, heldT_any op l h9, decide_eq_false h2]; simp
theorem lets_ne (c : Val) (l : List Val) : letsT 2 c l = !(letsT 1 c l) := by
  rw [letsT_plain 1 c l (by decide) (by decide) (by decide)]
  unfold letsT
  rw [if_neg (by decide), heldT_any 2 l (by decide), decide_eq_true rfl]
  have e : oneT 2 c = oneT 1 c := by funext v; simp [oneT]
  rw [e]; cases (heldT 1 l).any (oneT 1 c) <;> rfl
theorem lets_lte (c : Val) (l : List Val) (hc : okB c = true) (hl : ∀ v ∈ l, okB v = true) : letsT 4 c l = (letsT 1 c l || letsT 3 c l) := by
  rw [letsT_plain 4 c l (by decide) (by decide) (by decide), letsT_plain 1 c l (by decide) (by decide) (by decide), letsT_plain 3 c l (by decide) (by decide) (by decide)]
  exact any_split _ _ _ _ (fun v hv => oneT_lte c v hc (heldT_ok 1 l hl v hv))
theorem lets_gte (c : Val) (l : List Val) (hc : okB c = true) (hl : ∀ v ∈ l, okB v = true) : letsT 6 c l = (letsT 1 c l || letsT 5 c l) := by
  rw [letsT_plain 6 c l (by decide) (by decide) (by decide), letsT_plain 1 c l (by decide) (by decide) (by decide), letsT_plain 5 c l (by decide) (by decide) (by decide)]
  exact any_split _ _ _ _ (fun v hv => oneT_gte c v hc (heldT_ok 1 l hl v hv))
theorem lets_is (l : List Val) : letsT 8 ⟨1, 0, em⟩ l = !(letsT 8 ⟨1, 1, em⟩ l) := by
  unfold letsT
  rw [if_pos rfl, if_pos rfl]
  cases decide (0 < (l.length : Int)) <;> rfl

end Go.Proofs.YtgjknfbkkfidbaaGreatDoor

/- What the specification draws out of a code: a value, a document, a term. -/
namespace Go.Proofs.YtgjknfbkkfidbaaGreatDoor
open Go.RowKit
set_option linter.unusedVariables false

theorem Res3.grown {w W W' : World} {a b c : Value} (h : Res3 w W a b c) (hg : W.grownBy W' (some (w.heap.size + 1))) : Res3 w W' a b c :=
  have e := hg.block w.heap.size h.lt (fun e => by injection e; omega)
  ⟨Below.grown h.bel hg h.bel.size (fun j hj => by injection hj with hj; omega), Nat.lt_of_lt_of_le h.lt hg.size, (World.cell?_of_block e).trans h.c0, (World.cell?_of_block e).trans h.c1, (World.cell?_of_block e).trans h.c2, (World.frozen?_of_block e).trans h.z0, (World.frozen?_of_block e).trans h.z1, (World.frozen?_of_block e).trans h.z2⟩
set_option maxRecDepth 4000 in
set_option maxHeartbeats 1000000 in
theorem valueT_any (x : Option Addr) (cap : Nat) (zs : List Int) (w : World) (h : InC w x zs) :
    Calls Tryz.prog 36 #[.slice x zs.length cap] w fun e w' => (∃ v : Val, e = .returned (.agg #[.int .i64 v.k, .int .i64 v.n, .string v.t]) ∧ okB v = true) ∧ Below w.heap.size w w' := by
  have K0 := Res3.start w (.int .i64 0) (.int .i64 0) (.string em) 24
  have HS : Hid (Calls _ _ _ _ _) := l00Source_any x cap zs (w.alloc (.cells #[.int .i64 0, .int .i64 0, .string em] 24)) (h.step K0.bel)
  clear h
  go_enter Tryz.func36, Tryz.ntmps36
  go_wp2_with fail
  refine HS.out.mono ?_
  rintro e w1 ⟨rfl, s1, b1⟩
  have K1 := K0.step b1
  simp only [heap_size_alloc] at s1
  have HSR : Hid (SrcAt _ _ _ _ _ _) := s1
  clear s1 b1 K0 HS
  go_wp2_with fail
  refine (val_at 3 (w.heap.size + 1) x cap zs 0 _ HSR.out (by decide)).mono ?_
  rintro e w2 ⟨⟨v, rfl, hv⟩, d2⟩
  have K2 := K1.grown d2.1
  have HV : Hid (okB v = true) := hv
  have a0 := K2.c0
  have a1 := K2.c1
  have a2 := K2.c2
  have z0 := K2.z0
  have z1 := K2.z1
  have z2 := K2.z2
  have hlt := K2.lt
  have B2 := K2.bel
  clear d2 K1 HSR
  go_wp2_with fail
  refine bodyPost_ret (v := .agg #[.int .i64 v.k, .int .i64 v.n, .string v.t]) (by simp [results, Tryz.results36, go_sem, *]) rfl ⟨⟨v, rfl, HV.out⟩, ?_⟩
  (repeat (first | (with_reducible exact Below.refl _ _) | (with_reducible assumption) | (with_reducible apply below_drewN) | (with_reducible apply Below.drew) | ((with_reducible refine Below.setCell ?_ ?_ _); rotate_left; focus (first | (simp; done) | (simp; omega) | omega)) | ((with_reducible refine Below.alloc ?_ ?_ _); rotate_left; focus (first | (simp; done) | (simp; omega) | omega))))

set_option maxRecDepth 4000 in
set_option maxHeartbeats 1000000 in
theorem docT_any (x : Option Addr) (cap : Nat) (zs : List Int) (w : World) (h : InC w x zs) :
    Calls Tryz.prog 13 #[.slice x zs.length cap] w fun e w' => (∃ v : Val, e = .returned (.agg #[.int .i64 v.k, .int .i64 v.n, .string v.t]) ∧ docB v = true) ∧ Below w.heap.size w w' := by
  have K0 := Res3.start w (.int .i64 0) (.int .i64 0) (.string em) 24
  have HS : Hid (Calls _ _ _ _ _) := l00Source_any x cap zs (w.alloc (.cells #[.int .i64 0, .int .i64 0, .string em] 24)) (h.step K0.bel)
  clear h
  go_enter Tryz.func13, Tryz.ntmps13
  go_wp2_with fail
  refine HS.out.mono ?_
  rintro e w1 ⟨rfl, s1, b1⟩
  have K1 := K0.step b1
  simp only [heap_size_alloc] at s1
  have HSR : Hid (SrcAt _ _ _ _ _ _) := s1
  clear s1 b1 K0 HS
  go_wp2_with fail
  refine (doc_at 2 (val_at 2) (w.heap.size + 1) x cap zs 0 _ HSR.out (by decide)).mono ?_
  rintro e w2 ⟨⟨v, rfl, hv, h5⟩, d2⟩
  have K2 := K1.grown d2.1
  have HV : Hid (docB v = true) := by unfold docB; rw [decide_eq_true h5, hv]; rfl
  have a0 := K2.c0
  have a1 := K2.c1
  have a2 := K2.c2
  have z0 := K2.z0
  have z1 := K2.z1
  have z2 := K2.z2
  have hlt := K2.lt
  have B2 := K2.bel
  clear d2 K1 HSR
  go_wp2_with fail
  refine bodyPost_ret (v := .agg #[.int .i64 v.k, .int .i64 v.n, .string v.t]) (by simp [results, Tryz.results13, go_sem, *]) rfl ⟨⟨v, rfl, HV.out⟩, ?_⟩
  (repeat (first | (with_reducible exact Below.refl _ _) | (with_reducible assumption) | (with_reducible apply below_drewN) | (with_reducible apply Below.drew) | ((with_reducible refine Below.setCell ?_ ?_ _); rotate_left; focus (first | (simp; done) | (simp; omega) | omega)) | ((with_reducible refine Below.alloc ?_ ?_ _); rotate_left; focus (first | (simp; done) | (simp; omega) | omega))))

/-- Five cells of the answer. -/
structure Res5 (w W : World) : Prop where
  bel : Below w.heap.size w W
  blk : W.heap[w.heap.size]? = some (.cells #[.int .i64 0, .string em, .int .i64 0, .int .i64 0, .string em] 54)
theorem Res5.lt {w W : World} (X : Res5 w W) : w.heap.size < W.heap.size := (Array.getElem?_eq_some_iff.1 X.blk).1
theorem Res5.start (w : World) : Res5 w (w.alloc (.cells #[.int .i64 0, .string em, .int .i64 0, .int .i64 0, .string em] 54)) := ⟨(Below.refl _ _).alloc (Nat.le_refl _) _, heap_alloc_new w _⟩
theorem Res5.step {w W W' : World} (X : Res5 w W) (hb : Below W.heap.size W W') : Res5 w W' := ⟨X.bel.trans (hb.mono X.bel.size), (hb.block _ X.lt).trans X.blk⟩
theorem Res5.grown {w W W' : World} (X : Res5 w W) (hg : W.grownBy W' (some (w.heap.size + 1))) : Res5 w W' :=
  ⟨Below.grown X.bel hg X.bel.size (fun j hj => by injection hj with hj; omega), (hg.block _ X.lt (fun e => by injection e; omega)).trans X.blk⟩
theorem Res5.cells {w W : World} (X : Res5 w W) : W.cell? ⟨w.heap.size, 0, none⟩ = some (.int .i64 0) ∧ W.cell? ⟨w.heap.size, 1, none⟩ = some (.string em) ∧ W.cell? ⟨w.heap.size, 2, none⟩ = some (.int .i64 0) ∧ W.cell? ⟨w.heap.size, 3, none⟩ = some (.int .i64 0) ∧ W.cell? ⟨w.heap.size, 4, none⟩ = some (.string em) ∧ W.frozen? ⟨w.heap.size, 0, none⟩ = false ∧ W.frozen? ⟨w.heap.size, 1, none⟩ = false ∧ W.frozen? ⟨w.heap.size, 2, none⟩ = false ∧ W.frozen? ⟨w.heap.size, 3, none⟩ = false ∧ W.frozen? ⟨w.heap.size, 4, none⟩ = false := by
  have h := X.blk
  refine ⟨?_, ?_, ?_, ?_, ?_, ?_, ?_, ?_, ?_, ?_⟩ <;> simp [World.cell?, World.frozen?, h]
set_option maxRecDepth 4000 in
set_option maxHeartbeats 1000000 in
theorem termT_any (x : Option Addr) (cap : Nat) (zs : List Int) (w : World) (h : InC w x zs) :
    Calls Tryz.prog 35 #[.slice x zs.length cap] w fun e w' => (∃ t : Trm, e = .returned (.agg #[.int .i64 t.op, .string t.p, .int .i64 t.c.k, .int .i64 t.c.n, .string t.c.t]) ∧ termB t.op t.p t.c = true) ∧ Below w.heap.size w w' := by
  have K0 := Res5.start w
  have HS : Hid (Calls _ _ _ _ _) := l00Source_any x cap zs (w.alloc (.cells #[.int .i64 0, .string em, .int .i64 0, .int .i64 0, .string em] 54)) (h.step K0.bel)
  clear h
  go_enter Tryz.func35, Tryz.ntmps35
  go_wp2_with fail
  refine HS.out.mono ?_
  rintro e w1 ⟨rfl, s1, b1⟩
  have K1 := K0.step b1
  simp only [heap_size_alloc] at s1
  have HSR : Hid (SrcAt _ _ _ _ _ _) := s1
  clear s1 b1 K0 HS
  go_wp2_with fail
  refine (term_at (w.heap.size + 1) x cap zs 0 _ HSR.out (by decide)).mono ?_
  rintro e w2 ⟨⟨t, rfl, ht⟩, d2⟩
  have K2 := K1.grown d2.1
  have HV : Hid (termB t.op t.p t.c = true) := ht
  obtain ⟨c0, c1, c2, c3, c4, f0, f1, f2, f3, f4⟩ := K2.cells
  have hlt := K2.lt
  have B2 := K2.bel
  clear d2 K1 HSR ht
  go_wp2_with fail
  refine bodyPost_ret (v := .agg #[.int .i64 t.op, .string t.p, .int .i64 t.c.k, .int .i64 t.c.n, .string t.c.t]) (by simp [results, Tryz.results35, go_sem, *]) rfl ⟨⟨t, rfl, HV.out⟩, ?_⟩
  (repeat (first | (with_reducible exact Below.refl _ _) | (with_reducible assumption) | (with_reducible apply below_drewN) | (with_reducible apply Below.drew) | ((with_reducible refine Below.setCell ?_ ?_ _); rotate_left; focus (first | (simp; done) | (simp; omega) | omega)) | ((with_reducible refine Below.alloc ?_ ?_ _); rotate_left; focus (first | (simp; done) | (simp; omega) | omega))))

end Go.Proofs.YtgjknfbkkfidbaaGreatDoor

/- The law on terms, walked: what one value's terms say of one document. -/
namespace Go.Proofs.YtgjknfbkkfidbaaGreatDoor
open Go.RowKit
set_option linter.unusedVariables false

theorem infoO : (Tryz.prog.info? 4).map (fun i => (i.zero, i.size, i.bytes)) = some (some (.bool false), 1, 1) := by kernel_rfl
/-- What the first terms of a value say of a document. -/
def tolds (m : Nat → Bool) (n : Nat) : List Value := (List.range n).map fun j => .bool (m j)
theorem tolds_succ (m : Nat → Bool) (n : Nat) : tolds m (n + 1) = tolds m n ++ [.bool (m n)] := by unfold tolds; rw [List.range_succ]; simp
/-- A block of a value. -/
structure Y3 (U : World) (b : Nat) (v : Val) : Prop where
  blk : U.heap[b]? = some (.cells #[.int .i64 v.k, .int .i64 v.n, .string v.t] 24)
theorem Y3.lt {U : World} {b : Nat} {v : Val} (X : Y3 U b v) : b < U.heap.size := (Array.getElem?_eq_some_iff.1 X.blk).1
theorem Y3.cells {U : World} {b : Nat} {v : Val} (X : Y3 U b v) : U.cell? ⟨b, 0, none⟩ = some (.int .i64 v.k) ∧ U.cell? ⟨b, 1, none⟩ = some (.int .i64 v.n) ∧ U.cell? ⟨b, 2, none⟩ = some (.string v.t) := by
  have h := X.blk
  refine ⟨?_, ?_, ?_⟩ <;> simp [World.cell?, h]
theorem Y3.new (U : World) (v : Val) : Y3 (U.alloc (.cells #[.int .i64 v.k, .int .i64 v.n, .string v.t] 24)) U.heap.size v := ⟨heap_alloc_new U _⟩
theorem Y3.under {U U' : World} {b B : Nat} {v : Val} (X : Y3 U b v) (hb : Below B U U') (h : b < B) : Y3 U' b v := ⟨(hb.block _ h).trans X.blk⟩
theorem Y3.step {U U' : World} {b : Nat} {v : Val} (X : Y3 U b v) (hb : Below U.heap.size U U') : Y3 U' b v := X.under hb X.lt
theorem T5.under {W W' : World} {b B : Nat} {v0 v1 v2 v3 v4 : Value} (X : T5 W b v0 v1 v2 v3 v4) (hb : Below B W W') (h : b < B) : T5 W' b v0 v1 v2 v3 v4 := ⟨(hb.block _ h).trans X.blk⟩
theorem T5.step {W W' : World} {b : Nat} {v0 v1 v2 v3 v4 : Value} (X : T5 W b v0 v1 v2 v3 v4) (hb : Below W.heap.size W W') : T5 W' b v0 v1 v2 v3 v4 := X.under hb X.lt
theorem matchP_low (k : Nat) (hk : k < 6) (p : ByteArray) (c doc : Val) (hp : pathB p = true) (hc : okB c = true) (hd : docB doc = true) : matchP ((k : Int) + 1) p c doc = (termL ((k : Int) + 1) p c doc, 0) := by
  have h : termB ((k : Int) + 1) p c = true := by
    unfold termB takesT
    rw [hp, hc, if_pos (by omega)]; rfl
  unfold matchP
  rw [if_pos ⟨h, hd⟩]
theorem matchP_is (n : Int) (hn : n = 0 ∨ n = 1) (p : ByteArray) (doc : Val) (hp : pathB p = true) (hd : docB doc = true) : matchP 8 p ⟨1, n, em⟩ doc = (termL 8 p ⟨1, n, em⟩ doc, 0) := by
  have h : termB 8 p ⟨1, n, em⟩ = true := by
    unfold termB
    rw [hp, ok_bool n (by omega)]; rfl
  unfold matchP
  rw [if_pos ⟨h, hd⟩]
theorem owns_same {W W' : World} {B n : Nat} {e : TypeId} {size : Nat} {v : Value} {xs : List Value} (h : W.ownsRow B e size v n xs) (hb : Below W.heap.size W W') : W'.ownsRow B e size v n xs :=
  h.kept (grown_below hb) (by cases h : v.ownBlock; exact .inl rfl; exact .inr (by simp))

set_option maxRecDepth 4000 in
set_option maxHeartbeats 8000000 in
theorem lawTerms (x x' : Option Addr) (cap cap' : Nat) (zs zs' : List Int) (w : World) (hin : InB w x zs) (hin' : InB w x' zs') (hby : ∀ i, i < zs.length → 0 ≤ zs.getD i 0 ∧ zs.getD i 0 < 256) (hby' : ∀ i, i < zs'.length → 0 ≤ zs'.getD i 0 ∧ zs'.getD i 0 < 256)
    (hm : zs.length ≤ maxLen) (hm' : zs'.length ≤ maxLen) :
    Calls Tryz.prog 6 #[.slice x zs.length cap, .slice x' zs'.length cap'] w fun e w' => e = .returned (.bool true) ∧ Below w.heap.size w w' := by
  have HIN : Hid _ := hin
  have HIN' : Hid _ := hin'
  have HBY : Hid _ := hby
  have HBY' : Hid _ := hby'
  unfold maxLen at hm hm'
  clear hin hin' hby hby'
  by_cases h1 : (1048576 : Int) < zs.length
  · go_enter Tryz.func6, Tryz.ntmps6
    go_wp2_with fail
    go_ret
    exact ⟨rfl, Below.refl _ _⟩
  by_cases h2 : (1048576 : Int) < zs'.length
  · go_enter Tryz.func6, Tryz.ntmps6
    go_wp2_with fail
    go_ret
    exact ⟨rfl, Below.refl _ _⟩
  obtain ⟨i0, hi0, hz0, hz1, hz2⟩ := info_parts infoO
  have C1 : InC w x zs := ⟨HIN.out, HBY.out, by omega⟩
  have HC2 : Hid (InC w x' zs') := (⟨HIN'.out, HBY'.out, by omega⟩ : InC w x' zs')
  have HV1 : Hid (Calls _ _ _ _ _) := docT_any x cap zs w C1
  clear C1 HIN HIN' HBY HBY'
  go_enter Tryz.func6, Tryz.ntmps6
  go_wp2_with fail
  refine HV1.out.mono ?_
  rintro e w1 ⟨⟨doc, rfl, hdoc⟩, b1⟩
  have HDB : Hid (docB doc = true) := hdoc
  have hdo : okB doc = true := by unfold docB at hdoc; simp at hdoc; exact hdoc.2
  have hds := ok_size doc hdo
  have HDO : Hid (okB doc = true) := hdo
  have Y1 := Y3.new w1 doc
  have B2 : Below w.heap.size w (w1.alloc (.cells #[.int .i64 doc.k, .int .i64 doc.n, .string doc.t] 24)) := b1.alloc b1.size _
  clear HV1 hdoc hdo b1
  go_wp2_with fail
  generalize w1.alloc (.cells #[.int .i64 doc.k, .int .i64 doc.n, .string doc.t] 24) = W2 at Y1 B2 ⊢
  obtain ⟨bd, hbd⟩ : ∃ bd, bd = w1.heap.size := ⟨_, rfl⟩
  rw [← hbd] at Y1 ⊢
  clear hbd
  refine (termT_any x' cap' zs' _ (HC2.out.step B2)).mono ?_
  rintro e w3 ⟨⟨t, rfl, ht⟩, b3⟩
  have HTB : Hid (termB t.op t.p t.c = true) := ht
  have htp : pathB t.p = true := by unfold termB at ht; simp at ht; exact ht.1
  have htc : okB t.c = true := by unfold termB at ht; simp at ht; exact ht.2.1
  have hps : t.p.size ≤ 50 := by
    rcases Nat.lt_or_ge 50 t.p.size with h' | h'
    · rw [pathB_long t.p h'] at htp; cases htp
    · exact h'
  have hcs := ok_size t.c htc
  have HTP : Hid (pathB t.p = true) := htp
  have Z4 := T5.new w3 (.int .i64 t.op) (.string t.p) (.int .i64 t.c.k) (.int .i64 t.c.n) (.string t.c.t)
  have bA : Below W2.heap.size W2 (w3.alloc (.cells #[.int .i64 t.op, .string t.p, .int .i64 t.c.k, .int .i64 t.c.n, .string t.c.t] 54)) := b3.alloc b3.size _
  have Y4 := Y1.step bA
  have B4 : Below w.heap.size w (w3.alloc (.cells #[.int .i64 t.op, .string t.p, .int .i64 t.c.k, .int .i64 t.c.n, .string t.c.t] 54)) := B2.trans (bA.mono B2.size)
  clear ht htp htc Y1 B2 bA b3
  go_wp2_with fail
  generalize w3.alloc (.cells #[.int .i64 t.op, .string t.p, .int .i64 t.c.k, .int .i64 t.c.n, .string t.c.t] 54) = W4 at Y4 Z4 B4 ⊢
  obtain ⟨bt, hbt⟩ : ∃ bt, bt = w3.heap.size := ⟨_, rfl⟩
  rw [← hbt] at Z4 ⊢
  clear hbt
  refine (valueT_any x' cap' zs' _ (HC2.out.step B4)).mono ?_
  rintro e w5 ⟨⟨v, rfl, hv⟩, b5⟩
  have hvs := ok_size v hv
  have HVO : Hid (okB v = true) := hv
  have X6 := Y3.new w5 v
  have bA : Below W4.heap.size W4 (w5.alloc (.cells #[.int .i64 v.k, .int .i64 v.n, .string v.t] 24)) := b5.alloc b5.size _
  have Y6 := Y4.step bA
  have Z6 := Z4.step bA
  have B6 : Below w.heap.size w (w5.alloc (.cells #[.int .i64 v.k, .int .i64 v.n, .string v.t] 24)) := B4.trans (bA.mono B4.size)
  clear hv Y4 Z4 B4 bA b5 HC2
  go_wp2_with fail
  generalize w5.alloc (.cells #[.int .i64 v.k, .int .i64 v.n, .string v.t] 24) = W6 at X6 Y6 Z6 B6 ⊢
  obtain ⟨bv, hbv⟩ : ∃ bv, bv = w5.heap.size := ⟨_, rfl⟩
  rw [← hbv] at X6 ⊢
  clear hbv
  refine (specValueOK_any v.k v.n v.t _ (by omega)).mono ?_
  rintro e w7 ⟨rfl, b7⟩
  rw [show okB ⟨v.k, v.n, v.t⟩ = true from HVO.out]
  have X7 := X6.step b7
  have Y7 := Y6.step b7
  have Z7 := Z6.step b7
  have B7 : Below w.heap.size w w7 := B6.trans (b7.mono B6.size)
  obtain ⟨d0, d1, d2⟩ := Y7.cells
  clear X6 Y6 Z6 B6 b7
  go_wp2_with fail
  refine (specValueOK_any doc.k doc.n doc.t _ (by omega)).mono ?_
  rintro e w8 ⟨rfl, b8⟩
  rw [show okB ⟨doc.k, doc.n, doc.t⟩ = true from HDO.out]
  have X8 := X7.step b8
  have Y8 := Y7.step b8
  have Z8 := Z7.step b8
  have B8 : Below w.heap.size w w8 := B7.trans (b8.mono B7.size)
  clear X7 Y7 Z7 B7 b8 d0 d1 d2
  obtain ⟨mm, hmm⟩ : ∃ mm : Nat → Bool, ∀ j, mm j = termL ((j : Int) + 1) t.p v doc := ⟨fun j => termL ((j : Int) + 1) t.p v doc, fun _ => rfl⟩
  have hall : ∀ u ∈ getP (pieces t.p) doc, okB u = true := getP_ok _ doc HDO.out
  have F2 : mm 1 = !(mm 0) := by rw [hmm, hmm]; exact lets_ne v _
  have F4 : mm 3 = (mm 0 || mm 2) := by rw [hmm, hmm, hmm]; exact lets_lte v _ HVO.out hall
  have F6 : mm 5 = (mm 0 || mm 4) := by rw [hmm, hmm, hmm]; exact lets_gte v _ HVO.out hall
  have HT : Hid (∀ k : Nat, k < 6 → ∀ W : World, Calls Tryz.prog 39 #[.agg #[.int .i64 ((k : Int) + 1), .string t.p, .int .i64 v.k, .int .i64 v.n, .string v.t], .agg #[.int .i64 doc.k, .int .i64 doc.n, .string doc.t]] W fun e w' => e = .returned (.tuple #[.bool (mm k), .int .i64 0]) ∧ Below W.heap.size W w') := fun k hk W => by
    have := termMatches_any ((k : Int) + 1) t.p v doc W (by omega) (by omega) (by omega)
    rw [matchP_low k hk t.p v doc HTP.out HVO.out HDB.out, ← hmm] at this; exact this
  have HS : Hid (∀ k : Nat, k < 6 → ∀ W : World, Calls Tryz.prog 40 #[.agg #[.int .i64 ((k : Int) + 1), .string t.p, .int .i64 v.k, .int .i64 v.n, .string v.t], .agg #[.int .i64 doc.k, .int .i64 doc.n, .string doc.t]] W fun e w' => e = .returned (.tuple #[.bool (mm k), .int .i64 0]) ∧ Below W.heap.size W w') := fun k hk W => by
    have := specTermMatches_any ((k : Int) + 1) t.p v doc W (by omega) (by omega) (by omega)
    rw [matchP_low k hk t.p v doc HTP.out HVO.out HDB.out, ← hmm] at this; exact this
  obtain ⟨m8, hm8⟩ : ∃ m8, m8 = termL 8 t.p ⟨1, 1, em⟩ doc := ⟨_, rfl⟩
  have HT8 : Hid (∀ W : World, Calls Tryz.prog 39 #[.agg #[.int .i64 8, .string t.p, .int .i64 1, .int .i64 1, .string em], .agg #[.int .i64 doc.k, .int .i64 doc.n, .string doc.t]] W fun e w' => e = .returned (.tuple #[.bool m8, .int .i64 0]) ∧ Below W.heap.size W w') := fun W => by
    have := termMatches_any 8 t.p ⟨1, 1, em⟩ doc W (by omega) (by decide) (by omega)
    rw [matchP_is 1 (.inr rfl) t.p doc HTP.out HDB.out, ← hm8] at this; exact this
  have HT9 : Hid (∀ W : World, Calls Tryz.prog 39 #[.agg #[.int .i64 8, .string t.p, .int .i64 1, .int .i64 0, .string em], .agg #[.int .i64 doc.k, .int .i64 doc.n, .string doc.t]] W fun e w' => e = .returned (.tuple #[.bool (!m8), .int .i64 0]) ∧ Below W.heap.size W w') := fun W => by
    have := termMatches_any 8 t.p ⟨1, 0, em⟩ doc W (by omega) (by decide) (by omega)
    rw [matchP_is 0 (.inl rfl) t.p doc HTP.out HDB.out, show termL 8 t.p ⟨1, 0, em⟩ doc = !m8 from by rw [hm8]; exact lets_is _] at this; exact this
  have HOK : Hid (∀ W : World, Calls Tryz.prog 41 #[.agg #[.int .i64 t.op, .string t.p, .int .i64 t.c.k, .int .i64 t.c.n, .string t.c.t]] W fun e w' => e = .returned (.bool true) ∧ Below W.heap.size W w') := fun W => by
    have := termOK_any t.op t.p t.c.k t.c.n t.c.t W (by omega) (by omega)
    rw [show termB t.op t.p ⟨t.c.k, t.c.n, t.c.t⟩ = true from HTB.out] at this; exact this
  have HF2 : Hid (_ = _) := F2
  have HF4 : Hid (_ = _) := F4
  have HF6 : Hid (_ = _) := F6
  have HX8 : Hid (Y3 _ _ _) := X8
  have HY8 : Hid (Y3 _ _ _) := Y8
  have HZ8 : Hid (T5 _ _ _ _ _ _ _) := Z8
  have hlx := X8.lt
  have hly := Y8.lt
  have hlz := Z8.lt
  clear hmm hall F2 F4 F6 HDB HDO HTB HTP HVO hm8 X8 Y8 Z8 hps hcs hds hvs
  go_wp2_with fail
  go_loopw [9, 10] (fun u i wr => ∃ k : Nat, k ≤ 6 ∧ i = .int .i64 ((k : Int) + 1) ∧ wr.ownsRow w8.heap.size 4 1 u k (tolds mm k) ∧ u ≠ .slice none 0 0 ∧ Below w8.heap.size w8 wr) (fun _ i _ => 7 - (intOf i).toNat)
  case atStart => exact ⟨0, by omega, by go_num, World.ownsRow_made w8 #[] 0 (Nat.le_refl _) (by unfold maxLen; omega) rfl, by simp, (Below.refl _ _).alloc (Nat.le_refl _) _⟩
  case round =>
    obtain ⟨k, hk, rfl, hown, hnn, hbel⟩ := hrel
    have HO : Hid (World.ownsRow _ _ _ _ _ _ _) := hown
    have HN : Hid _ := hnn
    have hsz0 := hbel.size
    have XR := HX8.out.under hbel hlx
    have YR := HY8.out.under hbel hly
    obtain ⟨a0, a1, a2⟩ := XR.cells
    obtain ⟨d0, d1, d2⟩ := YR.cells
    clear hown hnn
    by_cases hlt : k < 6
    · have hlt2 : (k : Int) + 1 ≤ 6 := by omega
      go_wp2_with fail
      refine (HT.out k hlt _).mono ?_
      rintro e wa ⟨rfl, ba⟩
      have XA := XR.step ba
      have YA := YR.step ba
      have BA : Below w8.heap.size w8 wa := hbel.trans (ba.mono hbel.size)
      have HOA : Hid (World.ownsRow _ _ _ _ _ _ _) := owns_same HO.out ba
      clear a0 a1 a2 d0 d1 d2 ba XR YR
      obtain ⟨a0, a1, a2⟩ := XA.cells
      obtain ⟨d0, d1, d2⟩ := YA.cells
      go_wp2_with fail
      refine (HS.out k hlt _).mono ?_
      rintro e wb ⟨rfl, bb⟩
      have OB := owns_same HOA.out bb
      have BB : Below w8.heap.size w8 wb := BA.trans (bb.mono BA.size)
      have hszb := BB.size
      clear a0 a1 a2 d0 d1 d2 bb XA YA HOA BA hbel
      have hself : (mm k != mm k) = false := by simp
      go_wp2_with (at_builtin; refine wpList_append_own _ rfl (.tmp 81) (.tmp 83) 57 rfl w8.heap.size 4 i0 (.bool false) 1 1 Tryz.underlying57 hi0 hz0 hz1 hz2 rfl (by decide) _ _ _ rfl (OB.alloc _) ⟨wb.heap.size, 0, none⟩ 1 1 [.bool (mm k)] rfl rfl ?c1 ?c2 ?c3 ?c4 ?c5 ?_)
      case c1 =>
        intro j u hj
        match j, hj with
        | 0, hj => simp at hj; subst hj; simp [Addr.add, go_sem]
        | j + 1, hj => simp at hj
      case c2 => intro u hu; simp at hu; subst hu; rfl
      case c3 => unfold maxLen; omega
      case c4 => omega
      case c5 => simp; omega
      intro v' w2 hown2 hgrow hnv
      have HV : Hid _ := hnv
      have HO2 : Hid (World.ownsRow _ _ _ _ _ _ _) := hown2
      have hb2 : Below w8.heap.size w8 w2 := Below.grown (BB.alloc (by omega) _) hgrow (by simp; omega) (owns_block OB)
      clear hnv hown2 hgrow OB BB
      go_wp2_with fail
      go_roundw
      case rel => exact ⟨k + 1, by omega, by go_num, by rw [tolds_succ]; exact HO2.out, HV.out, hb2⟩
      case measure => simp [intOf]; omega
    · obtain rfl : k = 6 := by omega
      obtain ⟨g, c9, hu⟩ := owns_shape HO.out HN.out
      subst hu
      have hgl := (HO.out.lt g rfl).2
      have q0 : wr.cell? ⟨g, 0, none⟩ = some (.bool (mm 0)) := owns_cell HO.out 0 _ rfl
      have q1 : wr.cell? ⟨g, 1, none⟩ = some (.bool (mm 1)) := owns_cell HO.out 1 _ rfl
      have q2 : wr.cell? ⟨g, 2, none⟩ = some (.bool (mm 2)) := owns_cell HO.out 2 _ rfl
      have q3 : wr.cell? ⟨g, 3, none⟩ = some (.bool (mm 3)) := owns_cell HO.out 3 _ rfl
      have q4 : wr.cell? ⟨g, 4, none⟩ = some (.bool (mm 4)) := owns_cell HO.out 4 _ rfl
      have q5 : wr.cell? ⟨g, 5, none⟩ = some (.bool (mm 5)) := owns_cell HO.out 5 _ rfl
      have ZR := HZ8.out.under hbel hlz
      have HQ : Hid (∀ W : World, Below wr.heap.size wr W → W.cell? ⟨g, 0, none⟩ = some (.bool (mm 0)) ∧ W.cell? ⟨g, 1, none⟩ = some (.bool (!(mm 0))) ∧ W.cell? ⟨g, 2, none⟩ = some (.bool (mm 2)) ∧ W.cell? ⟨g, 3, none⟩ = some (.bool (mm 0 || mm 2)) ∧ W.cell? ⟨g, 4, none⟩ = some (.bool (mm 4)) ∧ W.cell? ⟨g, 5, none⟩ = some (.bool (mm 0 || mm 4))) := fun W hb => by
        rw [HF2.out] at q1; rw [HF4.out] at q3; rw [HF6.out] at q5
        exact ⟨(hb.cell hgl).trans q0, (hb.cell hgl).trans q1, (hb.cell hgl).trans q2, (hb.cell hgl).trans q3, (hb.cell hgl).trans q4, (hb.cell hgl).trans q5⟩
      clear q0 q1 q2 q3 q4 q5 HO HN
      go_wp2_with fail
      refine (HT8.out _).mono ?_
      rintro e wa ⟨rfl, ba⟩
      have YA := YR.step ba
      clear a0 a1 a2 d0 d1 d2
      obtain ⟨d0, d1, d2⟩ := YA.cells
      go_wp2_with fail
      refine (HT9.out _).mono ?_
      rintro e wb ⟨rfl, bb⟩
      have bab : Below wr.heap.size wr wb := ba.trans (bb.mono ba.size)
      have ZB := ZR.step bab
      have BB : Below w.heap.size w wb := B8.trans ((hbel.trans (bab.mono hbel.size)).mono B8.size)
      have hglb : g < wb.heap.size := Nat.lt_of_lt_of_le hgl bab.size
      obtain ⟨s0, s1, s2, s3, s4, s5⟩ := HQ.out wb bab
      have hlzb := ZB.lt
      obtain ⟨c0, c1, c2, c3, c4, _, _, _⟩ := ZB.cells
      have p0 : ∀ u : Under wb, u.x.cell? ⟨g, 0, none⟩ = some (.bool (mm 0)) := fun u => (u.h.cell hglb).trans s0
      have p1 : ∀ u : Under wb, u.x.cell? ⟨g, 1, none⟩ = some (.bool (!(mm 0))) := fun u => (u.h.cell hglb).trans s1
      have p2 : ∀ u : Under wb, u.x.cell? ⟨g, 2, none⟩ = some (.bool (mm 2)) := fun u => (u.h.cell hglb).trans s2
      have p3 : ∀ u : Under wb, u.x.cell? ⟨g, 3, none⟩ = some (.bool (mm 0 || mm 2)) := fun u => (u.h.cell hglb).trans s3
      have p4 : ∀ u : Under wb, u.x.cell? ⟨g, 4, none⟩ = some (.bool (mm 4)) := fun u => (u.h.cell hglb).trans s4
      have p5 : ∀ u : Under wb, u.x.cell? ⟨g, 5, none⟩ = some (.bool (mm 0 || mm 4)) := fun u => (u.h.cell hglb).trans s5
      have t0 : ∀ u : Under wb, u.x.cell? ⟨bt, 0, none⟩ = some (.int .i64 t.op) := fun u => (u.h.cell hlzb).trans c0
      have t1 : ∀ u : Under wb, u.x.cell? ⟨bt, 1, none⟩ = some (.string t.p) := fun u => (u.h.cell hlzb).trans c1
      have t2 : ∀ u : Under wb, u.x.cell? ⟨bt, 2, none⟩ = some (.int .i64 t.c.k) := fun u => (u.h.cell hlzb).trans c2
      have t3 : ∀ u : Under wb, u.x.cell? ⟨bt, 3, none⟩ = some (.int .i64 t.c.n) := fun u => (u.h.cell hlzb).trans c3
      have t4 : ∀ u : Under wb, u.x.cell? ⟨bt, 4, none⟩ = some (.string t.c.t) := fun u => (u.h.cell hlzb).trans c4
      have hnu : Nonempty (Under wb) := ⟨⟨wb, Below.refl _ _⟩⟩
      have HCU : Hid (∀ u : Under wb, Calls Tryz.prog 41 #[.agg #[.int .i64 t.op, .string t.p, .int .i64 t.c.k, .int .i64 t.c.n, .string t.c.t]] u.x fun e w' => e = .returned (.bool true) ∧ Below u.x.heap.size u.x w') := fun u => HOK.out u.x
      clear ba bb bab YA ZB ZR YR XR d0 d1 d2 s0 s1 s2 s3 s4 s5 c0 c1 c2 c3 c4 HQ HT HS HT8 HT9 HOK HF2 HF4 HF6 HX8 HY8 HZ8 hbel B8
      generalize mm 0 = r0 at *
      generalize mm 2 = r2 at *
      generalize mm 4 = r4 at *
      cases m8 <;> cases r0 <;> cases r2 <;> cases r4 <;>
        (go_wp2_with fail
         refine wp_region_under (by kernel_rfl) (by kernel_rfl) ?_
         repeat (go_big_quiet_step ((go_at_call 41; exact calls_under _ (HCU.out _))))
         refine wpQuiet_nil ?_
         rintro _ ⟨u, rfl⟩
         have hbu := BB.trans (u.h.mono BB.size)
         clear p0 p1 p2 p3 p4 p5 t0 t1 t2 t3 t4 hnu
         go_wp2_with fail
         go_ret
         exact ⟨rfl, hbu⟩)

end Go.Proofs.YtgjknfbkkfidbaaGreatDoor

/- Bytes that come in as a law's code: where they lie, and each is one. -/
namespace Go.Proofs.YtgjknfbkkfidbaaGreatDoor
open Go.RowKit
set_option linter.unusedVariables false

theorem wf_byte {n : Int} (h : (Lit.int .u8 n).wf = true) : 0 ≤ n ∧ n < 256 := by
  unfold Lit.wf at h
  rw [Bool.and_eq_true, decide_eq_true_eq, decide_eq_true_eq] at h
  have h1 : IntKind.u8.min = 0 := by decide
  have h2 : IntKind.u8.max = 255 := by decide
  rw [h1, h2] at h
  omega
theorem inc_of {w : World} {x : Addr} {l c : Nat} {zs : List Int} (hl : l ≤ c) (hm : c ≤ maxLen) (hz : zs.length = c) (hcell : ∀ i, i < zs.length → w.cell? (x.add i) = some (.int .u8 (zs.getD i 0))) (hwf : ∀ n ∈ zs, (Lit.int .u8 n).wf = true) :
    ∃ ys : List Int, ys.length = l ∧ ys.length ≤ maxLen ∧ (∀ i, i < ys.length → 0 ≤ ys.getD i 0 ∧ ys.getD i 0 < 256) ∧ InB w (some x) ys := by
  have hlen : (zs.take l).length = l := by simp; omega
  refine ⟨zs.take l, hlen, by omega, ?_, ?_⟩
  · intro i hi
    rw [gd (zs.take l) i hi, List.getElem_take]
    exact wf_byte (hwf _ (List.getElem_mem _))
  by_cases h0 : l = 0
  · exact .inl (by simp [h0])
  · obtain ⟨b, off, spot⟩ := x
    have hc0 := hcell 0 (by omega)
    have hspot : spot = none := by simpa [Addr.add] using World.cell?_spot hc0
    subst hspot
    have hlt : b < w.heap.size := by
      rcases Nat.lt_or_ge b w.heap.size with h | h
      · exact h
      · simp [World.cell?, Addr.add, Array.getElem?_eq_none h] at hc0
    refine .inr ⟨b, off, rfl, hlt, fun i hi => ?_⟩
    have hi2 : i < l := by omega
    have := hcell i (by omega)
    rw [gd (zs.take l) i hi, List.getElem_take, ← gd zs i (by omega), ← this]
    by_cases hi0 : i = 0
    · subst hi0; simp [Addr.add]
    · simp [Addr.add, hi0]

end Go.Proofs.YtgjknfbkkfidbaaGreatDoor

/- All that the law on terms reaches. -/
