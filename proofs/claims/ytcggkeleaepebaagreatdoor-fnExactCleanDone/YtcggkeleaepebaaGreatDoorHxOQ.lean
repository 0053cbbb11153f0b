/- The program's copies of terms and of changes: rows of their own. -/
import Derived.Test.YtcggkeleaepebaaGreatDoorHxGQ
import Derived.Test.YtcggkeleaepebaaGreatDoorOwnQ
import Derived.Deep.RegionLaw
import Derived.Deep.RegionHeld3
import Derived.Deep.RegionWith
namespace Go.Proofs.YtcggkeleaepebaaGreatDoor.Hx
open Go.RowKit Go.ChangeShapes Go.WideShapes Go.ChangeAt Go.Joins Tr Co Rea Ce Ty
set_option linter.unusedVariables false

theorem rowFm {w : World} {base n : Nat} {e : TypeId} {size : Nat} {v : Value} {xs : List Value} (h : w.ownsRow base e size v n xs) (hn : 0 < n) : ∃ g cap, v = .slice (some ⟨g, 0, none⟩) n cap ∧ base ≤ g ∧ g < w.heap.size ∧ n ≤ cap ∧ cap ≤ maxLen := by
  have hlt := h.lt
  obtain ⟨h1, h2⟩ := h
  rcases h2 with ⟨_, h3⟩ | ⟨g, cap, cur, hv, hg, hh, hc1, hc2, r⟩
  · omega
  · exact ⟨g, cap, hv, hg, (hlt g (by rw [hv]; rfl)).2, hc1, hc2⟩
/-- The argument's box and the answer's, the first two new blocks. -/
structure Bx2 (w W : World) (xs ys : Array Value) (U : TypeId) : Prop where
  bel : Below w.heap.size w W
  lt : w.heap.size + 1 < W.heap.size
  pb : W.heap[w.heap.size]? = some (.cells xs U)
  rb : W.heap[w.heap.size + 1]? = some (.cells ys U)
theorem Bx2.start (w : World) (xs ys : Array Value) (U : TypeId) : Bx2 w ((w.alloc (.cells xs U)).alloc (.cells ys U)) xs ys U := by
  have s1 : (w.alloc (.cells xs U)).heap.size = w.heap.size + 1 := by simp
  refine ⟨((Below.refl _ _).alloc (Nat.le_refl _) _).alloc (by simp) _, by simp, ?_, ?_⟩
  · exact (Below.heap_alloc _ _ _ (by simp)).trans (heap_alloc_new _ _)
  · rw [← s1]; exact heap_alloc_new _ _
theorem Bx2.next {w W W' : World} {xs ys : Array Value} {U : TypeId} (h : Bx2 w W xs ys U) (hb : Below W.heap.size W W') : Bx2 w W' xs ys U := by
  have := h.lt
  exact ⟨h.bel.trans (hb.mono (by omega)), Nat.lt_of_lt_of_le h.lt hb.size, (hb.block _ (by omega)).trans h.pb, (hb.block _ h.lt).trans h.rb⟩
theorem Bx2.p {w W : World} {xs ys : Array Value} {U : TypeId} (h : Bx2 w W xs ys U) (o : Nat) (v : Value) (e : xs[o]? = some v) : W.cell? ⟨w.heap.size, o, none⟩ = some v := by
  simp [World.cell?, h.pb, e]
theorem Bx2.r {w W : World} {xs ys : Array Value} {U : TypeId} (h : Bx2 w W xs ys U) (o : Nat) (v : Value) (e : ys[o]? = some v) : W.cell? ⟨w.heap.size + 1, o, none⟩ = some v := by
  simp [World.cell?, h.rb, e]
theorem Bx2.fp {w W : World} {xs ys : Array Value} {U : TypeId} (h : Bx2 w W xs ys U) (o : Nat) : W.frozen? ⟨w.heap.size, o, none⟩ = false := by
  simp [World.frozen?, h.pb]
theorem Bx2.fr {w W : World} {xs ys : Array Value} {U : TypeId} (h : Bx2 w W xs ys U) (o : Nat) : W.frozen? ⟨w.heap.size + 1, o, none⟩ = false := by
  simp [World.frozen?, h.rb]
theorem Bx2.keep {w W W' : World} {xs ys : Array Value} {U : TypeId} (h : Bx2 w W xs ys U) (hb : Below (w.heap.size + 1) W W') (o : Nat) (v : Value) (e : xs[o]? = some v) : W'.cell? ⟨w.heap.size, o, none⟩ = some v :=
  (hb.cell (p := ⟨w.heap.size, o, none⟩) (Nat.lt_succ_self _)).trans (h.p o v e)
theorem new_cells (w : World) (A : Array Value) (U : TypeId) : ∀ (j : Nat) (u : Value), A.toList[j]? = some u → (w.alloc (.cells A U)).cell? ((⟨w.heap.size, 0, none⟩ : Addr).add j) = some u := by
  intro j u hj
  rw [addO, Nat.zero_add]
  have h := heap_alloc_new w (.cells A U)
  rw [Array.getElem?_toList] at hj
  simp only [World.cell?]
  rw [h]
  simpa using hj
theorem wpList_apxTm {w : World} {ops : Array Oper} {rest : List Oper} {o : Oper} {a : Act} {Q : Exit → Act → World → Prop} (hgd : o.guard = none) (s x : Operand)
    (ho : o.op = .call { callee := .builtin .append, args := #[s, x], argTypes := #[107, 107] }) (base n : Nat) (v : Value) (xs : List Value)
    (hs : a.eval s = v) (hown : w.ownsRow base 144 5 v n xs) (ad : Addr) (m c : Nat) (news : List Value) (hx : a.eval x = .slice (some ad) m c) (hl : news.length = m * 5) (hnews : ∀ j u, news[j]? = some u → w.cell? (ad.add j) = some u) (h1 : ∀ u ∈ news, u.oneCell' = true)
    (hn : n ≤ 1000) (hm : m ≤ 1000) (hbase : base ≤ w.heap.size)
    (hK : ∀ v' w', w'.ownsRow base 144 5 v' (n + m) (xs ++ news) → w.grownBy w' v.ownBlock → (v'.ownBlock = v.ownBlock ∨ v'.ownBlock = some w.heap.size) → wpList Tryz.prog ops Q rest (a.put o.dst v') w') : wpList Tryz.prog ops Q (o :: rest) a w := by
  refine wpList_plain hgd fun K hK2 => ?_
  obtain ⟨i0, hi, hz0, hz1, hz2⟩ := info_parts infoT
  obtain ⟨v', w', hr, h2, h3, h4, h5⟩ := run_append_own_at (P := Tryz.prog) w base 107 o.type 144 i0 (.agg #[.int .i64 0, .string em, .int .i64 0, .int .i64 0, .string em]) 5 56 Tryz.underlying107 hi hz0 hz1 hz2 rfl (by decide) v n xs hown ad m c news hl hnews h1 (by unfold maxLen; omega) (by omega) hbase
  unfold Oper.wp execOp
  simp only [ho, resolve, invoke, builtin, Sem.run_bind, Sem.run_pure, Result.andThen_ok, List.map_toArray, List.map_cons, List.map_nil, hs, hx, hr]
  exact hK2 _ _ (hK v' w' h2 h3 h5)
theorem wpList_apxCg {w : World} {ops : Array Oper} {rest : List Oper} {o : Oper} {a : Act} {Q : Exit → Act → World → Prop} (hgd : o.guard = none) (s x : Operand)
    (ho : o.op = .call { callee := .builtin .append, args := #[s, x], argTypes := #[34, 34] }) (base n : Nat) (v : Value) (xs : List Value)
    (hs : a.eval s = v) (hown : w.ownsRow base 86 10 v n xs) (ad : Addr) (m c : Nat) (news : List Value) (hx : a.eval x = .slice (some ad) m c) (hl : news.length = m * 10) (hnews : ∀ j u, news[j]? = some u → w.cell? (ad.add j) = some u) (h1 : ∀ u ∈ news, u.oneCell' = true)
    (hn : n ≤ 1000) (hm : m ≤ 1000) (hbase : base ≤ w.heap.size)
    (hK : ∀ v' w', w'.ownsRow base 86 10 v' (n + m) (xs ++ news) → w.grownBy w' v.ownBlock → (v'.ownBlock = v.ownBlock ∨ v'.ownBlock = some w.heap.size) → wpList Tryz.prog ops Q rest (a.put o.dst v') w') : wpList Tryz.prog ops Q (o :: rest) a w := by
  refine wpList_plain hgd fun K hK2 => ?_
  obtain ⟨i0, hi, hz0, hz1, hz2⟩ := info_parts infoCg
  obtain ⟨v', w', hr, h2, h3, h4, h5⟩ := run_append_own_at (P := Tryz.prog) w base 34 o.type 86 i0 (.agg #[.string em, .int .i64 0, .bool false, .int .i64 0, .int .i64 0, .string em, .int .i64 0, .int .i64 0, .string em, .bool false]) 10 104 Tryz.underlying34 hi hz0 hz1 hz2 rfl (by decide) v n xs hown ad m c news hl hnews h1 (by unfold maxLen; omega) (by omega) hbase
  unfold Oper.wp execOp
  simp only [ho, resolve, invoke, builtin, Sem.run_bind, Sem.run_pure, Result.andThen_ok, List.map_toArray, List.map_cons, List.map_nil, hs, hx, hr]
  exact hK2 _ _ (hK v' w' h2 h3 h5)
theorem keep_ownTerm {w W W' : World} {ys : Array Value} {t : Trm} (h : Bx2 w W #[.int .i64 t.op, .string t.p, .int .i64 t.c.k, .int .i64 t.c.n, .string t.c.t] ys 144) (hb : Below (w.heap.size + 1) W W') : W'.cell? ⟨w.heap.size, 0, none⟩ = some (.int .i64 t.op) ∧ W'.cell? ⟨w.heap.size, 1, none⟩ = some (.string t.p) ∧ W'.cell? ⟨w.heap.size, 2, none⟩ = some (.int .i64 t.c.k) ∧ W'.cell? ⟨w.heap.size, 3, none⟩ = some (.int .i64 t.c.n) ∧ W'.cell? ⟨w.heap.size, 4, none⟩ = some (.string t.c.t) :=
  ⟨h.keep hb 0 _ rfl, h.keep hb 1 _ rfl, h.keep hb 2 _ rfl, h.keep hb 3 _ rfl, h.keep hb 4 _ rfl⟩
set_option maxRecDepth 4000 in
set_option maxHeartbeats 4000000 in
theorem ownTerm_x {t : Trm} (w : World) (hs : szT t) :
    Calls Tryz.prog 125 #[.agg #[.int .i64 t.op, .string t.p, .int .i64 t.c.k, .int .i64 t.c.n, .string t.c.t]] w fun e w' => e = .returned (.agg #[.int .i64 t.op, .string t.p, .int .i64 t.c.k, .int .i64 t.c.n, .string t.c.t]) ∧ Below w.heap.size w w' := by
  have X0 := Bx2.start w #[.int .i64 t.op, .string t.p, .int .i64 t.c.k, .int .i64 t.c.n, .string t.c.t] #[.int .i64 0, .string em, .int .i64 0, .int .i64 0, .string em] 144
  have hsz0 : w.heap.size ≤ ((w.alloc (.cells #[.int .i64 t.op, .string t.p, .int .i64 t.c.k, .int .i64 t.c.n, .string t.c.t] 144)).alloc (.cells #[.int .i64 0, .string em, .int .i64 0, .int .i64 0, .string em] 144)).heap.size := by simp; omega
  have HC0 : Hid (∀ W : World, Below ((w.alloc (.cells #[.int .i64 t.op, .string t.p, .int .i64 t.c.k, .int .i64 t.c.n, .string t.c.t] 144)).alloc (.cells #[.int .i64 0, .string em, .int .i64 0, .int .i64 0, .string em] 144)).heap.size ((w.alloc (.cells #[.int .i64 t.op, .string t.p, .int .i64 t.c.k, .int .i64 t.c.n, .string t.c.t] 144)).alloc (.cells #[.int .i64 0, .string em, .int .i64 0, .int .i64 0, .string em] 144)) W → Calls _ _ _ W _) := fun W hW => strClone_any t.p W hs.1
  have HC1 : Hid (∀ W : World, Below ((w.alloc (.cells #[.int .i64 t.op, .string t.p, .int .i64 t.c.k, .int .i64 t.c.n, .string t.c.t] 144)).alloc (.cells #[.int .i64 0, .string em, .int .i64 0, .int .i64 0, .string em] 144)).heap.size ((w.alloc (.cells #[.int .i64 t.op, .string t.p, .int .i64 t.c.k, .int .i64 t.c.n, .string t.c.t] 144)).alloc (.cells #[.int .i64 0, .string em, .int .i64 0, .int .i64 0, .string em] 144)) W → Calls _ _ _ W _) := fun W hW => ownValue_any t.c.k t.c.n t.c.t W hs.2
  go_enter Tryz.func125, Tryz.ntmps125
  go_wp2_with fail
  generalize (w.alloc (.cells #[.int .i64 t.op, .string t.p, .int .i64 t.c.k, .int .i64 t.c.n, .string t.c.t] 144)).alloc (.cells #[.int .i64 0, .string em, .int .i64 0, .int .i64 0, .string em] 144) = W0 at X0 hsz0 HC0 HC1 ⊢
  have hbw := X0.bel
  have hlt0 := X0.lt
  have hltw : w.heap.size < W0.heap.size := Nat.lt_of_succ_lt hlt0
  have k0 := X0.p 0 _ rfl
  have k1 := X0.p 1 _ rfl
  have k2 := X0.p 2 _ rfl
  have k3 := X0.p 3 _ rfl
  have k4 := X0.p 4 _ rfl
  clear k0 k1 k2 k3 k4
  go_region_held3 (fun w0 => w0.cell? ⟨w.heap.size, 0, none⟩ = some (.int .i64 t.op) ∧ w0.cell? ⟨w.heap.size, 1, none⟩ = some (.string t.p) ∧ w0.cell? ⟨w.heap.size, 2, none⟩ = some (.int .i64 t.c.k) ∧ w0.cell? ⟨w.heap.size, 3, none⟩ = some (.int .i64 t.c.n) ∧ w0.cell? ⟨w.heap.size, 4, none⟩ = some (.string t.c.t)) ((refine keep_ownTerm X0 ?_; (repeat (first | (with_reducible exact Below.refl _ _) | (with_reducible assumption) | (with_reducible apply below_drewN) | (with_reducible apply Below.drew) | ((with_reducible refine Below.setCell ?_ ?_ _); rotate_left; focus (first | (simp; done) | (simp; omega) | omega)) | ((with_reducible refine Below.alloc ?_ ?_ _); rotate_left; focus (first | (simp; done) | (simp; omega) | omega)))))) ((first | (go_at_call 84; refine (HC0.out _ (show Below W0.heap.size W0 _ by (repeat (first | (with_reducible exact Below.refl _ _) | (with_reducible assumption) | (with_reducible apply below_drewN) | (with_reducible apply Below.drew) | ((with_reducible refine Below.setCell ?_ ?_ _); rotate_left; focus (first | (simp; done) | (simp; omega) | omega)) | ((with_reducible refine Below.alloc ?_ ?_ _); rotate_left; focus (first | (simp; done) | (simp; omega) | omega)))))).mono ?_; rintro e w5 ⟨rfl, hb⟩; have hB0 : Below W0.heap.size W0 w5 := (show Below W0.heap.size W0 _ by (repeat (first | (with_reducible exact Below.refl _ _) | (with_reducible assumption) | (with_reducible apply below_drewN) | (with_reducible apply Below.drew) | ((with_reducible refine Below.setCell ?_ ?_ _); rotate_left; focus (first | (simp; done) | (simp; omega) | omega)) | ((with_reducible refine Below.alloc ?_ ?_ _); rotate_left; focus (first | (simp; done) | (simp; omega) | omega))))).trans (hb.mono (by first | (simp; done) | (simp; omega) | omega)); have hB0' : Below (w.heap.size + 1) W0 w5 := hB0.mono (by omega); have hz0 := hB0.size; have hn0 := Nat.lt_of_lt_of_le hltw hB0.size; have ho0 := Nat.lt_of_lt_of_le hlt0 hB0.size; clear hb) | (go_at_call 87; refine (HC1.out _ (show Below W0.heap.size W0 _ by (repeat (first | (with_reducible exact Below.refl _ _) | (with_reducible assumption) | (with_reducible apply below_drewN) | (with_reducible apply Below.drew) | ((with_reducible refine Below.setCell ?_ ?_ _); rotate_left; focus (first | (simp; done) | (simp; omega) | omega)) | ((with_reducible refine Below.alloc ?_ ?_ _); rotate_left; focus (first | (simp; done) | (simp; omega) | omega)))))).mono ?_; rintro e w6 ⟨rfl, hb⟩; have hB1 : Below W0.heap.size W0 w6 := (show Below W0.heap.size W0 _ by (repeat (first | (with_reducible exact Below.refl _ _) | (with_reducible assumption) | (with_reducible apply below_drewN) | (with_reducible apply Below.drew) | ((with_reducible refine Below.setCell ?_ ?_ _); rotate_left; focus (first | (simp; done) | (simp; omega) | omega)) | ((with_reducible refine Below.alloc ?_ ?_ _); rotate_left; focus (first | (simp; done) | (simp; omega) | omega))))).trans (hb.mono (by first | (simp; done) | (simp; omega) | omega)); have hB1' : Below (w.heap.size + 1) W0 w6 := hB1.mono (by omega); have hz1 := hB1.size; have hn1 := Nat.lt_of_lt_of_le hltw hB1.size; have ho1 := Nat.lt_of_lt_of_le hlt0 hB1.size; have X2 := X0.next hB1; have r0 := X2.r 0 _ rfl; have m0 := X2.fr 0; have r1 := X2.r 1 _ rfl; have m1 := X2.fr 1; have r2 := X2.r 2 _ rfl; have m2 := X2.fr 2; have r3 := X2.r 3 _ rfl; have m3 := X2.fr 3; have r4 := X2.r 4 _ rfl; have m4 := X2.fr 4; have l0 := X2.p 0 _ rfl; have g0 := X2.fp 0; have l1 := X2.p 1 _ rfl; have g1 := X2.fp 1; have l2 := X2.p 2 _ rfl; have g2 := X2.fp 2; have l3 := X2.p 3 _ rfl; have g3 := X2.fp 3; have l4 := X2.p 4 _ rfl; have g4 := X2.fp 4; clear X2; clear hb)))
  all_goals
    try go_wp2_with fail
    refine bodyPost_ret (v := .agg #[.int .i64 t.op, .string t.p, .int .i64 t.c.k, .int .i64 t.c.n, .string t.c.t]) (by simp [results, Tryz.results125, go_sem, *]) rfl ⟨rfl, ?_⟩
    have hbb := hbw.trans (hB1.mono hbw.size)
    (repeat (first | (with_reducible exact Below.refl _ _) | (with_reducible assumption) | (with_reducible apply below_drewN) | (with_reducible apply Below.drew) | ((with_reducible refine Below.setCell ?_ ?_ _); rotate_left; focus (first | (simp; done) | (simp; omega) | omega)) | ((with_reducible refine Below.alloc ?_ ?_ _); rotate_left; focus (first | (simp; done) | (simp; omega) | omega))))
set_option maxRecDepth 4000 in
set_option maxHeartbeats 4000000 in
theorem ownLTm_any (a : Option Addr) (cap : Nat) (l : List Trm) (w : World) (hin : InT w a l) (hl : l.length ≤ 1000) (hk : ∀ e ∈ l, szT e) :
    Calls Tryz.prog 124 #[.slice a l.length cap, .func (.func 125) #[] #[]] w fun e' w' => (∃ p c, e' = .returned (.slice p l.length c) ∧ RowTH w' w.heap.size w'.heap.size (.slice p l.length c) l) ∧ Below w.heap.size w w' := by
  have HIN : Hid (InT _ _ _) := hin
  have HK : Hid _ := hk
  clear hin hk
  go_enter Tryz.func124, Tryz.ntmps124
  go_wp2_with fail
  go_loopw [5, 10] (fun u i wr => ∃ (k : Nat) (pv : Option Addr) (cv : Nat), k ≤ l.length ∧ i = .int .i64 k ∧ u = .slice pv k cv ∧ RowTH wr w.heap.size wr.heap.size (.slice pv k cv) (l.take k) ∧ Below w.heap.size w wr) (fun _ i _ => l.length - (intOf i).toNat)
  case atStart => exact ⟨0, none, 0, Nat.zero_le _, rfl, rfl, RowH.nil _ _ _ _ _ _, Below.refl _ _⟩
  case round =>
    obtain ⟨k, pv, cv, hk, rfl, rfl, hO, hbel⟩ := hrel
    have HO : Hid (RowTH _ _ _ _ _) := hO
    have hz := hbel.size
    clear hO
    by_cases hlt : k < l.length
    · have hlt2 : (k : Int) < (l.length : Int) := by omega
      rcases HIN.out.step hbel with h0 | ⟨b2, off, rfl, hbl2, hc⟩
      · omega
      obtain ⟨z0, z1, z2, z3, z4⟩ := hc k hlt
      have hks := HK.out l[k] (List.getElem_mem _)
      have htk : l.take (k + 1) = l.take k ++ [l[k]] := List.take_succ_eq_append_getElem hlt
      have htl : (l.take k).length = k := by rw [List.length_take]; omega
      obtain ⟨en, hen⟩ : ∃ en, en = l[k] := ⟨_, rfl⟩
      rw [← hen] at z0 z1 z2 z3 z4 hks htk
      have HTK : Hid _ := htk
      have HTL : Hid _ := htl
      have hbA : Below wr.heap.size wr (wr.alloc (.cells #[.int .i64 en.op, .string en.p, .int .i64 en.c.k, .int .i64 en.c.n, .string en.c.t] 144)) := (Below.refl _ _).alloc (Nat.le_refl _) _
      have HBA : Hid (Below w.heap.size w (wr.alloc (.cells #[.int .i64 en.op, .string en.p, .int .i64 en.c.k, .int .i64 en.c.n, .string en.c.t] 144))) := hbel.trans (hbA.mono hz)
      have HOA : Hid (RowTH (wr.alloc (.cells #[.int .i64 en.op, .string en.p, .int .i64 en.c.k, .int .i64 en.c.n, .string en.c.t] 144)) w.heap.size wr.heap.size (.slice pv k cv) (l.take k)) := HO.out.next frT hbA
      have HC : Hid (∀ W : World, Below (wr.alloc (.cells #[.int .i64 en.op, .string en.p, .int .i64 en.c.k, .int .i64 en.c.n, .string en.c.t] 144)).heap.size (wr.alloc (.cells #[.int .i64 en.op, .string en.p, .int .i64 en.c.k, .int .i64 en.c.n, .string en.c.t] 144)) W → Calls _ _ _ W _) := fun W hW => ownTerm_x (t := en) W hks
      have hzA := hbA.size
      clear hc hen htk htl hbA HO hbel hks 
      go_wp2_with fail
      generalize (wr.alloc (.cells #[.int .i64 en.op, .string en.p, .int .i64 en.c.k, .int .i64 en.c.n, .string en.c.t] 144)) = WA at HOA HBA HC hzA ⊢
      refine (HC.out _ (Below.refl _ _)).mono ?_
      rintro e w6 ⟨rfl, hb6⟩
      have hz6 := hb6.size
      have HO6 := HOA.out.next frT hb6
      obtain ⟨xs, ho6, hsn⟩ := HO6.snoc frT
      rw [HTL.out] at ho6
      have HB6 : Hid (Below w.heap.size w w6) := HBA.out.trans (hb6.mono HBA.out.size)
      have HSN : Hid _ := hsn
      have HOW : Hid (World.ownsRow _ _ _ _ _ _ _) := ho6
      have HHI : Hid (∀ g, (Value.slice pv k cv).ownBlock = some g → g < wr.heap.size) := fun g hg => by
        rcases HO6.form with ⟨h, _⟩ | ⟨g', c', h, _, h3, _⟩
        · rw [h] at hg; simp [Value.ownBlock] at hg
        · rw [h] at hg
          obtain rfl : g' = g := by simpa [Value.ownBlock] using hg
          exact h3
      skip
      clear hb6 HBA HOA HC HO6 hsn ho6
      go_wp2_with (at_builtin; refine wpList_apxTm rfl (.tmp 14) (.tmp 18) rfl w.heap.size k (.slice pv k cv) xs rfl (HOW.out.alloc _) ⟨w6.heap.size, 0, none⟩ 1 1 [.int .i64 en.op, .string en.p, .int .i64 en.c.k, .int .i64 en.c.n, .string en.c.t] rfl rfl (new_cells _ #[.int .i64 en.op, .string en.p, .int .i64 en.c.k, .int .i64 en.c.n, .string en.c.t] _) (by intro u hu; simp at hu; rcases hu with rfl | rfl | rfl | rfl | rfl <;> rfl) (by omega) (by omega) (by simp; omega) ?_)
      intro v7 w7 o7 g7 at7
      have hal7 : (w6.alloc (.cells #[.int .i64 en.op, .string en.p, .int .i64 en.c.k, .int .i64 en.c.n, .string en.c.t] 144)).heap.size = w6.heap.size + 1 := by simp
      have hlt7 := o7.lt
      obtain ⟨gv, cw, hvv, _, _, _, _⟩ := rowFm o7 (by omega)
      subst hvv
      have HR8 : Hid (RowTH w7 w.heap.size w7.heap.size (.slice (some ⟨gv, 0, none⟩) (k + 1) cw) (l.take (k + 1))) := by
        show RowTH _ _ _ _ _
        rw [HTK.out]
        refine HSN.out w7 w6.heap.size w6.heap.size w7.heap.size [.int .i64 en.op, .string en.p, .int .i64 en.c.k, .int .i64 en.c.n, .string en.c.t] en _ (by omega) (by omega) (by omega) (by have := g7.size; omega) (Nat.le_refl _) (rfl) rfl (by rw [HTL.out]; exact o7) ?_ ?_ ?_
        · intro j hj hne
          exact (g7.block j (by omega) hne).trans (Below.heap_alloc _ _ _ hj)
        · rcases at7 with h | h
          · exact .inl h
          · exact .inr ⟨_, h, by omega⟩
        · intro g hg
          exact (hlt7 g hg).2
      have HB8 : Hid (Below w.heap.size w w7) := HB6.out.trans (Below.grown ((Below.refl _ w6).alloc (by omega) (.cells #[.int .i64 en.op, .string en.p, .int .i64 en.c.k, .int .i64 en.c.n, .string en.c.t] 144)) g7 (by simp; omega) (fun b hb => (HOW.out.lt b hb).1))
      clear o7 g7 at7 hlt7 hal7 HSN HOW HHI HB6
      go_wp2_with fail
      go_roundw
      case rel => exact ⟨k + 1, _, _, by omega, by go_num, rfl, HR8.out, HB8.out⟩
      case measure => simp [intOf]; omega
    · obtain rfl : k = l.length := by omega
      have hOf : RowTH wr w.heap.size wr.heap.size (.slice pv l.length cv) l := by have := HO.out; rw [List.take_length] at this; exact this
      have HOf : Hid (RowTH _ _ _ _ _) := hOf
      have HB : Hid (Below _ _ _) := hbel
      clear hOf HO hbel
      go_wp2_with fail
      go_ret
      exact ⟨⟨_, _, rfl, HOf.out⟩, HB.out⟩
theorem keep_ownWrite {w W W' : World} {ys : Array Value} {t : Wrt} (h : Bx2 w W #[.string t.coll, .int .i64 t.id, .bool t.gone, .int .i64 t.doc.k, .int .i64 t.doc.n, .string t.doc.t] ys 84) (hb : Below (w.heap.size + 1) W W') : W'.cell? ⟨w.heap.size, 0, none⟩ = some (.string t.coll) ∧ W'.cell? ⟨w.heap.size, 1, none⟩ = some (.int .i64 t.id) ∧ W'.cell? ⟨w.heap.size, 2, none⟩ = some (.bool t.gone) ∧ W'.cell? ⟨w.heap.size, 3, none⟩ = some (.int .i64 t.doc.k) ∧ W'.cell? ⟨w.heap.size, 4, none⟩ = some (.int .i64 t.doc.n) ∧ W'.cell? ⟨w.heap.size, 5, none⟩ = some (.string t.doc.t) :=
  ⟨h.keep hb 0 _ rfl, h.keep hb 1 _ rfl, h.keep hb 2 _ rfl, h.keep hb 3 _ rfl, h.keep hb 4 _ rfl, h.keep hb 5 _ rfl⟩
set_option maxRecDepth 4000 in
set_option maxHeartbeats 4000000 in
theorem ownWrite_x {t : Wrt} (w : World) (hs : SzW t) :
    Calls Tryz.prog 86 #[.agg #[.string t.coll, .int .i64 t.id, .bool t.gone, .int .i64 t.doc.k, .int .i64 t.doc.n, .string t.doc.t]] w fun e w' => e = .returned (.agg #[.string t.coll, .int .i64 t.id, .bool t.gone, .int .i64 t.doc.k, .int .i64 t.doc.n, .string t.doc.t]) ∧ Below w.heap.size w w' := by
  have X0 := Bx2.start w #[.string t.coll, .int .i64 t.id, .bool t.gone, .int .i64 t.doc.k, .int .i64 t.doc.n, .string t.doc.t] #[.string em, .int .i64 0, .bool false, .int .i64 0, .int .i64 0, .string em] 84
  have hsz0 : w.heap.size ≤ ((w.alloc (.cells #[.string t.coll, .int .i64 t.id, .bool t.gone, .int .i64 t.doc.k, .int .i64 t.doc.n, .string t.doc.t] 84)).alloc (.cells #[.string em, .int .i64 0, .bool false, .int .i64 0, .int .i64 0, .string em] 84)).heap.size := by simp; omega
  have HC0 : Hid (∀ W : World, Below ((w.alloc (.cells #[.string t.coll, .int .i64 t.id, .bool t.gone, .int .i64 t.doc.k, .int .i64 t.doc.n, .string t.doc.t] 84)).alloc (.cells #[.string em, .int .i64 0, .bool false, .int .i64 0, .int .i64 0, .string em] 84)).heap.size ((w.alloc (.cells #[.string t.coll, .int .i64 t.id, .bool t.gone, .int .i64 t.doc.k, .int .i64 t.doc.n, .string t.doc.t] 84)).alloc (.cells #[.string em, .int .i64 0, .bool false, .int .i64 0, .int .i64 0, .string em] 84)) W → Calls _ _ _ W _) := fun W hW => strClone_any t.coll W hs.c
  have HC1 : Hid (∀ W : World, Below ((w.alloc (.cells #[.string t.coll, .int .i64 t.id, .bool t.gone, .int .i64 t.doc.k, .int .i64 t.doc.n, .string t.doc.t] 84)).alloc (.cells #[.string em, .int .i64 0, .bool false, .int .i64 0, .int .i64 0, .string em] 84)).heap.size ((w.alloc (.cells #[.string t.coll, .int .i64 t.id, .bool t.gone, .int .i64 t.doc.k, .int .i64 t.doc.n, .string t.doc.t] 84)).alloc (.cells #[.string em, .int .i64 0, .bool false, .int .i64 0, .int .i64 0, .string em] 84)) W → Calls _ _ _ W _) := fun W hW => ownValue_any t.doc.k t.doc.n t.doc.t W hs.d
  go_enter Tryz.func86, Tryz.ntmps86
  go_wp2_with fail
  generalize (w.alloc (.cells #[.string t.coll, .int .i64 t.id, .bool t.gone, .int .i64 t.doc.k, .int .i64 t.doc.n, .string t.doc.t] 84)).alloc (.cells #[.string em, .int .i64 0, .bool false, .int .i64 0, .int .i64 0, .string em] 84) = W0 at X0 hsz0 HC0 HC1 ⊢
  have hbw := X0.bel
  have hlt0 := X0.lt
  have hltw : w.heap.size < W0.heap.size := Nat.lt_of_succ_lt hlt0
  have k0 := X0.p 0 _ rfl
  have k1 := X0.p 1 _ rfl
  have k2 := X0.p 2 _ rfl
  have k3 := X0.p 3 _ rfl
  have k4 := X0.p 4 _ rfl
  have k5 := X0.p 5 _ rfl
  clear k0 k1 k2 k3 k4 k5
  go_region_held3 (fun w0 => w0.cell? ⟨w.heap.size, 0, none⟩ = some (.string t.coll) ∧ w0.cell? ⟨w.heap.size, 1, none⟩ = some (.int .i64 t.id) ∧ w0.cell? ⟨w.heap.size, 2, none⟩ = some (.bool t.gone) ∧ w0.cell? ⟨w.heap.size, 3, none⟩ = some (.int .i64 t.doc.k) ∧ w0.cell? ⟨w.heap.size, 4, none⟩ = some (.int .i64 t.doc.n) ∧ w0.cell? ⟨w.heap.size, 5, none⟩ = some (.string t.doc.t)) ((refine keep_ownWrite X0 ?_; (repeat (first | (with_reducible exact Below.refl _ _) | (with_reducible assumption) | (with_reducible apply below_drewN) | (with_reducible apply Below.drew) | ((with_reducible refine Below.setCell ?_ ?_ _); rotate_left; focus (first | (simp; done) | (simp; omega) | omega)) | ((with_reducible refine Below.alloc ?_ ?_ _); rotate_left; focus (first | (simp; done) | (simp; omega) | omega)))))) ((first | (go_at_call 84; refine (HC0.out _ (show Below W0.heap.size W0 _ by (repeat (first | (with_reducible exact Below.refl _ _) | (with_reducible assumption) | (with_reducible apply below_drewN) | (with_reducible apply Below.drew) | ((with_reducible refine Below.setCell ?_ ?_ _); rotate_left; focus (first | (simp; done) | (simp; omega) | omega)) | ((with_reducible refine Below.alloc ?_ ?_ _); rotate_left; focus (first | (simp; done) | (simp; omega) | omega)))))).mono ?_; rintro e w5 ⟨rfl, hb⟩; have hB0 : Below W0.heap.size W0 w5 := (show Below W0.heap.size W0 _ by (repeat (first | (with_reducible exact Below.refl _ _) | (with_reducible assumption) | (with_reducible apply below_drewN) | (with_reducible apply Below.drew) | ((with_reducible refine Below.setCell ?_ ?_ _); rotate_left; focus (first | (simp; done) | (simp; omega) | omega)) | ((with_reducible refine Below.alloc ?_ ?_ _); rotate_left; focus (first | (simp; done) | (simp; omega) | omega))))).trans (hb.mono (by first | (simp; done) | (simp; omega) | omega)); have hB0' : Below (w.heap.size + 1) W0 w5 := hB0.mono (by omega); have hz0 := hB0.size; have hn0 := Nat.lt_of_lt_of_le hltw hB0.size; have ho0 := Nat.lt_of_lt_of_le hlt0 hB0.size; clear hb) | (go_at_call 87; refine (HC1.out _ (show Below W0.heap.size W0 _ by (repeat (first | (with_reducible exact Below.refl _ _) | (with_reducible assumption) | (with_reducible apply below_drewN) | (with_reducible apply Below.drew) | ((with_reducible refine Below.setCell ?_ ?_ _); rotate_left; focus (first | (simp; done) | (simp; omega) | omega)) | ((with_reducible refine Below.alloc ?_ ?_ _); rotate_left; focus (first | (simp; done) | (simp; omega) | omega)))))).mono ?_; rintro e w6 ⟨rfl, hb⟩; have hB1 : Below W0.heap.size W0 w6 := (show Below W0.heap.size W0 _ by (repeat (first | (with_reducible exact Below.refl _ _) | (with_reducible assumption) | (with_reducible apply below_drewN) | (with_reducible apply Below.drew) | ((with_reducible refine Below.setCell ?_ ?_ _); rotate_left; focus (first | (simp; done) | (simp; omega) | omega)) | ((with_reducible refine Below.alloc ?_ ?_ _); rotate_left; focus (first | (simp; done) | (simp; omega) | omega))))).trans (hb.mono (by first | (simp; done) | (simp; omega) | omega)); have hB1' : Below (w.heap.size + 1) W0 w6 := hB1.mono (by omega); have hz1 := hB1.size; have hn1 := Nat.lt_of_lt_of_le hltw hB1.size; have ho1 := Nat.lt_of_lt_of_le hlt0 hB1.size; have X2 := X0.next hB1; have r0 := X2.r 0 _ rfl; have m0 := X2.fr 0; have r1 := X2.r 1 _ rfl; have m1 := X2.fr 1; have r2 := X2.r 2 _ rfl; have m2 := X2.fr 2; have r3 := X2.r 3 _ rfl; have m3 := X2.fr 3; have r4 := X2.r 4 _ rfl; have m4 := X2.fr 4; have r5 := X2.r 5 _ rfl; have m5 := X2.fr 5; have l0 := X2.p 0 _ rfl; have g0 := X2.fp 0; have l1 := X2.p 1 _ rfl; have g1 := X2.fp 1; have l2 := X2.p 2 _ rfl; have g2 := X2.fp 2; have l3 := X2.p 3 _ rfl; have g3 := X2.fp 3; have l4 := X2.p 4 _ rfl; have g4 := X2.fp 4; have l5 := X2.p 5 _ rfl; have g5 := X2.fp 5; clear X2; clear hb)))
  all_goals
    try go_wp2_with fail
    refine bodyPost_ret (v := .agg #[.string t.coll, .int .i64 t.id, .bool t.gone, .int .i64 t.doc.k, .int .i64 t.doc.n, .string t.doc.t]) (by simp [results, Tryz.results86, go_sem, *]) rfl ⟨rfl, ?_⟩
    have hbb := hbw.trans (hB1.mono hbw.size)
    (repeat (first | (with_reducible exact Below.refl _ _) | (with_reducible assumption) | (with_reducible apply below_drewN) | (with_reducible apply Below.drew) | ((with_reducible refine Below.setCell ?_ ?_ _); rotate_left; focus (first | (simp; done) | (simp; omega) | omega)) | ((with_reducible refine Below.alloc ?_ ?_ _); rotate_left; focus (first | (simp; done) | (simp; omega) | omega))))
theorem keep_ownChange {w W W' : World} {ys : Array Value} {t : Cgr} (h : Bx2 w W #[.string t.wr.coll, .int .i64 t.wr.id, .bool t.wr.gone, .int .i64 t.wr.doc.k, .int .i64 t.wr.doc.n, .string t.wr.doc.t, .int .i64 t.bef.k, .int .i64 t.bef.n, .string t.bef.t, .bool t.was] ys 86) (hb : Below (w.heap.size + 1) W W') : W'.cell? ⟨w.heap.size, 0, none⟩ = some (.string t.wr.coll) ∧ W'.cell? ⟨w.heap.size, 1, none⟩ = some (.int .i64 t.wr.id) ∧ W'.cell? ⟨w.heap.size, 2, none⟩ = some (.bool t.wr.gone) ∧ W'.cell? ⟨w.heap.size, 3, none⟩ = some (.int .i64 t.wr.doc.k) ∧ W'.cell? ⟨w.heap.size, 4, none⟩ = some (.int .i64 t.wr.doc.n) ∧ W'.cell? ⟨w.heap.size, 5, none⟩ = some (.string t.wr.doc.t) ∧ W'.cell? ⟨w.heap.size, 6, none⟩ = some (.int .i64 t.bef.k) ∧ W'.cell? ⟨w.heap.size, 7, none⟩ = some (.int .i64 t.bef.n) ∧ W'.cell? ⟨w.heap.size, 8, none⟩ = some (.string t.bef.t) ∧ W'.cell? ⟨w.heap.size, 9, none⟩ = some (.bool t.was) :=
  ⟨h.keep hb 0 _ rfl, h.keep hb 1 _ rfl, h.keep hb 2 _ rfl, h.keep hb 3 _ rfl, h.keep hb 4 _ rfl, h.keep hb 5 _ rfl, h.keep hb 6 _ rfl, h.keep hb 7 _ rfl, h.keep hb 8 _ rfl, h.keep hb 9 _ rfl⟩
set_option maxRecDepth 4000 in
set_option maxHeartbeats 4000000 in
theorem ownChange_x {t : Cgr} (w : World) (hs : szCg t) :
    Calls Tryz.prog 60 #[.agg #[.string t.wr.coll, .int .i64 t.wr.id, .bool t.wr.gone, .int .i64 t.wr.doc.k, .int .i64 t.wr.doc.n, .string t.wr.doc.t, .int .i64 t.bef.k, .int .i64 t.bef.n, .string t.bef.t, .bool t.was]] w fun e w' => e = .returned (.agg #[.string t.wr.coll, .int .i64 t.wr.id, .bool t.wr.gone, .int .i64 t.wr.doc.k, .int .i64 t.wr.doc.n, .string t.wr.doc.t, .int .i64 t.bef.k, .int .i64 t.bef.n, .string t.bef.t, .bool t.was]) ∧ Below w.heap.size w w' := by
  have X0 := Bx2.start w #[.string t.wr.coll, .int .i64 t.wr.id, .bool t.wr.gone, .int .i64 t.wr.doc.k, .int .i64 t.wr.doc.n, .string t.wr.doc.t, .int .i64 t.bef.k, .int .i64 t.bef.n, .string t.bef.t, .bool t.was] #[.string em, .int .i64 0, .bool false, .int .i64 0, .int .i64 0, .string em, .int .i64 0, .int .i64 0, .string em, .bool false] 86
  have hsz0 : w.heap.size ≤ ((w.alloc (.cells #[.string t.wr.coll, .int .i64 t.wr.id, .bool t.wr.gone, .int .i64 t.wr.doc.k, .int .i64 t.wr.doc.n, .string t.wr.doc.t, .int .i64 t.bef.k, .int .i64 t.bef.n, .string t.bef.t, .bool t.was] 86)).alloc (.cells #[.string em, .int .i64 0, .bool false, .int .i64 0, .int .i64 0, .string em, .int .i64 0, .int .i64 0, .string em, .bool false] 86)).heap.size := by simp; omega
  have HC0 : Hid (∀ W : World, Below ((w.alloc (.cells #[.string t.wr.coll, .int .i64 t.wr.id, .bool t.wr.gone, .int .i64 t.wr.doc.k, .int .i64 t.wr.doc.n, .string t.wr.doc.t, .int .i64 t.bef.k, .int .i64 t.bef.n, .string t.bef.t, .bool t.was] 86)).alloc (.cells #[.string em, .int .i64 0, .bool false, .int .i64 0, .int .i64 0, .string em, .int .i64 0, .int .i64 0, .string em, .bool false] 86)).heap.size ((w.alloc (.cells #[.string t.wr.coll, .int .i64 t.wr.id, .bool t.wr.gone, .int .i64 t.wr.doc.k, .int .i64 t.wr.doc.n, .string t.wr.doc.t, .int .i64 t.bef.k, .int .i64 t.bef.n, .string t.bef.t, .bool t.was] 86)).alloc (.cells #[.string em, .int .i64 0, .bool false, .int .i64 0, .int .i64 0, .string em, .int .i64 0, .int .i64 0, .string em, .bool false] 86)) W → Calls _ _ _ W _) := fun W hW => ownWrite_x (t := t.wr) W hs.1
  have HC1 : Hid (∀ W : World, Below ((w.alloc (.cells #[.string t.wr.coll, .int .i64 t.wr.id, .bool t.wr.gone, .int .i64 t.wr.doc.k, .int .i64 t.wr.doc.n, .string t.wr.doc.t, .int .i64 t.bef.k, .int .i64 t.bef.n, .string t.bef.t, .bool t.was] 86)).alloc (.cells #[.string em, .int .i64 0, .bool false, .int .i64 0, .int .i64 0, .string em, .int .i64 0, .int .i64 0, .string em, .bool false] 86)).heap.size ((w.alloc (.cells #[.string t.wr.coll, .int .i64 t.wr.id, .bool t.wr.gone, .int .i64 t.wr.doc.k, .int .i64 t.wr.doc.n, .string t.wr.doc.t, .int .i64 t.bef.k, .int .i64 t.bef.n, .string t.bef.t, .bool t.was] 86)).alloc (.cells #[.string em, .int .i64 0, .bool false, .int .i64 0, .int .i64 0, .string em, .int .i64 0, .int .i64 0, .string em, .bool false] 86)) W → Calls _ _ _ W _) := fun W hW => ownValue_any t.bef.k t.bef.n t.bef.t W hs.2
  go_enter Tryz.func60, Tryz.ntmps60
  go_wp2_with fail
  generalize (w.alloc (.cells #[.string t.wr.coll, .int .i64 t.wr.id, .bool t.wr.gone, .int .i64 t.wr.doc.k, .int .i64 t.wr.doc.n, .string t.wr.doc.t, .int .i64 t.bef.k, .int .i64 t.bef.n, .string t.bef.t, .bool t.was] 86)).alloc (.cells #[.string em, .int .i64 0, .bool false, .int .i64 0, .int .i64 0, .string em, .int .i64 0, .int .i64 0, .string em, .bool false] 86) = W0 at X0 hsz0 HC0 HC1 ⊢
  have hbw := X0.bel
  have hlt0 := X0.lt
  have hltw : w.heap.size < W0.heap.size := Nat.lt_of_succ_lt hlt0
  have k0 := X0.p 0 _ rfl
  have k1 := X0.p 1 _ rfl
  have k2 := X0.p 2 _ rfl
  have k3 := X0.p 3 _ rfl
  have k4 := X0.p 4 _ rfl
  have k5 := X0.p 5 _ rfl
  have k6 := X0.p 6 _ rfl
  have k7 := X0.p 7 _ rfl
  have k8 := X0.p 8 _ rfl
  have k9 := X0.p 9 _ rfl
  clear k0 k1 k2 k3 k4 k5 k6 k7 k8 k9
  go_region_held3 (fun w0 => w0.cell? ⟨w.heap.size, 0, none⟩ = some (.string t.wr.coll) ∧ w0.cell? ⟨w.heap.size, 1, none⟩ = some (.int .i64 t.wr.id) ∧ w0.cell? ⟨w.heap.size, 2, none⟩ = some (.bool t.wr.gone) ∧ w0.cell? ⟨w.heap.size, 3, none⟩ = some (.int .i64 t.wr.doc.k) ∧ w0.cell? ⟨w.heap.size, 4, none⟩ = some (.int .i64 t.wr.doc.n) ∧ w0.cell? ⟨w.heap.size, 5, none⟩ = some (.string t.wr.doc.t) ∧ w0.cell? ⟨w.heap.size, 6, none⟩ = some (.int .i64 t.bef.k) ∧ w0.cell? ⟨w.heap.size, 7, none⟩ = some (.int .i64 t.bef.n) ∧ w0.cell? ⟨w.heap.size, 8, none⟩ = some (.string t.bef.t) ∧ w0.cell? ⟨w.heap.size, 9, none⟩ = some (.bool t.was)) ((refine keep_ownChange X0 ?_; (repeat (first | (with_reducible exact Below.refl _ _) | (with_reducible assumption) | (with_reducible apply below_drewN) | (with_reducible apply Below.drew) | ((with_reducible refine Below.setCell ?_ ?_ _); rotate_left; focus (first | (simp; done) | (simp; omega) | omega)) | ((with_reducible refine Below.alloc ?_ ?_ _); rotate_left; focus (first | (simp; done) | (simp; omega) | omega)))))) ((first | (go_at_call 86; refine (HC0.out _ (show Below W0.heap.size W0 _ by (repeat (first | (with_reducible exact Below.refl _ _) | (with_reducible assumption) | (with_reducible apply below_drewN) | (with_reducible apply Below.drew) | ((with_reducible refine Below.setCell ?_ ?_ _); rotate_left; focus (first | (simp; done) | (simp; omega) | omega)) | ((with_reducible refine Below.alloc ?_ ?_ _); rotate_left; focus (first | (simp; done) | (simp; omega) | omega)))))).mono ?_; rintro e w5 ⟨rfl, hb⟩; have hB0 : Below W0.heap.size W0 w5 := (show Below W0.heap.size W0 _ by (repeat (first | (with_reducible exact Below.refl _ _) | (with_reducible assumption) | (with_reducible apply below_drewN) | (with_reducible apply Below.drew) | ((with_reducible refine Below.setCell ?_ ?_ _); rotate_left; focus (first | (simp; done) | (simp; omega) | omega)) | ((with_reducible refine Below.alloc ?_ ?_ _); rotate_left; focus (first | (simp; done) | (simp; omega) | omega))))).trans (hb.mono (by first | (simp; done) | (simp; omega) | omega)); have hB0' : Below (w.heap.size + 1) W0 w5 := hB0.mono (by omega); have hz0 := hB0.size; have hn0 := Nat.lt_of_lt_of_le hltw hB0.size; have ho0 := Nat.lt_of_lt_of_le hlt0 hB0.size; clear hb) | (go_at_call 87; refine (HC1.out _ (show Below W0.heap.size W0 _ by (repeat (first | (with_reducible exact Below.refl _ _) | (with_reducible assumption) | (with_reducible apply below_drewN) | (with_reducible apply Below.drew) | ((with_reducible refine Below.setCell ?_ ?_ _); rotate_left; focus (first | (simp; done) | (simp; omega) | omega)) | ((with_reducible refine Below.alloc ?_ ?_ _); rotate_left; focus (first | (simp; done) | (simp; omega) | omega)))))).mono ?_; rintro e w6 ⟨rfl, hb⟩; have hB1 : Below W0.heap.size W0 w6 := (show Below W0.heap.size W0 _ by (repeat (first | (with_reducible exact Below.refl _ _) | (with_reducible assumption) | (with_reducible apply below_drewN) | (with_reducible apply Below.drew) | ((with_reducible refine Below.setCell ?_ ?_ _); rotate_left; focus (first | (simp; done) | (simp; omega) | omega)) | ((with_reducible refine Below.alloc ?_ ?_ _); rotate_left; focus (first | (simp; done) | (simp; omega) | omega))))).trans (hb.mono (by first | (simp; done) | (simp; omega) | omega)); have hB1' : Below (w.heap.size + 1) W0 w6 := hB1.mono (by omega); have hz1 := hB1.size; have hn1 := Nat.lt_of_lt_of_le hltw hB1.size; have ho1 := Nat.lt_of_lt_of_le hlt0 hB1.size; have X2 := X0.next hB1; have r0 := X2.r 0 _ rfl; have m0 := X2.fr 0; have r1 := X2.r 1 _ rfl; have m1 := X2.fr 1; have r2 := X2.r 2 _ rfl; have m2 := X2.fr 2; have r3 := X2.r 3 _ rfl; have m3 := X2.fr 3; have r4 := X2.r 4 _ rfl; have m4 := X2.fr 4; have r5 := X2.r 5 _ rfl; have m5 := X2.fr 5; have r6 := X2.r 6 _ rfl; have m6 := X2.fr 6; have r7 := X2.r 7 _ rfl; have m7 := X2.fr 7; have r8 := X2.r 8 _ rfl; have m8 := X2.fr 8; have r9 := X2.r 9 _ rfl; have m9 := X2.fr 9; have l0 := X2.p 0 _ rfl; have g0 := X2.fp 0; have l1 := X2.p 1 _ rfl; have g1 := X2.fp 1; have l2 := X2.p 2 _ rfl; have g2 := X2.fp 2; have l3 := X2.p 3 _ rfl; have g3 := X2.fp 3; have l4 := X2.p 4 _ rfl; have g4 := X2.fp 4; have l5 := X2.p 5 _ rfl; have g5 := X2.fp 5; have l6 := X2.p 6 _ rfl; have g6 := X2.fp 6; have l7 := X2.p 7 _ rfl; have g7 := X2.fp 7; have l8 := X2.p 8 _ rfl; have g8 := X2.fp 8; have l9 := X2.p 9 _ rfl; have g9 := X2.fp 9; clear X2; clear hb)))
  all_goals
    try go_wp2_with fail
    refine bodyPost_ret (v := .agg #[.string t.wr.coll, .int .i64 t.wr.id, .bool t.wr.gone, .int .i64 t.wr.doc.k, .int .i64 t.wr.doc.n, .string t.wr.doc.t, .int .i64 t.bef.k, .int .i64 t.bef.n, .string t.bef.t, .bool t.was]) (by simp [results, Tryz.results60, go_sem, *]) rfl ⟨rfl, ?_⟩
    have hbb := hbw.trans (hB1.mono hbw.size)
    (repeat (first | (with_reducible exact Below.refl _ _) | (with_reducible assumption) | (with_reducible apply below_drewN) | (with_reducible apply Below.drew) | ((with_reducible refine Below.setCell ?_ ?_ _); rotate_left; focus (first | (simp; done) | (simp; omega) | omega)) | ((with_reducible refine Below.alloc ?_ ?_ _); rotate_left; focus (first | (simp; done) | (simp; omega) | omega))))
set_option maxRecDepth 4000 in
set_option maxHeartbeats 4000000 in
theorem ownLCg_any (a : Option Addr) (cap : Nat) (l : List Cgr) (w : World) (hin : InCg w a l) (hl : l.length ≤ 1000) (hk : ∀ e ∈ l, szCg e) :
    Calls Tryz.prog 59 #[.slice a l.length cap, .func (.func 60) #[] #[]] w fun e' w' => (∃ p c, e' = .returned (.slice p l.length c) ∧ RowGH w' w.heap.size w'.heap.size (.slice p l.length c) l) ∧ Below w.heap.size w w' := by
  have HIN : Hid (InCg _ _ _) := hin
  have HK : Hid _ := hk
  clear hin hk
  go_enter Tryz.func59, Tryz.ntmps59
  go_wp2_with fail
  go_loopw [5, 10] (fun u i wr => ∃ (k : Nat) (pv : Option Addr) (cv : Nat), k ≤ l.length ∧ i = .int .i64 k ∧ u = .slice pv k cv ∧ RowGH wr w.heap.size wr.heap.size (.slice pv k cv) (l.take k) ∧ Below w.heap.size w wr) (fun _ i _ => l.length - (intOf i).toNat)
  case atStart => exact ⟨0, none, 0, Nat.zero_le _, rfl, rfl, RowH.nil _ _ _ _ _ _, Below.refl _ _⟩
  case round =>
    obtain ⟨k, pv, cv, hk, rfl, rfl, hO, hbel⟩ := hrel
    have HO : Hid (RowGH _ _ _ _ _) := hO
    have hz := hbel.size
    clear hO
    by_cases hlt : k < l.length
    · have hlt2 : (k : Int) < (l.length : Int) := by omega
      rcases HIN.out.step hbel with h0 | ⟨b2, off, rfl, hbl2, hc⟩
      · omega
      obtain ⟨z0, z1, z2, z3, z4, z5, z6, z7, z8, z9⟩ := hc k hlt
      have hks := HK.out l[k] (List.getElem_mem _)
      have htk : l.take (k + 1) = l.take k ++ [l[k]] := List.take_succ_eq_append_getElem hlt
      have htl : (l.take k).length = k := by rw [List.length_take]; omega
      obtain ⟨en, hen⟩ : ∃ en, en = l[k] := ⟨_, rfl⟩
      rw [← hen] at z0 z1 z2 z3 z4 z5 z6 z7 z8 z9 hks htk
      have HTK : Hid _ := htk
      have HTL : Hid _ := htl
      have hbA : Below wr.heap.size wr (wr.alloc (.cells #[.string en.wr.coll, .int .i64 en.wr.id, .bool en.wr.gone, .int .i64 en.wr.doc.k, .int .i64 en.wr.doc.n, .string en.wr.doc.t, .int .i64 en.bef.k, .int .i64 en.bef.n, .string en.bef.t, .bool en.was] 86)) := (Below.refl _ _).alloc (Nat.le_refl _) _
      have HBA : Hid (Below w.heap.size w (wr.alloc (.cells #[.string en.wr.coll, .int .i64 en.wr.id, .bool en.wr.gone, .int .i64 en.wr.doc.k, .int .i64 en.wr.doc.n, .string en.wr.doc.t, .int .i64 en.bef.k, .int .i64 en.bef.n, .string en.bef.t, .bool en.was] 86))) := hbel.trans (hbA.mono hz)
      have HOA : Hid (RowGH (wr.alloc (.cells #[.string en.wr.coll, .int .i64 en.wr.id, .bool en.wr.gone, .int .i64 en.wr.doc.k, .int .i64 en.wr.doc.n, .string en.wr.doc.t, .int .i64 en.bef.k, .int .i64 en.bef.n, .string en.bef.t, .bool en.was] 86)) w.heap.size wr.heap.size (.slice pv k cv) (l.take k)) := HO.out.next frG hbA
      have HC : Hid (∀ W : World, Below (wr.alloc (.cells #[.string en.wr.coll, .int .i64 en.wr.id, .bool en.wr.gone, .int .i64 en.wr.doc.k, .int .i64 en.wr.doc.n, .string en.wr.doc.t, .int .i64 en.bef.k, .int .i64 en.bef.n, .string en.bef.t, .bool en.was] 86)).heap.size (wr.alloc (.cells #[.string en.wr.coll, .int .i64 en.wr.id, .bool en.wr.gone, .int .i64 en.wr.doc.k, .int .i64 en.wr.doc.n, .string en.wr.doc.t, .int .i64 en.bef.k, .int .i64 en.bef.n, .string en.bef.t, .bool en.was] 86)) W → Calls _ _ _ W _) := fun W hW => ownChange_x (t := en) W hks
      have hzA := hbA.size
      clear hc hen htk htl hbA HO hbel hks 
      go_wp2_with fail
      generalize (wr.alloc (.cells #[.string en.wr.coll, .int .i64 en.wr.id, .bool en.wr.gone, .int .i64 en.wr.doc.k, .int .i64 en.wr.doc.n, .string en.wr.doc.t, .int .i64 en.bef.k, .int .i64 en.bef.n, .string en.bef.t, .bool en.was] 86)) = WA at HOA HBA HC hzA ⊢
      refine (HC.out _ (Below.refl _ _)).mono ?_
      rintro e w6 ⟨rfl, hb6⟩
      have hz6 := hb6.size
      have HO6 := HOA.out.next frG hb6
      obtain ⟨xs, ho6, hsn⟩ := HO6.snoc frG
      rw [HTL.out] at ho6
      have HB6 : Hid (Below w.heap.size w w6) := HBA.out.trans (hb6.mono HBA.out.size)
      have HSN : Hid _ := hsn
      have HOW : Hid (World.ownsRow _ _ _ _ _ _ _) := ho6
      have HHI : Hid (∀ g, (Value.slice pv k cv).ownBlock = some g → g < wr.heap.size) := fun g hg => by
        rcases HO6.form with ⟨h, _⟩ | ⟨g', c', h, _, h3, _⟩
        · rw [h] at hg; simp [Value.ownBlock] at hg
        · rw [h] at hg
          obtain rfl : g' = g := by simpa [Value.ownBlock] using hg
          exact h3
      skip
      clear hb6 HBA HOA HC HO6 hsn ho6
      go_wp2_with (at_builtin; refine wpList_apxCg rfl (.tmp 14) (.tmp 18) rfl w.heap.size k (.slice pv k cv) xs rfl (HOW.out.alloc _) ⟨w6.heap.size, 0, none⟩ 1 1 [.string en.wr.coll, .int .i64 en.wr.id, .bool en.wr.gone, .int .i64 en.wr.doc.k, .int .i64 en.wr.doc.n, .string en.wr.doc.t, .int .i64 en.bef.k, .int .i64 en.bef.n, .string en.bef.t, .bool en.was] rfl rfl (new_cells _ #[.string en.wr.coll, .int .i64 en.wr.id, .bool en.wr.gone, .int .i64 en.wr.doc.k, .int .i64 en.wr.doc.n, .string en.wr.doc.t, .int .i64 en.bef.k, .int .i64 en.bef.n, .string en.bef.t, .bool en.was] _) (by intro u hu; simp at hu; rcases hu with rfl | rfl | rfl | rfl | rfl | rfl | rfl | rfl | rfl | rfl <;> rfl) (by omega) (by omega) (by simp; omega) ?_)
      intro v7 w7 o7 g7 at7
      have hal7 : (w6.alloc (.cells #[.string en.wr.coll, .int .i64 en.wr.id, .bool en.wr.gone, .int .i64 en.wr.doc.k, .int .i64 en.wr.doc.n, .string en.wr.doc.t, .int .i64 en.bef.k, .int .i64 en.bef.n, .string en.bef.t, .bool en.was] 86)).heap.size = w6.heap.size + 1 := by simp
      have hlt7 := o7.lt
      obtain ⟨gv, cw, hvv, _, _, _, _⟩ := rowFm o7 (by omega)
      subst hvv
      have HR8 : Hid (RowGH w7 w.heap.size w7.heap.size (.slice (some ⟨gv, 0, none⟩) (k + 1) cw) (l.take (k + 1))) := by
        show RowGH _ _ _ _ _
        rw [HTK.out]
        refine HSN.out w7 w6.heap.size w6.heap.size w7.heap.size [.string en.wr.coll, .int .i64 en.wr.id, .bool en.wr.gone, .int .i64 en.wr.doc.k, .int .i64 en.wr.doc.n, .string en.wr.doc.t, .int .i64 en.bef.k, .int .i64 en.bef.n, .string en.bef.t, .bool en.was] en _ (by omega) (by omega) (by omega) (by have := g7.size; omega) (Nat.le_refl _) (rfl) rfl (by rw [HTL.out]; exact o7) ?_ ?_ ?_
        · intro j hj hne
          exact (g7.block j (by omega) hne).trans (Below.heap_alloc _ _ _ hj)
        · rcases at7 with h | h
          · exact .inl h
          · exact .inr ⟨_, h, by omega⟩
        · intro g hg
          exact (hlt7 g hg).2
      have HB8 : Hid (Below w.heap.size w w7) := HB6.out.trans (Below.grown ((Below.refl _ w6).alloc (by omega) (.cells #[.string en.wr.coll, .int .i64 en.wr.id, .bool en.wr.gone, .int .i64 en.wr.doc.k, .int .i64 en.wr.doc.n, .string en.wr.doc.t, .int .i64 en.bef.k, .int .i64 en.bef.n, .string en.bef.t, .bool en.was] 86)) g7 (by simp; omega) (fun b hb => (HOW.out.lt b hb).1))
      clear o7 g7 at7 hlt7 hal7 HSN HOW HHI HB6
      go_wp2_with fail
      go_roundw
      case rel => exact ⟨k + 1, _, _, by omega, by go_num, rfl, HR8.out, HB8.out⟩
      case measure => simp [intOf]; omega
    · obtain rfl : k = l.length := by omega
      have hOf : RowGH wr w.heap.size wr.heap.size (.slice pv l.length cv) l := by have := HO.out; rw [List.take_length] at this; exact this
      have HOf : Hid (RowGH _ _ _ _ _) := hOf
      have HB : Hid (Below _ _ _) := hbel
      clear hOf HO hbel
      go_wp2_with fail
      go_ret
      exact ⟨⟨_, _, rfl, HOf.out⟩, HB.out⟩

end Go.Proofs.YtcggkeleaepebaaGreatDoor.Hx

/- The program's copies of clauses, filters and reads: rows of their own, each in blocks of its own. -/
namespace Go.Proofs.YtcggkeleaepebaaGreatDoor.Hx
open Go.RowKit Go.ChangeShapes Go.WideShapes Go.ChangeAt Go.Joins Tr Co Rea Ce Ty
set_option linter.unusedVariables false

theorem wpList_apxCl {w : World} {ops : Array Oper} {rest : List Oper} {o : Oper} {a : Act} {Q : Exit → Act → World → Prop} (hgd : o.guard = none) (s x : Operand)
    (ho : o.op = .call { callee := .builtin .append, args := #[s, x], argTypes := #[76, 76] }) (base n : Nat) (v : Value) (xs : List Value)
    (hs : a.eval s = v) (hown : w.ownsRow base 109 1 v n xs) (ad : Addr) (m c : Nat) (news : List Value) (hx : a.eval x = .slice (some ad) m c) (hl : news.length = m * 1) (hnews : ∀ j u, news[j]? = some u → w.cell? (ad.add j) = some u) (h1 : ∀ u ∈ news, u.oneCell' = true)
    (hn : n ≤ 1000) (hm : m ≤ 1000) (hbase : base ≤ w.heap.size)
    (hK : ∀ v' w', w'.ownsRow base 109 1 v' (n + m) (xs ++ news) → w.grownBy w' v.ownBlock → (v'.ownBlock = v.ownBlock ∨ v'.ownBlock = some w.heap.size) → wpList Tryz.prog ops Q rest (a.put o.dst v') w') : wpList Tryz.prog ops Q (o :: rest) a w := by
  refine wpList_plain hgd fun K hK2 => ?_
  obtain ⟨i0, hi, hz0, hz1, hz2⟩ := info_parts infoC
  obtain ⟨v', w', hr, h2, h3, h4, h5⟩ := run_append_own_at (P := Tryz.prog) w base 76 o.type 109 i0 (.agg #[.slice none 0 0]) 1 24 Tryz.underlying76 hi hz0 hz1 hz2 rfl (by decide) v n xs hown ad m c news hl hnews h1 (by unfold maxLen; omega) (by omega) hbase
  unfold Oper.wp execOp
  simp only [ho, resolve, invoke, builtin, Sem.run_bind, Sem.run_pure, Result.andThen_ok, List.map_toArray, List.map_cons, List.map_nil, hs, hx, hr]
  exact hK2 _ _ (hK v' w' h2 h3 h5)
theorem wpList_apxRd {w : World} {ops : Array Oper} {rest : List Oper} {o : Oper} {a : Act} {Q : Exit → Act → World → Prop} (hgd : o.guard = none) (s x : Operand)
    (ho : o.op = .call { callee := .builtin .append, args := #[s, x], argTypes := #[33, 33] }) (base n : Nat) (v : Value) (xs : List Value)
    (hs : a.eval s = v) (hown : w.ownsRow base 80 2 v n xs) (ad : Addr) (m c : Nat) (news : List Value) (hx : a.eval x = .slice (some ad) m c) (hl : news.length = m * 2) (hnews : ∀ j u, news[j]? = some u → w.cell? (ad.add j) = some u) (h1 : ∀ u ∈ news, u.oneCell' = true)
    (hn : n ≤ 1000) (hm : m ≤ 1000) (hbase : base ≤ w.heap.size)
    (hK : ∀ v' w', w'.ownsRow base 80 2 v' (n + m) (xs ++ news) → w.grownBy w' v.ownBlock → (v'.ownBlock = v.ownBlock ∨ v'.ownBlock = some w.heap.size) → wpList Tryz.prog ops Q rest (a.put o.dst v') w') : wpList Tryz.prog ops Q (o :: rest) a w := by
  refine wpList_plain hgd fun K hK2 => ?_
  obtain ⟨i0, hi, hz0, hz1, hz2⟩ := info_parts infoR
  obtain ⟨v', w', hr, h2, h3, h4, h5⟩ := run_append_own_at (P := Tryz.prog) w base 33 o.type 80 i0 (.agg #[.string em, .slice none 0 0]) 2 40 Tryz.underlying33 hi hz0 hz1 hz2 rfl (by decide) v n xs hown ad m c news hl hnews h1 (by unfold maxLen; omega) (by omega) hbase
  unfold Oper.wp execOp
  simp only [ho, resolve, invoke, builtin, Sem.run_bind, Sem.run_pure, Result.andThen_ok, List.map_toArray, List.map_cons, List.map_nil, hs, hx, hr]
  exact hK2 _ _ (hK v' w' h2 h3 h5)
theorem keep_ownClause {w W W' : World} {ys : Array Value} {l : List Trm} {a : Option Addr} {cap : Nat} (h : Bx2 w W #[.slice a l.length cap] ys 109) (hb : Below (w.heap.size + 1) W W') : W'.cell? ⟨w.heap.size, 0, none⟩ = some (.slice a l.length cap) :=
  h.keep hb 0 _ rfl
set_option maxRecDepth 4000 in
set_option maxHeartbeats 4000000 in
theorem ownClause_x {l : List Trm} {a : Option Addr} {cap : Nat} (w : World) (hin : InT w a l) (hs : (l.length ≤ 1000 ∧ ∀ t ∈ l, szT t)) :
    Calls Tryz.prog 109 #[.agg #[.slice a l.length cap]] w fun e w' => (∃ p c, e = .returned (.agg #[.slice p l.length c]) ∧ RowTH w' w.heap.size w'.heap.size (.slice p l.length c) l) ∧ Below w.heap.size w w' := by
  have X0 := Bx2.start w #[.slice a l.length cap] #[.slice none 0 0] 109
  have hsz0 : w.heap.size ≤ ((w.alloc (.cells #[.slice a l.length cap] 109)).alloc (.cells #[.slice none 0 0] 109)).heap.size := by simp; omega
  have HC0 : Hid (∀ W : World, Below ((w.alloc (.cells #[.slice a l.length cap] 109)).alloc (.cells #[.slice none 0 0] 109)).heap.size ((w.alloc (.cells #[.slice a l.length cap] 109)).alloc (.cells #[.slice none 0 0] 109)) W → Calls _ _ _ W _) := fun W hW => ownLTm_any a cap l W (hin.step (X0.bel.trans (hW.mono hsz0))) hs.1 hs.2
  go_enter Tryz.func109, Tryz.ntmps109
  go_wp2_with fail
  generalize (w.alloc (.cells #[.slice a l.length cap] 109)).alloc (.cells #[.slice none 0 0] 109) = W0 at X0 hsz0 HC0 ⊢
  have hbw := X0.bel
  have hlt0 := X0.lt
  have hltw : w.heap.size < W0.heap.size := Nat.lt_of_succ_lt hlt0
  have k0 := X0.p 0 _ rfl
  refine (HC0.out _ (Below.refl _ _)).mono ?_
  rintro e w5 ⟨⟨p, c, rfl, hU⟩, hb⟩
  have hz5 := hb.size
  have X1 := X0.next hb
  have r0 := X1.r 0 _ rfl
  have m0 := X1.fr 0
  have ho5 := X1.lt
  have hbb := X1.bel
  have HU : Hid (RowTH _ _ _ _ _) := hU
  clear X0 X1 hU hb HC0 k0
  go_wp2_with fail
  refine bodyPost_ret (v := .agg #[.slice p l.length c]) (by simp [results, Tryz.results109, go_sem, *]) rfl ⟨⟨p, c, rfl, ?_⟩, by (repeat (first | (with_reducible exact Below.refl _ _) | (with_reducible assumption) | (with_reducible apply below_drewN) | (with_reducible apply Below.drew) | ((with_reducible refine Below.setCell ?_ ?_ _); rotate_left; focus (first | (simp; done) | (simp; omega) | omega)) | ((with_reducible refine Below.alloc ?_ ?_ _); rotate_left; focus (first | (simp; done) | (simp; omega) | omega))))⟩
  refine RowH.wide (lo := W0.heap.size) (hi := w5.heap.size) ?_ (by omega) (by simp)
  repeat (first | exact HU.out | refine RowH.off frT ?_ _ (.inl (by omega)))
set_option maxRecDepth 4000 in
set_option maxHeartbeats 4000000 in
theorem ownLCl_any (a : Option Addr) (cap : Nat) (l : List (List Trm)) (w : World) (hin : InCl w a l) (hl : l.length ≤ 1000) (hk : ∀ e ∈ l, (e.length ≤ 1000 ∧ ∀ t ∈ e, szT t)) :
    Calls Tryz.prog 108 #[.slice a l.length cap, .func (.func 109) #[] #[]] w fun e' w' => (∃ p c, e' = .returned (.slice p l.length c) ∧ RowCH w' w.heap.size w'.heap.size (.slice p l.length c) l) ∧ Below w.heap.size w w' := by
  have HIN : Hid (InCl _ _ _) := hin
  have HK : Hid _ := hk
  clear hin hk
  go_enter Tryz.func108, Tryz.ntmps108
  go_wp2_with fail
  go_loopw [5, 10] (fun u i wr => ∃ (k : Nat) (pv : Option Addr) (cv : Nat), k ≤ l.length ∧ i = .int .i64 k ∧ u = .slice pv k cv ∧ RowCH wr w.heap.size wr.heap.size (.slice pv k cv) (l.take k) ∧ Below w.heap.size w wr) (fun _ i _ => l.length - (intOf i).toNat)
  case atStart => exact ⟨0, none, 0, Nat.zero_le _, rfl, rfl, RowH.nil _ _ _ _ _ _, Below.refl _ _⟩
  case round =>
    obtain ⟨k, pv, cv, hk, rfl, rfl, hO, hbel⟩ := hrel
    have HO : Hid (RowCH _ _ _ _ _) := hO
    have hz := hbel.size
    clear hO
    by_cases hlt : k < l.length
    · have hlt2 : (k : Int) < (l.length : Int) := by omega
      rcases HIN.out.step hbel with h0 | ⟨b2, off, rfl, hbl2, hc⟩
      · omega
      obtain ⟨pa, ca, z0, hV⟩ := hc k hlt
      have hks := HK.out l[k] (List.getElem_mem _)
      have htk : l.take (k + 1) = l.take k ++ [l[k]] := List.take_succ_eq_append_getElem hlt
      have htl : (l.take k).length = k := by rw [List.length_take]; omega
      obtain ⟨en, hen⟩ : ∃ en, en = l[k] := ⟨_, rfl⟩
      rw [← hen] at z0 hV hks htk
      have HTK : Hid _ := htk
      have HTL : Hid _ := htl
      have hbA : Below wr.heap.size wr (wr.alloc (.cells #[.slice pa en.length ca] 109)) := (Below.refl _ _).alloc (Nat.le_refl _) _
      have HBA : Hid (Below w.heap.size w (wr.alloc (.cells #[.slice pa en.length ca] 109))) := hbel.trans (hbA.mono hz)
      have HOA : Hid (RowCH (wr.alloc (.cells #[.slice pa en.length ca] 109)) w.heap.size wr.heap.size (.slice pv k cv) (l.take k)) := HO.out.next frC hbA
      have HC : Hid (∀ W : World, Below (wr.alloc (.cells #[.slice pa en.length ca] 109)).heap.size (wr.alloc (.cells #[.slice pa en.length ca] 109)) W → Calls _ _ _ W _) := fun W hW => ownClause_x (l := en) (a := pa) (cap := ca) W (hV.step (hbA.trans (hW.mono hbA.size))) hks
      have hzA := hbA.size
      clear hc hen htk htl hbA HO hbel hks hV
      go_wp2_with fail
      generalize (wr.alloc (.cells #[.slice pa en.length ca] 109)) = WA at HOA HBA HC hzA ⊢
      refine (HC.out _ (Below.refl _ _)).mono ?_
      rintro e w6 ⟨⟨pu, cu, rfl, hU⟩, hb6⟩
      have hz6 := hb6.size
      have HO6 := HOA.out.next frC hb6
      obtain ⟨xs, ho6, hsn⟩ := HO6.snoc frC
      rw [HTL.out] at ho6
      have HB6 : Hid (Below w.heap.size w w6) := HBA.out.trans (hb6.mono HBA.out.size)
      have HSN : Hid _ := hsn
      have HOW : Hid (World.ownsRow _ _ _ _ _ _ _) := ho6
      have HHI : Hid (∀ g, (Value.slice pv k cv).ownBlock = some g → g < wr.heap.size) := fun g hg => by
        rcases HO6.form with ⟨h, _⟩ | ⟨g', c', h, _, h3, _⟩
        · rw [h] at hg; simp [Value.ownBlock] at hg
        · rw [h] at hg
          obtain rfl : g' = g := by simpa [Value.ownBlock] using hg
          exact h3
      have HU : Hid (RowTH w6 WA.heap.size w6.heap.size (.slice pu en.length cu) en) := hU
      clear hb6 HBA HOA HC HO6 hsn ho6
      go_wp2_with (at_builtin; refine wpList_apxCl rfl (.tmp 14) (.tmp 18) rfl w.heap.size k (.slice pv k cv) xs rfl (HOW.out.alloc _) ⟨w6.heap.size, 0, none⟩ 1 1 [.slice pu en.length cu] rfl rfl (new_cells _ #[.slice pu en.length cu] _) (by intro u hu; simp at hu; subst hu; rfl) (by omega) (by omega) (by simp; omega) ?_)
      intro v7 w7 o7 g7 at7
      have hal7 : (w6.alloc (.cells #[.slice pu en.length cu] 109)).heap.size = w6.heap.size + 1 := by simp
      have hlt7 := o7.lt
      obtain ⟨gv, cw, hvv, _, _, _, _⟩ := rowFm o7 (by omega)
      subst hvv
      have HR8 : Hid (RowCH w7 w.heap.size w7.heap.size (.slice (some ⟨gv, 0, none⟩) (k + 1) cw) (l.take (k + 1))) := by
        show RowCH _ _ _ _ _
        rw [HTK.out]
        refine HSN.out w7 WA.heap.size w6.heap.size w7.heap.size [.slice pu en.length cu] en _ (by omega) (by omega) (by omega) (by have := g7.size; omega) (Nat.le_refl _) (⟨_, rfl, HU.out⟩) rfl (by rw [HTL.out]; exact o7) ?_ ?_ ?_
        · intro j hj hne
          exact (g7.block j (by omega) hne).trans (Below.heap_alloc _ _ _ hj)
        · rcases at7 with h | h
          · exact .inl h
          · exact .inr ⟨_, h, by omega⟩
        · intro g hg
          exact (hlt7 g hg).2
      have HB8 : Hid (Below w.heap.size w w7) := HB6.out.trans (Below.grown ((Below.refl _ w6).alloc (by omega) (.cells #[.slice pu en.length cu] 109)) g7 (by simp; omega) (fun b hb => (HOW.out.lt b hb).1))
      clear o7 g7 at7 hlt7 hal7 HSN HOW HHI HB6
      go_wp2_with fail
      go_roundw
      case rel => exact ⟨k + 1, _, _, by omega, by go_num, rfl, HR8.out, HB8.out⟩
      case measure => simp [intOf]; omega
    · obtain rfl : k = l.length := by omega
      have hOf : RowCH wr w.heap.size wr.heap.size (.slice pv l.length cv) l := by have := HO.out; rw [List.take_length] at this; exact this
      have HOf : Hid (RowCH _ _ _ _ _) := hOf
      have HB : Hid (Below _ _ _) := hbel
      clear hOf HO hbel
      go_wp2_with fail
      go_ret
      exact ⟨⟨_, _, rfl, HOf.out⟩, HB.out⟩
theorem keep_ownFilter {w W W' : World} {ys : Array Value} {l : List (List Trm)} {a : Option Addr} {cap : Nat} (h : Bx2 w W #[.slice a l.length cap] ys 78) (hb : Below (w.heap.size + 1) W W') : W'.cell? ⟨w.heap.size, 0, none⟩ = some (.slice a l.length cap) :=
  h.keep hb 0 _ rfl
set_option maxRecDepth 4000 in
set_option maxHeartbeats 4000000 in
theorem ownFilter_x {l : List (List Trm)} {a : Option Addr} {cap : Nat} (w : World) (hin : InCl w a l) (hs : (l.length ≤ 1000 ∧ ∀ y ∈ l, y.length ≤ 1000 ∧ ∀ t ∈ y, szT t)) :
    Calls Tryz.prog 85 #[.agg #[.slice a l.length cap]] w fun e w' => (∃ p c, e = .returned (.agg #[.slice p l.length c]) ∧ RowCH w' w.heap.size w'.heap.size (.slice p l.length c) l) ∧ Below w.heap.size w w' := by
  have X0 := Bx2.start w #[.slice a l.length cap] #[.slice none 0 0] 78
  have hsz0 : w.heap.size ≤ ((w.alloc (.cells #[.slice a l.length cap] 78)).alloc (.cells #[.slice none 0 0] 78)).heap.size := by simp; omega
  have HC0 : Hid (∀ W : World, Below ((w.alloc (.cells #[.slice a l.length cap] 78)).alloc (.cells #[.slice none 0 0] 78)).heap.size ((w.alloc (.cells #[.slice a l.length cap] 78)).alloc (.cells #[.slice none 0 0] 78)) W → Calls _ _ _ W _) := fun W hW => ownLCl_any a cap l W (hin.step (X0.bel.trans (hW.mono hsz0))) hs.1 hs.2
  go_enter Tryz.func85, Tryz.ntmps85
  go_wp2_with fail
  generalize (w.alloc (.cells #[.slice a l.length cap] 78)).alloc (.cells #[.slice none 0 0] 78) = W0 at X0 hsz0 HC0 ⊢
  have hbw := X0.bel
  have hlt0 := X0.lt
  have hltw : w.heap.size < W0.heap.size := Nat.lt_of_succ_lt hlt0
  have k0 := X0.p 0 _ rfl
  refine (HC0.out _ (Below.refl _ _)).mono ?_
  rintro e w5 ⟨⟨p, c, rfl, hU⟩, hb⟩
  have hz5 := hb.size
  have X1 := X0.next hb
  have r0 := X1.r 0 _ rfl
  have m0 := X1.fr 0
  have ho5 := X1.lt
  have hbb := X1.bel
  have HU : Hid (RowCH _ _ _ _ _) := hU
  clear X0 X1 hU hb HC0 k0
  go_wp2_with fail
  refine bodyPost_ret (v := .agg #[.slice p l.length c]) (by simp [results, Tryz.results85, go_sem, *]) rfl ⟨⟨p, c, rfl, ?_⟩, by (repeat (first | (with_reducible exact Below.refl _ _) | (with_reducible assumption) | (with_reducible apply below_drewN) | (with_reducible apply Below.drew) | ((with_reducible refine Below.setCell ?_ ?_ _); rotate_left; focus (first | (simp; done) | (simp; omega) | omega)) | ((with_reducible refine Below.alloc ?_ ?_ _); rotate_left; focus (first | (simp; done) | (simp; omega) | omega))))⟩
  refine RowH.wide (lo := W0.heap.size) (hi := w5.heap.size) ?_ (by omega) (by simp)
  repeat (first | exact HU.out | refine RowH.off frC ?_ _ (.inl (by omega)))
theorem keep_ownRead {w W W' : World} {ys : Array Value} {t : Rdg} {a : Option Addr} {cap : Nat} (h : Bx2 w W #[.string t.coll, .slice a t.f.length cap] ys 80) (hb : Below (w.heap.size + 1) W W') : W'.cell? ⟨w.heap.size, 0, none⟩ = some (.string t.coll) ∧ W'.cell? ⟨w.heap.size, 1, none⟩ = some (.slice a t.f.length cap) :=
  ⟨h.keep hb 0 _ rfl, h.keep hb 1 _ rfl⟩
set_option maxRecDepth 4000 in
set_option maxHeartbeats 4000000 in
theorem ownRead_x {t : Rdg} {a : Option Addr} {cap : Nat} (w : World) (hin : InCl w a t.f) (hs : (t.coll.size ≤ 1048576 ∧ t.f.length ≤ 1000 ∧ ∀ y ∈ t.f, y.length ≤ 1000 ∧ ∀ t ∈ y, szT t)) :
    Calls Tryz.prog 58 #[.agg #[.string t.coll, .slice a t.f.length cap]] w fun e w' => (∃ p c, e = .returned (.agg #[.string t.coll, .slice p t.f.length c]) ∧ RowCH w' w.heap.size w'.heap.size (.slice p t.f.length c) t.f) ∧ Below w.heap.size w w' := by
  have X0 := Bx2.start w #[.string t.coll, .slice a t.f.length cap] #[.string em, .slice none 0 0] 80
  have hsz0 : w.heap.size ≤ ((w.alloc (.cells #[.string t.coll, .slice a t.f.length cap] 80)).alloc (.cells #[.string em, .slice none 0 0] 80)).heap.size := by simp; omega
  have HC0 : Hid (∀ W : World, Below ((w.alloc (.cells #[.string t.coll, .slice a t.f.length cap] 80)).alloc (.cells #[.string em, .slice none 0 0] 80)).heap.size ((w.alloc (.cells #[.string t.coll, .slice a t.f.length cap] 80)).alloc (.cells #[.string em, .slice none 0 0] 80)) W → Calls _ _ _ W _) := fun W hW => strClone_any t.coll W hs.1
  have HC1 : Hid (∀ W : World, Below ((w.alloc (.cells #[.string t.coll, .slice a t.f.length cap] 80)).alloc (.cells #[.string em, .slice none 0 0] 80)).heap.size ((w.alloc (.cells #[.string t.coll, .slice a t.f.length cap] 80)).alloc (.cells #[.string em, .slice none 0 0] 80)) W → Calls _ _ _ W _) := fun W hW => ownFilter_x (l := t.f) (a := a) (cap := cap) W (hin.step (X0.bel.trans (hW.mono hsz0))) hs.2
  go_enter Tryz.func58, Tryz.ntmps58
  go_wp2_with fail
  generalize (w.alloc (.cells #[.string t.coll, .slice a t.f.length cap] 80)).alloc (.cells #[.string em, .slice none 0 0] 80) = W0 at X0 hsz0 HC0 HC1 ⊢
  have hbw := X0.bel
  have hlt0 := X0.lt
  have hltw : w.heap.size < W0.heap.size := Nat.lt_of_succ_lt hlt0
  have k0 := X0.p 0 _ rfl
  have k1 := X0.p 1 _ rfl
  clear k0 k1
  go_region_held3 (fun w0 => w0.cell? ⟨w.heap.size, 0, none⟩ = some (.string t.coll) ∧ w0.cell? ⟨w.heap.size, 1, none⟩ = some (.slice a t.f.length cap)) ((refine keep_ownRead X0 ?_; (repeat (first | (with_reducible exact Below.refl _ _) | (with_reducible assumption) | (with_reducible apply below_drewN) | (with_reducible apply Below.drew) | ((with_reducible refine Below.setCell ?_ ?_ _); rotate_left; focus (first | (simp; done) | (simp; omega) | omega)) | ((with_reducible refine Below.alloc ?_ ?_ _); rotate_left; focus (first | (simp; done) | (simp; omega) | omega)))))) ((first | (go_at_call 84; refine (HC0.out _ (show Below W0.heap.size W0 _ by (repeat (first | (with_reducible exact Below.refl _ _) | (with_reducible assumption) | (with_reducible apply below_drewN) | (with_reducible apply Below.drew) | ((with_reducible refine Below.setCell ?_ ?_ _); rotate_left; focus (first | (simp; done) | (simp; omega) | omega)) | ((with_reducible refine Below.alloc ?_ ?_ _); rotate_left; focus (first | (simp; done) | (simp; omega) | omega)))))).mono ?_; rintro e w5 ⟨rfl, hb⟩; have hB0 : Below W0.heap.size W0 w5 := (show Below W0.heap.size W0 _ by (repeat (first | (with_reducible exact Below.refl _ _) | (with_reducible assumption) | (with_reducible apply below_drewN) | (with_reducible apply Below.drew) | ((with_reducible refine Below.setCell ?_ ?_ _); rotate_left; focus (first | (simp; done) | (simp; omega) | omega)) | ((with_reducible refine Below.alloc ?_ ?_ _); rotate_left; focus (first | (simp; done) | (simp; omega) | omega))))).trans (hb.mono (by first | (simp; done) | (simp; omega) | omega)); have hB0' : Below (w.heap.size + 1) W0 w5 := hB0.mono (by omega); have hz0 := hB0.size; have hn0 := Nat.lt_of_lt_of_le hltw hB0.size; have ho0 := Nat.lt_of_lt_of_le hlt0 hB0.size; clear hb) | (go_at_call 85; refine (HC1.out _ (show Below W0.heap.size W0 _ by (repeat (first | (with_reducible exact Below.refl _ _) | (with_reducible assumption) | (with_reducible apply below_drewN) | (with_reducible apply Below.drew) | ((with_reducible refine Below.setCell ?_ ?_ _); rotate_left; focus (first | (simp; done) | (simp; omega) | omega)) | ((with_reducible refine Below.alloc ?_ ?_ _); rotate_left; focus (first | (simp; done) | (simp; omega) | omega)))))).mono ?_; rintro e w6 ⟨⟨p1, c1, rfl, hU⟩, hb⟩; have hB1 : Below W0.heap.size W0 w6 := (show Below W0.heap.size W0 _ by (repeat (first | (with_reducible exact Below.refl _ _) | (with_reducible assumption) | (with_reducible apply below_drewN) | (with_reducible apply Below.drew) | ((with_reducible refine Below.setCell ?_ ?_ _); rotate_left; focus (first | (simp; done) | (simp; omega) | omega)) | ((with_reducible refine Below.alloc ?_ ?_ _); rotate_left; focus (first | (simp; done) | (simp; omega) | omega))))).trans (hb.mono (by first | (simp; done) | (simp; omega) | omega)); have hB1' : Below (w.heap.size + 1) W0 w6 := hB1.mono (by omega); have hz1 := hB1.size; have hn1 := Nat.lt_of_lt_of_le hltw hB1.size; have ho1 := Nat.lt_of_lt_of_le hlt0 hB1.size; have X2 := X0.next hB1; have r0 := X2.r 0 _ rfl; have m0 := X2.fr 0; have r1 := X2.r 1 _ rfl; have m1 := X2.fr 1; have l0 := X2.p 0 _ rfl; have g0 := X2.fp 0; have l1 := X2.p 1 _ rfl; have g1 := X2.fp 1; clear X2; have HU : Hid (RowCH w6 W0.heap.size w6.heap.size (.slice p1 t.f.length c1) t.f) := hU.wide (by first | (simp; done) | (simp; omega) | omega) (Nat.le_refl _); clear hU; clear hb)))
  all_goals
    try go_wp2_with fail
    refine bodyPost_ret (v := .agg #[.string t.coll, .slice p1 t.f.length c1]) (by simp [results, Tryz.results58, go_sem, *]) rfl ⟨⟨p1, c1, rfl, ?_⟩, ?_⟩
    · refine RowH.wide (lo := W0.heap.size) (hi := w6.heap.size) ?_ (by omega) (by simp)
      repeat (first | exact HU.out | refine RowH.off frC ?_ _ (.inl (by omega)))
    have hbb := hbw.trans (hB1.mono hbw.size)
    (repeat (first | (with_reducible exact Below.refl _ _) | (with_reducible assumption) | (with_reducible apply below_drewN) | (with_reducible apply Below.drew) | ((with_reducible refine Below.setCell ?_ ?_ _); rotate_left; focus (first | (simp; done) | (simp; omega) | omega)) | ((with_reducible refine Below.alloc ?_ ?_ _); rotate_left; focus (first | (simp; done) | (simp; omega) | omega))))
set_option maxRecDepth 4000 in
set_option maxHeartbeats 4000000 in
theorem ownLRd_any (a : Option Addr) (cap : Nat) (l : List Rdg) (w : World) (hin : InRd w a l) (hl : l.length ≤ 1000) (hk : ∀ e ∈ l, (e.coll.size ≤ 1048576 ∧ e.f.length ≤ 1000 ∧ ∀ y ∈ e.f, y.length ≤ 1000 ∧ ∀ t ∈ y, szT t)) :
    Calls Tryz.prog 57 #[.slice a l.length cap, .func (.func 58) #[] #[]] w fun e' w' => (∃ p c, e' = .returned (.slice p l.length c) ∧ RowRH w' w.heap.size w'.heap.size (.slice p l.length c) l) ∧ Below w.heap.size w w' := by
  have HIN : Hid (InRd _ _ _) := hin
  have HK : Hid _ := hk
  clear hin hk
  go_enter Tryz.func57, Tryz.ntmps57
  go_wp2_with fail
  go_loopw [5, 10] (fun u i wr => ∃ (k : Nat) (pv : Option Addr) (cv : Nat), k ≤ l.length ∧ i = .int .i64 k ∧ u = .slice pv k cv ∧ RowRH wr w.heap.size wr.heap.size (.slice pv k cv) (l.take k) ∧ Below w.heap.size w wr) (fun _ i _ => l.length - (intOf i).toNat)
  case atStart => exact ⟨0, none, 0, Nat.zero_le _, rfl, rfl, RowH.nil _ _ _ _ _ _, Below.refl _ _⟩
  case round =>
    obtain ⟨k, pv, cv, hk, rfl, rfl, hO, hbel⟩ := hrel
    have HO : Hid (RowRH _ _ _ _ _) := hO
    have hz := hbel.size
    clear hO
    by_cases hlt : k < l.length
    · have hlt2 : (k : Int) < (l.length : Int) := by omega
      rcases HIN.out.step hbel with h0 | ⟨b2, off, rfl, hbl2, hc⟩
      · omega
      obtain ⟨z0, pa, ca, z1, hV⟩ := hc k hlt
      have hks := HK.out l[k] (List.getElem_mem _)
      have htk : l.take (k + 1) = l.take k ++ [l[k]] := List.take_succ_eq_append_getElem hlt
      have htl : (l.take k).length = k := by rw [List.length_take]; omega
      obtain ⟨en, hen⟩ : ∃ en, en = l[k] := ⟨_, rfl⟩
      rw [← hen] at z0 z1 hV hks htk
      have HTK : Hid _ := htk
      have HTL : Hid _ := htl
      have hbA : Below wr.heap.size wr (wr.alloc (.cells #[.string en.coll, .slice pa en.f.length ca] 80)) := (Below.refl _ _).alloc (Nat.le_refl _) _
      have HBA : Hid (Below w.heap.size w (wr.alloc (.cells #[.string en.coll, .slice pa en.f.length ca] 80))) := hbel.trans (hbA.mono hz)
      have HOA : Hid (RowRH (wr.alloc (.cells #[.string en.coll, .slice pa en.f.length ca] 80)) w.heap.size wr.heap.size (.slice pv k cv) (l.take k)) := HO.out.next frR hbA
      have HC : Hid (∀ W : World, Below (wr.alloc (.cells #[.string en.coll, .slice pa en.f.length ca] 80)).heap.size (wr.alloc (.cells #[.string en.coll, .slice pa en.f.length ca] 80)) W → Calls _ _ _ W _) := fun W hW => ownRead_x (t := en) (a := pa) (cap := ca) W (hV.step (hbA.trans (hW.mono hbA.size))) hks
      have hzA := hbA.size
      clear hc hen htk htl hbA HO hbel hks hV
      go_wp2_with fail
      generalize (wr.alloc (.cells #[.string en.coll, .slice pa en.f.length ca] 80)) = WA at HOA HBA HC hzA ⊢
      refine (HC.out _ (Below.refl _ _)).mono ?_
      rintro e w6 ⟨⟨pu, cu, rfl, hU⟩, hb6⟩
      have hz6 := hb6.size
      have HO6 := HOA.out.next frR hb6
      obtain ⟨xs, ho6, hsn⟩ := HO6.snoc frR
      rw [HTL.out] at ho6
      have HB6 : Hid (Below w.heap.size w w6) := HBA.out.trans (hb6.mono HBA.out.size)
      have HSN : Hid _ := hsn
      have HOW : Hid (World.ownsRow _ _ _ _ _ _ _) := ho6
      have HHI : Hid (∀ g, (Value.slice pv k cv).ownBlock = some g → g < wr.heap.size) := fun g hg => by
        rcases HO6.form with ⟨h, _⟩ | ⟨g', c', h, _, h3, _⟩
        · rw [h] at hg; simp [Value.ownBlock] at hg
        · rw [h] at hg
          obtain rfl : g' = g := by simpa [Value.ownBlock] using hg
          exact h3
      have HU : Hid (RowCH w6 WA.heap.size w6.heap.size (.slice pu en.f.length cu) en.f) := hU
      clear hb6 HBA HOA HC HO6 hsn ho6
      go_wp2_with (at_builtin; refine wpList_apxRd rfl (.tmp 14) (.tmp 18) rfl w.heap.size k (.slice pv k cv) xs rfl (HOW.out.alloc _) ⟨w6.heap.size, 0, none⟩ 1 1 [.string en.coll, .slice pu en.f.length cu] rfl rfl (new_cells _ #[.string en.coll, .slice pu en.f.length cu] _) (by intro u hu; simp at hu; rcases hu with rfl | rfl <;> rfl) (by omega) (by omega) (by simp; omega) ?_)
      intro v7 w7 o7 g7 at7
      have hal7 : (w6.alloc (.cells #[.string en.coll, .slice pu en.f.length cu] 80)).heap.size = w6.heap.size + 1 := by simp
      have hlt7 := o7.lt
      obtain ⟨gv, cw, hvv, _, _, _, _⟩ := rowFm o7 (by omega)
      subst hvv
      have HR8 : Hid (RowRH w7 w.heap.size w7.heap.size (.slice (some ⟨gv, 0, none⟩) (k + 1) cw) (l.take (k + 1))) := by
        show RowRH _ _ _ _ _
        rw [HTK.out]
        refine HSN.out w7 WA.heap.size w6.heap.size w7.heap.size [.string en.coll, .slice pu en.f.length cu] en _ (by omega) (by omega) (by omega) (by have := g7.size; omega) (Nat.le_refl _) (⟨_, rfl, HU.out⟩) rfl (by rw [HTL.out]; exact o7) ?_ ?_ ?_
        · intro j hj hne
          exact (g7.block j (by omega) hne).trans (Below.heap_alloc _ _ _ hj)
        · rcases at7 with h | h
          · exact .inl h
          · exact .inr ⟨_, h, by omega⟩
        · intro g hg
          exact (hlt7 g hg).2
      have HB8 : Hid (Below w.heap.size w w7) := HB6.out.trans (Below.grown ((Below.refl _ w6).alloc (by omega) (.cells #[.string en.coll, .slice pu en.f.length cu] 80)) g7 (by simp; omega) (fun b hb => (HOW.out.lt b hb).1))
      clear o7 g7 at7 hlt7 hal7 HSN HOW HHI HB6
      go_wp2_with fail
      go_roundw
      case rel => exact ⟨k + 1, _, _, by omega, by go_num, rfl, HR8.out, HB8.out⟩
      case measure => simp [intOf]; omega
    · obtain rfl : k = l.length := by omega
      have hOf : RowRH wr w.heap.size wr.heap.size (.slice pv l.length cv) l := by have := HO.out; rw [List.take_length] at this; exact this
      have HOf : Hid (RowRH _ _ _ _ _) := hOf
      have HB : Hid (Below _ _ _) := hbel
      clear hOf HO hbel
      go_wp2_with fail
      go_ret
      exact ⟨⟨_, _, rfl, HOf.out⟩, HB.out⟩

end Go.Proofs.YtcggkeleaepebaaGreatDoor.Hx

/- The program's copies of committed ones: rows of their own, each in blocks of its own. -/
namespace Go.Proofs.YtcggkeleaepebaaGreatDoor.Hx
open Go.RowKit Go.ChangeShapes Go.WideShapes Go.ChangeAt Go.Joins Tr Co Rea Ce Ty
set_option linter.unusedVariables false

theorem wpList_apxDn {w : World} {ops : Array Oper} {rest : List Oper} {o : Oper} {a : Act} {Q : Exit → Act → World → Prop} (hgd : o.guard = none) (s x : Operand)
    (ho : o.op = .call { callee := .builtin .append, args := #[s, x], argTypes := #[29, 29] }) (base n : Nat) (v : Value) (xs : List Value)
    (hs : a.eval s = v) (hown : w.ownsRow base 36 6 v n xs) (ad : Addr) (m c : Nat) (news : List Value) (hx : a.eval x = .slice (some ad) m c) (hl : news.length = m * 6) (hnews : ∀ j u, news[j]? = some u → w.cell? (ad.add j) = some u) (h1 : ∀ u ∈ news, u.oneCell' = true)
    (hn : n ≤ 1000) (hm : m ≤ 1000) (hbase : base ≤ w.heap.size)
    (hK : ∀ v' w', w'.ownsRow base 36 6 v' (n + m) (xs ++ news) → w.grownBy w' v.ownBlock → (v'.ownBlock = v.ownBlock ∨ v'.ownBlock = some w.heap.size) → wpList Tryz.prog ops Q rest (a.put o.dst v') w') : wpList Tryz.prog ops Q (o :: rest) a w := by
  refine wpList_plain hgd fun K hK2 => ?_
  obtain ⟨i0, hi, hz0, hz1, hz2⟩ := info_parts infoDn
  obtain ⟨v', w', hr, h2, h3, h4, h5⟩ := run_append_own_at (P := Tryz.prog) w base 29 o.type 36 i0 (.agg #[.int .i64 0, .int .i64 0, .slice none 0 0, .slice none 0 0, .bool false, .bool false]) 6 72 Tryz.underlying29 hi hz0 hz1 hz2 rfl (by decide) v n xs hown ad m c news hl hnews h1 (by unfold maxLen; omega) (by omega) hbase
  unfold Oper.wp execOp
  simp only [ho, resolve, invoke, builtin, Sem.run_bind, Sem.run_pure, Result.andThen_ok, List.map_toArray, List.map_cons, List.map_nil, hs, hx, hr]
  exact hK2 _ _ (hK v' w' h2 h3 h5)
theorem keep_ownDone {w W W' : World} {ys : Array Value} {t : Dn} {a b : Option Addr} {ca cb : Nat} (h : Bx2 w W #[.int .i64 t.sn, .int .i64 t.at_, .slice a t.rs.length ca, .slice b t.cs.length cb, .bool t.di, .bool t.do_] ys 36) (hb : Below (w.heap.size + 1) W W') : W'.cell? ⟨w.heap.size, 0, none⟩ = some (.int .i64 t.sn) :=
  h.keep hb 0 _ rfl
set_option maxRecDepth 4000 in
set_option maxHeartbeats 4000000 in
theorem ownDone_x {t : Dn} {a b : Option Addr} {ca cb : Nat} (w : World) (hin : InRd w a t.rs) (hig : InCg w b t.cs) (hs : (t.rs.length ≤ 1000 ∧ (∀ x ∈ t.rs, (x.coll.size ≤ 1048576 ∧ x.f.length ≤ 1000 ∧ ∀ y ∈ x.f, y.length ≤ 1000 ∧ ∀ t ∈ y, szT t)) ∧ t.cs.length ≤ 1000 ∧ ∀ x ∈ t.cs, szCg x)) :
    Calls Tryz.prog 30 #[.agg #[.int .i64 t.sn, .int .i64 t.at_, .slice a t.rs.length ca, .slice b t.cs.length cb, .bool t.di, .bool t.do_]] w fun e w' => (∃ p c q d m, e = .returned (.agg #[.int .i64 t.sn, .int .i64 t.at_, .slice p t.rs.length c, .slice q t.cs.length d, .bool t.di, .bool t.do_]) ∧ RowRH w' w.heap.size m (.slice p t.rs.length c) t.rs ∧ RowGH w' m w'.heap.size (.slice q t.cs.length d) t.cs ∧ w.heap.size ≤ m ∧ m ≤ w'.heap.size) ∧ Below w.heap.size w w' := by
  have X0 := Bx2.start w #[.int .i64 t.sn, .int .i64 t.at_, .slice a t.rs.length ca, .slice b t.cs.length cb, .bool t.di, .bool t.do_] #[.int .i64 0, .int .i64 0, .slice none 0 0, .slice none 0 0, .bool false, .bool false] 36
  have hsz0 : w.heap.size ≤ ((w.alloc (.cells #[.int .i64 t.sn, .int .i64 t.at_, .slice a t.rs.length ca, .slice b t.cs.length cb, .bool t.di, .bool t.do_] 36)).alloc (.cells #[.int .i64 0, .int .i64 0, .slice none 0 0, .slice none 0 0, .bool false, .bool false] 36)).heap.size := by simp; omega
  have HC0 : Hid (∀ W : World, Below ((w.alloc (.cells #[.int .i64 t.sn, .int .i64 t.at_, .slice a t.rs.length ca, .slice b t.cs.length cb, .bool t.di, .bool t.do_] 36)).alloc (.cells #[.int .i64 0, .int .i64 0, .slice none 0 0, .slice none 0 0, .bool false, .bool false] 36)).heap.size ((w.alloc (.cells #[.int .i64 t.sn, .int .i64 t.at_, .slice a t.rs.length ca, .slice b t.cs.length cb, .bool t.di, .bool t.do_] 36)).alloc (.cells #[.int .i64 0, .int .i64 0, .slice none 0 0, .slice none 0 0, .bool false, .bool false] 36)) W → Calls _ _ _ W _) := fun W hW => ownLRd_any a ca t.rs W (hin.step (X0.bel.trans (hW.mono hsz0))) hs.1 hs.2.1
  have HC1 : Hid (∀ W : World, Below ((w.alloc (.cells #[.int .i64 t.sn, .int .i64 t.at_, .slice a t.rs.length ca, .slice b t.cs.length cb, .bool t.di, .bool t.do_] 36)).alloc (.cells #[.int .i64 0, .int .i64 0, .slice none 0 0, .slice none 0 0, .bool false, .bool false] 36)).heap.size ((w.alloc (.cells #[.int .i64 t.sn, .int .i64 t.at_, .slice a t.rs.length ca, .slice b t.cs.length cb, .bool t.di, .bool t.do_] 36)).alloc (.cells #[.int .i64 0, .int .i64 0, .slice none 0 0, .slice none 0 0, .bool false, .bool false] 36)) W → Calls _ _ _ W _) := fun W hW => ownLCg_any b cb t.cs W (hig.step (X0.bel.trans (hW.mono hsz0))) hs.2.2.1 hs.2.2.2
  go_enter Tryz.func30, Tryz.ntmps30
  go_wp2_with fail
  generalize (w.alloc (.cells #[.int .i64 t.sn, .int .i64 t.at_, .slice a t.rs.length ca, .slice b t.cs.length cb, .bool t.di, .bool t.do_] 36)).alloc (.cells #[.int .i64 0, .int .i64 0, .slice none 0 0, .slice none 0 0, .bool false, .bool false] 36) = W0 at X0 hsz0 HC0 HC1 ⊢
  have hbw := X0.bel
  have hlt0 := X0.lt
  have hltw : w.heap.size < W0.heap.size := Nat.lt_of_succ_lt hlt0
  have k0 := X0.p 0 _ rfl
  have k1 := X0.p 1 _ rfl
  have k2 := X0.p 2 _ rfl
  have k3 := X0.p 3 _ rfl
  have k4 := X0.p 4 _ rfl
  have k5 := X0.p 5 _ rfl
  go_region_with ((first | (go_at_call 57; refine (HC0.out _ (show Below W0.heap.size W0 _ by (repeat (first | (with_reducible exact Below.refl _ _) | (with_reducible assumption) | (with_reducible apply below_drewN) | (with_reducible apply Below.drew) | ((with_reducible refine Below.setCell ?_ ?_ _); rotate_left; focus (first | (simp; done) | (simp; omega) | omega)) | ((with_reducible refine Below.alloc ?_ ?_ _); rotate_left; focus (first | (simp; done) | (simp; omega) | omega)))))).mono ?_; rintro e w5 ⟨⟨p1, c1, rfl, hU⟩, hb⟩; have hB0 : Below W0.heap.size W0 w5 := (show Below W0.heap.size W0 _ by (repeat (first | (with_reducible exact Below.refl _ _) | (with_reducible assumption) | (with_reducible apply below_drewN) | (with_reducible apply Below.drew) | ((with_reducible refine Below.setCell ?_ ?_ _); rotate_left; focus (first | (simp; done) | (simp; omega) | omega)) | ((with_reducible refine Below.alloc ?_ ?_ _); rotate_left; focus (first | (simp; done) | (simp; omega) | omega))))).trans (hb.mono (by first | (simp; done) | (simp; omega) | omega)); have hB0' : Below (w.heap.size + 1) W0 w5 := hB0.mono (by omega); have hz0 := hB0.size; have hn0 := Nat.lt_of_lt_of_le hltw hB0.size; have ho0 := Nat.lt_of_lt_of_le hlt0 hB0.size; have Z0 := X0.next hB0; have j0 := Z0.p 0 _ rfl; have j1 := Z0.p 1 _ rfl; have j2 := Z0.p 2 _ rfl; have j3 := Z0.p 3 _ rfl; have j4 := Z0.p 4 _ rfl; have j5 := Z0.p 5 _ rfl; clear Z0; have HU0 : Hid (RowRH w5 W0.heap.size w5.heap.size (.slice p1 t.rs.length c1) t.rs) := hU.wide (by first | (simp; done) | (simp; omega) | omega) (Nat.le_refl _); clear hU; clear hb) | (go_at_call 59; refine (HC1.out _ (show Below W0.heap.size W0 _ by (repeat (first | (with_reducible exact Below.refl _ _) | (with_reducible assumption) | (with_reducible apply below_drewN) | (with_reducible apply Below.drew) | ((with_reducible refine Below.setCell ?_ ?_ _); rotate_left; focus (first | (simp; done) | (simp; omega) | omega)) | ((with_reducible refine Below.alloc ?_ ?_ _); rotate_left; focus (first | (simp; done) | (simp; omega) | omega)))))).mono ?_; rintro e w6 ⟨⟨q1, d1, rfl, hU⟩, hb⟩; have hB1 : Below W0.heap.size W0 w6 := (show Below W0.heap.size W0 _ by (repeat (first | (with_reducible exact Below.refl _ _) | (with_reducible assumption) | (with_reducible apply below_drewN) | (with_reducible apply Below.drew) | ((with_reducible refine Below.setCell ?_ ?_ _); rotate_left; focus (first | (simp; done) | (simp; omega) | omega)) | ((with_reducible refine Below.alloc ?_ ?_ _); rotate_left; focus (first | (simp; done) | (simp; omega) | omega))))).trans (hb.mono (by first | (simp; done) | (simp; omega) | omega)); have hB1' : Below (w.heap.size + 1) W0 w6 := hB1.mono (by omega); have hz1 := hB1.size; have hn1 := Nat.lt_of_lt_of_le hltw hB1.size; have ho1 := Nat.lt_of_lt_of_le hlt0 hB1.size; have X2 := X0.next hB1; have r0 := X2.r 0 _ rfl; have m0 := X2.fr 0; have r1 := X2.r 1 _ rfl; have m1 := X2.fr 1; have r2 := X2.r 2 _ rfl; have m2 := X2.fr 2; have r3 := X2.r 3 _ rfl; have m3 := X2.fr 3; have r4 := X2.r 4 _ rfl; have m4 := X2.fr 4; have r5 := X2.r 5 _ rfl; have m5 := X2.fr 5; have l0 := X2.p 0 _ rfl; have g0 := X2.fp 0; have l1 := X2.p 1 _ rfl; have g1 := X2.fp 1; have l2 := X2.p 2 _ rfl; have g2 := X2.fp 2; have l3 := X2.p 3 _ rfl; have g3 := X2.fp 3; have l4 := X2.p 4 _ rfl; have g4 := X2.fp 4; have l5 := X2.p 5 _ rfl; have g5 := X2.fp 5; clear X2; have hb56 : Below w5.heap.size w5 w6 := (show Below w5.heap.size w5 _ by (repeat (first | (with_reducible exact Below.refl _ _) | (with_reducible assumption) | (with_reducible apply below_drewN) | (with_reducible apply Below.drew) | ((with_reducible refine Below.setCell ?_ ?_ _); rotate_left; focus (first | (simp; done) | (simp; omega) | omega)) | ((with_reducible refine Below.alloc ?_ ?_ _); rotate_left; focus (first | (simp; done) | (simp; omega) | omega))))).trans (hb.mono (by first | (simp; done) | (simp; omega) | omega)); have HU : Hid (RowRH w6 W0.heap.size w5.heap.size (.slice p1 t.rs.length c1) t.rs) := HU0.out.next frR hb56; have HV : Hid (RowGH w6 w5.heap.size w6.heap.size (.slice q1 t.cs.length d1) t.cs) := hU.wide (by first | (simp; done) | (simp; omega) | omega) (Nat.le_refl _); clear hU; have hz56 := hb56.size; clear hb56 HU0; clear hb)))
  all_goals
    try go_wp2_with fail
    refine bodyPost_ret (v := .agg #[.int .i64 t.sn, .int .i64 t.at_, .slice p1 t.rs.length c1, .slice q1 t.cs.length d1, .bool t.di, .bool t.do_]) (by simp [results, Tryz.results30, go_sem, *]) rfl ⟨⟨p1, c1, q1, d1, w5.heap.size, rfl, ?_, ?_, ?_, ?_⟩, ?_⟩
    · refine RowH.wide (lo := W0.heap.size) (hi := w5.heap.size) ?_ (by omega) (Nat.le_refl _)
      repeat (first | (with_reducible exact HU.out) | (with_reducible refine RowH.off frR ?_ _ (.inl (by omega))))
    · refine RowH.wide (lo := w5.heap.size) (hi := w6.heap.size) ?_ (Nat.le_refl _) (by simp)
      repeat (first | (with_reducible exact HV.out) | (with_reducible refine RowH.off frG ?_ _ (.inl (by omega))))
    · omega
    · simp; omega
    have hbb := hbw.trans (hB1.mono hbw.size)
    (repeat (first | (with_reducible exact Below.refl _ _) | (with_reducible assumption) | (with_reducible apply below_drewN) | (with_reducible apply Below.drew) | ((with_reducible refine Below.setCell ?_ ?_ _); rotate_left; focus (first | (simp; done) | (simp; omega) | omega)) | ((with_reducible refine Below.alloc ?_ ?_ _); rotate_left; focus (first | (simp; done) | (simp; omega) | omega))))
set_option maxRecDepth 4000 in
set_option maxHeartbeats 4000000 in
theorem ownLDn_any (a : Option Addr) (cap : Nat) (l : List Dn) (w : World) (hin : InDn w a l) (hl : l.length ≤ 1000) (hk : ∀ e ∈ l, (e.rs.length ≤ 1000 ∧ (∀ x ∈ e.rs, (x.coll.size ≤ 1048576 ∧ x.f.length ≤ 1000 ∧ ∀ y ∈ x.f, y.length ≤ 1000 ∧ ∀ t ∈ y, szT t)) ∧ e.cs.length ≤ 1000 ∧ ∀ x ∈ e.cs, szCg x)) :
    Calls Tryz.prog 29 #[.slice a l.length cap, .func (.func 30) #[] #[]] w fun e' w' => (∃ p c, e' = .returned (.slice p l.length c) ∧ RowDH w' w.heap.size w'.heap.size (.slice p l.length c) l) ∧ Below w.heap.size w w' := by
  have HIN : Hid (InDn _ _ _) := hin
  have HK : Hid _ := hk
  clear hin hk
  go_enter Tryz.func29, Tryz.ntmps29
  go_wp2_with fail
  go_loopw [5, 10] (fun u i wr => ∃ (k : Nat) (pv : Option Addr) (cv : Nat), k ≤ l.length ∧ i = .int .i64 k ∧ u = .slice pv k cv ∧ RowDH wr w.heap.size wr.heap.size (.slice pv k cv) (l.take k) ∧ Below w.heap.size w wr) (fun _ i _ => l.length - (intOf i).toNat)
  case atStart => exact ⟨0, none, 0, Nat.zero_le _, rfl, rfl, RowH.nil _ _ _ _ _ _, Below.refl _ _⟩
  case round =>
    obtain ⟨k, pv, cv, hk, rfl, rfl, hO, hbel⟩ := hrel
    have HO : Hid (RowDH _ _ _ _ _) := hO
    have hz := hbel.size
    clear hO
    by_cases hlt : k < l.length
    · have hlt2 : (k : Int) < (l.length : Int) := by omega
      rcases HIN.out.step hbel with h0 | ⟨b2, off, rfl, hbl2, hc⟩
      · omega
      obtain ⟨pa, ca, qa, da, ⟨z0, z1, z2, z3, z4, z5⟩, hV, hG⟩ := hc k hlt
      have hks := HK.out l[k] (List.getElem_mem _)
      have htk : l.take (k + 1) = l.take k ++ [l[k]] := List.take_succ_eq_append_getElem hlt
      have htl : (l.take k).length = k := by rw [List.length_take]; omega
      obtain ⟨en, hen⟩ : ∃ en, en = l[k] := ⟨_, rfl⟩
      rw [← hen] at z0 z1 z2 z3 z4 z5 hV hG hks htk
      have HTK : Hid _ := htk
      have HTL : Hid _ := htl
      have hbA : Below wr.heap.size wr (wr.alloc (.cells #[.int .i64 en.sn, .int .i64 en.at_, .slice pa en.rs.length ca, .slice qa en.cs.length da, .bool en.di, .bool en.do_] 36)) := (Below.refl _ _).alloc (Nat.le_refl _) _
      have HBA : Hid (Below w.heap.size w (wr.alloc (.cells #[.int .i64 en.sn, .int .i64 en.at_, .slice pa en.rs.length ca, .slice qa en.cs.length da, .bool en.di, .bool en.do_] 36))) := hbel.trans (hbA.mono hz)
      have HOA : Hid (RowDH (wr.alloc (.cells #[.int .i64 en.sn, .int .i64 en.at_, .slice pa en.rs.length ca, .slice qa en.cs.length da, .bool en.di, .bool en.do_] 36)) w.heap.size wr.heap.size (.slice pv k cv) (l.take k)) := HO.out.next frD hbA
      have HC : Hid (∀ W : World, Below (wr.alloc (.cells #[.int .i64 en.sn, .int .i64 en.at_, .slice pa en.rs.length ca, .slice qa en.cs.length da, .bool en.di, .bool en.do_] 36)).heap.size (wr.alloc (.cells #[.int .i64 en.sn, .int .i64 en.at_, .slice pa en.rs.length ca, .slice qa en.cs.length da, .bool en.di, .bool en.do_] 36)) W → Calls _ _ _ W _) := fun W hW => ownDone_x (t := en) (a := pa) (ca := ca) (b := qa) (cb := da) W (hV.step (hbA.trans (hW.mono hbA.size))) (hG.step (hbA.trans (hW.mono hbA.size))) hks
      have hzA := hbA.size
      clear hc hen htk htl hbA HO hbel hks hV hG
      go_wp2_with fail
      generalize (wr.alloc (.cells #[.int .i64 en.sn, .int .i64 en.at_, .slice pa en.rs.length ca, .slice qa en.cs.length da, .bool en.di, .bool en.do_] 36)) = WA at HOA HBA HC hzA ⊢
      refine (HC.out _ (Below.refl _ _)).mono ?_
      rintro e w6 ⟨⟨pu, cu, qu, du, mm, rfl, hU, hU2, hm1, hm2⟩, hb6⟩
      have hz6 := hb6.size
      have HO6 := HOA.out.next frD hb6
      obtain ⟨xs, ho6, hsn⟩ := HO6.snoc frD
      rw [HTL.out] at ho6
      have HB6 : Hid (Below w.heap.size w w6) := HBA.out.trans (hb6.mono HBA.out.size)
      have HSN : Hid _ := hsn
      have HOW : Hid (World.ownsRow _ _ _ _ _ _ _) := ho6
      have HHI : Hid (∀ g, (Value.slice pv k cv).ownBlock = some g → g < wr.heap.size) := fun g hg => by
        rcases HO6.form with ⟨h, _⟩ | ⟨g', c', h, _, h3, _⟩
        · rw [h] at hg; simp [Value.ownBlock] at hg
        · rw [h] at hg
          obtain rfl : g' = g := by simpa [Value.ownBlock] using hg
          exact h3
      have HU : Hid (ElD w6 WA.heap.size w6.heap.size [.int .i64 en.sn, .int .i64 en.at_, .slice pu en.rs.length cu, .slice qu en.cs.length du, .bool en.di, .bool en.do_] en) := ⟨_, _, WA.heap.size, mm, mm, w6.heap.size, rfl, ⟨Nat.le_refl _, hm2, hm1, Nat.le_refl _, .inl (Nat.le_refl _)⟩, hU, hU2⟩
      clear hU hU2 hm1 hm2
      clear hb6 HBA HOA HC HO6 hsn ho6
      go_wp2_with (at_builtin; refine wpList_apxDn rfl (.tmp 14) (.tmp 18) rfl w.heap.size k (.slice pv k cv) xs rfl (HOW.out.alloc _) ⟨w6.heap.size, 0, none⟩ 1 1 [.int .i64 en.sn, .int .i64 en.at_, .slice pu en.rs.length cu, .slice qu en.cs.length du, .bool en.di, .bool en.do_] rfl rfl (new_cells _ #[.int .i64 en.sn, .int .i64 en.at_, .slice pu en.rs.length cu, .slice qu en.cs.length du, .bool en.di, .bool en.do_] _) (by intro u hu; simp at hu; rcases hu with rfl | rfl | rfl | rfl | rfl | rfl <;> rfl) (by omega) (by omega) (by simp; omega) ?_)
      intro v7 w7 o7 g7 at7
      have hal7 : (w6.alloc (.cells #[.int .i64 en.sn, .int .i64 en.at_, .slice pu en.rs.length cu, .slice qu en.cs.length du, .bool en.di, .bool en.do_] 36)).heap.size = w6.heap.size + 1 := by simp
      have hlt7 := o7.lt
      obtain ⟨gv, cw, hvv, _, _, _, _⟩ := rowFm o7 (by omega)
      subst hvv
      have HR8 : Hid (RowDH w7 w.heap.size w7.heap.size (.slice (some ⟨gv, 0, none⟩) (k + 1) cw) (l.take (k + 1))) := by
        show RowDH _ _ _ _ _
        rw [HTK.out]
        refine HSN.out w7 WA.heap.size w6.heap.size w7.heap.size [.int .i64 en.sn, .int .i64 en.at_, .slice pu en.rs.length cu, .slice qu en.cs.length du, .bool en.di, .bool en.do_] en _ (by omega) (by omega) (by omega) (by have := g7.size; omega) (Nat.le_refl _) (HU.out) rfl (by rw [HTL.out]; exact o7) ?_ ?_ ?_
        · intro j hj hne
          exact (g7.block j (by omega) hne).trans (Below.heap_alloc _ _ _ hj)
        · rcases at7 with h | h
          · exact .inl h
          · exact .inr ⟨_, h, by omega⟩
        · intro g hg
          exact (hlt7 g hg).2
      have HB8 : Hid (Below w.heap.size w w7) := HB6.out.trans (Below.grown ((Below.refl _ w6).alloc (by omega) (.cells #[.int .i64 en.sn, .int .i64 en.at_, .slice pu en.rs.length cu, .slice qu en.cs.length du, .bool en.di, .bool en.do_] 36)) g7 (by simp; omega) (fun b hb => (HOW.out.lt b hb).1))
      clear o7 g7 at7 hlt7 hal7 HSN HOW HHI HB6
      go_wp2_with fail
      go_roundw
      case rel => exact ⟨k + 1, _, _, by omega, by go_num, rfl, HR8.out, HB8.out⟩
      case measure => simp [intOf]; omega
    · obtain rfl : k = l.length := by omega
      have hOf : RowDH wr w.heap.size wr.heap.size (.slice pv l.length cv) l := by have := HO.out; rw [List.take_length] at this; exact this
      have HOf : Hid (RowDH _ _ _ _ _) := hOf
      have HB : Hid (Below _ _ _) := hbel
      clear hOf HO hbel
      go_wp2_with fail
      go_ret
      exact ⟨⟨_, _, rfl, HOf.out⟩, HB.out⟩

end Go.Proofs.YtcggkeleaepebaaGreatDoor.Hx
